/- Texts that the proof of E stands on, in one file. -/
import Derived.Test.YtiaiggjfepoahaaGreatZE14
import Derived.Deep.CutBlock
set_option linter.unusedVariables false
set_option maxHeartbeats 16000000
set_option maxRecDepth 100000
set_option linter.unusedSimpArgs false
/- divideArguments and SplitArguments of the program. (Made by gen_spld.py.) -/
namespace Go.Proofs.YtiaiggjfepoahaaGreat
open Go.RowKit
theorem Zbe {α:Type} {S:Shape α} {P:Program} {t e:TypeId} {z:Value} {bytes:Nat} (ti:TI P t e z S.m bytes) (hzs:z.cells.size=S.m) (h0:0<S.m) (w:World) {L X:List (Elem α)} {ops:Array Oper} {o:Oper} {a:Act} {K:Act->World->Prop} {Q:Exit->Act->World->Prop} {E:Prop}
  (d:Nat) (hdst:o.dst=some d) (hg:o.guard=none) (s y:Operand) (ho:o.op=.call { callee:=.builtin .append,args:=#[s,y],argTypes:=#[t,t] })
  (base:Nat) (v:Value) (hs:a.eval s=v) (hown:RowE S base e v L w) (g m c:Nat) (hy:a.eval y=.slice (some ⟨g,0,none⟩) m c) (hm:X.length=m)
  (hlen:∀ x∈X,x.cells.length=S.m) (h1:∀ x∈X,∀ u∈x.cells,u.oneCell'=true) (hcell:∀ j u,(X.flatMap (·.cells))[j]?=some u->w.cell? ⟨g,j,none⟩=some u)
  (hR:∀ x∈X,S.R w x.cells x.d x.fp) (hlo:∀ x∈X,∀ b∈x.fp,base<=b) (hty:∀ x∈X,∀ b∈x.fp,∃ cur t fr,w.heap[b]?=some (.cells cur t fr)/\t≠e)
  (h63:L.length+m<=maxLen) (hbytes:(L.length+m) * bytes<=140737488355328) (hbase:base<=w.heap.size)
  (h:∀ v' w',RowE S base e v' (L++X) w'->w.grownBy w' v.ownBlock->K (a.put (some d) v') w'):if Region.wanted o (yielded ops a.tmps)=true then Oper.wp P o a w K Q else E:=by
 rw [← hdst] at h
 have hwt:Region.wanted o (yielded ops a.tmps)=true:=by simp [Region.wanted,hg]
 obtain⟨i,hi,hz0,hz1,hz2⟩:=info_parts ti.2
 subst hm
 rw [if_pos hwt]
 refine wp_append_own w s y t ho base e i z S.m bytes ti.1 hi hz0 hz1 hz2 hzs h0 v L.length _ hs hown.row ⟨g,0,none⟩ X.length c (X.flatMap (·.cells)) hy (ZaT hlen) ?_ ?_ h63 hbytes hbase λ v' w' r1 r2 _=>h v' w' ?_ r2
 ·intro j u hj
  rw [ZaN,Nat.zero_add]
  exact hcell j u hj
 ·intro u hu
  obtain⟨x,hx,hu⟩:=List.mem_flatMap.1 hu
  exact h1 x hx u hu
 ·refine hown.appended ?_ r2 hlen hR hlo hty
  rw [List.length_append,List.flatMap_append]
  exact r1
structure DivSt (B:Nat) (va u:Value) (A:List (Elem (List Tok))) (M:List (Elem Tok)) (w:World):Prop where
 row:w.ownsRow B 28 1 va (A.length+1) (A.flatMap (·.cells)++[u])
 len:∀ x∈A,x.cells.length=1
 el:∀ x∈A,sToks.R w x.cells x.d x.fp
 inn:∃ top,RowE sTok top 57 u M w/\B<=top/\top<=w.heap.size/\∀ x∈A,∀ b∈x.fp,b<top
 ownA:Own w B (A.flatMap (·.fp))
 ownM:Own w B (M.flatMap (·.fp))
 tyA:TokTy w (A.flatMap (·.fp))
 tyM:TokTy w (M.flatMap (·.fp))
section
variable {B:Nat} {va u:Value} {A:List (Elem (List Tok))} {M:List (Elem Tok)} {w w':World}
theorem DivSt.same (h:DivSt B va u A M w) (hs:w.heap.size<=w'.heap.size) (hr:∀ g,va.ownBlock=some g->w'.heap[g]?=w.heap[g]?) (hu:∀ g,u.ownBlock=some g->w'.heap[g]?=w.heap[g]?) (hA:∀ b∈A.flatMap (·.fp),w'.heap[b]?=w.heap[b]?) (hM:∀ b∈M.flatMap (·.fp),w'.heap[b]?=w.heap[b]?):DivSt B va u A M w':=by
 obtain⟨top,g1,g2,g3,g4⟩:=h.inn
 have mA:∀ x∈A,∀ b∈x.fp,w'.heap[b]?=w.heap[b]?:=λ x hx b hb=>hA b (List.mem_flatMap.2 ⟨x,hx,hb⟩)
 have mM:∀ x∈M,∀ b∈x.fp,w'.heap[b]?=w.heap[b]?:=λ x hx b hb=>hM b (List.mem_flatMap.2 ⟨x,hx,hb⟩)
 refine ⟨Za9 h.row hr,h.len,λ x hx=>sToks.frame (mA x hx) (h.el x hx),⟨top,g1.same2 hu mM,g2,Nat.le_trans g3 hs,g4⟩,⟨h.ownA.1,λ b hb=>?_⟩,⟨h.ownM.1,λ b hb=>?_⟩,h.tyA.same λ b hb _=>hA b hb,h.tyM.same λ b hb _=>hM b hb⟩
 ·obtain⟨q1,cur,e,q2⟩:=h.ownA.2 b hb
  exact⟨q1,cur,e,(hA b hb).trans q2⟩
 ·obtain⟨q1,cur,e,q2⟩:=h.ownM.2 b hb
  exact⟨q1,cur,e,(hM b hb).trans q2⟩
theorem DivSt.ult (h:DivSt B va u A M w):∀ g,u.ownBlock=some g->g<w.heap.size:=λ g hg=>by
 obtain⟨top,g1,-⟩:=h.inn
 exact(g1.row.lt g hg).2
theorem DivSt.umine (h:DivSt B va u A M w):∀ g,u.ownBlock=some g->B<=g:=λ g hg=>by
 obtain⟨top,g1,g2,-⟩:=h.inn
 have:=(g1.row.lt g hg).1
 omega
theorem DivSt.below (h:DivSt B va u A M w) (hb:Below w.heap.size w w'):DivSt B va u A M w':=
 h.same hb.size (λ g hg=>hb.block g (h.row.lt g hg).2) (λ g hg=>hb.block g (h.ult g hg)) (λ b hb'=>hb.block b (h.ownA.lt b hb')) (λ b hb'=>hb.block b (h.ownM.lt b hb'))
theorem DivSt.val (h:DivSt B va u A M w):∃ g cap,va=.slice (some ⟨g,0,none⟩) (A.length+1) cap/\B<=g/\g<w.heap.size/\A.length+1<=cap/\cap<=maxLen:=by
 rcases h.row.2 with⟨_,h0⟩ | ⟨g,cap,cur,rfl,hb,hg,hn,hc,_⟩
 ·omega
 ·exact⟨g,cap,rfl,hb,(Qg hg).1,hn,hc⟩
theorem DivSt.uval (h:DivSt B va u A M w):∃ a c,u=.slice a M.length c:=by
 obtain⟨top,g1,-⟩:=h.inn
 obtain⟨a,c,h1,-⟩:=g1.val
 exact⟨a,c,h1⟩
theorem DivSt.flen (h:DivSt B va u A M w):(A.flatMap (·.cells)).length=A.length:=by
 have:=ZaT (f:=Elem.cells) h.len
 rwa [Nat.mul_one] at this
theorem DivSt.cell {g n cap:Nat} (h:DivSt B (.slice (some ⟨g,0,none⟩) n cap) u A M w):w.cell? ⟨g,A.length,none⟩=some u:=by
 have hn:A.length+1=n:=by
  rcases h.row.2 with⟨h',_⟩ | ⟨g',cap',cur,h',_⟩
  ·cases h'
  ·simp only [Value.slice.injEq] at h';exact h'.2.1.symm
 have hrow:=h.row
 rw [hn] at hrow
 rw [hrow.cellAt A.length (by omega),List.getElem?_append_right (by rw [h.flen];omega),h.flen,Nat.sub_self];rfl
theorem DivSt.frozen {g n cap:Nat} (h:DivSt B (.slice (some ⟨g,0,none⟩) n cap) u A M w) (o:Nat):w.frozen? ⟨g,o,none⟩=false:=by
 rcases h.row.2 with⟨h',_⟩ | ⟨g',cap',cur,h',_,hg,_⟩
 ·cases h'
 ·simp only [Value.slice.injEq,Qi,Addr.mk.injEq,and_true] at h'
  obtain⟨rfl,_⟩:=h'
  exact frozen_of_row w g o cur _ hg
theorem DivSt.rowne (h:DivSt B va u A M w) {fp:List Nat} (ht:TokTy w fp):∀ b∈fp,some b≠va.ownBlock:=λ b hb e=>by
 obtain⟨cur,t,fr,h1,h2⟩:=ht b hb
 rcases h.row.2 with⟨h',_⟩ | ⟨g,cap,cur',h',_,hg,_⟩
 ·rw [h'] at e;simp [Value.ownBlock] at e
 ·rw [h'] at e
  simp only [Value.ownBlock,Qi] at e
  subst e
  rw [h1] at hg
  simp only [Qi,Obj.cells.injEq] at hg
  have:=hg.2.1
  rcases h2 with rfl | rfl <;> exact absurd this (by decide)
theorem DivSt.arg (h:DivSt B va u A M w):∃ fp,sToks.R w [u] (M.map (·.d)) fp/\Own w B fp/\TokTy w fp/\(∀ b∈fp,b∉A.flatMap (·.fp)):=by
 obtain⟨top,g1,g2,g3,g4⟩:=h.inn
 obtain⟨fp,h1,h2,h3⟩:=Za7 g1.row λ x hx=>⟨g1.len x hx,g1.el x hx⟩
 have hM:Own w top (M.flatMap (·.fp)):=⟨h.ownM.1,λ b hb=>by
  obtain⟨x,hx,hb'⟩:=List.mem_flatMap.1 hb
  exact⟨g1.lo x hx b hb',(h.ownM.2 b hb).2⟩⟩
 have hO:=h3 hM λ g hg hm=>by
  obtain⟨x,hx,hb'⟩:=List.mem_flatMap.1 hm
  exact g1.ap hx hb' hg
 refine ⟨fp,h1,hO.lower g2,λ b hb=>?_,λ b hb hx=>?_⟩
 ·rcases h2 b hb with h0 | h0
  ·rcases g1.row.2 with⟨h',_⟩ | ⟨g,cap,cur,q1,q2,q3,-⟩
   ·rw [h'] at h0;simp [Value.ownBlock] at h0
   ·rw [q1] at h0
    simp only [Value.ownBlock,Qi] at h0
    subst h0
    exact⟨_,_,_,q3,.inl rfl⟩
  ·exact h.tyM b h0
 ·obtain⟨x,hx',hb'⟩:=List.mem_flatMap.1 hx
  have:=g4 x hx' b hb'
  have:=(hO.2 b hb).1
  omega
theorem TokTy.app {fp fp':List Nat} (h:TokTy w fp) (h':TokTy w fp'):TokTy w (fp++fp'):=λ b hb=>by
 rcases Qa hb with hb | hb
 ·exact h b hb
 ·exact h' b hb
theorem Zcj {α:Type} (A:List (Elem α)) (x:Elem α):(A++[x]).flatMap (·.fp)=A.flatMap (·.fp)++x.fp:=by rw [List.flatMap_append];simp
theorem DivSt.next {va':Value} (h:DivSt B va u A M w) {fp:List Nat} (h1:sToks.R w [u] (M.map (·.d)) fp) (h2:Own w B fp) (h3:TokTy w fp) (h4:∀ b∈fp,b∉A.flatMap (·.fp)) (hB:B<=w.heap.size)
  (hrow:w'.ownsRow B 28 1 va' (A.length+1+1) (A.flatMap (·.cells)++[u]++[.slice none 0 0])) (hg:w.grownBy w' va.ownBlock):DivSt B va' (.slice none 0 0) (A++[⟨[u],M.map (·.d),fp⟩]) [] w':=by
 have hA:∀ b∈A.flatMap (·.fp),w'.heap[b]?=w.heap[b]?:=λ b hb=>hg.block b (h.ownA.lt b hb) (h.rowne h.tyA b hb)
 have hF:∀ b∈fp,w'.heap[b]?=w.heap[b]?:=λ b hb=>hg.block b (h2.lt b hb) (h.rowne h3 b hb)
 have hO:Own w B (A.flatMap (·.fp)++fp):=h.ownA.app h2 λ b hb hx=>h4 b hx hb
 refine ⟨?_,λ x hx=>?_,λ x hx=>?_,⟨w'.heap.size,RowE.nil _ _ _ _,Nat.le_trans hB hg.size,Nat.le_refl _,λ x hx b hb=>?_⟩,⟨?_,λ b hb=>?_⟩,Own.nil _ _,?_,(show TokTy w' [] from λ b hb=>by simp at hb)⟩
 ·rw [List.length_append,List.flatMap_append]
  simpa using hrow
 ·rcases Qa hx with hx | hx
  ·exact h.len x hx
  ·obtain rfl:=Qm hx;rfl
 ·rcases Qa hx with hx | hx
  ·exact sToks.frame (λ b hb=>hA b (List.mem_flatMap.2 ⟨x,hx,hb⟩)) (h.el x hx)
  ·obtain rfl:=Qm hx;exact sToks.frame hF h1
 ·have:b<w.heap.size:=by
   rcases Qa hx with hx | hx
   ·exact sToks.lt (h.el x hx) b hb
   ·obtain rfl:=Qm hx;exact sToks.lt h1 b hb
  exact Nat.lt_of_lt_of_le this hg.size
 ·rw [Zcj];exact hO.1
 ·rw [Zcj] at hb
  obtain⟨q1,cur,e,q2⟩:=hO.2 b hb
  refine ⟨q1,cur,e,?_⟩
  rcases Qa hb with hb | hb
  ·exact(hA b hb).trans q2
  ·exact(hF b hb).trans q2
 ·rw [Zcj]
  exact(h.tyA.app h3).same λ b hb _=>by
   rcases Qa hb with hb | hb
   ·exact hA b hb
   ·exact hF b hb
theorem DivSt.more {g n cap top:Nat} {u':Value} {x:Elem Tok} (h:DivSt B (.slice (some ⟨g,0,none⟩) n cap) u A M w) (g1:RowE sTok top 57 u M w) (g2:B<=top) (g3:top<=w.heap.size) (g4:∀ x∈A,∀ b∈x.fp,b<top)
  (hx1:Own w top x.fp) (hx2:∀ b∈x.fp,∃ cur t fr,w.heap[b]?=some (.cells cur t fr)/\t=9) (hx3:∀ b∈x.fp,b∉M.flatMap (·.fp))
  (hG:RowE sTok top 57 u' (M++[x]) w') (hg:w.grownBy w' u.ownBlock):DivSt B (.slice (some ⟨g,0,none⟩) n cap) u' A (M++[x]) (w'.setCell ⟨g,A.length,none⟩ u'):=by
 have hn:A.length+1=n:=by
  rcases h.row.2 with⟨h',_⟩ | ⟨g',cap',cur,h',_⟩
  ·cases h'
  ·simp only [Value.slice.injEq] at h';exact h'.2.1.symm
 have hgl:g<w.heap.size:=(h.row.lt g rfl).2
 have hgu:some g≠u.ownBlock:=λ e=>by
  rcases Zbz h.row g1.row (by decide) with h0 | h0
  ·cases h0
  ·exact h0 (by rw [← e];rfl)
 have hA1:∀ b∈A.flatMap (·.fp),w'.heap[b]?=w.heap[b]?:=λ b hb=>hg.block b (h.ownA.lt b hb) λ e=>by
  obtain⟨y,hy,hb'⟩:=List.mem_flatMap.1 hb
  have:=g4 y hy b hb'
  have:=g1.mine b e.symm
  omega
 have hM1:∀ b∈M.flatMap (·.fp),w'.heap[b]?=w.heap[b]?:=λ b hb=>hg.block b (h.ownM.lt b hb) λ e=>by
  obtain⟨y,hy,hb'⟩:=List.mem_flatMap.1 hb
  exact g1.ap hy hb' e.symm
 have hX1:∀ b∈x.fp,w'.heap[b]?=w.heap[b]?:=λ b hb=>hg.block b (hx1.lt b hb) λ e=>by
  obtain⟨cur,t,fr,q1,q2⟩:=hx2 b hb
  rcases g1.row.2 with⟨h',_⟩ | ⟨g',cap',cur',h',_,hg',_⟩
  ·rw [h'] at e;simp [Value.ownBlock] at e
  ·rw [h'] at e
   simp only [Value.ownBlock,Qi] at e
   subst e
   rw [q1] at hg'
   simp only [Qi,Obj.cells.injEq] at hg'
   exact absurd (q2.symm.trans hg'.2.1) (by decide)
 have hTX:TokTy w x.fp:=λ b hb=>by obtain⟨cur,t,fr,q1,q2⟩:=hx2 b hb;exact⟨cur,t,fr,q1,.inr q2⟩
 have hne:∀ fp,TokTy w fp->∀ b∈fp,b≠g:=λ fp ht b hb e=>h.rowne ht b hb (by rw [e];rfl)
 have hfar:∀ b,b≠g->(w'.setCell ⟨g,A.length,none⟩ u').heap[b]?=w'.heap[b]?:=λ b hb=>Below.heap_setCell _ _ _ _ hb
 have hgb:w'.heap[g]?=w.heap[g]?:=hg.block g hgl hgu
 have hrow':w'.ownsRow B 28 1 (.slice (some ⟨g,0,none⟩) n cap) n (A.flatMap (·.cells)++[u]):=by
  have:=Za9 (w':=w') h.row λ g' hg'=>by
   simp only [Value.ownBlock,Qi] at hg';subst hg';exact hgb
  rwa [hn] at this
 have hOM:Own w B (M.flatMap (·.fp)++x.fp):=h.ownM.app (hx1.lower g2) λ b hb hx=>hx3 b hx hb
 have hug:∀ b,u'.ownBlock=some b->b≠g:=λ b hb e=>by
  subst e
  rcases Zbz hrow' hG.row (by decide) with h0 | h0
  ·cases h0
  ·exact h0 (by rw [hb];rfl)
 refine ⟨?_,h.len,λ y hy=>?_,⟨top,?_,g2,by rw [ZjB];exact Nat.le_trans g3 hg.size,g4⟩,⟨h.ownA.1,λ b hb=>?_⟩,⟨by rw [Zcj];exact hOM.1,λ b hb=>?_⟩,?_,?_⟩
 ·have:=(hrow'.stored A.length u').1
  rw [List.set_append_right _ _ (by rw [h.flen];omega),h.flen,Nat.sub_self] at this
  rw [hn]
  exact this
 ·refine sToks.frame (λ b hb=>?_) (h.el y hy)
  have hm:b∈A.flatMap (·.fp):=List.mem_flatMap.2 ⟨y,hy,hb⟩
  exact(hfar b (hne _ h.tyA b hm)).trans (hA1 b hm)
 ·refine hG.same2 (λ b hb=>hfar b (hug b hb)) (λ y hy b hb=>hfar b ?_)
  rcases Qa hy with hy | hy
  ·exact hne _ h.tyM b (List.mem_flatMap.2 ⟨y,hy,hb⟩)
  ·obtain rfl:=Qm hy;exact hne _ hTX b hb
 ·obtain⟨q1,cur,e,q2⟩:=h.ownA.2 b hb
  exact⟨q1,cur,e,((hfar b (hne _ h.tyA b hb)).trans (hA1 b hb)).trans q2⟩
 ·rw [Zcj] at hb
  obtain⟨q1,cur,e,q2⟩:=hOM.2 b hb
  refine ⟨q1,cur,e,?_⟩
  rcases Qa hb with hb | hb
  ·exact((hfar b (hne _ h.tyM b hb)).trans (hM1 b hb)).trans q2
  ·exact((hfar b (hne _ hTX b hb)).trans (hX1 b hb)).trans q2
 ·exact h.tyA.same λ b hb _=>(hfar b (hne _ h.tyA b hb)).trans (hA1 b hb)
 ·rw [Zcj]
  exact(h.tyM.app hTX).same λ b hb _=>by
   rcases Qa hb with hb | hb
   ·exact(hfar b (hne _ h.tyM b hb)).trans (hM1 b hb)
   ·exact(hfar b (hne _ hTX b hb)).trans (hX1 b hb)
theorem DivSt.done (h:DivSt B va u A M w):∃ fp,(Zaa sToks).R w [va] (A.map (·.d)++[M.map (·.d)]) fp/\Own w B fp:=by
 obtain⟨fpu,h1,h2,h3,h4⟩:=h.arg
 have hO:Own w B ((A++[(⟨[u],M.map (·.d),fpu⟩:Elem (List Tok))]).flatMap (·.fp)):=by rw [Zcj];exact h.ownA.app h2 λ b hb hx=>h4 b hx hb
 have hT:TokTy w ((A++[(⟨[u],M.map (·.d),fpu⟩:Elem (List Tok))]).flatMap (·.fp)):=by rw [Zcj];exact h.tyA.app h3
 obtain⟨fp,r1,-,r3⟩:=Za7 (S:=sToks) (w:=w) (base:=B) (e:=28) (v:=va) (L:=A++[⟨[u],M.map (·.d),fpu⟩]) (by
  rw [List.length_append,List.flatMap_append]
  change w.ownsRow B 28 1 va _ _
  simpa using h.row) (λ x hx=>by
  rcases Qa hx with hx | hx
  ·exact⟨h.len x hx,h.el x hx⟩
  ·obtain rfl:=Qm hx;exact⟨rfl,h1⟩)
 refine ⟨fp,by rw [List.map_append] at r1;exact r1,r3 hO λ g hg hm=>?_⟩
 exact h.rowne hT g hm hg.symm
end
theorem ZmQ {l:List Tok} {k:Nat} (hk:k<l.length) (d:Int) (A:Args) (M:List Tok) :
  dvGo (l.drop k) d A M=if d=0/\isCom l[k]=true then dvGo (l.drop (k+1)) d (A++[M]) [] else dvGo (l.drop (k+1)) (d+opn l[k]) A (M++[l[k]]):=by
 rw [List.drop_eq_getElem_cons hk];rfl
theorem dvGo_end {l:List Tok} {k:Nat} (hk:l.length<=k) (d:Int) (A:Args) (M:List Tok):dvGo (l.drop k) d A M=A++[M]:=by rw [List.drop_of_length_le hk];rfl
theorem Zfd (v:Value) (l:List Tok) (fp:List Nat) (w:World) (hl:l.length<=60) (hx:∀ k,(hk:k<l.length)->l[k].hidden.length<=2000000) (H:(Zaa sTok).R w [v] l fp) :
  Calls Tryz.prog 137 #[v] w λ e w'=>∃ v' fp',e=.returned v'/\(Zaa sToks).R w' [v'] (dvGo l 0 [] []) fp'/\Own w' w.heap.size fp'/\Below w.heap.size w w':=by
 obtain⟨a,cap,rfl,hc,hm,hrow⟩:=Zac H
 unfold maxLen at hm
 clear H
 have HX:=Qh hx
 clear hx
 obtain⟨r,HR⟩:∃ r,Hid (r=dvGo l 0 [] []):=⟨_,rfl⟩
 rw [← HR.out]
 go_enter Tryz.func137,Tryz.ntmps137
 go_wp2_with (at_make;refine ZcI ZdC _ rfl _ _ rfl w.heap.size 1 rfl rfl (by omega) (by unfold maxLen;omega) (Nat.le_refl _) ?_;intro w1 hown hgrow)
 have hbel:=(Below.refl w.heap.size w).grown hgrow (Nat.le_refl _) (by simp)
 rw [show (madeCells (Value.slice none 0 0).cells (1 * 1)).toList=[.slice none 0 0] by kernel_rfl] at hown
 have HS0:Hid (DivSt w.heap.size (.slice (some ⟨w.heap.size,0,none⟩) 1 1) (.slice none 0 0) [] [] w1):=
  ⟨hown,by simp,by simp,⟨w1.heap.size,RowE.nil _ _ _ _,hgrow.size,Nat.le_refl _,by simp⟩,Own.nil _ _,Own.nil _ _,(show TokTy w1 [] from λ b hb=>by simp at hb),(show TokTy w1 [] from λ b hb=>by simp at hb)⟩
 clear hgrow hown
 go_loopw [3,4,11] (λ va d i wr=>∃ (k:Nat) (dd:Int) (u:Value) (A:List (Elem (List Tok))) (M:List (Elem Tok)),k<=l.length/\i=.int .i64 k/\d=.int .i64 dd/\-(k:Int)<=dd/\dd<=k/\A.length<=k/\M.length<=k/\Hid (DivSt w.heap.size va u A M wr)/\Hid (dvGo (l.drop k) dd (A.map (·.d)) (M.map (·.d))=r)/\Below w.heap.size w wr) (λ _ _ i _=>l.length-(intOf i).toNat)
 case atStart=>exact⟨0,0,_,[],[],by omega,rfl,rfl,by omega,by omega,by simp,by simp,HS0,HR.out.symm,hbel⟩
 case round =>
  clear HS0 hbel HR
  obtain⟨k,dd,u,A,M,hk,rfl,rfl,hd1,hd2,hAk,hMk,HS,HI,hb⟩:=hrel
  obtain⟨ga,ca,rfl,hga,hgs,hca,hcm⟩:=HS.out.val
  unfold maxLen at hcm
  obtain⟨au,cu,rfl⟩:=HS.out.uval
  by_cases hlt:k<l.length
  ·obtain⟨b1,off1,fps1,rfl,hb1,-,he1⟩:=hrow (by omega)
   obtain⟨es1,hE1,hR1⟩:=he1 k hlt
   clear hrow he1
   have hR2:=sTok.below hR1 hb
   obtain⟨h1',rfl,_,_,hK1⟩:=hR1
   obtain⟨ah,ch,rfl,-⟩:=Zaf hK1
   clear hK1
   replace hE1:=hE1.frame (hb.block b1 hb1)
   have c10:wr.cell? ⟨b1,off1+k * 4,none⟩=some _:=Zam hE1 (by decide) rfl
   have c11:wr.cell? ⟨b1,off1+k * 4+1,none⟩=some _:=Zae (j:=1) hE1 (by decide) rfl
   have c12:wr.cell? ⟨b1,off1+k * 4+2,none⟩=some _:=Zae (j:=2) hE1 (by decide) rfl
   have c13:wr.cell? ⟨b1,off1+k * 4+3,none⟩=some _:=Zae (j:=3) hE1 (by decide) rfl
   clear hE1
   have hbx:=Zab wr (.cells #[.int .i64 l[k].kind,.string l[k].text,.bool l[k].spaced,.slice ah l[k].hidden.length ch] 57)
   have HX0:=Qh (heap_alloc_new wr (.cells #[.int .i64 l[k].kind,.string l[k].text,.bool l[k].spaced,.slice ah l[k].hidden.length ch] 57))
   have HS1:=Qh (HS.out.below hbx)
   have HRT:=Qh hR2
   have hbw:=hb.trans (hbx.mono hb.size)
   have hst:=HI.out
   rw [ZmQ hlt] at hst
   have hsz:(wr.alloc (.cells #[.int .i64 l[k].kind,.string l[k].text,.bool l[k].spaced,.slice ah l[k].hidden.length ch] 57)).heap.size=wr.heap.size+1:=Array.size_push _
   have HUL:=Qh HS.out.ult
   have HML:=Qh HS.out.ownM.lt
   clear hR2 HI HS
   by_cases hcomma:dd=0/\isCom l[k]=true
   ·
    rw [if_pos hcomma] at hst
    obtain⟨hd0,hcm2⟩:=hcomma
    have e0:(dd==0)=true:=by simpa using hd0
    have e1:(l[k].text.toList==[44])=true:=hcm2
    have HF:=Qh hst
    obtain⟨fpu,q1,q2,q3,q4⟩:=HS1.out.arg
    have HQ:=Qh (And.intro q1 (And.intro q2 (And.intro q3 q4)))
    have hrow1:=Qh HS1.out.row
    clear hst hcm2 q1 q2 q3 q4
    subst hd0
    go_wp2_with (at_builtin;refine Zd6 ZdC rfl (by decide) _ (A.flatMap (·.cells)++[.slice au M.length cu]) [.slice none 0 0] rfl (by simp [Value.oneCell']) rfl (.tmp 22) (.tmp 23) rfl w.heap.size (.slice (some ⟨ga,0,none⟩) (A.length+1) ca) (A.length+1) rfl hrow1.out (by rw [hsz];rfl) (by unfold maxLen;omega) (by omega) hbw.size ?_;intro v3 w3 hown3 hg3;have hb3:=hbw.grown hg3 hbw.size (λ b hb=>by simp only [Value.ownBlock,Qi] at hb;omega);have HN:=Qh (HS1.out.next HQ.out.1 HQ.out.2.1 HQ.out.2.2.1 HQ.out.2.2.2 hbw.size hown3 hg3);clear hown3 hg3)
    go_roundw
    case rel=>exact⟨k+1,0,_,A++[(⟨[.slice au M.length cu],M.map (·.d),fpu⟩:Elem (List Tok))],[],by omega,by go_num,rfl,by omega,by omega,by simp;omega,by simp,HN,by show _=_;rw [← HF.out,List.map_append];rfl,hb3⟩
    case measure=>simp [intOf];omega
   ·rw [if_neg hcomma] at hst
    have HF:=Qh hst
    have ho:=opn_ge l[k]
    have hwr:IntKind.i64.wrap (dd+opn l[k])=dd+opn l[k]:=IntWalk.i64_in _ (by omega)
    have hwl:IntKind.i64.wrap (((A.length+1:Nat):Int)-1)=(A.length:Int):=by rw [IntWalk.i64_in _ (by omega)];omega
    have hwl2:IntKind.i64.wrap ((A.length:Int)+1-1)=(A.length:Int):=by rw [IntWalk.i64_in _ (by omega)];omega
    have HOP:=Qh (λ W (hW:Below wr.heap.size wr W)=>ZfZ _ l[k] _ W (sTok.below HRT.out hW))
    have HCP:=Qh (λ W (hW:Below wr.heap.size wr W)=>Zdc _ l[k] _ W (HX.out k hlt) (sTok.below HRT.out hW))
    clear hst HRT
    obtain⟨cm,HCM⟩:∃ cm:Bool,Hid (cm=isCom l[k]):=⟨isCom l[k],rfl⟩
    generalize hon:opn l[k]=on at *
    have hnc:∀ b:Bool,b=(decide (dd=0) && cm)->b=false:=by
     rintro b rfl
     rw [Bool.and_eq_false_iff]
     by_cases h0:dd=0
     ·right
      rw [HCM.out]
      cases e:isCom l[k]
      ·rfl
      ·exact absurd ⟨h0,e⟩ hcomma
     ·left;exact decide_eq_false h0
    have HULT:Hid (∀ g,(Value.slice au M.length cu).ownBlock=some g->g<wr.heap.size):=HUL.out
    have HOLD:Hid (∀ b∈M.flatMap (·.fp),b<wr.heap.size):=HML.out
    by_cases h0:dd=0
    ·have e0:(dd==0)=true:=by simpa using h0
     have hcf:cm=false:=hnc cm (by rw [decide_eq_true h0];rfl)
     have e1:(l[k].text.toList==[44])=false:=by rw [hcf] at HCM;exact HCM.out.symm
     clear hcomma hnc hcf HCM hsz HUL HML
     subst h0
     rw [Int.zero_add] at HF
     go_wp2_with fail
     refine (HOP.out _ hbx).mono ?_
     rintro e w2 ⟨rfl,g2⟩
     have hc2:=hbx.trans (g2.mono hbx.size)
     have HX2:=Qh ((g2.block _ (Qg HX0.out).1).trans HX0.out)
     have HS2:=Qh (HS1.out.below g2)
     have hb2:=hbw.trans (g2.mono hbw.size)
     have hi1:(0:Int)<=(A.length:Int):=by omega
     have hi2:(A.length:Int)<(A.length:Int)+1:=by omega
     have hgs2:=hc2.size
     clear c10 c11 c12 c13 HOP HS1 HX0 hbw hbx g2 hb
     go_wp2_with fail
     refine wp_region_noPanic ?_
     refine wp_region_held_drew (S:=λ w'=>w'.heap[wr.heap.size]?=some (.cells #[.int .i64 l[k].kind,.string l[k].text,.bool l[k].spaced,.slice ah l[k].hidden.length ch] 57 (0,0))) (by kernel_rfl) (by exact HX2.out) (λ hHeld=>?_)
     have hdr:Below w2.heap.size w2 w2.drew:=Zag (Below.refl _ _) 1
     have HSd:=Qh (HS2.out.below hdr)
     have hbd:=hb2.trans (hdr.mono hb2.size)
     have hcd:=hc2.trans (hdr.mono hc2.size)
     have hwd:=hcd.size
     obtain⟨top,t1,t2,t3,t4⟩:=HSd.out.inn
     have HTD:=Qh t1
     have HTOP:=Qh t4
     clear t1 t4
     clear HS2 HX2 hdr
     generalize w2.drew=wd at *
     refine Qt 0 32 rfl rfl ?_ (by intro w hSw;obtain⟨s0,s1,s2,s3⟩:=Q4 hSw;go_simp;(first | done | with_reducible rfl | rfl))
     try simp only [Qp]
     refine Qt 1 33 rfl rfl ?_ (by intro w hSw;obtain⟨s0,s1,s2,s3⟩:=Q4 hSw;go_simp;(first | done | with_reducible rfl | rfl))
     try simp only [Qp]
     refine Qt 2 34 rfl rfl ?_ (by intro w hSw;obtain⟨s0,s1,s2,s3⟩:=Q4 hSw;go_simp;(first | done | with_reducible rfl | rfl))
     try simp only [Qp]
     refine Qt 3 35 rfl rfl ?_ (by intro w hSw;obtain⟨s0,s1,s2,s3⟩:=Q4 hSw;go_simp;(first | done | with_reducible rfl | rfl))
     try simp only [Qp]
     refine Qt 4 36 rfl rfl ?_ (by intro w hSw;obtain⟨s0,s1,s2,s3⟩:=Q4 hSw;go_simp;(first | done | with_reducible rfl | rfl))
     try simp only [Qp]
     refine Qt 6 38 rfl rfl ?_ (by intro w hSw;obtain⟨s0,s1,s2,s3⟩:=Q4 hSw;go_simp;(first | done | with_reducible rfl | rfl))
     try simp only [Qp]
     refine wpAnyH_ready (rs:=[5,7]) (by decide +kernel) (by simp) ?_
     refine AllReadyH.cons rfl (λ K hK=>?_) ?_
     ·have hcell:=HSd.out.cell
      go_simp
      refine hK.out _ _ hHeld (λ hHeld=>?_)
      clear hK K
      try simp only [Qp]
      refine Qr 7 rfl (λ K hK=>?_) (by decide +kernel)
      go_simp
      refine (HCP.out _ hcd).mono ?_
      rintro e w4 ⟨ao,c2,fp2,rfl,R2,O2,T2,hb4⟩
      have HS4:=Qh (HSd.out.below hb4)
      have hb4t:=hbd.trans (hb4.mono hbd.size)
      have hs4:=hb4.size
      have HTE:=Qh (HTD.out.below hb4)
      have HT4:=Qh (And.intro R2 (And.intro O2 T2))
      clear R2 O2 T2
      refine hK.out _ _ ((hb4.block _ (Qg hHeld).1).trans hHeld) (λ hHeld=>?_)
      clear hK K
      try simp only [Qp]
      refine Qr 8 rfl (λ K hK=>?_) (by decide +kernel)
      have bl:=Zab w4 (.cells #[.int .i64 l[k].kind,.string l[k].text,.bool l[k].spaced,.slice ao l[k].hidden.length c2] 57)
      have HL5:=Qh (heap_alloc_new w4 (.cells #[.int .i64 l[k].kind,.string l[k].text,.bool l[k].spaced,.slice ao l[k].hidden.length c2] 57))
      have HS5:=Qh (HS4.out.below bl)
      have HT1:=Qh (HTE.out.below bl)
      have hb5t:=hb4t.trans (bl.mono hb4t.size)
      have hs5:(w4.alloc (.cells #[.int .i64 l[k].kind,.string l[k].text,.bool l[k].spaced,.slice ao l[k].hidden.length c2] 57)).heap.size=w4.heap.size+1:=Array.size_push _
      have HT5:=Qh (And.intro (sTok.below HT4.out.1 bl) (And.intro (HT4.out.2.1.grow bl) (show ∀ b∈fp2,∃ cur t fr,(w4.alloc (.cells #[.int .i64 l[k].kind,.string l[k].text,.bool l[k].spaced,.slice ao l[k].hidden.length c2] 57)).heap[b]?=some (.cells cur t fr)/\t=9 from λ b hb=>by obtain⟨cur,t,fr,z1,z2⟩:=HT4.out.2.2 b hb;exact⟨cur,t,fr,(bl.block b (Qg z1).1).trans z1,z2⟩)))
      have hH5:=(bl.block _ (Qg hHeld).1).trans hHeld
      go_simp
      refine hK.out _ _ hH5 (λ hHeld=>?_)
      clear hK K bl
      try simp only [Qp]
      generalize hw5:(w4.alloc (.cells #[.int .i64 l[k].kind,.string l[k].text,.bool l[k].spaced,.slice ao l[k].hidden.length c2] 57))=w5 at *
      clear hw5
      refine Qr 9 rfl (λ K hK=>?_) (by decide +kernel)
      refine Zbe (X:=[(⟨[.int .i64 l[k].kind,.string l[k].text,.bool l[k].spaced,.slice ao l[k].hidden.length c2],l[k],fp2⟩:Elem Tok)]) ZaE rfl (by decide) _ 41 rfl rfl (.tmp 37) (.tmp 40) rfl top (.slice au M.length cu) rfl HT1.out w4.heap.size 1 1 rfl rfl (λ x hx=>by obtain rfl:=Qm hx;rfl) (λ x hx=>by obtain rfl:=Qm hx;simp [Value.oneCell']) (λ j u hj=>by rw [cell_of_row _ _ _ _ _ _ HL5.out];simpa using hj) (λ x hx=>by obtain rfl:=Qm hx;exact HT5.out.1) (λ x hx b hb=>by obtain rfl:=Qm hx;have:=(HT5.out.2.1.2 b hb).1;omega) (λ x hx b hb=>by obtain rfl:=Qm hx;obtain⟨cur,t,fr,z1,z2⟩:=HT5.out.2.2 b hb;exact⟨cur,t,fr,z1,by rw [z2];decide⟩) (by unfold maxLen;omega) (by omega) (by omega) ?_
      intro v6 w6 hG6 hg6
      have HN:=Qh (HS5.out.more (x:=⟨[.int .i64 l[k].kind,.string l[k].text,.bool l[k].spaced,.slice ao l[k].hidden.length c2],l[k],fp2⟩) HT1.out t2 (by omega) HTOP.out (HT5.out.2.1.lower (by omega)) HT5.out.2.2 (λ b hb hx=>by have h1:=(HT5.out.2.1.2 b hb).1;have h2:=HOLD.out b hx;omega) hG6 hg6)
      have hb6:=hb5t.grown hg6 hb5t.size HS5.out.umine
      have hH6:=(hg6.block _ (Qg hHeld).1 (λ e=>by have:=HULT.out _ e.symm;omega)).trans hHeld
      have hcell6:w6.cell? ⟨ga,A.length,none⟩=some (.slice au M.length cu):=(World.cell?_of_block (hg6.block ga (by have:=hb5t.size;omega) (λ e=>by rcases Zbz HS5.out.row HT1.out.row (by decide) with h0 | h0;cases h0;exact h0 (by rw [← e];rfl)))).trans HS5.out.cell
      have hfr6:w6.frozen? ⟨ga,A.length,none⟩=false:=(World.frozen?_of_block (hg6.block ga (by have:=hb5t.size;omega) (λ e=>by rcases Zbz HS5.out.row HT1.out.row (by decide) with h0 | h0;cases h0;exact h0 (by rw [← e];rfl)))).trans (HS5.out.frozen _)
      obtain⟨a6,c6,rfl,-⟩:=hG6.val
      clear hG6 hg6
      refine hK.out _ _ hH6 (λ hHeld=>?_)
      clear hK K
      try simp only [Qp]
      refine Qt 10 42 rfl rfl ?_ (by intro w hSw;obtain⟨s0,s1,s2,s3⟩:=Q4 hSw;go_simp;(first | done | with_reducible rfl | rfl))
      try simp only [Qp]
      refine Qr 11 rfl (λ K hK=>?_) (by decide +kernel)
      have hbne:wr.heap.size≠ga:=by omega
      have hb7:=hb6.setCell (p:=⟨ga,A.length,none⟩) (by show w.heap.size<=ga;omega) (.slice a6 (M++[(⟨[.int .i64 l[k].kind,.string l[k].text,.bool l[k].spaced,.slice ao l[k].hidden.length c2],l[k],fp2⟩:Elem Tok)]).length c6)
      have hH7:=Zav hHeld hbne A.length (.slice a6 (M++[(⟨[.int .i64 l[k].kind,.string l[k].text,.bool l[k].spaced,.slice ao l[k].hidden.length c2],l[k],fp2⟩:Elem Tok)]).length c6)
      simp only [List.length_append,List.length_cons,List.length_nil,Nat.zero_add] at hb7 hH7 HN ⊢
      go_simp
      refine hK.out _ _ hH7 (λ hHeld=>?_)
      clear hK K
      try simp only [Qp]
      refine wpAnyH_done (by kernel_rfl) ?_ _
      refine NoPanic.normal ?_
      clear hHeld
      go_wp2
      go_roundw
      case rel=>exact⟨k+1,_,_,A,M++[(⟨[.int .i64 l[k].kind,.string l[k].text,.bool l[k].spaced,.slice ao l[k].hidden.length c2],l[k],fp2⟩:Elem Tok)],by omega,by go_num,rfl,by omega,by omega,by omega,by simp;omega,HN,by show _=_;rw [← HF.out,List.map_append];rfl,hb7⟩
      case measure=>simp [intOf];omega
     refine AllReadyH.cons rfl (λ K hK=>?_) AllReadyH.nil
     go_simp
     refine (HCP.out _ hcd).mono ?_
     rintro e w4 ⟨ao,c2,fp2,rfl,R2,O2,T2,hb4⟩
     have HS4:=Qh (HSd.out.below hb4)
     have hb4t:=hbd.trans (hb4.mono hbd.size)
     have hs4:=hb4.size
     have HTE:=Qh (HTD.out.below hb4)
     have HT4:=Qh (And.intro R2 (And.intro O2 T2))
     clear R2 O2 T2
     refine hK.out _ _ ((hb4.block _ (Qg hHeld).1).trans hHeld) (λ hHeld=>?_)
     clear hK K
     try simp only [Qp]
     refine wpAnyH_ready (rs:=[5,8]) (by decide +kernel) (by simp) ?_
     refine AllReadyH.cons rfl (λ K hK=>?_) ?_
     ·have hcell:=HS4.out.cell
      go_simp
      refine hK.out _ _ hHeld (λ hHeld=>?_)
      clear hK K
      try simp only [Qp]
      refine Qr 8 rfl (λ K hK=>?_) (by decide +kernel)
      have bl:=Zab w4 (.cells #[.int .i64 l[k].kind,.string l[k].text,.bool l[k].spaced,.slice ao l[k].hidden.length c2] 57)
      have HL5:=Qh (heap_alloc_new w4 (.cells #[.int .i64 l[k].kind,.string l[k].text,.bool l[k].spaced,.slice ao l[k].hidden.length c2] 57))
      have HS5:=Qh (HS4.out.below bl)
      have HT1:=Qh (HTE.out.below bl)
      have hb5t:=hb4t.trans (bl.mono hb4t.size)
      have hs5:(w4.alloc (.cells #[.int .i64 l[k].kind,.string l[k].text,.bool l[k].spaced,.slice ao l[k].hidden.length c2] 57)).heap.size=w4.heap.size+1:=Array.size_push _
      have HT5:=Qh (And.intro (sTok.below HT4.out.1 bl) (And.intro (HT4.out.2.1.grow bl) (show ∀ b∈fp2,∃ cur t fr,(w4.alloc (.cells #[.int .i64 l[k].kind,.string l[k].text,.bool l[k].spaced,.slice ao l[k].hidden.length c2] 57)).heap[b]?=some (.cells cur t fr)/\t=9 from λ b hb=>by obtain⟨cur,t,fr,z1,z2⟩:=HT4.out.2.2 b hb;exact⟨cur,t,fr,(bl.block b (Qg z1).1).trans z1,z2⟩)))
      have hH5:=(bl.block _ (Qg hHeld).1).trans hHeld
      go_simp
      refine hK.out _ _ hH5 (λ hHeld=>?_)
      clear hK K bl
      try simp only [Qp]
      generalize hw5:(w4.alloc (.cells #[.int .i64 l[k].kind,.string l[k].text,.bool l[k].spaced,.slice ao l[k].hidden.length c2] 57))=w5 at *
      clear hw5
      refine Qr 9 rfl (λ K hK=>?_) (by decide +kernel)
      refine Zbe (X:=[(⟨[.int .i64 l[k].kind,.string l[k].text,.bool l[k].spaced,.slice ao l[k].hidden.length c2],l[k],fp2⟩:Elem Tok)]) ZaE rfl (by decide) _ 41 rfl rfl (.tmp 37) (.tmp 40) rfl top (.slice au M.length cu) rfl HT1.out w4.heap.size 1 1 rfl rfl (λ x hx=>by obtain rfl:=Qm hx;rfl) (λ x hx=>by obtain rfl:=Qm hx;simp [Value.oneCell']) (λ j u hj=>by rw [cell_of_row _ _ _ _ _ _ HL5.out];simpa using hj) (λ x hx=>by obtain rfl:=Qm hx;exact HT5.out.1) (λ x hx b hb=>by obtain rfl:=Qm hx;have:=(HT5.out.2.1.2 b hb).1;omega) (λ x hx b hb=>by obtain rfl:=Qm hx;obtain⟨cur,t,fr,z1,z2⟩:=HT5.out.2.2 b hb;exact⟨cur,t,fr,z1,by rw [z2];decide⟩) (by unfold maxLen;omega) (by omega) (by omega) ?_
      intro v6 w6 hG6 hg6
      have HN:=Qh (HS5.out.more (x:=⟨[.int .i64 l[k].kind,.string l[k].text,.bool l[k].spaced,.slice ao l[k].hidden.length c2],l[k],fp2⟩) HT1.out t2 (by omega) HTOP.out (HT5.out.2.1.lower (by omega)) HT5.out.2.2 (λ b hb hx=>by have h1:=(HT5.out.2.1.2 b hb).1;have h2:=HOLD.out b hx;omega) hG6 hg6)
      have hb6:=hb5t.grown hg6 hb5t.size HS5.out.umine
      have hH6:=(hg6.block _ (Qg hHeld).1 (λ e=>by have:=HULT.out _ e.symm;omega)).trans hHeld
      have hcell6:w6.cell? ⟨ga,A.length,none⟩=some (.slice au M.length cu):=(World.cell?_of_block (hg6.block ga (by have:=hb5t.size;omega) (λ e=>by rcases Zbz HS5.out.row HT1.out.row (by decide) with h0 | h0;cases h0;exact h0 (by rw [← e];rfl)))).trans HS5.out.cell
      have hfr6:w6.frozen? ⟨ga,A.length,none⟩=false:=(World.frozen?_of_block (hg6.block ga (by have:=hb5t.size;omega) (λ e=>by rcases Zbz HS5.out.row HT1.out.row (by decide) with h0 | h0;cases h0;exact h0 (by rw [← e];rfl)))).trans (HS5.out.frozen _)
      obtain⟨a6,c6,rfl,-⟩:=hG6.val
      clear hG6 hg6
      refine hK.out _ _ hH6 (λ hHeld=>?_)
      clear hK K
      try simp only [Qp]
      refine Qt 10 42 rfl rfl ?_ (by intro w hSw;obtain⟨s0,s1,s2,s3⟩:=Q4 hSw;go_simp;(first | done | with_reducible rfl | rfl))
      try simp only [Qp]
      refine Qr 11 rfl (λ K hK=>?_) (by decide +kernel)
      have hbne:wr.heap.size≠ga:=by omega
      have hb7:=hb6.setCell (p:=⟨ga,A.length,none⟩) (by show w.heap.size<=ga;omega) (.slice a6 (M++[(⟨[.int .i64 l[k].kind,.string l[k].text,.bool l[k].spaced,.slice ao l[k].hidden.length c2],l[k],fp2⟩:Elem Tok)]).length c6)
      have hH7:=Zav hHeld hbne A.length (.slice a6 (M++[(⟨[.int .i64 l[k].kind,.string l[k].text,.bool l[k].spaced,.slice ao l[k].hidden.length c2],l[k],fp2⟩:Elem Tok)]).length c6)
      simp only [List.length_append,List.length_cons,List.length_nil,Nat.zero_add] at hb7 hH7 HN ⊢
      go_simp
      refine hK.out _ _ hH7 (λ hHeld=>?_)
      clear hK K
      try simp only [Qp]
      refine wpAnyH_done (by kernel_rfl) ?_ _
      refine NoPanic.normal ?_
      clear hHeld
      go_wp2
      go_roundw
      case rel=>exact⟨k+1,_,_,A,M++[(⟨[.int .i64 l[k].kind,.string l[k].text,.bool l[k].spaced,.slice ao l[k].hidden.length c2],l[k],fp2⟩:Elem Tok)],by omega,by go_num,rfl,by omega,by omega,by omega,by simp;omega,HN,by show _=_;rw [← HF.out,List.map_append];rfl,hb7⟩
      case measure=>simp [intOf];omega
     refine AllReadyH.cons rfl (λ K hK=>?_) AllReadyH.nil
     have bl:=Zab w4 (.cells #[.int .i64 l[k].kind,.string l[k].text,.bool l[k].spaced,.slice ao l[k].hidden.length c2] 57)
     have HL5:=Qh (heap_alloc_new w4 (.cells #[.int .i64 l[k].kind,.string l[k].text,.bool l[k].spaced,.slice ao l[k].hidden.length c2] 57))
     have HS5:=Qh (HS4.out.below bl)
     have HT1:=Qh (HTE.out.below bl)
     have hb5t:=hb4t.trans (bl.mono hb4t.size)
     have hs5:(w4.alloc (.cells #[.int .i64 l[k].kind,.string l[k].text,.bool l[k].spaced,.slice ao l[k].hidden.length c2] 57)).heap.size=w4.heap.size+1:=Array.size_push _
     have HT5:=Qh (And.intro (sTok.below HT4.out.1 bl) (And.intro (HT4.out.2.1.grow bl) (show ∀ b∈fp2,∃ cur t fr,(w4.alloc (.cells #[.int .i64 l[k].kind,.string l[k].text,.bool l[k].spaced,.slice ao l[k].hidden.length c2] 57)).heap[b]?=some (.cells cur t fr)/\t=9 from λ b hb=>by obtain⟨cur,t,fr,z1,z2⟩:=HT4.out.2.2 b hb;exact⟨cur,t,fr,(bl.block b (Qg z1).1).trans z1,z2⟩)))
     have hH5:=(bl.block _ (Qg hHeld).1).trans hHeld
     go_simp
     refine hK.out _ _ hH5 (λ hHeld=>?_)
     clear hK K bl
     try simp only [Qp]
     generalize hw5:(w4.alloc (.cells #[.int .i64 l[k].kind,.string l[k].text,.bool l[k].spaced,.slice ao l[k].hidden.length c2] 57))=w5 at *
     clear hw5
     refine Qr 5 rfl (λ K hK=>?_) (by decide +kernel)
     have hcell:=HS5.out.cell
     go_simp
     refine hK.out _ _ hHeld (λ hHeld=>?_)
     clear hK K
     try simp only [Qp]
     refine Qr 9 rfl (λ K hK=>?_) (by decide +kernel)
     refine Zbe (X:=[(⟨[.int .i64 l[k].kind,.string l[k].text,.bool l[k].spaced,.slice ao l[k].hidden.length c2],l[k],fp2⟩:Elem Tok)]) ZaE rfl (by decide) _ 41 rfl rfl (.tmp 37) (.tmp 40) rfl top (.slice au M.length cu) rfl HT1.out w4.heap.size 1 1 rfl rfl (λ x hx=>by obtain rfl:=Qm hx;rfl) (λ x hx=>by obtain rfl:=Qm hx;simp [Value.oneCell']) (λ j u hj=>by rw [cell_of_row _ _ _ _ _ _ HL5.out];simpa using hj) (λ x hx=>by obtain rfl:=Qm hx;exact HT5.out.1) (λ x hx b hb=>by obtain rfl:=Qm hx;have:=(HT5.out.2.1.2 b hb).1;omega) (λ x hx b hb=>by obtain rfl:=Qm hx;obtain⟨cur,t,fr,z1,z2⟩:=HT5.out.2.2 b hb;exact⟨cur,t,fr,z1,by rw [z2];decide⟩) (by unfold maxLen;omega) (by omega) (by omega) ?_
     intro v6 w6 hG6 hg6
     have HN:=Qh (HS5.out.more (x:=⟨[.int .i64 l[k].kind,.string l[k].text,.bool l[k].spaced,.slice ao l[k].hidden.length c2],l[k],fp2⟩) HT1.out t2 (by omega) HTOP.out (HT5.out.2.1.lower (by omega)) HT5.out.2.2 (λ b hb hx=>by have h1:=(HT5.out.2.1.2 b hb).1;have h2:=HOLD.out b hx;omega) hG6 hg6)
     have hb6:=hb5t.grown hg6 hb5t.size HS5.out.umine
     have hH6:=(hg6.block _ (Qg hHeld).1 (λ e=>by have:=HULT.out _ e.symm;omega)).trans hHeld
     have hcell6:w6.cell? ⟨ga,A.length,none⟩=some (.slice au M.length cu):=(World.cell?_of_block (hg6.block ga (by have:=hb5t.size;omega) (λ e=>by rcases Zbz HS5.out.row HT1.out.row (by decide) with h0 | h0;cases h0;exact h0 (by rw [← e];rfl)))).trans HS5.out.cell
     have hfr6:w6.frozen? ⟨ga,A.length,none⟩=false:=(World.frozen?_of_block (hg6.block ga (by have:=hb5t.size;omega) (λ e=>by rcases Zbz HS5.out.row HT1.out.row (by decide) with h0 | h0;cases h0;exact h0 (by rw [← e];rfl)))).trans (HS5.out.frozen _)
     obtain⟨a6,c6,rfl,-⟩:=hG6.val
     clear hG6 hg6
     refine hK.out _ _ hH6 (λ hHeld=>?_)
     clear hK K
     try simp only [Qp]
     refine Qt 10 42 rfl rfl ?_ (by intro w hSw;obtain⟨s0,s1,s2,s3⟩:=Q4 hSw;go_simp;(first | done | with_reducible rfl | rfl))
     try simp only [Qp]
     refine Qr 11 rfl (λ K hK=>?_) (by decide +kernel)
     have hbne:wr.heap.size≠ga:=by omega
     have hb7:=hb6.setCell (p:=⟨ga,A.length,none⟩) (by show w.heap.size<=ga;omega) (.slice a6 (M++[(⟨[.int .i64 l[k].kind,.string l[k].text,.bool l[k].spaced,.slice ao l[k].hidden.length c2],l[k],fp2⟩:Elem Tok)]).length c6)
     have hH7:=Zav hHeld hbne A.length (.slice a6 (M++[(⟨[.int .i64 l[k].kind,.string l[k].text,.bool l[k].spaced,.slice ao l[k].hidden.length c2],l[k],fp2⟩:Elem Tok)]).length c6)
     simp only [List.length_append,List.length_cons,List.length_nil,Nat.zero_add] at hb7 hH7 HN ⊢
     go_simp
     refine hK.out _ _ hH7 (λ hHeld=>?_)
     clear hK K
     try simp only [Qp]
     refine wpAnyH_done (by kernel_rfl) ?_ _
     refine NoPanic.normal ?_
     clear hHeld
     go_wp2
     go_roundw
     case rel=>exact⟨k+1,_,_,A,M++[(⟨[.int .i64 l[k].kind,.string l[k].text,.bool l[k].spaced,.slice ao l[k].hidden.length c2],l[k],fp2⟩:Elem Tok)],by omega,by go_num,rfl,by omega,by omega,by omega,by simp;omega,HN,by show _=_;rw [← HF.out,List.map_append];rfl,hb7⟩
     case measure=>simp [intOf];omega
    ·have e0:(dd==0)=false:=by simpa using h0
     clear hcomma hnc HCM hsz HUL HML
     go_wp2_with fail
     refine (HOP.out _ hbx).mono ?_
     rintro e w2 ⟨rfl,g2⟩
     have hc2:=hbx.trans (g2.mono hbx.size)
     have HX2:=Qh ((g2.block _ (Qg HX0.out).1).trans HX0.out)
     have HS2:=Qh (HS1.out.below g2)
     have hb2:=hbw.trans (g2.mono hbw.size)
     have hi1:(0:Int)<=(A.length:Int):=by omega
     have hi2:(A.length:Int)<(A.length:Int)+1:=by omega
     have hgs2:=hc2.size
     clear c10 c11 c12 c13 HOP HS1 HX0 hbw hbx g2 hb
     go_wp2_with fail
     refine wp_region_noPanic ?_
     refine wp_region_held_drew (S:=λ w'=>w'.heap[wr.heap.size]?=some (.cells #[.int .i64 l[k].kind,.string l[k].text,.bool l[k].spaced,.slice ah l[k].hidden.length ch] 57 (0,0))) (by kernel_rfl) (by exact HX2.out) (λ hHeld=>?_)
     have hdr:Below w2.heap.size w2 w2.drew:=Zag (Below.refl _ _) 1
     have HSd:=Qh (HS2.out.below hdr)
     have hbd:=hb2.trans (hdr.mono hb2.size)
     have hcd:=hc2.trans (hdr.mono hc2.size)
     have hwd:=hcd.size
     obtain⟨top,t1,t2,t3,t4⟩:=HSd.out.inn
     have HTD:=Qh t1
     have HTOP:=Qh t4
     clear t1 t4
     clear HS2 HX2 hdr
     generalize w2.drew=wd at *
     refine Qt 0 32 rfl rfl ?_ (by intro w hSw;obtain⟨s0,s1,s2,s3⟩:=Q4 hSw;go_simp;(first | done | with_reducible rfl | rfl))
     try simp only [Qp]
     refine Qt 1 33 rfl rfl ?_ (by intro w hSw;obtain⟨s0,s1,s2,s3⟩:=Q4 hSw;go_simp;(first | done | with_reducible rfl | rfl))
     try simp only [Qp]
     refine Qt 2 34 rfl rfl ?_ (by intro w hSw;obtain⟨s0,s1,s2,s3⟩:=Q4 hSw;go_simp;(first | done | with_reducible rfl | rfl))
     try simp only [Qp]
     refine Qt 3 35 rfl rfl ?_ (by intro w hSw;obtain⟨s0,s1,s2,s3⟩:=Q4 hSw;go_simp;(first | done | with_reducible rfl | rfl))
     try simp only [Qp]
     refine Qt 4 36 rfl rfl ?_ (by intro w hSw;obtain⟨s0,s1,s2,s3⟩:=Q4 hSw;go_simp;(first | done | with_reducible rfl | rfl))
     try simp only [Qp]
     refine Qt 6 38 rfl rfl ?_ (by intro w hSw;obtain⟨s0,s1,s2,s3⟩:=Q4 hSw;go_simp;(first | done | with_reducible rfl | rfl))
     try simp only [Qp]
     refine wpAnyH_ready (rs:=[5,7]) (by decide +kernel) (by simp) ?_
     refine AllReadyH.cons rfl (λ K hK=>?_) ?_
     ·have hcell:=HSd.out.cell
      go_simp
      refine hK.out _ _ hHeld (λ hHeld=>?_)
      clear hK K
      try simp only [Qp]
      refine Qr 7 rfl (λ K hK=>?_) (by decide +kernel)
      go_simp
      refine (HCP.out _ hcd).mono ?_
      rintro e w4 ⟨ao,c2,fp2,rfl,R2,O2,T2,hb4⟩
      have HS4:=Qh (HSd.out.below hb4)
      have hb4t:=hbd.trans (hb4.mono hbd.size)
      have hs4:=hb4.size
      have HTE:=Qh (HTD.out.below hb4)
      have HT4:=Qh (And.intro R2 (And.intro O2 T2))
      clear R2 O2 T2
      refine hK.out _ _ ((hb4.block _ (Qg hHeld).1).trans hHeld) (λ hHeld=>?_)
      clear hK K
      try simp only [Qp]
      refine Qr 8 rfl (λ K hK=>?_) (by decide +kernel)
      have bl:=Zab w4 (.cells #[.int .i64 l[k].kind,.string l[k].text,.bool l[k].spaced,.slice ao l[k].hidden.length c2] 57)
      have HL5:=Qh (heap_alloc_new w4 (.cells #[.int .i64 l[k].kind,.string l[k].text,.bool l[k].spaced,.slice ao l[k].hidden.length c2] 57))
      have HS5:=Qh (HS4.out.below bl)
      have HT1:=Qh (HTE.out.below bl)
      have hb5t:=hb4t.trans (bl.mono hb4t.size)
      have hs5:(w4.alloc (.cells #[.int .i64 l[k].kind,.string l[k].text,.bool l[k].spaced,.slice ao l[k].hidden.length c2] 57)).heap.size=w4.heap.size+1:=Array.size_push _
      have HT5:=Qh (And.intro (sTok.below HT4.out.1 bl) (And.intro (HT4.out.2.1.grow bl) (show ∀ b∈fp2,∃ cur t fr,(w4.alloc (.cells #[.int .i64 l[k].kind,.string l[k].text,.bool l[k].spaced,.slice ao l[k].hidden.length c2] 57)).heap[b]?=some (.cells cur t fr)/\t=9 from λ b hb=>by obtain⟨cur,t,fr,z1,z2⟩:=HT4.out.2.2 b hb;exact⟨cur,t,fr,(bl.block b (Qg z1).1).trans z1,z2⟩)))
      have hH5:=(bl.block _ (Qg hHeld).1).trans hHeld
      go_simp
      refine hK.out _ _ hH5 (λ hHeld=>?_)
      clear hK K bl
      try simp only [Qp]
      generalize hw5:(w4.alloc (.cells #[.int .i64 l[k].kind,.string l[k].text,.bool l[k].spaced,.slice ao l[k].hidden.length c2] 57))=w5 at *
      clear hw5
      refine Qr 9 rfl (λ K hK=>?_) (by decide +kernel)
      refine Zbe (X:=[(⟨[.int .i64 l[k].kind,.string l[k].text,.bool l[k].spaced,.slice ao l[k].hidden.length c2],l[k],fp2⟩:Elem Tok)]) ZaE rfl (by decide) _ 41 rfl rfl (.tmp 37) (.tmp 40) rfl top (.slice au M.length cu) rfl HT1.out w4.heap.size 1 1 rfl rfl (λ x hx=>by obtain rfl:=Qm hx;rfl) (λ x hx=>by obtain rfl:=Qm hx;simp [Value.oneCell']) (λ j u hj=>by rw [cell_of_row _ _ _ _ _ _ HL5.out];simpa using hj) (λ x hx=>by obtain rfl:=Qm hx;exact HT5.out.1) (λ x hx b hb=>by obtain rfl:=Qm hx;have:=(HT5.out.2.1.2 b hb).1;omega) (λ x hx b hb=>by obtain rfl:=Qm hx;obtain⟨cur,t,fr,z1,z2⟩:=HT5.out.2.2 b hb;exact⟨cur,t,fr,z1,by rw [z2];decide⟩) (by unfold maxLen;omega) (by omega) (by omega) ?_
      intro v6 w6 hG6 hg6
      have HN:=Qh (HS5.out.more (x:=⟨[.int .i64 l[k].kind,.string l[k].text,.bool l[k].spaced,.slice ao l[k].hidden.length c2],l[k],fp2⟩) HT1.out t2 (by omega) HTOP.out (HT5.out.2.1.lower (by omega)) HT5.out.2.2 (λ b hb hx=>by have h1:=(HT5.out.2.1.2 b hb).1;have h2:=HOLD.out b hx;omega) hG6 hg6)
      have hb6:=hb5t.grown hg6 hb5t.size HS5.out.umine
      have hH6:=(hg6.block _ (Qg hHeld).1 (λ e=>by have:=HULT.out _ e.symm;omega)).trans hHeld
      have hcell6:w6.cell? ⟨ga,A.length,none⟩=some (.slice au M.length cu):=(World.cell?_of_block (hg6.block ga (by have:=hb5t.size;omega) (λ e=>by rcases Zbz HS5.out.row HT1.out.row (by decide) with h0 | h0;cases h0;exact h0 (by rw [← e];rfl)))).trans HS5.out.cell
      have hfr6:w6.frozen? ⟨ga,A.length,none⟩=false:=(World.frozen?_of_block (hg6.block ga (by have:=hb5t.size;omega) (λ e=>by rcases Zbz HS5.out.row HT1.out.row (by decide) with h0 | h0;cases h0;exact h0 (by rw [← e];rfl)))).trans (HS5.out.frozen _)
      obtain⟨a6,c6,rfl,-⟩:=hG6.val
      clear hG6 hg6
      refine hK.out _ _ hH6 (λ hHeld=>?_)
      clear hK K
      try simp only [Qp]
      refine Qt 10 42 rfl rfl ?_ (by intro w hSw;obtain⟨s0,s1,s2,s3⟩:=Q4 hSw;go_simp;(first | done | with_reducible rfl | rfl))
      try simp only [Qp]
      refine Qr 11 rfl (λ K hK=>?_) (by decide +kernel)
      have hbne:wr.heap.size≠ga:=by omega
      have hb7:=hb6.setCell (p:=⟨ga,A.length,none⟩) (by show w.heap.size<=ga;omega) (.slice a6 (M++[(⟨[.int .i64 l[k].kind,.string l[k].text,.bool l[k].spaced,.slice ao l[k].hidden.length c2],l[k],fp2⟩:Elem Tok)]).length c6)
      have hH7:=Zav hHeld hbne A.length (.slice a6 (M++[(⟨[.int .i64 l[k].kind,.string l[k].text,.bool l[k].spaced,.slice ao l[k].hidden.length c2],l[k],fp2⟩:Elem Tok)]).length c6)
      simp only [List.length_append,List.length_cons,List.length_nil,Nat.zero_add] at hb7 hH7 HN ⊢
      go_simp
      refine hK.out _ _ hH7 (λ hHeld=>?_)
      clear hK K
      try simp only [Qp]
      refine wpAnyH_done (by kernel_rfl) ?_ _
      refine NoPanic.normal ?_
      clear hHeld
      go_wp2
      go_roundw
      case rel=>exact⟨k+1,_,_,A,M++[(⟨[.int .i64 l[k].kind,.string l[k].text,.bool l[k].spaced,.slice ao l[k].hidden.length c2],l[k],fp2⟩:Elem Tok)],by omega,by go_num,rfl,by omega,by omega,by omega,by simp;omega,HN,by show _=_;rw [← HF.out,List.map_append];rfl,hb7⟩
      case measure=>simp [intOf];omega
     refine AllReadyH.cons rfl (λ K hK=>?_) AllReadyH.nil
     go_simp
     refine (HCP.out _ hcd).mono ?_
     rintro e w4 ⟨ao,c2,fp2,rfl,R2,O2,T2,hb4⟩
     have HS4:=Qh (HSd.out.below hb4)
     have hb4t:=hbd.trans (hb4.mono hbd.size)
     have hs4:=hb4.size
     have HTE:=Qh (HTD.out.below hb4)
     have HT4:=Qh (And.intro R2 (And.intro O2 T2))
     clear R2 O2 T2
     refine hK.out _ _ ((hb4.block _ (Qg hHeld).1).trans hHeld) (λ hHeld=>?_)
     clear hK K
     try simp only [Qp]
     refine wpAnyH_ready (rs:=[5,8]) (by decide +kernel) (by simp) ?_
     refine AllReadyH.cons rfl (λ K hK=>?_) ?_
     ·have hcell:=HS4.out.cell
      go_simp
      refine hK.out _ _ hHeld (λ hHeld=>?_)
      clear hK K
      try simp only [Qp]
      refine Qr 8 rfl (λ K hK=>?_) (by decide +kernel)
      have bl:=Zab w4 (.cells #[.int .i64 l[k].kind,.string l[k].text,.bool l[k].spaced,.slice ao l[k].hidden.length c2] 57)
      have HL5:=Qh (heap_alloc_new w4 (.cells #[.int .i64 l[k].kind,.string l[k].text,.bool l[k].spaced,.slice ao l[k].hidden.length c2] 57))
      have HS5:=Qh (HS4.out.below bl)
      have HT1:=Qh (HTE.out.below bl)
      have hb5t:=hb4t.trans (bl.mono hb4t.size)
      have hs5:(w4.alloc (.cells #[.int .i64 l[k].kind,.string l[k].text,.bool l[k].spaced,.slice ao l[k].hidden.length c2] 57)).heap.size=w4.heap.size+1:=Array.size_push _
      have HT5:=Qh (And.intro (sTok.below HT4.out.1 bl) (And.intro (HT4.out.2.1.grow bl) (show ∀ b∈fp2,∃ cur t fr,(w4.alloc (.cells #[.int .i64 l[k].kind,.string l[k].text,.bool l[k].spaced,.slice ao l[k].hidden.length c2] 57)).heap[b]?=some (.cells cur t fr)/\t=9 from λ b hb=>by obtain⟨cur,t,fr,z1,z2⟩:=HT4.out.2.2 b hb;exact⟨cur,t,fr,(bl.block b (Qg z1).1).trans z1,z2⟩)))
      have hH5:=(bl.block _ (Qg hHeld).1).trans hHeld
      go_simp
      refine hK.out _ _ hH5 (λ hHeld=>?_)
      clear hK K bl
      try simp only [Qp]
      generalize hw5:(w4.alloc (.cells #[.int .i64 l[k].kind,.string l[k].text,.bool l[k].spaced,.slice ao l[k].hidden.length c2] 57))=w5 at *
      clear hw5
      refine Qr 9 rfl (λ K hK=>?_) (by decide +kernel)
      refine Zbe (X:=[(⟨[.int .i64 l[k].kind,.string l[k].text,.bool l[k].spaced,.slice ao l[k].hidden.length c2],l[k],fp2⟩:Elem Tok)]) ZaE rfl (by decide) _ 41 rfl rfl (.tmp 37) (.tmp 40) rfl top (.slice au M.length cu) rfl HT1.out w4.heap.size 1 1 rfl rfl (λ x hx=>by obtain rfl:=Qm hx;rfl) (λ x hx=>by obtain rfl:=Qm hx;simp [Value.oneCell']) (λ j u hj=>by rw [cell_of_row _ _ _ _ _ _ HL5.out];simpa using hj) (λ x hx=>by obtain rfl:=Qm hx;exact HT5.out.1) (λ x hx b hb=>by obtain rfl:=Qm hx;have:=(HT5.out.2.1.2 b hb).1;omega) (λ x hx b hb=>by obtain rfl:=Qm hx;obtain⟨cur,t,fr,z1,z2⟩:=HT5.out.2.2 b hb;exact⟨cur,t,fr,z1,by rw [z2];decide⟩) (by unfold maxLen;omega) (by omega) (by omega) ?_
      intro v6 w6 hG6 hg6
      have HN:=Qh (HS5.out.more (x:=⟨[.int .i64 l[k].kind,.string l[k].text,.bool l[k].spaced,.slice ao l[k].hidden.length c2],l[k],fp2⟩) HT1.out t2 (by omega) HTOP.out (HT5.out.2.1.lower (by omega)) HT5.out.2.2 (λ b hb hx=>by have h1:=(HT5.out.2.1.2 b hb).1;have h2:=HOLD.out b hx;omega) hG6 hg6)
      have hb6:=hb5t.grown hg6 hb5t.size HS5.out.umine
      have hH6:=(hg6.block _ (Qg hHeld).1 (λ e=>by have:=HULT.out _ e.symm;omega)).trans hHeld
      have hcell6:w6.cell? ⟨ga,A.length,none⟩=some (.slice au M.length cu):=(World.cell?_of_block (hg6.block ga (by have:=hb5t.size;omega) (λ e=>by rcases Zbz HS5.out.row HT1.out.row (by decide) with h0 | h0;cases h0;exact h0 (by rw [← e];rfl)))).trans HS5.out.cell
      have hfr6:w6.frozen? ⟨ga,A.length,none⟩=false:=(World.frozen?_of_block (hg6.block ga (by have:=hb5t.size;omega) (λ e=>by rcases Zbz HS5.out.row HT1.out.row (by decide) with h0 | h0;cases h0;exact h0 (by rw [← e];rfl)))).trans (HS5.out.frozen _)
      obtain⟨a6,c6,rfl,-⟩:=hG6.val
      clear hG6 hg6
      refine hK.out _ _ hH6 (λ hHeld=>?_)
      clear hK K
      try simp only [Qp]
      refine Qt 10 42 rfl rfl ?_ (by intro w hSw;obtain⟨s0,s1,s2,s3⟩:=Q4 hSw;go_simp;(first | done | with_reducible rfl | rfl))
      try simp only [Qp]
      refine Qr 11 rfl (λ K hK=>?_) (by decide +kernel)
      have hbne:wr.heap.size≠ga:=by omega
      have hb7:=hb6.setCell (p:=⟨ga,A.length,none⟩) (by show w.heap.size<=ga;omega) (.slice a6 (M++[(⟨[.int .i64 l[k].kind,.string l[k].text,.bool l[k].spaced,.slice ao l[k].hidden.length c2],l[k],fp2⟩:Elem Tok)]).length c6)
      have hH7:=Zav hHeld hbne A.length (.slice a6 (M++[(⟨[.int .i64 l[k].kind,.string l[k].text,.bool l[k].spaced,.slice ao l[k].hidden.length c2],l[k],fp2⟩:Elem Tok)]).length c6)
      simp only [List.length_append,List.length_cons,List.length_nil,Nat.zero_add] at hb7 hH7 HN ⊢
      go_simp
      refine hK.out _ _ hH7 (λ hHeld=>?_)
      clear hK K
      try simp only [Qp]
      refine wpAnyH_done (by kernel_rfl) ?_ _
      refine NoPanic.normal ?_
      clear hHeld
      go_wp2
      go_roundw
      case rel=>exact⟨k+1,_,_,A,M++[(⟨[.int .i64 l[k].kind,.string l[k].text,.bool l[k].spaced,.slice ao l[k].hidden.length c2],l[k],fp2⟩:Elem Tok)],by omega,by go_num,rfl,by omega,by omega,by omega,by simp;omega,HN,by show _=_;rw [← HF.out,List.map_append];rfl,hb7⟩
      case measure=>simp [intOf];omega
     refine AllReadyH.cons rfl (λ K hK=>?_) AllReadyH.nil
     have bl:=Zab w4 (.cells #[.int .i64 l[k].kind,.string l[k].text,.bool l[k].spaced,.slice ao l[k].hidden.length c2] 57)
     have HL5:=Qh (heap_alloc_new w4 (.cells #[.int .i64 l[k].kind,.string l[k].text,.bool l[k].spaced,.slice ao l[k].hidden.length c2] 57))
     have HS5:=Qh (HS4.out.below bl)
     have HT1:=Qh (HTE.out.below bl)
     have hb5t:=hb4t.trans (bl.mono hb4t.size)
     have hs5:(w4.alloc (.cells #[.int .i64 l[k].kind,.string l[k].text,.bool l[k].spaced,.slice ao l[k].hidden.length c2] 57)).heap.size=w4.heap.size+1:=Array.size_push _
     have HT5:=Qh (And.intro (sTok.below HT4.out.1 bl) (And.intro (HT4.out.2.1.grow bl) (show ∀ b∈fp2,∃ cur t fr,(w4.alloc (.cells #[.int .i64 l[k].kind,.string l[k].text,.bool l[k].spaced,.slice ao l[k].hidden.length c2] 57)).heap[b]?=some (.cells cur t fr)/\t=9 from λ b hb=>by obtain⟨cur,t,fr,z1,z2⟩:=HT4.out.2.2 b hb;exact⟨cur,t,fr,(bl.block b (Qg z1).1).trans z1,z2⟩)))
     have hH5:=(bl.block _ (Qg hHeld).1).trans hHeld
     go_simp
     refine hK.out _ _ hH5 (λ hHeld=>?_)
     clear hK K bl
     try simp only [Qp]
     generalize hw5:(w4.alloc (.cells #[.int .i64 l[k].kind,.string l[k].text,.bool l[k].spaced,.slice ao l[k].hidden.length c2] 57))=w5 at *
     clear hw5
     refine Qr 5 rfl (λ K hK=>?_) (by decide +kernel)
     have hcell:=HS5.out.cell
     go_simp
     refine hK.out _ _ hHeld (λ hHeld=>?_)
     clear hK K
     try simp only [Qp]
     refine Qr 9 rfl (λ K hK=>?_) (by decide +kernel)
     refine Zbe (X:=[(⟨[.int .i64 l[k].kind,.string l[k].text,.bool l[k].spaced,.slice ao l[k].hidden.length c2],l[k],fp2⟩:Elem Tok)]) ZaE rfl (by decide) _ 41 rfl rfl (.tmp 37) (.tmp 40) rfl top (.slice au M.length cu) rfl HT1.out w4.heap.size 1 1 rfl rfl (λ x hx=>by obtain rfl:=Qm hx;rfl) (λ x hx=>by obtain rfl:=Qm hx;simp [Value.oneCell']) (λ j u hj=>by rw [cell_of_row _ _ _ _ _ _ HL5.out];simpa using hj) (λ x hx=>by obtain rfl:=Qm hx;exact HT5.out.1) (λ x hx b hb=>by obtain rfl:=Qm hx;have:=(HT5.out.2.1.2 b hb).1;omega) (λ x hx b hb=>by obtain rfl:=Qm hx;obtain⟨cur,t,fr,z1,z2⟩:=HT5.out.2.2 b hb;exact⟨cur,t,fr,z1,by rw [z2];decide⟩) (by unfold maxLen;omega) (by omega) (by omega) ?_
     intro v6 w6 hG6 hg6
     have HN:=Qh (HS5.out.more (x:=⟨[.int .i64 l[k].kind,.string l[k].text,.bool l[k].spaced,.slice ao l[k].hidden.length c2],l[k],fp2⟩) HT1.out t2 (by omega) HTOP.out (HT5.out.2.1.lower (by omega)) HT5.out.2.2 (λ b hb hx=>by have h1:=(HT5.out.2.1.2 b hb).1;have h2:=HOLD.out b hx;omega) hG6 hg6)
     have hb6:=hb5t.grown hg6 hb5t.size HS5.out.umine
     have hH6:=(hg6.block _ (Qg hHeld).1 (λ e=>by have:=HULT.out _ e.symm;omega)).trans hHeld
     have hcell6:w6.cell? ⟨ga,A.length,none⟩=some (.slice au M.length cu):=(World.cell?_of_block (hg6.block ga (by have:=hb5t.size;omega) (λ e=>by rcases Zbz HS5.out.row HT1.out.row (by decide) with h0 | h0;cases h0;exact h0 (by rw [← e];rfl)))).trans HS5.out.cell
     have hfr6:w6.frozen? ⟨ga,A.length,none⟩=false:=(World.frozen?_of_block (hg6.block ga (by have:=hb5t.size;omega) (λ e=>by rcases Zbz HS5.out.row HT1.out.row (by decide) with h0 | h0;cases h0;exact h0 (by rw [← e];rfl)))).trans (HS5.out.frozen _)
     obtain⟨a6,c6,rfl,-⟩:=hG6.val
     clear hG6 hg6
     refine hK.out _ _ hH6 (λ hHeld=>?_)
     clear hK K
     try simp only [Qp]
     refine Qt 10 42 rfl rfl ?_ (by intro w hSw;obtain⟨s0,s1,s2,s3⟩:=Q4 hSw;go_simp;(first | done | with_reducible rfl | rfl))
     try simp only [Qp]
     refine Qr 11 rfl (λ K hK=>?_) (by decide +kernel)
     have hbne:wr.heap.size≠ga:=by omega
     have hb7:=hb6.setCell (p:=⟨ga,A.length,none⟩) (by show w.heap.size<=ga;omega) (.slice a6 (M++[(⟨[.int .i64 l[k].kind,.string l[k].text,.bool l[k].spaced,.slice ao l[k].hidden.length c2],l[k],fp2⟩:Elem Tok)]).length c6)
     have hH7:=Zav hHeld hbne A.length (.slice a6 (M++[(⟨[.int .i64 l[k].kind,.string l[k].text,.bool l[k].spaced,.slice ao l[k].hidden.length c2],l[k],fp2⟩:Elem Tok)]).length c6)
     simp only [List.length_append,List.length_cons,List.length_nil,Nat.zero_add] at hb7 hH7 HN ⊢
     go_simp
     refine hK.out _ _ hH7 (λ hHeld=>?_)
     clear hK K
     try simp only [Qp]
     refine wpAnyH_done (by kernel_rfl) ?_ _
     refine NoPanic.normal ?_
     clear hHeld
     go_wp2
     go_roundw
     case rel=>exact⟨k+1,_,_,A,M++[(⟨[.int .i64 l[k].kind,.string l[k].text,.bool l[k].spaced,.slice ao l[k].hidden.length c2],l[k],fp2⟩:Elem Tok)],by omega,by go_num,rfl,by omega,by omega,by omega,by simp;omega,HN,by show _=_;rw [← HF.out,List.map_append];rfl,hb7⟩
     case measure=>simp [intOf];omega
  ·have HF:=Qh ((dvGo_end (by omega:l.length<=k) dd _ _).symm.trans HI.out)
   obtain⟨fpr,hr,ho⟩:=HS.out.done
   have HRR:=Qh hr
   have HOO:=Qh ho
   clear HI hr ho
   go_wp2
   go_ret
   exact⟨_,fpr,rfl,by rw [← HF.out];exact HRR.out,HOO.out,hb⟩
def Zfe (r:Args × Int × Bool) (w:World) (e:Ending) (w':World):Prop:=
 ∃ (v:Value) (fp:List Nat),e=.returned (.tuple #[v,.int .i64 r.2.1,.bool r.2.2])/\(Zaa sToks).R w' [v] r.1 fp/\Own w' w.heap.size fp/\Below w.heap.size w w'
theorem ZlZ {l:List Tok} {n:Nat} (hn:n<l.length) (h:Zch l[n]=true):clGo (l.drop n) 0 n=clGo (l.drop (n+1)) 1 (n+1):=by
 rw [Zjg hn,ZjW h,if_neg (by omega)];rfl
theorem Zg8 (v:Value) (l:List Tok) (fp:List Nat) (n:Nat) (w:World) (hl60:l.length<=60) (hn:n<l.length) (ho:Zch l[n]=true) (hx:∀ k,(hk:k<l.length)->l[k].hidden.length<=2000000) (H:(Zaa sTok).R w [v] l fp) :
  Calls Tryz.prog 125 #[v,.int .i64 n] w (Zfe (ZcW l n) w):=by
 have HR1:=Qh H
 obtain⟨a1,c1,rfl,hc1,hm1,hrow⟩:=Zac H
 unfold maxLen at hm1
 obtain⟨b1,off1,fps1,rfl,hb1,-,he1⟩:=hrow (by omega)
 clear H hrow he1
 have hNo:∀ (W:World),Below w.heap.size w W->ZcW l n=([],0,false)->Zfe (ZcW l n) w (.returned (.tuple #[.slice none 0 0,.int .i64 0,.bool false])) W:=λ W hW h=>by
  rw [h]
  exact⟨_,[],rfl,ZaC sToks _ _ 0 (by simp),Own.nil _ _,hW⟩
 have HNO:=Qh hNo
 clear hNo
 go_enter Tryz.func125,Tryz.ntmps125
 have HCL:=Qh (Zgm _ l fp n w hl60 (by omega) HR1.out)
 rw [ZlZ hn ho] at HCL
 cases hcl:clGo (l.drop (n+1)) 1 (n+1) with
 |
  none =>
  have HF:=Qh (ZgJ hcl)
  rw [hcl] at HCL
  clear hcl ho
  go_wp2_with fail
  refine HCL.out.mono ?_
  rintro e w3 ⟨rfl,hb3⟩
  unfold clRes
  go_wp2
  go_ret3
  exact HNO.out _ hb3 HF.out
 |
  some e =>
  have HF:=Qh (ZgK hcl)
  have hge:=ZeF _ _ _ _ hcl
  rw [List.length_drop] at hge
  rw [hcl] at HCL
  clear hcl ho
  obtain⟨hge1,hge2⟩:=hge
  have hel:e<l.length:=by omega
  go_wp2_with fail
  refine HCL.out.mono ?_
  rintro ee w3 ⟨rfl,hb3⟩
  have hbx:=hb3
  have hcr:clRes (some e)=(e:Int):=rfl
  rw [hcr]
  obtain⟨ft,RT,-⟩:=Zcp e (by omega) HR1.out
  obtain⟨fd,RD,-⟩:=Zbg (n+1) (by rw [List.length_take];omega) RT
  rw [if_neg (by omega),Option.map_some,Addr.add_lit,List.drop_take] at RD
  have HLX:Hid (∀ k,(hk:k<((l.drop (n+1)).take (e-(n+1))).length)->((l.drop (n+1)).take (e-(n+1)))[k].hidden.length<=2000000):=λ k hk=>by
   rw [List.getElem_take,List.getElem_drop]
   exact hx _ _
  have HDV:=Qh (Zfd _ ((l.drop (n+1)).take (e-(n+1))) fd w3 (by rw [List.length_take,List.length_drop];omega) HLX.out ((Zaa sTok).below RD hbx))
  have hwr:IntKind.i64.wrap ((n:Int)+1)=(n:Int)+1:=IntWalk.i64_in _ (by omega)
  have hwr2:IntKind.i64.wrap ((e:Int)+1)=(e:Int)+1:=IntWalk.i64_in _ (by omega)
  have hne:¬ c1=n+1:=by omega
  have hp0:¬ (e:Int)<0:=by omega
  have hp1:(0:Int)<=(n:Int)+1:=by omega
  have hp2:(n:Int)+1<=(e:Int):=by omega
  have hp3:(e:Int)<=(c1:Int):=by omega
  have hp4:n+1<=c1:=by omega
  have hp5:((n:Int)+1).toNat=n+1:=by omega
  have hm4:sTok.m=4:=rfl
  rw [hm4] at HDV
  clear RT RD HLX
  go_wp2_with fail
  refine HDV.out.mono ?_
  rintro ee w4 ⟨v4,fp4,rfl,hR4,hO4,hb4⟩
  have HRR:=Qh hR4
  have HOO:=Qh hO4
  have hb5:=hbx.trans (hb4.mono hbx.size)
  have hs5:=hbx.size
  clear hR4 hO4
  go_wp2
  go_ret3
  rw [HF.out]
  exact⟨_,fp4,rfl,HRR.out,HOO.out.lower hs5,hb5⟩
theorem ZmR {l:List Tok} {k:Nat} (hk:k<l.length) (d:Int) (A:Args) (M:List Tok) :
  splK (l.drop k) d A M k=if d+opnK l[k]=0 then (A++[M],k+1,true) else if d+opnK l[k]=1/\isM l[k] [44]=true then splK (l.drop (k+1)) (d+opnK l[k]) (A++[M]) [] (k+1) else splK (l.drop (k+1)) (d+opnK l[k]) A (M++[l[k]]) (k+1):=by
 rw [List.drop_eq_getElem_cons hk];rfl
theorem splK_end {l:List Tok} {k:Nat} (hk:l.length<=k) (d:Int) (A:Args) (M:List Tok):splK (l.drop k) d A M k=(A,0,false):=by rw [List.drop_of_length_le hk];rfl
theorem Zf0 {t:Tok} (h:isM t [40]=true):opnK t=1:=by unfold opnK;rw [if_pos h]
theorem ZmS {t:Tok} (h:isM t [40]=false) (h2:isM t [41]=true):opnK t=-1:=by unfold opnK;rw [if_neg (by simp [h]),if_pos h2]
theorem ZmT {t:Tok} (h:isM t [40]=false) (h2:isM t [41]=false):opnK t=0:=by unfold opnK;rw [if_neg (by simp [h]),if_neg (by simp [h2])]
theorem opnK_ge (t:Tok):-1<=opnK t/\opnK t<=1:=by unfold opnK;split;omega;split <;> omega
theorem open_com {t:Tok} (h:isM t [40]=true):isM t [44]=false:=by
 have e:=Ze8 h
 cases h2:isM t [44]
 ·rfl
 ·have e2:=Ze8 h2
  rw [e] at e2
  exact absurd e2 (by decide)
structure SplN (base:Nat) (fp:List Nat) (va:Value) (A:List (Elem (List Tok))) (vm:Value) (M:List (Elem Tok)) (w:World):Prop where
 a:RowN sToks base 28 va A w
 m:RowN sTok base 57 vm M w
 ne:∀ g,va.ownBlock=some g->vm.ownBlock≠some g
 am:∀ x∈A,∀ b∈x.fp,vm.ownBlock≠some b
 mlo:∀ x∈M,∀ b∈x.fp,b<base/\b∈fp
 alo:∀ x∈A,∀ b∈x.fp,b∈fp\/base<=b
section
variable {base:Nat} {fp:List Nat} {va vm va' vm':Value} {A:List (Elem (List Tok))} {M:List (Elem Tok)} {w w':World}
theorem SplN.below (h:SplN base fp va A vm M w) (hb:Below w.heap.size w w'):SplN base fp va A vm M w':=⟨h.a.below hb,h.m.below hb,h.ne,h.am,h.mlo,h.alo⟩
theorem SplN.arg (h:SplN base fp va A vm M w):∃ fpm,sToks.R w [vm] (M.map (·.d)) fpm/\(∀ b∈fpm,va.ownBlock≠some b)/\∀ b∈fpm,b∈fp\/base<=b:=by
 obtain⟨fpm,h1,h2,-⟩:=h.m.read
 refine ⟨fpm,h1,λ b hb hv=>?_,λ b hb=>?_⟩
 ·rcases h2 b hb with h0 | ⟨x,hx,h0⟩
  ·exact h.ne b hv h0
  ·have:=(h.mlo x hx b h0).1;have:=(h.a.mine b hv).1;omega
 ·rcases h2 b hb with h0 | ⟨x,hx,h0⟩
  ·exact .inr (h.m.mine b h0).1
  ·exact .inl (h.mlo x hx b h0).2
theorem SplN.push (h:SplN base fp va A vm M w) {x:Elem Tok} (hr:RowN sTok base 57 vm' (M++[x]) w') (hg:w.grownBy w' vm.ownBlock) (hp:vm'.ownBlock=vm.ownBlock\/vm'.ownBlock=some w.heap.size) (hx:∀ b∈x.fp,b<base/\b∈fp):SplN base fp va A vm' (M++[x]) w' where
 a:=h.a.same (λ g hgv=>hg.block g (h.a.mine g hgv).2 λ e=>h.ne g hgv e.symm) (λ y hy b hb=>hg.block b (sToks.lt (h.a.el y hy) b hb) λ e=>h.am y hy b hb e.symm)
 m:=hr
 ne:=λ g h1 h2=>by
  rcases hp with e | e
  ·exact h.ne g h1 (by rw [← e];exact h2)
  ·rw [e,Qi] at h2;have:=(h.a.mine g h1).2;omega
 am:=λ y hy b hb h2=>by
  rcases hp with e | e
  ·exact h.am y hy b hb (by rw [← e];exact h2)
  ·rw [e,Qi] at h2;have:=sToks.lt (h.a.el y hy) b hb;omega
 mlo:=λ y hy b hb=>by
  rcases Qa hy with hy | hy
  ·exact h.mlo y hy b hb
  ·rw [Qm hy] at hb;exact hx b hb
 alo:=h.alo
theorem SplN.next (h:SplN base fp va A vm M w) {y:Elem (List Tok)} (hr:RowN sToks base 28 va' (A++[y]) w') (hy:∀ b∈y.fp,b∈fp\/base<=b) (hs:base<=w'.heap.size):SplN base fp va' (A++[y]) (.slice (some ⟨w'.heap.size,0,none⟩) 0 0) [] (w'.alloc (.cells #[] 57)) where
 a:=hr.below (Zab _ _)
 m:=RowN.lit0 sTok 57 w' hs
 ne:=λ g h1 h2=>by simp only [Value.ownBlock,Qi] at h2;have:=(hr.mine g h1).2;omega
 am:=λ x hx b hb h2=>by simp only [Value.ownBlock,Qi] at h2;have:=sToks.lt (hr.el x hx) b hb;omega
 mlo:=by simp
 alo:=λ x hx b hb=>by
  rcases Qa hx with hx | hx
  ·exact h.alo x hx b hb
  ·rw [Qm hx] at hb;exact hy b hb
end
def ZiA (fp:List Nat) (r:Args × Nat × Bool) (w:World) (e:Ending) (w':World):Prop:=
 ∃ (v:Value) (A:List (Elem (List Tok))),e=.returned (.tuple #[v,.int .i64 (r.2.1:Nat),.bool r.2.2])/\RowN sToks w.heap.size 28 v A w'/\A.map (·.d)=r.1/\(∀ x∈A,∀ b∈x.fp,b∈fp\/w.heap.size<=b)/\Below w.heap.size w w'
theorem Zjq (v:Value) (l:List Tok) (fp:List Nat) (n:Nat) (w:World) (hl:l.length<=1000) (hn:n<l.length) (ho:isM l[n] [40]=true) (H:(Zaa sTok).R w [v] l fp) :
  Calls Tryz.prog 98 #[v,.int .i64 n] w (ZiA fp (splK (l.drop (n+1)) 1 [] [] (n+1)) w):=by
 have HLT:=Qh ((Zaa sTok).lt H)
 obtain⟨a,cap,rfl,hc,hm,hrow⟩:=Zac H
 unfold maxLen at hm
 have HK:=Qh H
 have HOP:=Qh ho
 clear H ho
 obtain⟨r,HR⟩:∃ r,Hid (r=splK (l.drop (n+1)) 1 [] [] (n+1)):=⟨_,rfl⟩
 rw [← HR.out]
 have b0:=Zab w (.cells #[] 28)
 have b1:=b0.trans ((Zab (w.alloc (.cells #[] 28)) (.cells #[] 57)).mono b0.size)
 have hsz:(w.alloc (.cells #[] 28)).heap.size=w.heap.size+1:=Array.size_push _
 have HS0:Hid (SplN w.heap.size fp (.slice (some ⟨w.heap.size,0,none⟩) 0 0) [] (.slice (some ⟨w.heap.size+1,0,none⟩) 0 0) [] ((w.alloc (.cells #[] 28)).alloc (.cells #[] 57))):=by
  have h1:=RowN.lit0 sToks 28 w (Nat.le_refl _)
  have h2:=RowN.lit0 sTok 57 (w.alloc (.cells #[] 28)) (base:=w.heap.size) b0.size
  rw [hsz] at h2
  exact⟨h1.below (Zab _ _),h2,λ g q1 q2=>by simp only [Value.ownBlock,Qi] at q1 q2;omega,by simp,by simp,by simp⟩
 clear b0 hsz
 go_enter Tryz.func98,Tryz.ntmps98
 go_wp2
 go_loopw [7,8,9,10] (λ va vm d i wr=>∃ (k:Nat) (dd:Int) (A:List (Elem (List Tok))) (M:List (Elem Tok)),n<=k/\k<=l.length/\i=.int .i64 k/\d=.int .i64 dd/\0<=dd/\dd<=k/\A.length<=k/\M.length<=k/\Hid (SplN w.heap.size fp va A vm M wr)/\Hid ((k=n/\dd=0/\A=[]/\M=[])\/(n<k/\1<=dd/\splK (l.drop k) dd (A.map (·.d)) (M.map (·.d)) k=r))/\Below w.heap.size w wr) (λ _ _ _ i _=>l.length-(intOf i).toNat)
 case atStart=>exact⟨n,0,[],[],Nat.le_refl _,by omega,rfl,rfl,by omega,by omega,by simp,by simp,HS0,.inl ⟨rfl,rfl,rfl,rfl⟩,b1⟩
 case round =>
  clear HS0 b1
  obtain⟨k,dd,A,M,hnk,hk,rfl,rfl,hd0,hdk,hAk,hMk,HS,HI,hb⟩:=hrel
  obtain⟨aa,ca,hva,-⟩:=HS.out.a.val
  obtain⟨am,cm,hvm,-⟩:=HS.out.m.val
  subst hva hvm
  by_cases hlt:k<l.length
  ·obtain⟨b1,o1,-,rfl,-,-,-⟩:=hrow (by omega)
   obtain⟨xa,xc,xf,x0,x1,x2,x3,xR,hbb,hxf⟩:=ZaQ HK.out hlt
   replace x0:=(hb.cell (p:=⟨b1,o1+k * 4,none⟩) hbb).trans x0
   replace x1:=(hb.cell (p:=⟨b1,o1+k * 4+1,none⟩) hbb).trans x1
   replace x2:=(hb.cell (p:=⟨b1,o1+k * 4+2,none⟩) hbb).trans x2
   replace x3:=(hb.cell (p:=⟨b1,o1+k * 4+3,none⟩) hbb).trans x3
   have XR:=Qh (sTok.below xR hb)
   have HXF:Hid (∀ b∈xf,b<w.heap.size/\b∈fp):=λ b hb=>⟨HLT.out b (hxf b hb),hxf b hb⟩
   have bx:=Zab wr (.cells #[.int .i64 l[k].kind,.string l[k].text,.bool l[k].spaced,.slice xa l[k].hidden.length xc] 57)
   have HX:=Qh (heap_alloc_new wr (.cells #[.int .i64 l[k].kind,.string l[k].text,.bool l[k].spaced,.slice xa l[k].hidden.length xc] 57))
   have HST:Hid (n<k->splK (l.drop k) dd (A.map (·.d)) (M.map (·.d)) k=r):=λ h=>by
    rcases HI.out with⟨h1,-⟩ | ⟨-,-,h2⟩
    ·omega
    ·exact h2
   have hdn:n<k->1<=dd:=λ h=>by
    rcases HI.out with⟨h1,-⟩ | ⟨-,h2,-⟩
    ·omega
    ·exact h2
   have HSN:Hid (k=n->dd=0/\A=[]/\M=[]/\isM l[k] [40]=true):=λ h=>by
    rcases HI.out with⟨-,h2,h3,h4⟩ | ⟨h1,-⟩
    ·subst h;exact⟨h2,h3,h4,HOP.out⟩
    ·omega
   have HSP:=Qh (ZmR hlt dd (A.map (·.d)) (M.map (·.d)))
   have hoge:=opnK_ge l[k]
   clear xR hxf hrow HI
   go_upto_block 2 with fail
   clear x0 x1 x2 x3
   have hwr:=hb.size
   have HS2:=Qh (HS.out.below bx)
   have hbw:=hb.trans (bx.mono hb.size)
   have XR2:=Qh (sTok.below XR.out bx)
   have hbl:=mlt HX.out
   generalize (wr.alloc (.cells #[.int .i64 l[k].kind,.string l[k].text,.bool l[k].spaced,.slice xa l[k].hidden.length xc] 57))=W2 at *
   generalize l[k]=y at *
   clear XR HS bx hb
   have HQ:=Qh (λ (s:ByteArray) (U:World) (hU:Below W2.heap.size W2 U)=>ZcV _ y xf U s (sTok.below XR2.out hU))
   have HL40:Hid ((decide (y.kind=4) && (y.text.toList==(⟨#[40]⟩:ByteArray).toList))=isM y [40]):=by show _=_;rw [show (⟨#[40]⟩:ByteArray).toList=[40] by rw [ByteArray.toList_eq]];rfl
   have HL41:Hid ((decide (y.kind=4) && (y.text.toList==(⟨#[41]⟩:ByteArray).toList))=isM y [41]):=by show _=_;rw [show (⟨#[41]⟩:ByteArray).toList=[41] by rw [ByteArray.toList_eq]];rfl
   have HL44:Hid ((decide (y.kind=4) && (y.text.toList==(⟨#[44]⟩:ByteArray).toList))=isM y [44]):=by show _=_;rw [show (⟨#[44]⟩:ByteArray).toList=[44] by rw [ByteArray.toList_eq]];rfl
   have HQ40:=Qh (λ (U:World) (hU:Below W2.heap.size W2 U)=>HQ.out ⟨#[40]⟩ U hU)
   have HQ41:=Qh (λ (U:World) (hU:Below W2.heap.size W2 U)=>HQ.out ⟨#[41]⟩ U hU)
   have HQ44:=Qh (λ (U:World) (hU:Below W2.heap.size W2 U)=>HQ.out ⟨#[44]⟩ U hU)
   rw [HL40.out] at HQ40
   rw [HL41.out] at HQ41
   rw [HL44.out] at HQ44
   clear HQ HL40 HL41 HL44
   go_cut [9] from 15 to 63 (λ d wx=>d=.int .i64 (dd+opnK y)/\Below W2.heap.size W2 wx)
   case first =>
    obtain⟨t0,t1,t2,t3⟩:=Q4 HX.out
    go_upto_if 25 with(go_at_call 71;refine (HQ40.out _ (Below.refl _ _)).mono ?_;rintro e u1 ⟨rfl,g1⟩)
    have HX1:=Qh (mbox HX.out g1)
    clear t0 t1 t2 t3
    obtain⟨t0,t1,t2,t3⟩:=Q4 HX1.out
    cases h40:isM y [40]
    ·cases h41:isM y [41]
     ·have HF:=Qh (ZmT h40 h41)
      rw [h41] at HQ41
      clear h40 h41
      go_wp2_with fail
      refine (HQ41.out _ g1).mono ?_
      rintro e u2 ⟨rfl,g2⟩
      go_wp2
      go_meet
      case rel=>exact⟨by rw [HF.out];simp,g1.trans (g2.mono g1.size)⟩
     ·have HF:=Qh (ZmS h40 h41)
      have hwr1:IntKind.i64.wrap (dd-1)=dd-1:=IntWalk.i64_in _ (by omega)
      rw [h41] at HQ41
      clear h40 h41
      go_wp2_with fail
      refine (HQ41.out _ g1).mono ?_
      rintro e u2 ⟨rfl,g2⟩
      go_wp2
      go_meet
      case rel=>exact⟨by rw [HF.out];rfl,g1.trans (g2.mono g1.size)⟩
    ·have HF:=Qh (Zf0 h40)
     have hwr1:IntKind.i64.wrap (dd+1)=dd+1:=IntWalk.i64_in _ (by omega)
     clear h40
     go_wp2
     go_meet
     case rel=>exact⟨by rw [HF.out],g1⟩
   obtain⟨rfl,hbc⟩:=hcut
   generalize wc=W3 at *
   have HX3:=Qh (mbox HX.out hbc)
   have HS3:=Qh (HS2.out.below hbc)
   have hb3:=hbw.trans (hbc.mono hbw.size)
   have XR3:=Qh (sTok.below XR2.out hbc)
   have hk1:IntKind.i64.wrap ((k:Int)+1)=(k:Int)+1:=IntWalk.i64_in _ (by omega)
   clear HQ40 HQ41 HS2 XR2 HX
   obtain⟨fpm,rm,nm1,nm2⟩:=HS3.out.arg
   have RM:=Qh rm
   have NM1:=Qh nm1
   have NM2:=Qh nm2
   clear rm nm1 nm2
   by_cases h0:dd+opnK y=0
   ·have hnk2:n<k:=by
     rcases Nat.lt_or_eq_of_le hnk with h | h
     ·exact h
     ·obtain⟨q1,-,-,q4⟩:=HSN.out h.symm
      rw [Zf0 q4,q1] at h0
      omega
    have HF:Hid (r=((A.map (·.d))++[M.map (·.d)],k+1,true)):=by show _=_;rw [← HST.out hnk2,HSP.out,if_pos h0]
    have e0:(dd+opnK y==0)=true:=by simp [h0]
    generalize dd+opnK y=d1 at *
    have bl:=Zab W3 (.cells #[.slice am M.length cm] 28)
    have HL:=Qh (heap_alloc_new W3 (.cells #[.slice am M.length cm] 28))
    have HS4:=Qh (HS3.out.below bl)
    have RM4:=Qh (sToks.below RM.out bl)
    have hb4:=hb3.trans (bl.mono hb3.size)
    clear HSP HST HSN HS3 bl
    go_wp2_with (at_builtin;refine ZaK (X:=[(⟨[.slice am M.length cm],M.map (·.d),fpm⟩:Elem (List Tok))]) ZdC rfl (by decide) _ rfl (.tmp 38) (.tmp 40) rfl w.heap.size (.slice aa A.length ca) rfl HS4.out.a ⟨W3.heap.size,0,none⟩ 1 1 rfl rfl (λ x hx=>by obtain rfl:=Qm hx;exact⟨rfl,RM4.out,NM1.out⟩) (λ x hx u hu=>by obtain rfl:=Qm hx;rw [Qm hu];rfl) (λ j u hj=>by rw [ZaN,Nat.zero_add,cell_of_row _ _ _ _ _ _ HL.out];simpa using hj) (by unfold maxLen;omega) (by omega) hb4.size ?_;intro v5 w5 hR5 hg5 hp5;have hb5:Below w.heap.size w w5:=hb4.grown hg5 hb4.size (λ b hb=>(HS4.out.a.mine b hb).1);have HR5:=Qh hR5;obtain⟨a5,c5,hv5,-⟩:=hR5.val;rw [show (A++[(⟨[.slice am M.length cm],M.map (·.d),fpm⟩:Elem (List Tok))]).length=A.length+1 by simp] at hv5;subst hv5;clear hR5 hg5 hp5)
    go_ret3
    exact⟨.slice a5 (A.length+1) c5,_,by rw [HF.out];rfl,HR5.out,by rw [HF.out,List.map_append];rfl,(λ x hx b hb=>by
     rcases Qa hx with hx | hx
     ·exact HS4.out.alo x hx b hb
     ·rw [Qm hx] at hb;exact NM2.out b hb),hb5⟩
   have e0:(dd+opnK y==0)=false:=by simpa using h0
   by_cases hcm:dd+opnK y=1/\isM y [44]=true
   ·obtain⟨h1,h44⟩:=hcm
    have hnk2:n<k:=by
     rcases Nat.lt_or_eq_of_le hnk with h | h
     ·exact h
     ·obtain⟨-,-,-,q4⟩:=HSN.out h.symm
      rw [open_com q4] at h44
      exact absurd h44 (by simp)
    have HF:Hid (splK (l.drop (k+1)) 1 ((A.map (·.d))++[M.map (·.d)]) [] (k+1)=r):=by show _=_;rw [← HST.out hnk2,HSP.out,if_neg h0,if_pos ⟨h1,h44⟩,h1]
    rw [h44] at HQ44
    rw [h1] at e0 ⊢
    clear h0 h1 h44 HSP HST HSN
    obtain⟨t0,t1,t2,t3⟩:=Q4 HX3.out
    go_wp2_with fail
    refine (HQ44.out _ hbc).mono ?_
    rintro e u4 ⟨rfl,g4⟩
    have bl:=Zab u4 (.cells #[.slice am M.length cm] 28)
    have HL:=Qh (heap_alloc_new u4 (.cells #[.slice am M.length cm] 28))
    have HS4:=Qh ((HS3.out.below g4).below bl)
    have RM4:=Qh (sToks.below (sToks.below RM.out g4) bl)
    have hb4:=(hb3.trans (g4.mono hb3.size)).trans (bl.mono (hb3.trans (g4.mono hb3.size)).size)
    clear t0 t1 t2 t3 HS3 bl g4 HQ44
    go_wp2_with (at_builtin;refine ZaK (X:=[(⟨[.slice am M.length cm],M.map (·.d),fpm⟩:Elem (List Tok))]) ZdC rfl (by decide) _ rfl (.tmp 51) (.tmp 53) rfl w.heap.size (.slice aa A.length ca) rfl HS4.out.a ⟨u4.heap.size,0,none⟩ 1 1 rfl rfl (λ x hx=>by obtain rfl:=Qm hx;exact⟨rfl,RM4.out,NM1.out⟩) (λ x hx u hu=>by obtain rfl:=Qm hx;rw [Qm hu];rfl) (λ j u hj=>by rw [ZaN,Nat.zero_add,cell_of_row _ _ _ _ _ _ HL.out];simpa using hj) (by unfold maxLen;omega) (by omega) hb4.size ?_;intro v5 w5 hR5 hg5 hp5;have hb5:Below w.heap.size w w5:=hb4.grown hg5 hb4.size (λ b hb=>(HS4.out.a.mine b hb).1);have HS5:=Qh (HS4.out.next hR5 NM2.out hb5.size);have hb6:=hb5.trans ((Zab w5 (.cells #[] 57)).mono hb5.size);clear hR5 hg5 hp5)
    go_roundw
    case rel=>exact⟨k+1,1,_,[],by omega,by omega,by go_num,rfl,by omega,by omega,by simp;omega,by simp,HS5,.inr ⟨by omega,by omega,by rw [List.map_append];exact HF.out⟩,hb6⟩
    case measure=>simp [intOf];omega
   have HNC:Hid (¬ (dd+opnK y=1/\isM y [44]=true)):=hcm
   have HSE:Hid (n<k->splK (l.drop (k+1)) (dd+opnK y) (A.map (·.d)) ((M.map (·.d))++[y]) (k+1)=r):=λ h=>by rw [← HST.out h,HSP.out,if_neg h0,if_neg hcm]
   have HSF:Hid (k=n->dd+opnK y=1/\A=[]/\M=[]):=λ h=>by
    obtain⟨q1,q2,q3,q4⟩:=HSN.out h
    exact⟨by rw [q1,Zf0 q4];rfl,q2,q3⟩
   have hd1:1<=dd+opnK y:=by
    rcases Nat.lt_or_eq_of_le hnk with h | h
    ·have:=hdn h;omega
    ·have:=(HSF.out h.symm).1;omega
   have HDL:Hid (dd+opnK y<=(k:Int)+1):=by show _<=_;omega
   clear HSP HST HSN hcm h0
   go_upto_region 14 with fail
   go_cut [44] from 15 to 63 (λ d wx=>d=.bool false/\Below W3.heap.size W3 wx)
   case first =>
    obtain⟨t0,t1,t2,t3⟩:=Q4 HX3.out
    by_cases h1:dd+opnK y=1
    ·have e1:(dd+opnK y==1)=true:=by simp [h1]
     have h44:isM y [44]=false:=by
      cases h:isM y [44]
      ·rfl
      ·exact absurd ⟨h1,h⟩ HNC.out
     rw [h44] at HQ44
     clear h44 h1
     generalize dd+opnK y=d1 at *
     go_wp2_with fail
     refine (HQ44.out _ hbc).mono ?_
     rintro e u4 ⟨rfl,g4⟩
     go_wp2
     go_meet
     case rel=>exact⟨by trivial,g4⟩
    ·have e1:(dd+opnK y==1)=false:=by simp [h1]
     clear h1
     generalize dd+opnK y=d1 at *
     go_wp2
     go_meet
     case rel=>exact⟨by trivial,Below.refl _ _⟩
   obtain⟨rfl,hbd⟩:=hcut
   generalize wc=W4 at *
   have HX4:=Qh (mbox HX3.out hbd)
   have HS4:=Qh (HS3.out.below hbd)
   have hb4:=hb3.trans (hbd.mono hb3.size)
   have XR4:=Qh (sTok.below XR3.out hbd)
   clear HS3 XR3 HX3 HQ44 RM NM1 NM2
   rcases Nat.lt_or_eq_of_le hnk with hnk2 | hnk2
   ·have HF:=Qh (HSE.out hnk2)
    have e3:((n:Int)<(k:Int)):=by omega
    obtain⟨t0,t1,t2,t3⟩:=Q4 HX4.out
    have bl:=Zab W4 (.cells #[.int .i64 y.kind,.string y.text,.bool y.spaced,.slice xa y.hidden.length xc] 57)
    have HL:=Qh (heap_alloc_new W4 (.cells #[.int .i64 y.kind,.string y.text,.bool y.spaced,.slice xa y.hidden.length xc] 57))
    have HS5:=Qh (HS4.out.below bl)
    have XR5:=Qh (sTok.below XR4.out bl)
    have hb5:=hb4.trans (bl.mono hb4.size)
    have HMB:=Qh (λ b hb=>(HS4.out.m.mine b hb).1)
    clear HSE HSF HS4 XR4 bl
    go_wp2_with (at_builtin;refine ZaK (X:=[(⟨[.int .i64 y.kind,.string y.text,.bool y.spaced,.slice xa y.hidden.length xc],y,xf⟩:Elem Tok)]) ZaE rfl (by decide) _ rfl (.tmp 60) (.tmp 62) rfl w.heap.size (.slice am M.length cm) rfl HS5.out.m ⟨W4.heap.size,0,none⟩ 1 1 rfl rfl (λ x hx=>by obtain rfl:=Qm hx;exact⟨rfl,XR5.out,λ b hb h=>by have h1:=(HXF.out b hb).1;have h2:=HMB.out b h;omega⟩) (λ x hx=>by obtain rfl:=Qm hx;exact ZaI _ _ _ _ XR5.out) (λ j u hj=>by rw [ZaN,Nat.zero_add,cell_of_row _ _ _ _ _ _ HL.out];simpa using hj) (by unfold maxLen;omega) (by omega) hb5.size ?_;intro v6 w6 hR6 hg6 hp6;have hb6:Below w.heap.size w w6:=hb5.grown hg6 hb5.size (λ b hb=>(HS5.out.m.mine b hb).1);have HS6:=Qh (HS5.out.push hR6 hg6 hp6 HXF.out);clear hR6 hg6 hp6)
    go_roundw
    case rel=>exact⟨k+1,dd+opnK y,A,_,by omega,by omega,by go_num,rfl,by omega,by have:=HDL.out;omega,by omega,by simp;omega,HS6,.inr ⟨by omega,by omega,by rw [List.map_append];exact HF.out⟩,hb6⟩
    case measure=>simp [intOf];omega
   ·obtain⟨q1,q2,q3⟩:=HSF.out hnk2.symm
    have e3:¬ ((n:Int)<(k:Int)):=by omega
    subst q2 q3
    have HRR:Hid (splK (l.drop (k+1)) 1 (([]:List (Elem (List Tok))).map (·.d)) (([]:List (Elem Tok)).map (·.d)) (k+1)=r):=by show _=_;rw [HR.out,hnk2];rfl
    rw [q1]
    clear q1 HSE HSF hnk2
    go_wp2
    go_roundw
    case rel=>exact⟨k+1,1,[],[],by omega,by omega,by go_num,rfl,by omega,by omega,by simp,by simp,HS4,.inr ⟨by omega,by omega,HRR.out⟩,hb4⟩
    case measure=>simp [intOf];omega
  ·have HF:Hid (r=(A.map (·.d),0,false)):=by
    rcases HI.out with⟨h1,-⟩ | ⟨_,_,h⟩
    ·omega
    ·rw [splK_end (by omega)] at h;exact h.symm
   have HA:=Qh HS.out.a
   have HLO:=Qh HS.out.alo
   clear HI HR
   go_wp2
   go_ret3
   exact⟨_,A,by rw [HF.out];rfl,HA.out,by rw [HF.out],HLO.out,hb⟩
theorem ti_rows:TI Tryz.prog 110 28 (.slice none 0 0) 1 24:=⟨by kernel_rfl,by kernel_rfl⟩
def OwnRows (l:List (List Tok)) (w:World) (e:Ending) (w':World):Prop:=∃ v fp,e=.returned v/\(Zaa (Zaa sTok)).R w' [v] l fp/\(∀ b∈fp,w.heap.size<=b)/\Below w.heap.size w w'
def Zf1 (l:List (List Tok)):Prop:=∀ k,(hk:k<l.length)->l[k].length<=1048576/\∀ j,(hj:j<l[k].length)->l[k][j].hidden.length<=2000000
theorem ZcY (v:Value) (l:List (List Tok)) (fp:List Nat) (w:World) (hl:l.length<=1048576) (hx:Zf1 l) (H:(Zaa (Zaa sTok)).R w [v] l fp) :
  Calls Tryz.prog 101 #[v] w (OwnRows l w):=by
 have HH:=Qh H
 obtain⟨a,cap,rfl,hc,hm,hrow⟩:=Zac H
 unfold maxLen at hm
 clear H
 have HG0:=Qh (RowN.lit0 (Zaa sTok) 28 w (Nat.le_refl _))
 have hba:=Zab w (.cells #[] 28)
 have HX:=Qh hx
 clear hx
 go_enter Tryz.func101,Tryz.ntmps101
 go_wp2
 go_loopw [3,4] (λ o i wr=>∃ (k:Nat) (L:List (Elem (List Tok))),k<=l.length/\i=.int .i64 k/\Hid (RowN (Zaa sTok) w.heap.size 28 o L wr)/\Hid (L.map (·.d)=l.take k)/\Hid (∀ x∈L,∀ b∈x.fp,w.heap.size<=b)/\Below w.heap.size w wr) (λ _ i _=>l.length-(intOf i).toNat)
 case atStart=>exact⟨0,[],by omega,rfl,HG0.out,rfl,(λ x hx=>by simp at hx),hba⟩
 case round =>
  clear HG0 hba
  obtain⟨k,L,hk,rfl,HR,HD,HLO,hb⟩:=hrel
  obtain⟨ao,co,rfl,-⟩:=HR.out.val
  by_cases hlt:k<l.length
  ·obtain⟨bb,ob,-,rfl,-,-,-⟩:=hrow (by omega)
   obtain⟨aj,cj,fj,dq,Rj,hbb,-⟩:=ZbV HH.out hlt
   have c0:wr.cell? ⟨bb,ob+k,none⟩=some _:=(hb.cell (p:=⟨bb,ob+k,none⟩) hbb).trans dq
   have HC:=Qh (ZaX _ l[k] fj wr (HX.out k hlt).1 (HX.out k hlt).2 ((Zaa sTok).below Rj hb))
   have HLl:Hid (L.length=k):=by have:=congrArg List.length HD.out;simp at this;show _=_;omega
   clear dq Rj hrow
   go_wp2_with fail
   refine HC.out.mono ?_
   rintro e w2 ⟨v2,f2,rfl,R2,lo2,-,hb2⟩
   obtain⟨a2,c2,rfl,-⟩:=Zac R2
   have hmine:=HR.out.mine
   have hba:=Zab w2 (.cells #[.slice a2 l[k].length c2] 28)
   have HR2:=Qh (HR.out.below (hb2.trans (hba.mono hb2.size)))
   have hbw:=hb.trans ((hb2.trans (hba.mono hb2.size)).mono hb.size)
   have HE:=Qh ((Zaa sTok).below R2 hba)
   have HAP:Hid (∀ b∈f2,(Value.slice ao L.length co).ownBlock≠some b):=λ b hb' h=>by have h1:=hmine b h;have h2:=lo2 b hb';omega
   have HLO2:Hid (∀ b∈f2,w.heap.size<=b):=λ b hb'=>by have h1:=lo2 b hb';have h2:=hb.size;omega
   obtain⟨N,HN⟩:∃ N:Nat,Hid (N=l[k].length):=⟨l[k].length,Qh rfl⟩
   clear c0 HC R2 lo2 hmine hb2 hba HR
   go_wp2_with (at_builtin;refine ZaK (X:=[(⟨[.slice a2 l[k].length c2],l[k],f2⟩:Elem (List Tok))]) ti_rows rfl (by decide) _ rfl (.tmp 12) (.tmp 18) rfl w.heap.size (.slice ao L.length co) rfl HR2.out ⟨w2.heap.size,0,none⟩ 1 1 rfl rfl (λ x hx=>by obtain rfl:=Qm hx;exact⟨rfl,HE.out,HAP.out⟩) (λ x hx=>by obtain rfl:=Qm hx;simp [Value.oneCell']) (λ j u hj=>by
           rw [Addr.add_lit,Nat.zero_add,World.cell?_alloc_at _ _ _ _ rfl]
           simpa using hj) (by unfold maxLen;have:=HLl.out;omega) (by have:=HLl.out;omega) hbw.size ?_;intro v3 w3 hR3 hg3 hp3)
   have hb3:Below w.heap.size w w3:=hbw.grown hg3 hbw.size (λ b hb=>(HR2.out.mine b hb).1)
   have HR3:=Qh hR3
   have HD3:Hid ((L++[(⟨[.slice a2 l[k].length c2],l[k],f2⟩:Elem (List Tok))]).map (·.d)=l.take (k+1)):=by
    show _=_
    rw [List.map_append,HD.out,List.take_succ_eq_append_getElem hlt];rfl
   have HLO3:Hid (∀ x∈L++[(⟨[.slice a2 l[k].length c2],l[k],f2⟩:Elem (List Tok))],∀ b∈x.fp,w.heap.size<=b):=λ x hx=>by
    rcases Qa hx with hx | hx
    ·exact HLO.out x hx
    ·obtain rfl:=Qm hx;exact HLO2.out
   clear hR3 hg3 hp3
   go_roundw
   case rel=>exact⟨k+1,_,by omega,by go_num,HR3.out,HD3.out,HLO3.out,hb3⟩
   case measure=>simp [intOf];omega
  ·obtain⟨fpr,hr,hin,-⟩:=HR.out.read
   have hd:=HD.out
   rw [List.take_of_length_le (by omega)] at hd
   rw [hd] at hr
   have HRR:=Qh hr
   have HF:Hid (∀ b∈fpr,w.heap.size<=b):=λ b hb'=>by
    rcases hin b hb' with h | ⟨x,hx,h⟩
    ·exact(HR.out.mine b h).1
    ·exact HLO.out x hx b h
   clear hr hin hd
   go_wp2
   go_ret
   exact⟨_,fpr,rfl,HRR.out,HF.out,hb⟩
def Zh0 (m:DMacro) (raw ready:List (List Tok)) (w:World) (e:Ending) (w':World):Prop:=
 ∃ (v:Value) (fp:List Nat),e=.returned (.tuple #[v,.bool (Zap m raw ready).2])/\(Zaa sTok).R w' [v] (Zap m raw ready).1 fp/\(∀ b∈fp,w.heap.size<=b)/\Below w.heap.size w w'
theorem Zck {m:DMacro} {raw ready:List (List Tok)} {w W:World} (h:Zap m raw ready=([],false)) (hb:Below w.heap.size w W):Zh0 m raw ready w (.returned (.tuple #[.slice (some ⟨W.heap.size,0,none⟩) 0 0,.bool false])) (W.alloc (.cells #[] 57)):=
 ⟨_,[],by rw [h],by rw [h];exact ZaC _ _ _ _ (by simp),by simp,hb.alloc hb.size _⟩
theorem Zg9 {m:DMacro} {a:List (List Tok)} (h:a.length≠m.params.length):Zas m a=false:=by unfold Zas;rw [decide_eq_false h];rfl
theorem Zha {m:DMacro} {a:List (List Tok)} {k:Nat} (hk:k<a.length) (h:Zaj a[k]=false):Zas m a=false:=by
 unfold Zas;rw [Bool.and_eq_false_iff];exact .inr (List.all_eq_false.2 ⟨_,List.getElem_mem hk,by simp [h]⟩)
theorem Zhb {m:DMacro} {a:List (List Tok)} (hl:a.length=m.params.length) (h:∀ k,(hk:k<a.length)->Zaj a[k]=true):Zas m a=true:=by
 unfold Zas;rw [Bool.and_eq_true,decide_eq_true_eq,List.all_eq_true]
 exact⟨hl,λ l hl=>by obtain⟨k,hk,rfl⟩:=List.getElem_of_mem hl;exact h k hk⟩
theorem Zej (csM:List Value) (m:DMacro) (fpM:List Nat) (vr vy:Value) (raw ready:List (List Tok)) (fpr fpy:List Nat) (w:World) (hm:MacSm m) (hlr:raw.length<=1048576) (hly:ready.length<=1048576) (hsr:Zf1 raw) (hsy:Zf1 ready)
  (HM:sMacro.R w csM m fpM) (Hr:(Zaa (Zaa sTok)).R w [vr] raw fpr) (Hy:(Zaa (Zaa sTok)).R w [vy] ready fpy) :
  Calls Tryz.prog 73 #[.agg csM.toArray,vr,vy] w (Zh0 m raw ready w):=by
 have HM0:=HM
 obtain⟨h2,h3,q2,q3,rfl,-,K2,K3,-⟩:=HM
 obtain⟨a2,c2,rfl,-⟩:=Zaf K2
 obtain⟨a3,c3,rfl,-⟩:=Zac K3
 have hrl:=(Zaa (Zaa sTok)).lt Hr
 have hyl:=(Zaa (Zaa sTok)).lt Hy
 have b0:=Zab w (.cells #[.string m.name,.bool m.function,.slice a2 m.params.length c2,.slice a3 m.body.length c3] 70)
 have HX:=Qh (heap_alloc_new w (.cells #[.string m.name,.bool m.function,.slice a2 m.params.length c2,.slice a3 m.body.length c3] 70))
 have HM1:=Qh (sMacro.below HM0 b0)
 have Hr1:=Qh ((Zaa (Zaa sTok)).below Hr b0)
 have Hy1:=Qh ((Zaa (Zaa sTok)).below Hy b0)
 have hs1:(w.alloc (.cells #[.string m.name,.bool m.function,.slice a2 m.params.length c2,.slice a3 m.body.length c3] 70)).heap.size=w.heap.size+1:=Array.size_push _
 have HS1:=Qh hs1
 have hrn:w.heap.size∉fpr:=λ h=>Nat.lt_irrefl _ (hrl _ h)
 have hyn:w.heap.size∉fpy:=λ h=>Nat.lt_irrefl _ (hyl _ h)
 clear K2 K3 HM0 Hr Hy hs1 hrl hyl
 go_enter Tryz.func73,Tryz.ntmps73
 go_upto_region 1 with fail
 generalize (w.alloc (.cells #[.string m.name,.bool m.function,.slice a2 m.params.length c2,.slice a3 m.body.length c3] 70))=W1 at *
 obtain⟨p0,p1,p2,p3⟩:=Q4 HX.out
 go_wp2_with fail
 refine (Zeh _ m _ W1 hm.1 hm.2.1 hm.2.2 HM1.out).mono ?_
 rintro e w2 ⟨b2,b3,d2,d3,f2,rfl,R2,lo2,-,hb2⟩
 clear p0 p1 p2 p3
 have HX2:=Qh (mbox HX.out hb2)
 have p0:=Qc 0 HX2.out
 have pf0:=Qf 0 HX2.out
 have p1:=Qc 1 HX2.out
 have pf1:=Qf 1 HX2.out
 have p2:=Qc 2 HX2.out
 have pf2:=Qf 2 HX2.out
 have p3:=Qc 3 HX2.out
 have pf3:=Qf 3 HX2.out
 have hs2:=HS1.out
 have hs3:=hb2.size
 have hn2:w.heap.size∉f2:=λ h=>by have:=lo2 _ h;omega
 have HM3:=Qh (sMacro.set4R R2 hn2 (.string m.name) (.bool m.function) (.slice b2 m.params.length d2) (.slice b3 m.body.length d3))
 have Hr3:=Qh ((Zaa (Zaa sTok)).set4R ((Zaa (Zaa sTok)).below Hr1.out hb2) hrn (.string m.name) (.bool m.function) (.slice b2 m.params.length d2) (.slice b3 m.body.length d3))
 have Hy3:=Qh ((Zaa (Zaa sTok)).set4R ((Zaa (Zaa sTok)).below Hy1.out hb2) hyn (.string m.name) (.bool m.function) (.slice b2 m.params.length d2) (.slice b3 m.body.length d3))
 have HX3:=Qh (ZaB HX2.out (.string m.name) (.bool m.function) (.slice b2 m.params.length d2) (.slice b3 m.body.length d3))
 have hB3:=Zar (b0.trans (hb2.mono b0.size)) (Nat.le_refl w.heap.size) (.string m.name) (.bool m.function) (.slice b2 m.params.length d2) (.slice b3 m.body.length d3)
 unfold set4 at HM3 Hr3 Hy3 HX3 hB3
 go_upto_region 2 with fail
 clear p0 p1 p2 p3 pf0 pf1 pf2 pf3 R2 lo2 hb2 HX2 HX HM1 Hr1 Hy1 b0 hs2 hs3 hn2 HS1
 generalize ((((w2.setCell ⟨w.heap.size,0,none⟩ (.string m.name)).setCell ⟨w.heap.size,1,none⟩ (.bool m.function)).setCell ⟨w.heap.size,2,none⟩ (.slice b2 m.params.length d2)).setCell ⟨w.heap.size,3,none⟩ (.slice b3 m.body.length d3))=W3 at *
 go_wp2_with fail
 refine (ZcY _ raw _ W3 hlr hsr Hr3.out).mono ?_
 rintro e w4 ⟨vr2,fr2,rfl,RR4,-,hb4⟩
 obtain⟨ar,cr,rfl,-⟩:=Zac RR4
 have hB4:=hB3.trans (hb4.mono hB3.size)
 go_wp2_with fail
 refine (ZcY _ ready _ w4 hly hsy ((Zaa (Zaa sTok)).below Hy3.out hb4)).mono ?_
 rintro e w5 ⟨vy2,fy2,rfl,RY5,-,hb5⟩
 obtain⟨ay,cy,rfl,hcy,hmy,hrowY⟩:=Zac RY5
 have HRR:=Qh ((Zaa (Zaa sTok)).below RR4 hb5)
 have HYY:=Qh RY5
 have hb35:=hb4.trans (hb5.mono hb4.size)
 have HM5:=Qh (sMacro.below HM3.out hb35)
 have HX5:=Qh (mbox HX3.out hb35)
 have hB5:=hB4.trans (hb5.mono hB4.size)
 clear RR4 RY5 hb4 hb5 hb35 hB4 hB3 HM3 Hr3 Hy3 HX3 hrn hyn
 have HMV:=Qh (Zea _ m f2 w5 HM5.out)
 obtain⟨p0,p1,p2,p3⟩:=Q4 HX5.out
 cases hv:macOk m
 ·have HF:=Qh (ZbG (raw:=raw) (ready:=ready) (λ h=>by rw [hv] at h;exact absurd h.1 (by simp):¬ (macOk m=true/\Zas m raw=true/\Zas m ready=true)))
  rw [hv] at HMV
  clear hv
  go_wp2_with fail
  refine HMV.out.mono ?_
  rintro e w6 ⟨rfl,hb6⟩
  go_wp2
  go_ret2
  exact Zck HF.out (hB5.trans (hb6.mono hB5.size))
 have HVD:=Qh hv
 rw [hv] at HMV
 clear hv
 go_wp2_with fail
 refine HMV.out.mono ?_
 rintro e w6 ⟨rfl,hb6⟩
 replace HRR:=Qh ((Zaa (Zaa sTok)).below HRR.out hb6)
 replace HYY:=Qh ((Zaa (Zaa sTok)).below HYY.out hb6)
 have HM6:=Qh (sMacro.below HM5.out hb6)
 have HX6:=Qh (mbox HX5.out hb6)
 have hB6:=hB5.trans (hb6.mono hB5.size)
 clear p0 p1 p2 p3 hb6 HM5 HX5 hB5 HMV
 obtain⟨p0,p1,p2,p3⟩:=Q4 HX6.out
 by_cases h1:raw.length=m.params.length
 rotate_left
 ·have HF:=Qh (ZbG (ready:=ready) (λ h=>by rw [Zg9 h1] at h;exact absurd h.2.1 (by simp):¬ (macOk m=true/\Zas m raw=true/\Zas m ready=true)))
  have e1:((raw.length:Int) != (m.params.length:Int))=true:=by simp;omega
  clear h1
  go_wp2
  go_ret2
  exact Zck HF.out hB6
 by_cases h2:ready.length=m.params.length
 rotate_left
 ·have HF:=Qh (ZbG (raw:=raw) (λ h=>by rw [Zg9 h2] at h;exact absurd h.2.2 (by simp):¬ (macOk m=true/\Zas m raw=true/\Zas m ready=true)))
  have e1:((raw.length:Int) != (m.params.length:Int))=false:=by simp;omega
  have e2:((ready.length:Int) != (m.params.length:Int))=true:=by simp;omega
  clear h1 h2
  go_wp2
  go_ret2
  exact Zck HF.out hB6
 have e1:((raw.length:Int) != (m.params.length:Int))=false:=by simp;omega
 have e2:((ready.length:Int) != (m.params.length:Int))=false:=by simp;omega
 clear hcy hmy hrowY hm hly hsr hsy
 have H1:=Qh h1
 have H2:=Qh h2
 clear h1 h2
 go_wp2
 clear p0 p1 p2 p3
 go_loopw [8] (λ i wr=>∃ k:Nat,k<=raw.length/\i=.int .i64 k/\Hid (∀ j,(hj:j<raw.length)->(hj2:j<ready.length)->j<k->Zaj raw[j]=true/\Zaj ready[j]=true)/\Below w6.heap.size w6 wr) (λ i _=>raw.length-(intOf i).toNat)
 case atStart=>exact⟨0,by omega,rfl,Qh (λ j _ _ h=>absurd h (by omega)),Below.refl _ _⟩
 case round =>
  obtain⟨k,hk,rfl,HA,hb⟩:=hrel
  have h1:=H1.out
  have h2:=H2.out
  have hBr:=hB6.trans (hb.mono hB6.size)
  by_cases hlt:k<raw.length
  ·have hlt2:k<ready.length:=by omega
   obtain⟨x1,y1,z1,-,-,u1⟩:=Zac HRR.out
   obtain⟨x2,y2,z2,-,-,u2⟩:=Zac HYY.out
   simp only [Value.slice.injEq,true_and] at z1 z2
   obtain⟨rfl,rfl⟩:=z1
   obtain⟨rfl,rfl⟩:=z2
   obtain⟨b1,o1,-,rfl,-,-⟩:=u1 (by omega)
   obtain⟨b2,o2,-,rfl,-,-⟩:=u2 (by omega)
   clear u1 u2 h1 h2
   obtain⟨aj1,cj1,f1,q1,R1,l1,-⟩:=ZbV HRR.out hlt
   obtain⟨aj2,cj2,f2',q2',R2',l2,-⟩:=ZbV HYY.out hlt2
   replace q1:=(hb.cell (p:=⟨b1,o1+k,none⟩) l1).trans q1
   replace q2':=(hb.cell (p:=⟨b2,o2+k,none⟩) l2).trans q2'
   have HT1:=Qh (Zbt _ raw[k] f1 wr ((Zaa sTok).below R1 hb))
   cases hv1:Zaj raw[k]
   ·have HF:=Qh (ZbG (ready:=ready) (λ h=>by rw [Zha hlt hv1] at h;exact absurd h.2.1 (by simp):¬ (macOk m=true/\Zas m raw=true/\Zas m ready=true)))
    rw [hv1] at HT1
    clear hv1 HA
    go_wp2_with (go_at_call 36;refine (HT1.out).mono ?_;rintro e w7 ⟨rfl,hb7⟩)
    go_ret2
    exact Zck HF.out (hBr.trans (hb7.mono hBr.size))
   ·have HV1:=Qh hv1
    rw [hv1] at HT1
    clear hv1
    go_wp2_with fail
    refine (HT1.out).mono ?_
    rintro e w7 ⟨rfl,hb7⟩
    replace q1:=(hb7.cell (p:=⟨b1,o1+k,none⟩) (Nat.lt_of_lt_of_le l1 hb.size)).trans q1
    replace q2':=(hb7.cell (p:=⟨b2,o2+k,none⟩) (Nat.lt_of_lt_of_le l2 hb.size)).trans q2'
    have hb77:=hb.trans (hb7.mono hb.size)
    have HT2:=Qh (Zbt _ ready[k] f2' w7 ((Zaa sTok).below R2' hb77))
    have hB7:=hB6.trans (hb77.mono hB6.size)
    cases hv2:Zaj ready[k]
    ·have HF:=Qh (ZbG (raw:=raw) (λ h=>by rw [Zha hlt2 hv2] at h;exact absurd h.2.2 (by simp):¬ (macOk m=true/\Zas m raw=true/\Zas m ready=true)))
     rw [hv2] at HT2
     clear hv2 HA
     go_wp2_with fail
     refine (HT2.out).mono ?_
     rintro e w8 ⟨rfl,hb8⟩
     go_wp2
     go_ret2
     exact Zck HF.out (hB7.trans (hb8.mono hB7.size))
    ·have HV2:=Qh hv2
     rw [hv2] at HT2
     clear hv2
     go_wp2_with (go_at_call 36;refine (HT2.out).mono ?_;rintro e w8 ⟨rfl,hb8⟩)
     have HN:Hid (∀ j,(hj:j<raw.length)->(hj2:j<ready.length)->j<k+1->Zaj raw[j]=true/\Zaj ready[j]=true):=Qh (λ j hj hj2 hjk=>by
      rcases Nat.lt_succ_iff_lt_or_eq.1 hjk with h | rfl
      ·exact HA.out j hj hj2 h
      ·exact⟨HV1.out,HV2.out⟩)
     go_roundw
     case rel=>first | exact⟨k+1,by omega,by go_num,HN,hb77.trans (hb8.mono hb77.size)⟩ | ((repeat apply Exists.intro);exact⟨⟨k+1,by omega,by go_num,HN,hb77.trans (hb8.mono hb77.size)⟩,rfl⟩)
     case measure=>simp [intOf];omega
  ·have HYr:=Qh (Zhb h1 λ j hj=>(HA.out j hj (by omega) (by omega)).1)
   have HYy:=Qh (Zhb h2 λ j hj=>(HA.out j (by omega) hj (by omega)).2)
   have HX8:=Qh (mbox HX6.out hb)
   have HM8:=Qh (sMacro.below HM6.out hb)
   have HR8:=Qh ((Zaa (Zaa sTok)).below HRR.out hb)
   have HY8:=Qh ((Zaa (Zaa sTok)).below HYY.out hb)
   have HBD:=Qh (Zkh _ m _ _ _ raw ready _ _ wr HVD.out HYr.out HYy.out HM8.out HR8.out HY8.out)
   obtain⟨p0,p1,p2,p3⟩:=Q4 HX8.out
   clear HA h1 h2
   go_wp2_with fail
   refine (HBD.out).mono ?_
   rintro e w9 ⟨v,L,rfl,RL,hmap,hlen,hsm,hb9⟩
   have hB9:=hBr.trans (hb9.mono hBr.size)
   obtain⟨fpL,RF,-⟩:=RL.read
   obtain⟨aL,cL,rfl,-⟩:=Zac RF
   rw [hmap] at RF
   have hPlen:(subGo m raw ready 0 [] true false).1.length=L.length:=by rw [← hmap,List.length_map]
   rcases hP:subGo m raw ready 0 [] true false with⟨l,ok⟩
   rw [hP] at hmap hPlen RF
   dsimp only at hmap hPlen RF
   have HW:=Qh (ZaX _ l fpL w9 (by show l.length<=_;omega) (λ k hk=>by
    have hk':k<L.length:=by rw [← hPlen];exact hk
    have:=hsm L[k] (List.getElem_mem hk')
    have e:(L.map (·.d))[k]'(by simpa using hk')=l[k]:=List.getElem_of_eq hmap _
    rw [← e,List.getElem_map];omega) RF)
   have e3:(L.map (·.d)).length=l.length:=by rw [hmap]
   rw [e3]
   cases ok
   ·have HF:=Qh (Zed hP)
    clear HW
    go_wp2
    go_ret2
    exact Zck HF.out hB9
   ·by_cases h9:240<l.length
    ·have HF:=Qh (ZgF hP h9)
     clear HW
     go_wp2
     go_ret2
     exact Zck HF.out hB9
    ·have HF:=Qh (ZhP ⟨HVD.out,HYr.out,HYy.out⟩ hP h9)
     have h9':¬ (240:Int)<(l.length:Int):=by omega
     clear h9 hP hPlen hmap hsm hlen e3 RL RF HBD HYr HYy HX8 HM8 HR8 HY8 HVD p0 p1 p2 p3
     go_wp2_with fail
     refine (HW.out).mono ?_
     rintro e w10 ⟨v,fpo,rfl,RO,lo,-,hb10⟩
     go_wp2
     go_ret2
     exact⟨v,fpo,by rw [HF.out];rfl,by rw [HF.out];exact RO,λ b hb=>Nat.le_trans hB9.size (lo b hb),hB9.trans (hb10.mono hB9.size)⟩
theorem Zcl {fn:Func} {t u v x:Tmp} (h:fn.results=#[.tmp t,.tmp u,.tmp v,.tmp x]) (tmps:Array Value) (P:Program) (w:World) :
  (results fn tmps).run P w=.ok (.tuple #[tmps.getD t undef,tmps.getD u undef,tmps.getD v undef,tmps.getD x undef]) w:=by
 simp [results,h]
/-! ### Arguments, one by one -/
theorem ZmU {f:List Tok->Nat->XRes}:∀ (A:List (List Tok)) (s:Nat),(argsX f A s).2.2≠0->(argsX f A s).1=[]
 | [],s,h=>absurd rfl h
 |
  a::r,s,h=>by
  unfold argsX at h ⊢
  split at h
  ·rename_i h1
   rw [if_pos h1]
   split at h
   ·rename_i h2;exact absurd h2 h
   ·rename_i h2;rw [if_neg h2]
  ·rename_i h1;rw [if_neg h1]
def AccA (f:List Tok->Nat->XRes) (P:List (List Tok)) (s k s':Nat) (R:List (List Tok)):Prop:=
 argsX f P s=if (argsX f (P.drop k) s').2.2=0 then (R++(argsX f (P.drop k) s').1,(argsX f (P.drop k) s').2) else ([],(argsX f (P.drop k) s').2)
section
variable {f:List Tok->Nat->XRes} {P:List (List Tok)} {s k s' l:Nat} {R:List (List Tok)} {x:List Tok} {c:Int}
theorem AccA.start (f:List Tok->Nat->XRes) (P:List (List Tok)) (s:Nat):AccA f P s 0 s []:=by
 unfold AccA
 rw [List.drop_zero]
 split
 ·rfl
 ·rename_i h
  have:=ZmU P s h
  exact Prod.ext this rfl
theorem AccA.step (h:AccA f P s k s' R) (hk:k<P.length) (hf:f P[k] s'=(x,l,0)):AccA f P s (k+1) l (R++[x]):=by
 unfold AccA at h ⊢
 rw [h,List.drop_eq_getElem_cons hk]
 have e:argsX f (P[k]::P.drop (k+1)) s'=if (argsX f (P.drop (k+1)) l).2.2=0 then (x::(argsX f (P.drop (k+1)) l).1,(argsX f (P.drop (k+1)) l).2) else ([],(argsX f (P.drop (k+1)) l).2):=by
  rw [argsX];simp only [hf];rfl
 rw [e]
 split
 ·rw [List.append_assoc];rfl
 ·rfl
theorem AccA.stop (h:AccA f P s k s' R) (hk:k<P.length) (hf:f P[k] s'=(x,l,c)) (hc:c≠0):argsX f P s=([],l,c):=by
 unfold AccA at h
 rw [h,List.drop_eq_getElem_cons hk]
 have e:argsX f (P[k]::P.drop (k+1)) s'=([],l,c):=by
  rw [argsX];simp only [hf];rw [if_neg hc]
 rw [e,if_neg hc]
theorem AccA.done (h:AccA f P s k s' R) (hk:P.length<=k):argsX f P s=(R,s',0):=by
 unfold AccA at h
 rw [h,List.drop_of_length_le hk]
 show (if (0:Int)=0 then (R++[],s',(0:Int)) else _)=_
 rw [if_pos rfl,List.append_nil]
end
section
variable {f:List Tok->Nat->XRes} {m:DMacro} {work:List Tok} {s e l:Nat} {A R:List (List Tok)} {b:List Tok} {c:Int}
theorem Zln (h:splK (work.drop 2) 1 [] [] 2=(A,e,false)):callX f m work s=([],0,s,1):=by unfold callX;rw [h,if_neg (by simp)]
theorem Zkq (h:splK (work.drop 2) 1 [] [] 2=(A,e,true)) (hn:argN m.params.length A≠m.params.length):callX f m work s=([],0,s,1):=by unfold callX;rw [h,if_neg (λ h'=>hn h'.2)]
theorem Zjh (h:splK (work.drop 2) 1 [] [] 2=(A,e,true)) (hn:argN m.params.length A=m.params.length) (ha:argsX f (A.take m.params.length) s=(R,l,c)) (hc:c≠0):callX f m work s=([],0,l,c):=by
 unfold callX;simp only [h];rw [if_pos ⟨trivial,hn⟩];simp only [ha];rw [if_neg hc]
theorem Zh1 (h:splK (work.drop 2) 1 [] [] 2=(A,e,true)) (hn:argN m.params.length A=m.params.length) (ha:argsX f (A.take m.params.length) s=(R,l,0)) (hs:Zap m (A.take m.params.length) R=(b,false)):callX f m work s=([],0,l,2):=by
 unfold callX;simp only [h];rw [if_pos ⟨trivial,hn⟩];simp only [ha];rw [if_pos trivial];simp only [hs];rw [if_neg (by simp)]
theorem Zkr (h:splK (work.drop 2) 1 [] [] 2=(A,e,true)) (hn:argN m.params.length A=m.params.length) (ha:argsX f (A.take m.params.length) s=(R,l,0)) (hs:Zap m (A.take m.params.length) R=(b,true)):callX f m work s=(putL b (ins (both (work.headD zTok).hidden (work.getD (e-1) zTok).hidden) m.name) (work.headD zTok).spaced,e,l,0):=by
 unfold callX;simp only [h];rw [if_pos ⟨trivial,hn⟩];simp only [ha];rw [if_pos trivial];simp only [hs];rw [if_pos trivial]
end
theorem Zb9:∀ (l:List Tok) (d:Int) (A:Args) (M:List Tok) (k:Nat) {R:Args} {e:Nat},splK l d A M k=(R,e,true)->k<e/\e<=k+l.length
 | [],d,A,M,k,R,e,h=>by unfold splK at h;simp at h
 |
  t::r,d,A,M,k,R,e,h=>by
  unfold splK at h
  split at h
  ·simp only [Prod.mk.injEq] at h;rw [List.length_cons];omega
  ·split at h
   ·have:=Zb9 r _ _ _ _ h;rw [List.length_cons];omega
   ·have:=Zb9 r _ _ _ _ h;rw [List.length_cons];omega
theorem Zff:∀ (l:List Tok) (d:Int) (A:Args) (M:List Tok) (k:Nat) {B:Nat},(∀ a∈A,a.length<=B)->M.length+l.length<=B->(∀ a∈(splK l d A M k).1,a.length<=B)/\(splK l d A M k).1.length<=A.length+l.length
 | [],d,A,M,k,B,hA,hM=>by unfold splK;exact⟨hA,by simp⟩
 |
  t::r,d,A,M,k,B,hA,hM=>by
  rw [List.length_cons] at hM
  have hA1:∀ a∈A++[M],a.length<=B:=λ a ha=>by
   rcases Qa ha with ha | ha
   ·exact hA a ha
   ·rw [Qm ha];omega
  unfold splK
  split
  ·exact⟨hA1,by simp⟩
  ·split
   ·have:=Zff r (d+opnK t) (A++[M]) [] (k+1) hA1 (by simp;omega)
    refine ⟨this.1,?_⟩
    have h2:=this.2
    rw [List.length_append,List.length_singleton] at h2
    rw [List.length_cons];omega
   ·have:=Zff r (d+opnK t) A (M++[t]) (k+1) hA (by simp;omega)
    refine ⟨this.1,?_⟩
    have h2:=this.2
    rw [List.length_cons];omega
theorem Zhc:∀ (l:List Tok) (d:Int) (A:Args) (M:List Tok) (k:Nat) {R:Args} {e:Nat},splK l d A M k=(R,e,true)->0<R.length
 | [],d,A,M,k,R,e,h=>by unfold splK at h;simp at h
 |
  t::r,d,A,M,k,R,e,h=>by
  unfold splK at h
  split at h
  ·simp only [Prod.mk.injEq] at h;rw [← h.1,List.length_append];simp
  ·split at h
   ·exact Zhc r _ _ _ _ h
   ·exact Zhc r _ _ _ _ h
theorem Zlo {p:Nat} {A:List (List Tok)} (h:argN p A=p):p<=A.length:=by
 by_cases h1:A.length=1
 ·rw [ZdX h1] at h
  split at h <;> omega
 ·rw [ZcS h1] at h;omega
def XpOf (fp:List Nat) (r:XRes) (w:World) (e:Ending) (w':World):Prop:=
 ∃ (v:Value) (L:List (Elem Tok)),e=.returned (.tuple #[v,.int .i64 (r.2.1:Nat),.int .i64 r.2.2])/\RowN sTok w.heap.size 57 v L w'/\L.map (·.d)=r.1/\(∀ x∈L,∀ b∈x.fp,b∈fp\/w.heap.size<=b)/\Below w.heap.size w w'
def ExpC (T:List DMacro) (N:List ByteArray) (n:Nat):Prop:=
 ∀ (vT:Value) (fpT:List Nat) (v:Value) (l:List Tok) (fp:List Nat) (s:Nat) (w:World),s<=n->l.length<=100->(∀ t∈l,HidIn N t)->(Zaa sMacro).R w [vT] T fpT->(Zaa sTok).R w [v] l fp ->
  Calls Tryz.prog 37 #[vT,v,.int .i64 s] w (XpOf fp (expG T n s [] l) w)
def CallOf (r:List Tok × Nat × Nat × Int) (w:World) (e:Ending) (w':World):Prop:=
 ∃ (v:Value) (L:List (Elem Tok)),e=.returned (.tuple #[v,.int .i64 (r.2.1:Nat),.int .i64 (r.2.2.1:Nat),.int .i64 r.2.2.2])/\RowN sTok w.heap.size 57 v L w'/\L.map (·.d)=r.1/\(∀ x∈L,∀ b∈x.fp,w.heap.size<=b)/\Below w.heap.size w w'
theorem CallOf.none {r:List Tok × Nat × Nat × Int} {l:Nat} {c:Int} {w W:World} (h:r=([],0,l,c)) (hb:Below w.heap.size w W):CallOf r w (.returned (.tuple #[.slice (some ⟨W.heap.size,0,none⟩) 0 0,.int .i64 0,.int .i64 (l:Nat),.int .i64 c])) (W.alloc (.cells #[] 57)):=
 ⟨_,[],by rw [h];rfl,RowN.lit0 sTok 57 W hb.size,by rw [h];rfl,by simp,hb.alloc hb.size _⟩
theorem Zji {m:DMacro} (h:macOk m=true):MacSm m:=by
 have h1:=(ZaH h).1
 exact⟨by omega,by omega,λ k hk=>by rw [(Zb6 hk ((ZaH h).2.2 k hk)).2.1];simp⟩
theorem Zks {T:List DMacro} {N:List ByteArray} {n:Nat} (HE:ExpC T N n) (hn:n<=1000) (hT:∀ m∈T,m.name∈N) (hN:N.length<=5000) (vT:Value) (fpT:List Nat) (csM:List Value) (m:DMacro) (fpM:List Nat) (v:Value) (work:List Tok) (fp:List Nat) (s:Nat) (w:World) (hm:macOk m=true) (hmN:m.name∈N) (hs:s<=n)
  (hwl:work.length<=100) (h1w:1<work.length) (ho:isM work[1] [40]=true) (hH:∀ t∈work,HidIn N t) (HT:(Zaa sMacro).R w [vT] T fpT) (HM:sMacro.R w csM m fpM) (H:(Zaa sTok).R w [v] work fp) :
  Calls Tryz.prog 72 #[vT,.agg csM.toArray,v,.int .i64 s] w (CallOf (callX (λ a k=>expG T n k [] a) m work s) w):=by
 have HM0:=HM
 obtain⟨h2,h3,q2,q3,rfl,knm,K2,K3,-⟩:=HM
 obtain⟨a2,c2,rfl,-⟩:=Zaf K2
 obtain⟨a3,c3,rfl,-⟩:=Zac K3
 obtain⟨aw,cw,rfl,-,-,hroww⟩:=Zac H
 obtain⟨bw,ow,-,rfl,-,-,-⟩:=hroww (by omega)
 clear hroww K2 K3
 have b0:=Zab w (.cells #[.string m.name,.bool m.function,.slice a2 m.params.length c2,.slice a3 m.body.length c3] 70)
 have HX:=Qh (heap_alloc_new w (.cells #[.string m.name,.bool m.function,.slice a2 m.params.length c2,.slice a3 m.body.length c3] 70))
 have HM1:=Qh (sMacro.below HM0 b0)
 have HT1:=Qh ((Zaa sMacro).below HT b0)
 have HW1:=Qh ((Zaa sTok).below H b0)
 have HLT:=Qh ((Zaa sTok).lt H)
 clear HM0 HT H
 go_enter Tryz.func72,Tryz.ntmps72
 go_upto_region 1 with fail
 generalize (w.alloc (.cells #[.string m.name,.bool m.function,.slice a2 m.params.length c2,.slice a3 m.body.length c3] 70))=W1 at *
 have hs1:w.heap.size<W1.heap.size:=mlt HX.out
 have HSPL:Hid (Calls Tryz.prog 98 #[.slice (some ⟨bw,ow,none⟩) work.length cw,.int .i64 1] W1 (ZiA fp (splK (work.drop 2) 1 [] [] 2) W1)):=Zjq _ work fp 1 W1 (by omega) h1w ho HW1.out
 have HAin:=Zd2 (P:=HidIn N) (work.drop 2) 1 [] [] 2 (λ t ht=>hH t (List.mem_of_mem_drop ht)) (by simp) (by simp)
 have HAlen:=Zff (work.drop 2) 1 [] [] 2 (B:=100) (by simp) (by rw [List.length_drop];simp;omega)
 have HEN:=λ R e h=>Zb9 (work.drop 2) 1 [] [] 2 (R:=R) (e:=e) h
 rcases hS:splK (work.drop 2) 1 [] [] 2 with⟨AA,en,ok⟩
 rw [hS] at HSPL HAin HAlen
 have HSS:=Qh hS
 have HAI:Hid (∀ a∈AA,∀ t∈a,HidIn N t):=HAin
 have HAL:Hid ((∀ a∈AA,a.length<=100)/\AA.length<=100):=⟨HAlen.1,by have:=HAlen.2;rw [List.length_drop] at this;simp at this;omega⟩
 clear HAin HAlen hS
 unfold ZiA at HSPL
 try dsimp only at HSPL
 go_wp2_with fail
 refine HSPL.out.mono ?_
 rintro e w2 ⟨vA,A,rfl,RA,hAd,hAlo,hb2⟩
 have hB2:=b0.trans (hb2.mono b0.size)
 have HX2:=Qh (mbox HX.out hb2)
 have HM2:=Qh (sMacro.below HM1.out hb2)
 have HT2:=Qh ((Zaa sMacro).below HT1.out hb2)
 have HW2:=Qh ((Zaa sTok).below HW1.out hb2)
 obtain⟨aA,cA,hvA,-⟩:=RA.val
 subst hvA
 have hAl:A.length=AA.length:=by rw [← hAd,List.length_map]
 obtain⟨fpA,rA,hfA,-⟩:=RA.read
 rw [hAd,hAl] at rA
 rw [hAl] at RA ⊢
 have HRA:=Qh RA
 have HRR:=Qh rA
 have HAD:=Qh hAd
 have HALO:Hid (∀ x∈A,∀ b∈x.fp,b<w2.heap.size):=λ x hx b hb=>sToks.lt (RA.el x hx) b hb
 have HAE:=Qh hAl
 clear HSPL HM1 HT1 HW1 hAlo RA rA hAd hAl hb2 hfA HX
 cases ok
 ·have HF:=Qh (Zln (f:=λ a k=>expG T n k [] a) (m:=m) (s:=s) HSS.out)
  have hBd:=Zag hB2 1
  go_wp2_with fail
  go_quiet (fail)
  have hbq:=Zag hB2 nq
  generalize w2.drewN nq=wq at *
  go_wp2
  (try simp only [Exit.inBlock,Exit.then]);refine bodyPost_ret (Zcl rfl _ _ _) rfl ?_
  exact CallOf.none HF.out hbq
 have HEE:Hid (2<en/\en<=work.length):=by
  have:=HEN _ _ HSS.out
  show _/\_
  rw [List.length_drop] at this
  omega
 clear HEN
 have hApos:0<AA.length:=Zhc _ _ _ _ _ HSS.out
 obtain⟨g,rfl,hcA⟩:∃ g,aA=some ⟨g,0,none⟩/\AA.length<=cA:=by
  obtain⟨a8,c8,e8,h9,-,h8⟩:=HRA.out.val
  simp only [Value.slice.injEq] at e8
  obtain⟨rfl,-,rfl⟩:=e8
  have hl:=HAE.out
  obtain⟨g,hg,-,-⟩:=h8 (by omega)
  exact⟨g,hg,by omega⟩
 have HCN:=Qh (λ (U:World) (hU:Below w2.heap.size w2 U)=>Zj0 _ m fpM _ AA fpA U (sMacro.below HM2.out hU) ((Zaa sToks).below HRR.out hU))
 have HSM:Hid (∀ U:World,Below w2.heap.size w2 U->U.heap[w.heap.size]?=some (.cells #[.string m.name,.bool m.function,.slice a2 m.params.length c2,.slice a3 m.body.length c3] 70 (0,0))):=λ U hU=>mbox HX2.out hU
 have hcs:Below w2.heap.size w2 w2.drew:=Zag (Below.refl _ _) 1
 obtain⟨an,HAN⟩:∃ an,Hid (an=argN m.params.length AA):=⟨argN m.params.length AA,Qh rfl⟩
 rw [show argN m.params.length AA=an from HAN.out.symm] at HCN
 go_upto_region 2 with fail
 go_cut [39] from 23 (λ d wx=>d=.bool ((an:Int) != (m.params.length:Int))/\Below w2.heap.size w2 wx)
 case first =>
  refine wp_region_noPanic ?_
  refine wp_region_held_drew (S:=λ w'=>w'.heap[w.heap.size]?=some (.cells #[.string m.name,.bool m.function,.slice a2 m.params.length c2,.slice a3 m.body.length c3] 70 (0,0))) (by kernel_rfl) (by exact HSM.out _ hcs) (λ hHeld=>?_)
  generalize w2.drew=wd at *
  refine Qt 0 29 rfl rfl ?_
  try simp only [Qp]
  refine Qt 1 30 rfl rfl ?_
  try simp only [Qp]
  refine Qt 2 31 rfl rfl ?_
  try simp only [Qp]
  refine Qt 3 32 rfl rfl ?_ (by intro w hSw;obtain⟨m0,m1,m2,m3⟩:=Q4 hSw;go_simp;(first | done | with_reducible rfl | rfl))
  try simp only [Qp]
  refine Qt 4 33 rfl rfl ?_
  try simp only [Qp]
  refine Qt 6 35 rfl rfl ?_
  try simp only [Qp]
  refine Qt 7 36 rfl rfl ?_ (by intro w hSw;obtain⟨m0,m1,m2,m3⟩:=Q4 hSw;go_simp;(first | done | with_reducible rfl | rfl))
  try simp only [Qp]
  refine Qt 8 37 rfl rfl ?_
  try simp only [Qp]
  refine Qr 5 rfl (λ K hK=>?_)
  go_simp
  refine (HCN.out _ hcs).mono ?_
  rintro e w9 ⟨rfl,hb9⟩
  have hx9:=hcs.trans (hb9.mono hcs.size)
  refine hK.out _ _ (HSM.out _ hx9) (λ hHeld=>?_)
  clear hK K
  try simp only [Qp]
  refine Qt 9 38 rfl rfl ?_
  try simp only [Qp]
  refine Qt 10 39 rfl rfl ?_
  try simp only [Qp]
  refine wpAnyH_done (by kernel_rfl) ?_ _
  refine NoPanic.normal ?_
  clear hHeld
  go_wp2
  go_meet
  case rel=>exact⟨rfl,hx9⟩
 obtain⟨rfl,hbc⟩:=hcut
 generalize wc=w3 at *
 have hB3:=hB2.trans (hbc.mono hB2.size)
 by_cases hfit:an=m.params.length
 rotate_left
 ·have HF:=Qh (Zkq (f:=λ a k=>expG T n k [] a) (m:=m) (s:=s) HSS.out (by rw [← HAN.out];exact hfit))
  have e1:((an:Int) != (m.params.length:Int))=true:=by simp;omega
  clear hfit
  go_wp2
  (try simp only [Exit.inBlock,Exit.then]);refine bodyPost_ret (Zcl rfl _ _ _) rfl ?_
  exact CallOf.none HF.out hB3
 have HFIT:Hid (argN m.params.length AA=m.params.length):=by show _=_;rw [← HAN.out];exact hfit
 have e1:((an:Int) != (m.params.length:Int))=false:=by simp;omega
 rw [e1]
 have HPL:Hid (m.params.length<=AA.length):=Zlo HFIT.out
 have hp4:m.params.length<=4:=(ZaH hm).1.2.2.1
 have hbl:=Zab w3 (.cells #[] 28)
 have HR0:=Qh (RowN.lit0 sToks 28 w3 (Nat.le_refl _))
 have hb24:=hbc
 have hs23:=hbc.size
 have HX4:=Qh (mbox HX2.out hb24)
 have HM4:=Qh (sMacro.below HM2.out hb24)
 have HT4:=Qh ((Zaa sMacro).below HT2.out hb24)
 have HW4:=Qh ((Zaa sTok).below HW2.out hb24)
 have HRR4:=Qh ((Zaa sToks).below HRR.out hb24)
 have HRA4:=Qh (HRA.out.below hb24)
 have hB4:=hB2.trans (hb24.mono hB2.size)
 clear hfit HM2 HT2 HW2 HRR HRA hbc hb24 HCN HSM hcs HX2
 go_upto_region 5 with fail
 clear e1
 have hs34:=hbl.size
 generalize (w3.alloc (.cells #[] 28))=w4 at *
 go_wp2
 go_loopw [3,15,16] (λ vs vr i wr=>∃ (k s':Nat) (R:List (Elem (List Tok))),k<=m.params.length/\i=.int .i64 k/\vs=.int .i64 s'/\s'<=s/\Hid (AccA (λ a k=>expG T n k [] a) (AA.take m.params.length) s k s' (R.map (·.d)))/\Hid (RowN sToks w3.heap.size 28 vr R wr)/\Hid (R.length=k)/\Hid (∀ x∈R,x.d.length<=60/\∀ t∈x.d,HidIn N t)/\Below w3.heap.size w3 wr) (λ _ _ i _=>m.params.length-(intOf i).toNat)
 case atStart=>exact⟨0,s,[],by omega,rfl,rfl,Nat.le_refl _,AccA.start _ _ _,HR0.out,rfl,(λ x hx=>by simp at hx),hbl⟩
 case round =>
  clear HR0
  obtain⟨k,s',R,hk,rfl,rfl,hss,HACC,HRN,HRK,HSM,hb⟩:=hrel
  obtain⟨ar,cr,hvr,-⟩:=HRN.out.val
  rw [HRK.out] at hvr
  subst hvr
  have HXr:=Qh (mbox HX4.out hb)
  have hBr:=hB4.trans (hb.mono hB4.size)
  have m2:=Qc 2 HXr.out
  by_cases hlt:k<m.params.length
  ·have hkA:k<A.length:=by have:=HPL.out;have:=HAE.out;omega
   have hkAA:k<AA.length:=by have:=HPL.out;omega
   have hkP:k<(AA.take m.params.length).length:=by rw [List.length_take];omega
   have HPK:Hid ((AA.take m.params.length)[k]=AA[k]):=List.getElem_take
   have HDK:Hid ((A[k]'hkA).d=AA[k]):=by
    have:=List.getElem_of_eq HAD.out (i:=k) (by rw [List.length_map];exact hkA)
    rw [List.getElem_map] at this
    exact this
   have RX:=HRA4.out.el (A[k]'hkA) (List.getElem_mem hkA)
   have hxlen:=HRA4.out.len (A[k]'hkA) (List.getElem_mem hkA)
   have RX0:=RX
   obtain⟨ak,ck,hck,-⟩:=Zac (S:=sTok) (by
    have:(A[k]'hkA).cells=[(A[k]'hkA).cells[0]'(by rw [hxlen];decide)]:=by
     match hc:(A[k]'hkA).cells,hxlen with
     | [u],_=>rfl
    rw [this] at RX
    exact RX)
   have hcell:(A[k]'hkA).cells=[.slice ak (A[k]'hkA).d.length ck]:=by
    match hc:(A[k]'hkA).cells,hxlen with
    | [u],_=>simp only [hc,List.getElem_cons_zero] at hck;rw [hck]
   rw [hcell] at RX0
   have q0:w3.cell? ⟨g,k,none⟩=some (.slice ak (A[k]'hkA).d.length ck):=by
    have:=HRA4.out.cellAt hkA (j:=0) (by decide) (u:=.slice ak (A[k]'hkA).d.length ck) (by rw [hcell];rfl)
    rw [show k * sToks.m+0=k from by show k * 1+0=k;omega] at this
    exact this
   have q1:wr.cell? ⟨g,k,none⟩=some (.slice ak (A[k]'hkA).d.length ck):=(hb.cell (p:=⟨g,k,none⟩) (HRA4.out.mine g rfl).2).trans q0
   have HXF:Hid (∀ b∈(A[k]'hkA).fp,b<w2.heap.size):=HALO.out _ (List.getElem_mem hkA)
   rw [HDK.out] at q1 RX0
   have hal:=HAL.out.1 _ (List.getElem_mem hkAA)
   have HEX:=Qh (HE vT fpT _ AA[k] _ s' wr (by omega) hal (HAI.out _ (List.getElem_mem hkAA)) ((Zaa sMacro).below HT4.out hb) (sToks.below RX0 hb))
   have HXL:=Qh (Ziu T n AA[k] s' [] (by simp))
   have HXI:=Qh (ZfT hT n AA[k] s' [] (by simp) (HAI.out _ (List.getElem_mem hkAA)))
   have HXS:=Qh (ZhQ T n AA[k] s' [])
   rcases hx:expG T n s' [] AA[k] with⟨x,lf,c⟩
   rw [hx] at HEX HXL HXI HXS
   have HFX:Hid ((λ a k=>expG T n k [] a) ((AA.take m.params.length)[k]'hkP) s'=(x,lf,c)):=by show expG T n s' [] _=_;rw [HPK.out];exact hx
   unfold XpOf at HEX
   try dsimp only at HEX
   have i0:(0:Int)<=(k:Int):=by omega
   have i1:(k:Int)<(AA.length:Int):=by omega
   clear hx q0 hck hcell RX RX0 hxlen
   generalize AA[k]=ak_ at *
   go_wp2_with fail
   refine HEX.out.mono ?_
   rintro e w5 ⟨vx,L,rfl,RL,hLd,hLf,hb5⟩
   clear m2 q1 HEX
   have hB5:=hBr.trans (hb5.mono hBr.size)
   have hb45:=hb.trans (hb5.mono hb.size)
   obtain⟨ax,cx,hvx,-⟩:=RL.val
   subst hvx
   obtain⟨fx,rx,hfx,-⟩:=RL.read
   rw [hLd] at rx
   have hLx:L.length=x.length:=by rw [← hLd,List.length_map]
   rw [hLx] at rx ⊢
   by_cases hc0:c=0
   rotate_left
   ·have HF:=Qh (Zjh (f:=λ a k=>expG T n k [] a) (m:=m) HSS.out HFIT.out (HACC.out.stop hkP HFX.out hc0) hc0)
    have e2:(c != 0)=true:=by simp [hc0]
    clear hc0
    go_wp2
    (try simp only [Exit.inBlock,Exit.then]);refine bodyPost_ret (Zcl rfl _ _ _) rfl ?_
    exact CallOf.none HF.out hB5
   subst hc0
   have HN:=Qh (HACC.out.step hkP HFX.out)
   have HRN5:=Qh (HRN.out.below hb5)
   have bl:=Zab w5 (.cells #[.slice ax x.length cx] 28)
   have HL6:=Qh (heap_alloc_new w5 (.cells #[.slice ax x.length cx] 28))
   have HRN6:=Qh (HRN5.out.below bl)
   have RX6:=Qh (sToks.below rx bl)
   have hb46:=hb45.trans (bl.mono hb45.size)
   have hwr4:=hb.size
   have HVX:Hid (∀ b∈fx,(Value.slice ar k cr).ownBlock≠some b):=λ b hb' h=>by
    have h1:=(HRN.out.mine b h)
    rcases hfx b hb' with h2 | ⟨y,hy,h2⟩
    ·have:=(RL.mine b h2).1;omega
    ·rcases hLf y hy b h2 with h3 | h3
     ·have:=HXF.out b h3;omega
     ·omega
   have hlx:Hid (x.length<=60/\(∀ t∈x,HidIn N t)/\lf<=s'):=⟨HXL.out,HXI.out,HXS.out⟩
   clear RL hLd hLf hfx rx hLx HXL HXI HXS HRN5 bl
   go_upto_region 7 with(at_builtin;refine ZaK (X:=[(⟨[.slice ax x.length cx],x,fx⟩:Elem (List Tok))]) ZdC rfl (by decide) _ rfl (.tmp 67) (.tmp 69) rfl w3.heap.size (.slice ar k cr) rfl HRN6.out ⟨w5.heap.size,0,none⟩ 1 1 rfl rfl (λ y hy=>by obtain rfl:=Qm hy;exact⟨rfl,RX6.out,HVX.out⟩) (λ y hy u hu=>by obtain rfl:=Qm hy;rw [Qm hu];rfl) (λ j u hj=>by rw [ZaN,Nat.zero_add,cell_of_row _ _ _ _ _ _ HL6.out];simpa using hj) (by have:=HRK.out;unfold maxLen;omega) (by have:=HRK.out;omega) (by have:=hb46.size;omega) ?_;intro v7 w7 hR7 hg7 hp7)
   have hmine:=HRN6.out.mine
   have HB7:=Qh (hb46.grown hg7 hb46.size (λ b hb'=>(hmine b hb').1))
   have HR7:=Qh hR7
   have HS7:Hid (∀ y∈R++[(⟨[.slice ax x.length cx],x,fx⟩:Elem (List Tok))],y.d.length<=60/\∀ t∈y.d,HidIn N t):=λ y hy=>by
    rcases Qa hy with hy | hy
    ·exact HSM.out y hy
    ·rw [Qm hy];exact⟨hlx.out.1,hlx.out.2.1⟩
   clear hR7 hg7 hp7
   go_wp2
   go_roundw
   have HN7:Hid (AccA (λ a k=>expG T n k [] a) (AA.take m.params.length) s (k+1) lf ((R++[(⟨[.slice ax x.length cx],x,fx⟩:Elem (List Tok))]).map (·.d))):=by show AccA _ _ _ _ _ _;rw [List.map_append];exact HN.out
   have HK7:Hid ((R++[(⟨[.slice ax x.length cx],x,fx⟩:Elem (List Tok))]).length=k+1):=by show _=_;rw [List.length_append,HRK.out];rfl
   have hlf:lf<=s:=by have:=hlx.out.2.2;omega
   case rel=>first | exact⟨k+1,lf,_,by omega,by go_num,rfl,hlf,HN7,HR7,HK7,HS7,HB7.out⟩ | ((repeat apply Exists.intro);exact⟨⟨k+1,lf,_,by omega,by go_num,rfl,hlf,HN7,HR7,HK7,HS7,HB7.out⟩,rfl⟩)
   case measure=>simp [intOf];omega
  ·have hke:k=m.params.length:=by omega
   have HAR:=Qh (HACC.out.done (by rw [List.length_take];omega))
   obtain⟨fr,rr,-,-⟩:=HRN.out.read
   obtain⟨fT,rT,-⟩:=Zcp (S:=sToks) m.params.length HPL.out HRR4.out
   have hRl:(R.map (·.d)).length<=1048576:=by rw [List.length_map,HRK.out];omega
   have hTl:(AA.take m.params.length).length<=1048576:=by rw [List.length_take];omega
   have hTs:Zf1 (AA.take m.params.length):=λ j hj=>by
    have hmem:=List.mem_of_mem_take (List.getElem_mem hj)
    refine ⟨by have:=HAL.out.1 _ hmem;omega,λ q hq=>?_⟩
    have:=(HAI.out _ hmem _ (List.getElem_mem hq)).len
    omega
   have hRs:Zf1 (R.map (·.d)):=λ j hj=>by
    obtain⟨y,hy,e⟩:=List.mem_map.1 (List.getElem_mem hj)
    rw [← e]
    obtain⟨h1,h2⟩:=HSM.out y hy
    refine ⟨by omega,λ q hq=>?_⟩
    have:=(h2 _ (List.getElem_mem hq)).len
    omega
   have HSB:=Qh (λ (U:World) (hU:Below wr.heap.size wr U)=>Zej _ m fpM (.slice (some ⟨g,0,none⟩) m.params.length cA) (.slice ar k cr) (AA.take m.params.length) (R.map (·.d)) fT fr U (Zji hm) hTl hRl hTs hRs (sMacro.below (sMacro.below HM4.out hb) hU) ((Zaa sToks).below ((Zaa sToks).below rT hb) hU) ((Zaa sToks).below rr hU))
   have HSIN:Hid (∀ t∈(Zap m (AA.take m.params.length) (R.map (·.d))).1,HidIn N t):=ZfR (λ l hl=>HAI.out l (List.mem_of_mem_take hl)) (λ l hl=>by obtain⟨y,hy,rfl⟩:=List.mem_map.1 hl;exact(HSM.out y hy).2)
   have HSLN:Hid ((Zap m (AA.take m.params.length) (R.map (·.d))).1.length<=240):=by
    show _<=_
    unfold Zap
    split
    ·split
     ·simp
     ·rename_i h;omega
    ·simp
   rcases hsub:Zap m (AA.take m.params.length) (R.map (·.d)) with⟨bd,okb⟩
   unfold Zh0 at HSB
   rw [hsub] at HSB HSIN HSLN
   try dsimp only at HSB
   have HSUB:=Qh hsub
   have HSX:Hid (∀ U:World,Below wr.heap.size wr U->U.heap[w.heap.size]?=some (.cells #[.string m.name,.bool m.function,.slice a2 m.params.length c2,.slice a3 m.body.length c3] 70 (0,0))):=λ U hU=>mbox HXr.out hU
   have hcs:Below wr.heap.size wr wr.drew:=Zag (Below.refl _ _) 1
   have p1:(0:Int)<=(m.params.length:Int):=by omega
   have p2:(m.params.length:Int)<=(AA.length:Int):=by have:=HPL.out;omega
   have p3:m.params.length<=AA.length:=HPL.out
   have p4:m.params.length<=cA:=by omega
   have p5:(m.params.length:Int)<=(cA:Int):=by omega
   clear hsub rr rT hRl hTl hTs hRs hke
   go_upto_region 13 with fail
   clear m2
   go_cut [20,21] from 23 (λ b o wx=>∃ (v:Value) (fb:List Nat),b=v/\o=.bool okb/\(Zaa sTok).R wx [v] bd fb/\(∀ b∈fb,wr.heap.size<=b)/\Below wr.heap.size wr wx)
   case first =>
    refine wp_region_noPanic ?_
    refine wp_region_held_drew (S:=λ w'=>w'.heap[w.heap.size]?=some (.cells #[.string m.name,.bool m.function,.slice a2 m.params.length c2,.slice a3 m.body.length c3] 70 (0,0))) (by kernel_rfl) (by exact HSX.out _ hcs) (λ hHeld=>?_)
    generalize wr.drew=wd at *
    refine Qt 0 72 rfl rfl ?_ (by intro w hSw;obtain⟨m0,m1,m2,m3⟩:=Q4 hSw;go_simp;(first | done | with_reducible rfl | rfl))
    try simp only [Qp]
    refine Qt 1 73 rfl rfl ?_
    try simp only [Qp]
    refine Qt 2 74 rfl rfl ?_
    try simp only [Qp]
    refine Qt 3 75 rfl rfl ?_ (by intro w hSw;obtain⟨m0,m1,m2,m3⟩:=Q4 hSw;go_simp;(first | done | with_reducible rfl | rfl))
    try simp only [Qp]
    refine Qt 4 76 rfl rfl ?_
    try simp only [Qp]
    refine Qt 5 77 rfl rfl ?_
    try simp only [Qp]
    refine Qt 6 78 rfl rfl ?_
    try simp only [Qp]
    refine Qr 7 rfl (λ K hK=>?_)
    go_simp
    refine (HSB.out _ hcs).mono ?_
    rintro e w9 ⟨vb,fb,rfl,Rb,hfb,hb9⟩
    have hx9:=hcs.trans (hb9.mono hcs.size)
    have hfb2:∀ b∈fb,wr.heap.size<=b:=λ b hb=>Nat.le_trans hcs.size (hfb b hb)
    refine hK.out _ _ (HSX.out _ hx9) (λ hHeld=>?_)
    clear hK K
    try simp only [Qp]
    refine Qt 8 71 rfl rfl ?_
    try simp only [Qp]
    refine Qt 9 80 rfl rfl ?_
    try simp only [Qp]
    refine Qt 10 81 rfl rfl ?_
    try simp only [Qp]
    refine Qt 11 20 rfl rfl ?_
    try simp only [Qp]
    refine Qt 12 21 rfl rfl ?_
    try simp only [Qp]
    refine wpAnyH_done (by kernel_rfl) ?_ _
    refine NoPanic.normal ?_
    clear hHeld
    go_wp2
    go_meet
    case rel=>exact⟨vb,fb,rfl,rfl,Rb,hfb2,hx9⟩
   obtain⟨vb,fb,rfl,rfl,Rb,hfb,hb6⟩:=hcut
   generalize wc=w6 at *
   have hBr6:=hBr.trans (hb6.mono hBr.size)
   have hb36:=hb.trans (hb6.mono hb.size)
   cases okb
   ·have HF:=Qh (Zh1 (f:=λ a k=>expG T n k [] a) (m:=m) HSS.out HFIT.out HAR.out HSUB.out)
    go_wp2
    (try simp only [Exit.inBlock,Exit.then]);refine bodyPost_ret (Zcl rfl _ _ _) rfl ?_
    exact CallOf.none HF.out hBr6
   obtain⟨ab,cb,rfl,-⟩:=Zac Rb
   have HF0:=Qh (Zkr (f:=λ a k=>expG T n k [] a) (m:=m) HSS.out HFIT.out HAR.out HSUB.out)
   have h0w:0<work.length:=by omega
   have hew:en-1<work.length:=by have:=HEE.out;omega
   have HF:Hid (callX (λ a k=>expG T n k [] a) m work s=(putL bd (ins (both (work[0]'h0w).hidden (work[en-1]'hew).hidden) m.name) (work[0]'h0w).spaced,en,s',0)):=by
    show _=_
    rw [HF0.out]
    have e1:work.headD zTok=work[0]'h0w:=by
     cases work with
     | nil=>simp at h0w
     | cons t r=>rfl
    have e2:work.getD (en-1) zTok=work[en-1]'hew:=by rw [List.getD_eq_getElem?_getD,List.getElem?_eq_getElem hew];rfl
    rw [e1,e2]
   obtain⟨xa,xc,xf,-,-,x2,x3,xR,hbbw,-⟩:=ZaQ HW4.out h0w
   obtain⟨ya,yc,yf,-,-,-,y3,yR,-,-⟩:=ZaQ HW4.out hew
   have HI0:=Qh (hH _ (List.getElem_mem h0w)).len
   have HI1:=Qh (hH _ (List.getElem_mem hew)).len
   generalize work[0]'h0w=t0 at *
   generalize work[en-1]'hew=t1 at *
   have KX:(Zaa sStr).R w3 [.slice xa t0.hidden.length xc] t0.hidden xf:=by
    obtain⟨hv,hcs,-,-,K⟩:=xR
    simp only [List.cons.injEq,and_true,true_and] at hcs
    subst hcs;exact K
   have KY:(Zaa sStr).R w3 [.slice ya t1.hidden.length yc] t1.hidden yf:=by
    obtain⟨hv,hcs,-,-,K⟩:=yR
    simp only [List.cons.injEq,and_true,true_and] at hcs
    subst hcs;exact K
   have HXU:Hid (∀ U:World,Below w6.heap.size w6 U->U.heap[w.heap.size]?=some (.cells #[.string m.name,.bool m.function,.slice a2 m.params.length c2,.slice a3 m.body.length c3] 70 (0,0))/\U.cell? ⟨bw,ow+3,none⟩=some (.slice xa t0.hidden.length xc)/\U.cell? ⟨bw,ow+(en-1) * 4+3,none⟩=some (.slice ya t1.hidden.length yc)):=λ U hU=>by
    have hbU:=hb36.trans (hU.mono hb36.size)
    refine ⟨mbox HX4.out hbU,(hbU.cell (p:=⟨bw,ow+3,none⟩) hbbw).trans ?_,(hbU.cell (p:=⟨bw,ow+(en-1) * 4+3,none⟩) hbbw).trans y3⟩
    simpa using x3
   have hx2:Hid (∀ U:World,Below w6.heap.size w6 U->U.cell? ⟨bw,ow+2,none⟩=some (.bool t0.spaced)):=λ U hU=>by
    have hbU:=hb36.trans (hU.mono hb36.size)
    refine (hbU.cell (p:=⟨bw,ow+2,none⟩) hbbw).trans ?_
    simpa using x2
   have hbl9:(both t0.hidden t1.hidden).length<=5000:=by have:=Ze1 t0.hidden t1.hidden;have:=HI0.out;omega
   have HBO:=Qh (λ (U:World) (hU:Below w6.heap.size w6 U)=>ZgH (.slice xa t0.hidden.length xc) (.slice ya t1.hidden.length yc) t0.hidden t1.hidden _ _ U (by have:=HI0.out;omega) ((Zaa sStr).below KX (hb36.trans (hU.mono hb36.size))) ((Zaa sStr).below KY (hb36.trans (hU.mono hb36.size))))
   have HUN:=Qh (λ (U:World) (vu vn:Value) (fu fn:List Nat) (h1:(Zaa sStr).R U [vu] (both t0.hidden t1.hidden) fu) (h2:(Zaa sStr).R U [vn] [m.name] fn)=>ZfY vu vn (both t0.hidden t1.hidden) m.name fu fn U (by omega) h1 h2)
   have hcs6:Below w6.heap.size w6 w6.drew:=Zag (Below.refl _ _) 1
   have n1:IntKind.i64.wrap ((en:Int)-1)=(en:Int)-1:=IntWalk.i64_in _ (by have:=HEE.out;omega)
   have n2:(0:Int)<=(en:Int)-1:=by have:=HEE.out;omega
   have n3:(en:Int)-1<(work.length:Int):=by have:=HEE.out;omega
   have n4:((en:Int)-1).toNat=en-1:=by have:=HEE.out;omega
   have n5:(1:Int)<=(en:Int):=by have:=HEE.out;omega
   have n6:(0:Int)<(work.length:Int):=by omega
   have knm2:m.name.size<=maxLen:=knm
   clear x2 x3 y3 xR yR KX KY HSB HSX hcs p1 p2 p3 p4 p5
   go_upto_region 16 with fail
   go_cut [22] from 23 (λ d wx=>∃ (au:Option Addr) (cu:Nat) (fh:List Nat),d=.slice au (ins (both t0.hidden t1.hidden) m.name).length cu/\(Zaa sStr).R wx [.slice au (ins (both t0.hidden t1.hidden) m.name).length cu] (ins (both t0.hidden t1.hidden) m.name) fh/\Below w6.heap.size w6 wx)
   case first =>
    refine wp_region_noPanic ?_
    refine wp_region_held_drew (S:=λ w'=>w'.heap[w.heap.size]?=some (.cells #[.string m.name,.bool m.function,.slice a2 m.params.length c2,.slice a3 m.body.length c3] 70 (0,0))/\w'.cell? ⟨bw,ow+3,none⟩=some (.slice xa t0.hidden.length xc)/\w'.cell? ⟨bw,ow+(en-1) * 4+3,none⟩=some (.slice ya t1.hidden.length yc)) (by kernel_rfl) (by exact HXU.out _ hcs6) (λ hHeld=>?_)
    generalize w6.drew=wd at *
    refine Qt 0 86 rfl rfl ?_
    try simp only [Qp]
    refine Qt 1 87 rfl rfl ?_
    try simp only [Qp]
    refine Qt 2 88 rfl rfl ?_
    try simp only [Qp]
    refine Qt 3 89 rfl rfl ?_ (by intro w hSw;obtain⟨sm,sx,sy⟩:=hSw;have m0:=Qc 0 sm;go_simp;(first | done | with_reducible rfl | rfl))
    try simp only [Qp]
    refine Qt 4 90 rfl rfl ?_
    try simp only [Qp]
    refine Qt 5 91 rfl rfl ?_
    try simp only [Qp]
    refine Qt 6 92 rfl rfl ?_
    try simp only [Qp]
    refine Qt 7 93 rfl rfl ?_
    try simp only [Qp]
    refine Qt 8 94 rfl rfl ?_
    try simp only [Qp]
    refine Qt 9 95 rfl rfl ?_ (by intro w hSw;obtain⟨sm,sx,sy⟩:=hSw;have m0:=Qc 0 sm;go_simp;(first | done | with_reducible rfl | rfl))
    try simp only [Qp]
    refine Qt 11 97 rfl rfl ?_
    try simp only [Qp]
    refine Qt 12 98 rfl rfl ?_ (by intro w hSw;obtain⟨sm,sx,sy⟩:=hSw;have m0:=Qc 0 sm;go_simp;(first | done | with_reducible rfl | rfl))
    try simp only [Qp]
    refine wpAnyH_ready (rs:=[10,13]) (by kernel_rfl) (by simp) ?_
    refine AllReadyH.cons rfl (λ K hK=>?_) ?_
    ·skip
     go_simp
     refine (HBO.out _ hcs6).mono ?_
     rintro e wx1 ⟨vb_,fb_,rfl,RB,-,br⟩
     have hx1:=hcs6.trans (br.mono hcs6.size)
     refine hK.out _ _ (HXU.out _ hx1) (λ hHeld=>?_)
     clear hK K
     try simp only [Qp]
     refine Qr 13 rfl (λ K hK=>?_)
     go_simp
     have bk:=Zab wx1 (.cells #[.string m.name] 9)
     have RL:=ZbR (heap_alloc_new wx1 (.cells #[.string m.name] 9)) knm2
     have hx2:=hx1.trans (bk.mono hx1.size)
     replace RB:=(Zaa sStr).below RB bk
     refine hK.out _ _ (HXU.out _ hx2) (λ hHeld=>?_)
     clear hK K bk
     try simp only [Qp]
     generalize (wx1.alloc (.cells #[.string m.name] 9))=wx2 at *
     refine Qr 14 rfl (λ K hK=>?_)
     go_simp
     refine (HUN.out wx2 _ _ _ _ RB RL).mono ?_
     rintro e wz ⟨an_,cn_,fn_,rfl,Rn_,-,-,hbz⟩
     have hxz:=hx2.trans (hbz.mono hx2.size)
     refine hK.out _ _ (HXU.out _ hxz) (λ hHeld=>?_)
     clear hK K
     try simp only [Qp]
     refine Qt 15 22 rfl rfl ?_
     try simp only [Qp]
     refine wpAnyH_done (by kernel_rfl) ?_ _
     refine NoPanic.normal ?_
     clear hHeld
     go_wp2
     go_meet
     case rel=>exact⟨an_,cn_,fn_,rfl,Rn_,hxz⟩
    refine AllReadyH.cons rfl (λ K hK=>?_) AllReadyH.nil
    go_simp
    have bk:=Zab wd (.cells #[.string m.name] 9)
    have RL:=ZbR (heap_alloc_new wd (.cells #[.string m.name] 9)) knm2
    have hx3:=hcs6.trans (bk.mono hcs6.size)
    refine hK.out _ _ (HXU.out _ hx3) (λ hHeld=>?_)
    clear hK K bk
    try simp only [Qp]
    generalize (wd.alloc (.cells #[.string m.name] 9))=wx3 at *
    refine Qr 10 rfl (λ K hK=>?_)
    go_simp
    refine (HBO.out _ hx3).mono ?_
    rintro e wx4 ⟨vb_,fb_,rfl,RB,-,br⟩
    have hx4:=hx3.trans (br.mono hx3.size)
    replace RL:=(Zaa sStr).below RL br
    refine hK.out _ _ (HXU.out _ hx4) (λ hHeld=>?_)
    clear hK K
    try simp only [Qp]
    refine Qr 14 rfl (λ K hK=>?_)
    go_simp
    refine (HUN.out wx4 _ _ _ _ RB RL).mono ?_
    rintro e wz ⟨an_,cn_,fn_,rfl,Rn_,-,-,hbz⟩
    have hxz:=hx4.trans (hbz.mono hx4.size)
    refine hK.out _ _ (HXU.out _ hxz) (λ hHeld=>?_)
    clear hK K
    try simp only [Qp]
    refine Qt 15 22 rfl rfl ?_
    try simp only [Qp]
    refine wpAnyH_done (by kernel_rfl) ?_ _
    refine NoPanic.normal ?_
    clear hHeld
    go_wp2
    go_meet
    case rel=>exact⟨an_,cn_,fn_,rfl,Rn_,hxz⟩
   obtain⟨au,cu,fh,rfl,Rh,hb7⟩:=hcut
   generalize wc=w7 at *
   have hBr7:=hBr6.trans (hb7.mono hBr6.size)
   have x2:=hx2.out _ hb7
   have hil:(ins (both t0.hidden t1.hidden) m.name).length<=5001:=by have:=Ze2 m.name (both t0.hidden t1.hidden);omega
   have HPUT:=Qh (ZgL (.slice ab bd.length cb) bd fb _ _ fh t0.spaced w7 (by have h240:bd.length<=240:=HSLN.out;omega) (λ q hq=>by have hq2:HidIn N bd[q]:=HSIN.out _ (List.getElem_mem hq);have:=hq2.len;omega) ((Zaa sTok).below Rb hb7) Rh)
   clear HBO HUN hcs6 Rb
   go_wp2_with fail
   refine HPUT.out.mono ?_
   rintro e w8 ⟨v8,L8,rfl,R8,D8,F8,hb8⟩
   have hBr8:=hBr7.trans (hb8.mono hBr7.size)
   have R8F:=Qh (R8.lower (base':=w.heap.size) hBr7.size)
   have D8F:=Qh D8
   have F8F:Hid (∀ x∈L8,∀ b∈x.fp,w.heap.size<=b):=λ x hx b hb'=>Nat.le_trans hBr7.size (F8 x hx b hb')
   obtain⟨a8,c8,hv8,-⟩:=R8.val
   subst hv8
   clear R8 D8 F8 HPUT
   go_wp2
   (try simp only [Exit.inBlock,Exit.then]);refine bodyPost_ret (Zcl rfl _ _ _) rfl ?_
   exact⟨_,L8,by rw [HF.out];rfl,R8F.out,by rw [HF.out];exact D8F.out,F8F.out,hBr8⟩
end Go.Proofs.YtiaiggjfepoahaaGreat
