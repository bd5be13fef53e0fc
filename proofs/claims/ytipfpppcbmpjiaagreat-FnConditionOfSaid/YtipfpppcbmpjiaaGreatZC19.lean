/- Lemmas. -/
import Derived.Test.YtipfpppcbmpjiaaGreatZC18
set_option linter.unusedVariables false
set_option maxHeartbeats 16000000
set_option maxRecDepth 100000
set_option linter.unusedSimpArgs false
namespace Go.Proofs.YtipfpppcbmpjiaaGreat
open Go.RowKit
theorem ZeB {α:Type}{S:Shape α}{P:Program}{t e:TypeId}{z:Value}{bytes:Nat}(ti:TI P t e z S.m bytes)(ev:z.cells.size=S.m)(h0:0<S.m)(w:World){L X:List (Elem α)}{ops:Array Oper}{o:Oper}{a:Act}{K:Act->World->Prop}{Q:Exit->Act->World->Prop}{E:Prop}
  (d:Nat) (fN:o.dst=some d) (hg:o.guard=none) (s y:Operand) (ho:o.op=.call { callee:=.builtin .append,args:=#[s,y],argTypes:=#[t,t] })
  (base:Nat) (v:Value) (hs:a.eval s=v) (ag:RowE S base e v L w) (g m c:Nat) (hy:a.eval y=.slice (some ⟨g,0,none⟩) m c) (hm:X.length=m)
  (bE:∀x∈X,x.cells.length=S.m) (h1:∀x∈X,∀u∈x.cells,u.oneCell'=true) (aJ:∀j u,(X.flatMap (·.cells))[j]?=some u->w.cell? ⟨g,j,none⟩=some u)
  (hR:∀x∈X,S.R w x.cells x.d x.fp) (cV:∀x∈X,∀b∈x.fp,base<=b) (gD:∀x∈X,∀b∈x.fp,∃cur t fr,w.heap[b]?=some (.cells cur t fr)/\t≠e)
  (dz:L.length+m<=maxLen) (aO:(L.length+m)*bytes<=140737488355328) (aK:base<=w.heap.size)
  (h:∀v' w',RowE S base e v' (L++X) w'->w.grownBy w' v.ownBlock->K (a.put (some d) v') w'):if Region.wanted o (yielded ops a.tmps)=true then Oper.wp P o a w K Q else E:=by
 rw[←fN]at h;have pI:Region.wanted o (yielded ops a.tmps)=true:=by simp[Region.wanted,hg]
 obtain⟨i,hi,cI,dQ,dZ⟩:=info_parts ti.2;subst hm;rw[if_pos pI];refine wp_append_own w s y t ho base e i z S.m bytes ti.1 hi cI dQ dZ ev h0 v L.length _ hs ag.row ⟨g,0,none⟩ X.length c (X.flatMap (·.cells)) hy (ZaR bE) ?_ ?_ dz aO aK λv' w' r1 r2 _=>h v' w' ?_ r2
 ·intro j u hj;rw[ZaZ,QX];exact aJ j u hj
 ·intro u hu;obtain⟨x,hx,hu⟩:=QO.1 hu;exact h1 x hx u hu
 ·refine ag.appended ?_ r2 bE hR cV gD;rw[QC,Qo];exact r1
structure DivSt (B:Nat)(va u:Value)(A:List (Elem (List Tok)))(M:List (Elem Tok))(w:World):Prop where
 row:w.ownsRow B 24 1 va (A.length+1) (A.flatMap (·.cells)++[u])
 len:∀x∈A,x.cells.length=1
 el:∀x∈A,sToks.R w x.cells x.d x.fp
 inn:∃top,RowE sTok top 32 u M w/\B<=top/\top<=w.heap.size/\∀x∈A,∀b∈x.fp,b<top
 ownA:Own w B (A.flatMap (·.fp))
 ownM:Own w B (M.flatMap (·.fp))
 tyA:TokTy w (A.flatMap (·.fp))
 tyM:TokTy w (M.flatMap (·.fp))
section
variable {B:Nat}{va u:Value}{A:List (Elem (List Tok))}{M:List (Elem Tok)}{w w':World}
theorem DivSt.same (h:DivSt B va u A M w)(hs:w.heap.size<=w'.heap.size)(hr:∀g,va.ownBlock=some g->w'.heap[g]?=w.heap[g]?)(hu:∀g,u.ownBlock=some g->w'.heap[g]?=w.heap[g]?)(hA:∀b∈A.flatMap (·.fp),w'.heap[b]?=w.heap[b]?)(hM:∀b∈M.flatMap (·.fp),w'.heap[b]?=w.heap[b]?):DivSt B va u A M w':=by
 obtain⟨top,g1,g2,g3,g4⟩:=h.inn;have mA:∀x∈A,∀b∈x.fp,w'.heap[b]?=w.heap[b]?:=λx hx b hb=>hA b (QO.2 ⟨x,hx,hb⟩);have mM:∀x∈M,∀b∈x.fp,w'.heap[b]?=w.heap[b]?:=λx hx b hb=>hM b (QO.2 ⟨x,hx,hb⟩);refine⟨ZbR h.row hr,h.len,λx hx=>sToks.frame (mA x hx) (h.el x hx),⟨top,g1.same2 hu mM,g2,QZ g3 hs,g4⟩,⟨h.ownA.1,λb hb=>?_⟩,⟨h.ownM.1,λb hb=>?_⟩,h.tyA.same λb hb _=>hA b hb,h.tyM.same λb hb _=>hM b hb⟩
 ·obtain⟨q1,cur,e,q2⟩:=h.ownA.2 b hb;exact⟨q1,cur,e,(hA b hb).trans q2⟩
 ·obtain⟨q1,cur,e,q2⟩:=h.ownM.2 b hb;exact⟨q1,cur,e,(hM b hb).trans q2⟩
theorem DivSt.ult (h:DivSt B va u A M w):∀g,u.ownBlock=some g->g<w.heap.size:=λg hg=>by
 obtain⟨top,g1,-⟩:=h.inn;exact(g1.row.lt g hg).2
theorem DivSt.umine (h:DivSt B va u A M w):∀g,u.ownBlock=some g->B<=g:=λg hg=>by
 obtain⟨top,g1,g2,-⟩:=h.inn;have:=(g1.row.lt g hg).1;omega
theorem DivSt.below (h:DivSt B va u A M w)(hb:Below w.heap.size w w'):DivSt B va u A M w':=
 h.same hb.size (λg hg=>hb.block g (h.row.lt g hg).2) (λg hg=>hb.block g (h.ult g hg)) (λb aE=>hb.block b (h.ownA.lt b aE)) (λb aE=>hb.block b (h.ownM.lt b aE))
theorem DivSt.val (h:DivSt B va u A M w):∃g cap,va=.slice (some ⟨g,0,none⟩) (A.length+1) cap/\B<=g/\g<w.heap.size/\A.length+1<=cap/\cap<=maxLen:=by
 rcases h.row.2 with⟨_,h0⟩ | ⟨g,cap,cur,rfl,hb,hg,hn,hc,_⟩
 ·omega
 ·exact⟨g,cap,rfl,hb,(Qg hg).1,hn,hc⟩
theorem DivSt.uval (h:DivSt B va u A M w):∃a c,u=.slice a M.length c:=by
 obtain⟨top,g1,-⟩:=h.inn;obtain⟨a,c,h1,-⟩:=g1.val;exact⟨a,c,h1⟩
theorem DivSt.flen (h:DivSt B va u A M w):(A.flatMap (·.cells)).length=A.length:=by
 have:=ZaR (f:=Elem.cells) h.len
 rwa [Nat.mul_one]at this
theorem DivSt.cell {g n cap:Nat}(h:DivSt B (.slice (some ⟨g,0,none⟩) n cap) u A M w):w.cell? ⟨g,A.length,none⟩=some u:=by
 have hn:A.length+1=n:=by
  rcases h.row.2 with⟨h',_⟩ | ⟨g',dF,cur,h',_⟩
  ·cases h'
  ·simp only[QT]at h';exact h'.2.1.symm
 have ai:=h.row;rw[hn]at ai;rw[ai.cellAt A.length (by omega),List.getElem?_append_right (by rw[h.flen];omega),h.flen,Nat.sub_self];rfl
theorem DivSt.frozen {g n cap:Nat}(h:DivSt B (.slice (some ⟨g,0,none⟩) n cap) u A M w)(o:Nat):w.frozen? ⟨g,o,none⟩=false:=by
 rcases h.row.2 with⟨h',_⟩ | ⟨g',dF,cur,h',_,hg,_⟩
 ·cases h'
 ·simp only[QT,Qi,Addr.mk.injEq,and_true]at h';obtain⟨rfl,_⟩:=h';exact frozen_of_row w g o cur _ hg
theorem DivSt.rowne (h:DivSt B va u A M w){fp:List Nat}(ht:TokTy w fp):∀b∈fp,some b≠va.ownBlock:=λb hb e=>by
 obtain⟨cur,t,fr,h1,h2⟩:=ht b hb;rcases h.row.2 with⟨h',_⟩ | ⟨g,cap,qb,h',_,hg,_⟩
 ·rw[h']at e;simp[Value.ownBlock]at e
 ·rw[h']at e;simp only[Value.ownBlock,Qi]at e;subst e;rw[h1]at hg;simp only[Qi,Obj.cells.injEq]at hg;have:=hg.2.1;rcases h2 with rfl | rfl <;> exact absurd this (by decide)
theorem DivSt.arg (h:DivSt B va u A M w):∃fp,sToks.R w [u] (M.map (·.d)) fp/\Own w B fp/\TokTy w fp/\(∀b∈fp,b∉A.flatMap (·.fp)):=by
 obtain⟨top,g1,g2,g3,g4⟩:=h.inn;obtain⟨fp,h1,h2,h3⟩:=Zbt g1.row λx hx=>⟨g1.len x hx,g1.el x hx⟩
 have hM:Own w top (M.flatMap (·.fp)):=⟨h.ownM.1,λb hb=>by
  obtain⟨x,hx,aE⟩:=QO.1 hb
  exact⟨g1.lo x hx b aE,(h.ownM.2 b hb).2⟩⟩
 have hO:=h3 hM λg hg hm=>by
  obtain⟨x,hx,aE⟩:=QO.1 hm;exact g1.ap hx aE hg
 refine⟨fp,h1,hO.lower g2,λb hb=>?_,λb hb hx=>?_⟩
 ·rcases h2 b hb with h0 | h0
  ·rcases g1.row.2 with⟨h',_⟩ | ⟨g,cap,cur,q1,q2,q3,-⟩
   ·rw[h']at h0;simp[Value.ownBlock]at h0
   ·rw[q1]at h0;simp only[Value.ownBlock,Qi]at h0;subst h0;exact⟨_,_,_,q3,.inl rfl⟩
  ·exact h.tyM b h0
 ·obtain⟨x,bJ,aE⟩:=QO.1 hx;have:=g4 x bJ b aE;have:=(hO.2 b hb).1;omega
theorem TokTy.app {fp fp':List Nat}(h:TokTy w fp)(h':TokTy w fp'):TokTy w (fp++fp'):=λb hb=>by
 rcases Qa hb with hb | hb
 ·exact h b hb
 ·exact h' b hb
theorem ZdY {α:Type}(A:List (Elem α))(x:Elem α):(A++[x]).flatMap (·.fp)=A.flatMap (·.fp)++x.fp:=by rw[Qo];simp
theorem DivSt.next {va':Value}(h:DivSt B va u A M w){fp:List Nat}(h1:sToks.R w [u] (M.map (·.d)) fp)(h2:Own w B fp)(h3:TokTy w fp)(h4:∀b∈fp,b∉A.flatMap (·.fp))(hB:B<=w.heap.size)
  (ai:w'.ownsRow B 24 1 va' (A.length+1+1) (A.flatMap (·.cells)++[u]++[.slice none 0 0])) (hg:w.grownBy w' va.ownBlock):DivSt B va' (.slice none 0 0) (A++[⟨[u],M.map (·.d),fp⟩]) [] w':=by
 have hA:∀b∈A.flatMap (·.fp),w'.heap[b]?=w.heap[b]?:=λb hb=>hg.block b (h.ownA.lt b hb) (h.rowne h.tyA b hb);have hF:∀b∈fp,w'.heap[b]?=w.heap[b]?:=λb hb=>hg.block b (h2.lt b hb) (h.rowne h3 b hb);have hO:Own w B (A.flatMap (·.fp)++fp):=h.ownA.app h2 λb hb hx=>h4 b hx hb;refine⟨?_,λx hx=>?_,λx hx=>?_,⟨w'.heap.size,RowE.nil _ _ _ _,QZ hB hg.size,QA _,λx hx b hb=>?_⟩,⟨?_,λb hb=>?_⟩,Own.nil _ _,?_,(show TokTy w' [] from λb hb=>by simp at hb)⟩
 ·rw[QC,Qo];simpa using ai
 ·rcases Qa hx with hx | hx
  ·exact h.len x hx
  ·obtain rfl:=Qm hx;rfl
 ·rcases Qa hx with hx | hx
  ·exact sToks.frame (λb hb=>hA b (QO.2 ⟨x,hx,hb⟩)) (h.el x hx)
  ·obtain rfl:=Qm hx;exact sToks.frame hF h1
 ·have:b<w.heap.size:=by
   rcases Qa hx with hx | hx
   ·exact sToks.lt (h.el x hx) b hb
   ·obtain rfl:=Qm hx;exact sToks.lt h1 b hb
  exact QW this hg.size
 ·rw[ZdY];exact hO.1
 ·rw[ZdY]at hb;obtain⟨q1,cur,e,q2⟩:=hO.2 b hb;refine⟨q1,cur,e,?_⟩;rcases Qa hb with hb | hb
  ·exact(hA b hb).trans q2
  ·exact(hF b hb).trans q2
 ·rw[ZdY];exact(h.tyA.app h3).same λb hb _=>by
   rcases Qa hb with hb | hb
   ·exact hA b hb
   ·exact hF b hb
theorem DivSt.more {g n cap top:Nat}{u':Value}{x:Elem Tok}(h:DivSt B (.slice (some ⟨g,0,none⟩) n cap) u A M w)(g1:RowE sTok top 32 u M w)(g2:B<=top)(g3:top<=w.heap.size)(g4:∀x∈A,∀b∈x.fp,b<top)
  (bZ:Own w top x.fp) (dp:∀b∈x.fp,∃cur t fr,w.heap[b]?=some (.cells cur t fr)/\t=9) (d8:∀b∈x.fp,b∉M.flatMap (·.fp))
  (hG:RowE sTok top 32 u' (M++[x]) w') (hg:w.grownBy w' u.ownBlock):DivSt B (.slice (some ⟨g,0,none⟩) n cap) u' A (M++[x]) (w'.setCell ⟨g,A.length,none⟩ u'):=by
 have hn:A.length+1=n:=by
  rcases h.row.2 with⟨h',_⟩ | ⟨g',dF,cur,h',_⟩
  ·cases h'
  ·simp only[QT]at h';exact h'.2.1.symm
 have hgl:g<w.heap.size:=(h.row.lt g rfl).2;have hgu:some g≠u.ownBlock:=λe=>by
  rcases ZfF h.row g1.row (by decide) with h0 | h0
  ·cases h0
  ·exact h0 (by rw[←e];rfl)
 have zh:∀b∈A.flatMap (·.fp),w'.heap[b]?=w.heap[b]?:=λb hb=>hg.block b (h.ownA.lt b hb) λe=>by
  obtain⟨y,hy,aE⟩:=QO.1 hb;have:=g4 y hy b aE;have:=g1.mine b e.symm;omega
 have hM1:∀b∈M.flatMap (·.fp),w'.heap[b]?=w.heap[b]?:=λb hb=>hg.block b (h.ownM.lt b hb) λe=>by
  obtain⟨y,hy,aE⟩:=QO.1 hb;exact g1.ap hy aE e.symm
 have hX1:∀b∈x.fp,w'.heap[b]?=w.heap[b]?:=λb hb=>hg.block b (bZ.lt b hb) λe=>by
  obtain⟨cur,t,fr,q1,q2⟩:=dp b hb;rcases g1.row.2 with⟨h',_⟩ | ⟨g',dF,qb,h',_,mz,_⟩
  ·rw[h']at e;simp[Value.ownBlock]at e
  ·rw[h']at e;simp only[Value.ownBlock,Qi]at e;subst e;rw[q1]at mz;simp only[Qi,Obj.cells.injEq]at mz;exact absurd (q2.symm.trans mz.2.1) (by decide)
 have hTX:TokTy w x.fp:=λb hb=>by obtain⟨cur,t,fr,q1,q2⟩:=dp b hb;exact⟨cur,t,fr,q1,.inr q2⟩
 have cD:∀fp,TokTy w fp->∀b∈fp,b≠g:=λfp ht b hb e=>h.rowne ht b hb (by rw[e];rfl);have jj:∀b,b≠g->(w'.setCell ⟨g,A.length,none⟩ u').heap[b]?=w'.heap[b]?:=λb hb=>QV _ _ _ _ hb;have hgb:w'.heap[g]?=w.heap[g]?:=hg.block g hgl hgu;have vK:w'.ownsRow B 24 1 (.slice (some ⟨g,0,none⟩) n cap) n (A.flatMap (·.cells)++[u]):=by
  have:=ZbR (w':=w') h.row λg' mz=>by
   simp only[Value.ownBlock,Qi]at mz;subst mz;exact hgb
  rwa [hn]at this
 have hOM:Own w B (M.flatMap (·.fp)++x.fp):=h.ownM.app (bZ.lower g2) λb hb hx=>d8 b hx hb;have hug:∀b,u'.ownBlock=some b->b≠g:=λb hb e=>by
  subst e;rcases ZfF vK hG.row (by decide) with h0 | h0
  ·cases h0
  ·exact h0 (by rw[hb];rfl)
 refine⟨?_,h.len,λy hy=>?_,⟨top,?_,g2,by rw[Zgd];exact QZ g3 hg.size,g4⟩,⟨h.ownA.1,λb hb=>?_⟩,⟨by rw[ZdY];exact hOM.1,λb hb=>?_⟩,?_,?_⟩
 ·have:=(vK.stored A.length u').1;rw[List.set_append_right _ _ (by rw[h.flen];omega),h.flen,Nat.sub_self]at this;rw[hn];exact this
 ·refine sToks.frame (λb hb=>?_) (h.el y hy);have hm:b∈A.flatMap (·.fp):=QO.2 ⟨y,hy,hb⟩;exact(jj b (cD _ h.tyA b hm)).trans (zh b hm)
 ·refine hG.same2 (λb hb=>jj b (hug b hb)) (λy hy b hb=>jj b ?_);rcases Qa hy with hy | hy
  ·exact cD _ h.tyM b (QO.2 ⟨y,hy,hb⟩)
  ·obtain rfl:=Qm hy;exact cD _ hTX b hb
 ·obtain⟨q1,cur,e,q2⟩:=h.ownA.2 b hb;exact⟨q1,cur,e,((jj b (cD _ h.tyA b hb)).trans (zh b hb)).trans q2⟩
 ·rw[ZdY]at hb;obtain⟨q1,cur,e,q2⟩:=hOM.2 b hb;refine⟨q1,cur,e,?_⟩;rcases Qa hb with hb | hb
  ·exact((jj b (cD _ h.tyM b hb)).trans (hM1 b hb)).trans q2
  ·exact((jj b (cD _ hTX b hb)).trans (hX1 b hb)).trans q2
 ·exact h.tyA.same λb hb _=>(jj b (cD _ h.tyA b hb)).trans (zh b hb)
 ·rw[ZdY];exact(h.tyM.app hTX).same λb hb _=>by
   rcases Qa hb with hb | hb
   ·exact(jj b (cD _ h.tyM b hb)).trans (hM1 b hb)
   ·exact(jj b (cD _ hTX b hb)).trans (hX1 b hb)
theorem DivSt.done (h:DivSt B va u A M w):∃fp,(Zaa sToks).R w [va] (A.map (·.d)++[M.map (·.d)]) fp/\Own w B fp:=by
 obtain⟨BP,h1,h2,h3,h4⟩:=h.arg;have hO:Own w B ((A++[(⟨[u],M.map (·.d),BP⟩:Elem (List Tok))]).flatMap (·.fp)):=by rw[ZdY];exact h.ownA.app h2 λb hb hx=>h4 b hx hb
 have hT:TokTy w ((A++[(⟨[u],M.map (·.d),BP⟩:Elem (List Tok))]).flatMap (·.fp)):=by rw[ZdY];exact h.tyA.app h3
 obtain⟨fp,r1,-,r3⟩:=Zbt (S:=sToks) (w:=w) (base:=B) (e:=24) (v:=va) (L:=A++[⟨[u],M.map (·.d),BP⟩]) (by
  rw[QC,Qo];change w.ownsRow B 24 1 va _ _;simpa using h.row) (λx hx=>by
  rcases Qa hx with hx | hx
  ·exact⟨h.len x hx,h.el x hx⟩
  ·obtain rfl:=Qm hx;exact⟨rfl,h1⟩)
 refine⟨fp,by rw[QG]at r1;exact r1,r3 hO λg hg hm=>?_⟩;exact h.rowne hT g hm hg.symm
end
variable {l:List Tok}
theorem Zq5 {k:Nat}(hk:k<l.length)(d:Int)(A:Zbe)(M:List Tok):
  Zei (l.drop k) d A M=if d=0/\ZfA l[k]=true then Zei (l.drop (k+1)) d (A++[M]) [] else Zei (l.drop (k+1)) (d+opn l[k]) A (M++[l[k]]):=by
 rw[Qj hk];rfl
theorem dvGo_end {k:Nat}(hk:l.length<=k)(d:Int)(A:Zbe)(M:List Tok):Zei (l.drop k) d A M=A++[M]:=by rw[List.drop_of_length_le hk];rfl
variable {g:Prop}
theorem Y19A1 (h:g:=by
 go_wp2_with fail
 refine(kw.out _ bW).mono ?_;rintro e w2⟨rfl,g2⟩;have dA:=bW.trans (g2.mono bW.size);have cJ:=Qh ((g2.block _ (Qg iY.out).1).trans iY.out);have oP:=Qh (lm.out.below g2);have aF:=aD.trans (g2.mono aD.size);have jJ:(0:Int)<=(A.length:Int):=by omega
 have kc:(A.length:Int)<(A.length:Int)+1:=by omega
 have hgs2:=dA.size;clear dg dL dh ew kw lm iY aD bW g2 hb;go_wp2_with fail
 refine wp_region_noPanic ?_;refine JU (S:=λw'=>w'.heap[wr.heap.size]?=some (.cells #[.int .i64 l[k].kind,.string l[k].text,.bool l[k].spaced,.slice ah l[k].hidden.length ch] 32 (0,0))) (by kernel_rfl) (by exact cJ.out) (λac=>?_);have hdr:Below w2.heap.size w2 w2.drew:=Zah (QD _ _) 1;have HSd:=Qh (oP.out.below hdr);have dj:=aF.trans (hdr.mono aF.size);have sf:=dA.trans (hdr.mono dA.size);have hwd:=sf.size;obtain⟨top,t1,t2,t3,t4⟩:=HSd.out.inn;have dB:=Qh t1;have HTOP:=Qh t4;clear t1 t4;clear oP cJ hdr;generalize w2.drew=wd at *;refine Qt 0 32 rfl rfl ?_ (by intro w aI;obtain⟨s0,s1,s2,s3⟩:=Q4 aI;go_simp;(first | done | with_reducible rfl | rfl));try simp only[Qp]
 refine Qt 1 33 rfl rfl ?_ (by intro w aI;obtain⟨s0,s1,s2,s3⟩:=Q4 aI;go_simp;(first | done | with_reducible rfl | rfl));try simp only[Qp]
 refine Qt 2 34 rfl rfl ?_ (by intro w aI;obtain⟨s0,s1,s2,s3⟩:=Q4 aI;go_simp;(first | done | with_reducible rfl | rfl));try simp only[Qp]
 refine Qt 3 35 rfl rfl ?_ (by intro w aI;obtain⟨s0,s1,s2,s3⟩:=Q4 aI;go_simp;(first | done | with_reducible rfl | rfl));try simp only[Qp]
 refine Qt 4 36 rfl rfl ?_ (by intro w aI;obtain⟨s0,s1,s2,s3⟩:=Q4 aI;go_simp;(first | done | with_reducible rfl | rfl));try simp only[Qp]
 refine Qt 6 38 rfl rfl ?_ (by intro w aI;obtain⟨s0,s1,s2,s3⟩:=Q4 aI;go_simp;(first | done | with_reducible rfl | rfl));try simp only[Qp]
 refine wpAnyH_ready (rs:=[5,7]) (by decide +kernel) (by simp) ?_;refine JP rfl (λK hK=>?_) ?_
 ·have aJ:=HSd.out.cell;go_simp;refine hK.out _ _ ac (λac=>?_);clear hK K;try simp only[Qp]
  refine Qr 7 rfl (λK hK=>?_) (by decide +kernel);go_simp;refine(uF.out _ sf).mono ?_;rintro e w4⟨ao,c2,bv,rfl,R2,O2,T2,aM⟩;have iM:=Qh (HSd.out.below aM);have hb4t:=dj.trans (aM.mono dj.size);have Ab:=aM.size;have HTE:=Qh (dB.out.below aM);have lu:=Qh (And.intro R2 (And.intro O2 T2));clear R2 O2 T2;refine hK.out _ _ ((aM.block _ (Qg ac).1).trans ac) (λac=>?_);clear hK K;try simp only[Qp]
  refine Qr 8 rfl (λK hK=>?_) (by decide +kernel);have bl:=Zab w4 (.cells #[.int .i64 l[k].kind,.string l[k].text,.bool l[k].spaced,.slice ao l[k].hidden.length c2] 32);have fW:=Qh (JS w4 (.cells #[.int .i64 l[k].kind,.string l[k].text,.bool l[k].spaced,.slice ao l[k].hidden.length c2] 32));have fG:=Qh (iM.out.below bl);have gh:=Qh (HTE.out.below bl);have hb5t:=hb4t.trans (bl.mono hb4t.size);have yS:(w4.alloc (.cells #[.int .i64 l[k].kind,.string l[k].text,.bool l[k].spaced,.slice ao l[k].hidden.length c2] 32)).heap.size=w4.heap.size+1:=QR _;have eA:=Qh (And.intro (sTok.below lu.out.1 bl) (And.intro (lu.out.2.1.grow bl) (show ∀b∈bv,∃cur t fr,(w4.alloc (.cells #[.int .i64 l[k].kind,.string l[k].text,.bool l[k].spaced,.slice ao l[k].hidden.length c2] 32)).heap[b]?=some (.cells cur t fr)/\t=9 from λb hb=>by obtain⟨cur,t,fr,z1,z2⟩:=lu.out.2.2 b hb;exact⟨cur,t,fr,(bl.block b (Qg z1).1).trans z1,z2⟩)));have hH5:=(bl.block _ (Qg ac).1).trans ac;go_simp;refine hK.out _ _ hH5 (λac=>?_);clear hK K bl;try simp only[Qp]
  generalize hw5:(w4.alloc (.cells #[.int .i64 l[k].kind,.string l[k].text,.bool l[k].spaced,.slice ao l[k].hidden.length c2] 32))=w5 at *;clear hw5;refine Qr 9 rfl (λK hK=>?_) (by decide +kernel);refine ZeB (X:=[(⟨[.int .i64 l[k].kind,.string l[k].text,.bool l[k].spaced,.slice ao l[k].hidden.length c2],l[k],bv⟩:Elem Tok)]) ti_tok rfl (by decide) _ 41 rfl rfl (.tmp 37) (.tmp 40) rfl top (.slice au M.length cu) rfl gh.out w4.heap.size 1 1 rfl rfl (λx hx=>by obtain rfl:=Qm hx;rfl) (λx hx=>by obtain rfl:=Qm hx;simp[Value.oneCell']) (λj u hj=>by rw[cell_of_row _ _ _ _ _ _ fW.out];simpa using hj) (λx hx=>by obtain rfl:=Qm hx;exact eA.out.1) (λx hx b hb=>by obtain rfl:=Qm hx;have:=(eA.out.2.1.2 b hb).1;omega) (λx hx b hb=>by obtain rfl:=Qm hx;obtain⟨cur,t,fr,z1,z2⟩:=eA.out.2.2 b hb;exact⟨cur,t,fr,z1,by rw[z2];decide⟩) (by unfold maxLen;omega) (by omega) (by omega) ?_;intro v6 w6 kS d9;have HN:=Qh (fG.out.more (x:=⟨[.int .i64 l[k].kind,.string l[k].text,.bool l[k].spaced,.slice ao l[k].hidden.length c2],l[k],bv⟩) gh.out t2 (by omega) HTOP.out (eA.out.2.1.lower (by omega)) eA.out.2.2 (λb hb hx=>by have h1:=(eA.out.2.1.2 b hb).1;have h2:=yi.out b hx;omega) kS d9);have bq:=hb5t.grown d9 hb5t.size fG.out.umine;have hH6:=(d9.block _ (Qg ac).1 (λe=>by have:=yj.out _ e.symm;omega)).trans ac;have hcell6:w6.cell? ⟨ga,A.length,none⟩=some (.slice au M.length cu):=(Qu (d9.block ga (by have:=hb5t.size;omega) (λe=>by rcases ZfF fG.out.row gh.out.row (by decide) with h0 | h0;cases h0;exact h0 (by rw[←e];rfl)))).trans fG.out.cell;have hfr6:w6.frozen? ⟨ga,A.length,none⟩=false:=(World.frozen?_of_block (d9.block ga (by have:=hb5t.size;omega) (λe=>by rcases ZfF fG.out.row gh.out.row (by decide) with h0 | h0;cases h0;exact h0 (by rw[←e];rfl)))).trans (fG.out.frozen _);obtain⟨a6,c6,rfl,-⟩:=kS.val;clear kS d9;refine hK.out _ _ hH6 (λac=>?_);clear hK K;try simp only[Qp]
  refine Qt 10 42 rfl rfl ?_ (by intro w aI;obtain⟨s0,s1,s2,s3⟩:=Q4 aI;go_simp;(first | done | with_reducible rfl | rfl));try simp only[Qp]
  refine Qr 11 rfl (λK hK=>?_) (by decide +kernel);have hbne:wr.heap.size≠ga:=by omega
  have db:=bq.setCell (p:=⟨ga,A.length,none⟩) (by show w.heap.size<=ga;omega) (.slice a6 (M++[(⟨[.int .i64 l[k].kind,.string l[k].text,.bool l[k].spaced,.slice ao l[k].hidden.length c2],l[k],bv⟩:Elem Tok)]).length c6);have hH7:=ZaK ac hbne A.length (.slice a6 (M++[(⟨[.int .i64 l[k].kind,.string l[k].text,.bool l[k].spaced,.slice ao l[k].hidden.length c2],l[k],bv⟩:Elem Tok)]).length c6);simp only[QC,QQ,JO,QX]at db hH7 HN ⊢;go_simp;refine hK.out _ _ hH7 (λac=>?_);clear hK K;try simp only[Qp]
  refine wpAnyH_done (by kernel_rfl) ?_ _;refine QP ?_;clear ac;go_wp2;go_roundw;case rel=>exact⟨k+1,_,_,A,M++[(⟨[.int .i64 l[k].kind,.string l[k].text,.bool l[k].spaced,.slice ao l[k].hidden.length c2],l[k],bv⟩:Elem Tok)],by omega,by go_num,rfl,by omega,by omega,by omega,by simp;omega,HN,by show _=_;rw[←HF.out,QG];rfl,db⟩
  case measure=>simp[intOf];omega
 refine JP rfl (λK hK=>?_) AllReadyH.nil;go_simp;refine(uF.out _ sf).mono ?_;rintro e w4⟨ao,c2,bv,rfl,R2,O2,T2,aM⟩;have iM:=Qh (HSd.out.below aM);have hb4t:=dj.trans (aM.mono dj.size);have Ab:=aM.size;have HTE:=Qh (dB.out.below aM);have lu:=Qh (And.intro R2 (And.intro O2 T2));clear R2 O2 T2;refine hK.out _ _ ((aM.block _ (Qg ac).1).trans ac) (λac=>?_);clear hK K;try simp only[Qp]
 refine wpAnyH_ready (rs:=[5,8]) (by decide +kernel) (by simp) ?_;refine JP rfl (λK hK=>?_) ?_
 ·have aJ:=iM.out.cell;go_simp;refine hK.out _ _ ac (λac=>?_);clear hK K;try simp only[Qp]
  refine Qr 8 rfl (λK hK=>?_) (by decide +kernel);have bl:=Zab w4 (.cells #[.int .i64 l[k].kind,.string l[k].text,.bool l[k].spaced,.slice ao l[k].hidden.length c2] 32);have fW:=Qh (JS w4 (.cells #[.int .i64 l[k].kind,.string l[k].text,.bool l[k].spaced,.slice ao l[k].hidden.length c2] 32));have fG:=Qh (iM.out.below bl);have gh:=Qh (HTE.out.below bl);have hb5t:=hb4t.trans (bl.mono hb4t.size);have yS:(w4.alloc (.cells #[.int .i64 l[k].kind,.string l[k].text,.bool l[k].spaced,.slice ao l[k].hidden.length c2] 32)).heap.size=w4.heap.size+1:=QR _;have eA:=Qh (And.intro (sTok.below lu.out.1 bl) (And.intro (lu.out.2.1.grow bl) (show ∀b∈bv,∃cur t fr,(w4.alloc (.cells #[.int .i64 l[k].kind,.string l[k].text,.bool l[k].spaced,.slice ao l[k].hidden.length c2] 32)).heap[b]?=some (.cells cur t fr)/\t=9 from λb hb=>by obtain⟨cur,t,fr,z1,z2⟩:=lu.out.2.2 b hb;exact⟨cur,t,fr,(bl.block b (Qg z1).1).trans z1,z2⟩)));have hH5:=(bl.block _ (Qg ac).1).trans ac;go_simp;refine hK.out _ _ hH5 (λac=>?_);clear hK K bl;try simp only[Qp]
  generalize hw5:(w4.alloc (.cells #[.int .i64 l[k].kind,.string l[k].text,.bool l[k].spaced,.slice ao l[k].hidden.length c2] 32))=w5 at *;clear hw5;refine Qr 9 rfl (λK hK=>?_) (by decide +kernel);refine ZeB (X:=[(⟨[.int .i64 l[k].kind,.string l[k].text,.bool l[k].spaced,.slice ao l[k].hidden.length c2],l[k],bv⟩:Elem Tok)]) ti_tok rfl (by decide) _ 41 rfl rfl (.tmp 37) (.tmp 40) rfl top (.slice au M.length cu) rfl gh.out w4.heap.size 1 1 rfl rfl (λx hx=>by obtain rfl:=Qm hx;rfl) (λx hx=>by obtain rfl:=Qm hx;simp[Value.oneCell']) (λj u hj=>by rw[cell_of_row _ _ _ _ _ _ fW.out];simpa using hj) (λx hx=>by obtain rfl:=Qm hx;exact eA.out.1) (λx hx b hb=>by obtain rfl:=Qm hx;have:=(eA.out.2.1.2 b hb).1;omega) (λx hx b hb=>by obtain rfl:=Qm hx;obtain⟨cur,t,fr,z1,z2⟩:=eA.out.2.2 b hb;exact⟨cur,t,fr,z1,by rw[z2];decide⟩) (by unfold maxLen;omega) (by omega) (by omega) ?_;intro v6 w6 kS d9;have HN:=Qh (fG.out.more (x:=⟨[.int .i64 l[k].kind,.string l[k].text,.bool l[k].spaced,.slice ao l[k].hidden.length c2],l[k],bv⟩) gh.out t2 (by omega) HTOP.out (eA.out.2.1.lower (by omega)) eA.out.2.2 (λb hb hx=>by have h1:=(eA.out.2.1.2 b hb).1;have h2:=yi.out b hx;omega) kS d9);have bq:=hb5t.grown d9 hb5t.size fG.out.umine;have hH6:=(d9.block _ (Qg ac).1 (λe=>by have:=yj.out _ e.symm;omega)).trans ac;have hcell6:w6.cell? ⟨ga,A.length,none⟩=some (.slice au M.length cu):=(Qu (d9.block ga (by have:=hb5t.size;omega) (λe=>by rcases ZfF fG.out.row gh.out.row (by decide) with h0 | h0;cases h0;exact h0 (by rw[←e];rfl)))).trans fG.out.cell;have hfr6:w6.frozen? ⟨ga,A.length,none⟩=false:=(World.frozen?_of_block (d9.block ga (by have:=hb5t.size;omega) (λe=>by rcases ZfF fG.out.row gh.out.row (by decide) with h0 | h0;cases h0;exact h0 (by rw[←e];rfl)))).trans (fG.out.frozen _);obtain⟨a6,c6,rfl,-⟩:=kS.val;clear kS d9;refine hK.out _ _ hH6 (λac=>?_);clear hK K;try simp only[Qp]
  refine Qt 10 42 rfl rfl ?_ (by intro w aI;obtain⟨s0,s1,s2,s3⟩:=Q4 aI;go_simp;(first | done | with_reducible rfl | rfl));try simp only[Qp]
  refine Qr 11 rfl (λK hK=>?_) (by decide +kernel);have hbne:wr.heap.size≠ga:=by omega
  have db:=bq.setCell (p:=⟨ga,A.length,none⟩) (by show w.heap.size<=ga;omega) (.slice a6 (M++[(⟨[.int .i64 l[k].kind,.string l[k].text,.bool l[k].spaced,.slice ao l[k].hidden.length c2],l[k],bv⟩:Elem Tok)]).length c6);have hH7:=ZaK ac hbne A.length (.slice a6 (M++[(⟨[.int .i64 l[k].kind,.string l[k].text,.bool l[k].spaced,.slice ao l[k].hidden.length c2],l[k],bv⟩:Elem Tok)]).length c6);simp only[QC,QQ,JO,QX]at db hH7 HN ⊢;go_simp;refine hK.out _ _ hH7 (λac=>?_);clear hK K;try simp only[Qp]
  refine wpAnyH_done (by kernel_rfl) ?_ _;refine QP ?_;clear ac;go_wp2;go_roundw;case rel=>exact⟨k+1,_,_,A,M++[(⟨[.int .i64 l[k].kind,.string l[k].text,.bool l[k].spaced,.slice ao l[k].hidden.length c2],l[k],bv⟩:Elem Tok)],by omega,by go_num,rfl,by omega,by omega,by omega,by simp;omega,HN,by show _=_;rw[←HF.out,QG];rfl,db⟩
  case measure=>simp[intOf];omega
 refine JP rfl (λK hK=>?_) AllReadyH.nil;have bl:=Zab w4 (.cells #[.int .i64 l[k].kind,.string l[k].text,.bool l[k].spaced,.slice ao l[k].hidden.length c2] 32);have fW:=Qh (JS w4 (.cells #[.int .i64 l[k].kind,.string l[k].text,.bool l[k].spaced,.slice ao l[k].hidden.length c2] 32));have fG:=Qh (iM.out.below bl);have gh:=Qh (HTE.out.below bl);have hb5t:=hb4t.trans (bl.mono hb4t.size);have yS:(w4.alloc (.cells #[.int .i64 l[k].kind,.string l[k].text,.bool l[k].spaced,.slice ao l[k].hidden.length c2] 32)).heap.size=w4.heap.size+1:=QR _;have eA:=Qh (And.intro (sTok.below lu.out.1 bl) (And.intro (lu.out.2.1.grow bl) (show ∀b∈bv,∃cur t fr,(w4.alloc (.cells #[.int .i64 l[k].kind,.string l[k].text,.bool l[k].spaced,.slice ao l[k].hidden.length c2] 32)).heap[b]?=some (.cells cur t fr)/\t=9 from λb hb=>by obtain⟨cur,t,fr,z1,z2⟩:=lu.out.2.2 b hb;exact⟨cur,t,fr,(bl.block b (Qg z1).1).trans z1,z2⟩)));have hH5:=(bl.block _ (Qg ac).1).trans ac;go_simp;refine hK.out _ _ hH5 (λac=>?_);clear hK K bl;try simp only[Qp]
 generalize hw5:(w4.alloc (.cells #[.int .i64 l[k].kind,.string l[k].text,.bool l[k].spaced,.slice ao l[k].hidden.length c2] 32))=w5 at *;clear hw5;refine Qr 5 rfl (λK hK=>?_) (by decide +kernel);have aJ:=fG.out.cell;go_simp;refine hK.out _ _ ac (λac=>?_);clear hK K;try simp only[Qp]
 refine Qr 9 rfl (λK hK=>?_) (by decide +kernel);refine ZeB (X:=[(⟨[.int .i64 l[k].kind,.string l[k].text,.bool l[k].spaced,.slice ao l[k].hidden.length c2],l[k],bv⟩:Elem Tok)]) ti_tok rfl (by decide) _ 41 rfl rfl (.tmp 37) (.tmp 40) rfl top (.slice au M.length cu) rfl gh.out w4.heap.size 1 1 rfl rfl (λx hx=>by obtain rfl:=Qm hx;rfl) (λx hx=>by obtain rfl:=Qm hx;simp[Value.oneCell']) (λj u hj=>by rw[cell_of_row _ _ _ _ _ _ fW.out];simpa using hj) (λx hx=>by obtain rfl:=Qm hx;exact eA.out.1) (λx hx b hb=>by obtain rfl:=Qm hx;have:=(eA.out.2.1.2 b hb).1;omega) (λx hx b hb=>by obtain rfl:=Qm hx;obtain⟨cur,t,fr,z1,z2⟩:=eA.out.2.2 b hb;exact⟨cur,t,fr,z1,by rw[z2];decide⟩) (by unfold maxLen;omega) (by omega) (by omega) ?_;intro v6 w6 kS d9;have HN:=Qh (fG.out.more (x:=⟨[.int .i64 l[k].kind,.string l[k].text,.bool l[k].spaced,.slice ao l[k].hidden.length c2],l[k],bv⟩) gh.out t2 (by omega) HTOP.out (eA.out.2.1.lower (by omega)) eA.out.2.2 (λb hb hx=>by have h1:=(eA.out.2.1.2 b hb).1;have h2:=yi.out b hx;omega) kS d9);have bq:=hb5t.grown d9 hb5t.size fG.out.umine;have hH6:=(d9.block _ (Qg ac).1 (λe=>by have:=yj.out _ e.symm;omega)).trans ac;have hcell6:w6.cell? ⟨ga,A.length,none⟩=some (.slice au M.length cu):=(Qu (d9.block ga (by have:=hb5t.size;omega) (λe=>by rcases ZfF fG.out.row gh.out.row (by decide) with h0 | h0;cases h0;exact h0 (by rw[←e];rfl)))).trans fG.out.cell;have hfr6:w6.frozen? ⟨ga,A.length,none⟩=false:=(World.frozen?_of_block (d9.block ga (by have:=hb5t.size;omega) (λe=>by rcases ZfF fG.out.row gh.out.row (by decide) with h0 | h0;cases h0;exact h0 (by rw[←e];rfl)))).trans (fG.out.frozen _);obtain⟨a6,c6,rfl,-⟩:=kS.val;clear kS d9;refine hK.out _ _ hH6 (λac=>?_);clear hK K;try simp only[Qp]
 refine Qt 10 42 rfl rfl ?_ (by intro w aI;obtain⟨s0,s1,s2,s3⟩:=Q4 aI;go_simp;(first | done | with_reducible rfl | rfl));try simp only[Qp]
 refine Qr 11 rfl (λK hK=>?_) (by decide +kernel);have hbne:wr.heap.size≠ga:=by omega
 have db:=bq.setCell (p:=⟨ga,A.length,none⟩) (by show w.heap.size<=ga;omega) (.slice a6 (M++[(⟨[.int .i64 l[k].kind,.string l[k].text,.bool l[k].spaced,.slice ao l[k].hidden.length c2],l[k],bv⟩:Elem Tok)]).length c6);have hH7:=ZaK ac hbne A.length (.slice a6 (M++[(⟨[.int .i64 l[k].kind,.string l[k].text,.bool l[k].spaced,.slice ao l[k].hidden.length c2],l[k],bv⟩:Elem Tok)]).length c6);simp only[QC,QQ,JO,QX]at db hH7 HN ⊢;go_simp;refine hK.out _ _ hH7 (λac=>?_);clear hK K;try simp only[Qp]
 refine wpAnyH_done (by kernel_rfl) ?_ _;refine QP ?_;clear ac;go_wp2;go_roundw;case rel=>exact⟨k+1,_,_,A,M++[(⟨[.int .i64 l[k].kind,.string l[k].text,.bool l[k].spaced,.slice ao l[k].hidden.length c2],l[k],bv⟩:Elem Tok)],by omega,by go_num,rfl,by omega,by omega,by omega,by simp;omega,HN,by show _=_;rw[←HF.out,QG];rfl,db⟩
 case measure=>simp[intOf];omega):g:=h
theorem ZhP (v:Value)(l:List Tok)(fp:List Nat)(w:World)(hl:l.length<=60)(hx:∀k,(hk:k<l.length)->l[k].hidden.length<=2000000)(H:(Zaa sTok).R w [v] l fp):
  Calls Tryz.prog 137 #[v] w λe w'=>∃v' fp',e=.returned v'/\(Zaa sToks).R w' [v'] (Zei l 0 [] []) fp'/\Own w' w.heap.size fp'/\Below w.heap.size w w':=by
 obtain⟨a,cap,rfl,hc,hm,ai⟩:=Zac H;unfold maxLen at hm;clear H;have HX:=Qh hx;clear hx;obtain⟨r,HR⟩:∃r,Hid (r=Zei l 0 [] []):=⟨_,rfl⟩;rw[←HR.out];go_enter Tryz.func137,Tryz.ntmps137;go_wp2_with (at_make;refine ZmF Zf4 _ rfl _ _ rfl w.heap.size 1 rfl rfl (by omega) (by unfold maxLen;omega) (QA _) ?_;intro w1 ag aX)
 have bL:=(QD w.heap.size w).grown aX (QA _) (by simp);rw[show(madeCells (Value.slice none 0 0).cells (1*1)).toList=[.slice none 0 0] by kernel_rfl]at ag;have vD:Hid (DivSt w.heap.size (.slice (some ⟨w.heap.size,0,none⟩) 1 1) (.slice none 0 0) [] [] w1):=
  ⟨ag,by simp,by simp,⟨w1.heap.size,RowE.nil _ _ _ _,aX.size,QA _,by simp⟩,Own.nil _ _,Own.nil _ _,(show TokTy w1 [] from λb hb=>by simp at hb),(show TokTy w1 [] from λb hb=>by simp at hb)⟩
 clear aX ag;go_loopw [3,4,11] (λva d i wr=>∃(k:Nat) (dd:Int) (u:Value) (A:List (Elem (List Tok))) (M:List (Elem Tok)),k<=l.length/\i=.int .i64 k/\d=.int .i64 dd/\-(k:Int)<=dd/\dd<=k/\A.length<=k/\M.length<=k/\Hid (DivSt w.heap.size va u A M wr)/\Hid (Zei (l.drop k) dd (A.map (·.d)) (M.map (·.d))=r)/\Below w.heap.size w wr) (λ_ _ i _=>l.length-(intOf i).toNat)
 case atStart=>exact⟨0,0,_,[],[],by omega,rfl,rfl,by omega,by omega,by simp,by simp,vD,HR.out.symm,bL⟩
 case round =>
  clear vD bL HR;obtain⟨k,dd,u,A,M,hk,rfl,rfl,ta,jD,hAk,hMk,HS,HI,hb⟩:=hrel;obtain⟨ga,ca,rfl,hga,hgs,m7,gL⟩:=HS.out.val;unfold maxLen at gL;obtain⟨au,cu,rfl⟩:=HS.out.uval;by_cases af:k<l.length
  ·obtain⟨b1,ae,dt,rfl,aG,-,bj⟩:=ai (by omega);obtain⟨lA,bf,bR⟩:=bj k af;clear ai bj;have bN:=sTok.below bR hb;obtain⟨h1',rfl,_,_,iE⟩:=bR;obtain⟨ah,ch,rfl,-⟩:=Zaf iE;clear iE;replace bf:=bf.frame (hb.block b1 aG);have dg:wr.cell? ⟨b1,ae+k*4,none⟩=some _:=ZaB bf (by decide) rfl;have dL:wr.cell? ⟨b1,ae+k*4+1,none⟩=some _:=Zae (j:=1) bf (by decide) rfl;have dh:wr.cell? ⟨b1,ae+k*4+2,none⟩=some _:=Zae (j:=2) bf (by decide) rfl;have ew:wr.cell? ⟨b1,ae+k*4+3,none⟩=some _:=Zae (j:=3) bf (by decide) rfl;clear bf;have bW:=Zab wr (.cells #[.int .i64 l[k].kind,.string l[k].text,.bool l[k].spaced,.slice ah l[k].hidden.length ch] 32);have iY:=Qh (JS wr (.cells #[.int .i64 l[k].kind,.string l[k].text,.bool l[k].spaced,.slice ah l[k].hidden.length ch] 32));have lm:=Qh (HS.out.below bW);have sL:=Qh bN;have aD:=hb.trans (bW.mono hb.size);have kh:=HI.out;rw[Zq5 af]at kh;have cC:(wr.alloc (.cells #[.int .i64 l[k].kind,.string l[k].text,.bool l[k].spaced,.slice ah l[k].hidden.length ch] 32)).heap.size=wr.heap.size+1:=QR _;have HUL:=Qh HS.out.ult;have HML:=Qh HS.out.ownM.lt;clear bN HI HS;by_cases ig:dd=0/\ZfA l[k]=true
   ·rw[if_pos ig]at kh;obtain⟨gO,BQ⟩:=ig;have e0:(dd==0)=true:=(by simpa using gO);have e1:(l[k].text.toList==[44])=true:=BQ;have HF:=Qh kh;obtain⟨BP,q1,q2,q3,q4⟩:=lm.out.arg;have HQ:=Qh (And.intro q1 (And.intro q2 (And.intro q3 q4)));have kd:=Qh lm.out.row;clear kh BQ q1 q2 q3 q4;subst gO;go_wp2_with (at_builtin;refine ZgA Zf4 rfl (by decide) _ (A.flatMap (·.cells)++[.slice au M.length cu]) [.slice none 0 0] rfl (by simp[Value.oneCell']) rfl (.tmp 22) (.tmp 23) rfl w.heap.size (.slice (some ⟨ga,0,none⟩) (A.length+1) ca) (A.length+1) rfl kd.out (by rw[cC];rfl) (by unfold maxLen;omega) (by omega) aD.size ?_;intro v3 w3 vM cX;have aC:=aD.grown cX aD.size (λb hb=>by simp only[Value.ownBlock,Qi]at hb;omega);have HN:=Qh (lm.out.next HQ.out.1 HQ.out.2.1 HQ.out.2.2.1 HQ.out.2.2.2 aD.size vM cX);clear vM cX)
    go_roundw;case rel=>exact⟨k+1,0,_,A++[(⟨[.slice au M.length cu],M.map (·.d),BP⟩:Elem (List Tok))],[],by omega,by go_num,rfl,by omega,by omega,by simp;omega,by simp,HN,by show _=_;rw[←HF.out,QG];rfl,aC⟩
    case measure=>simp[intOf];omega
   ·rw[if_neg ig]at kh;have HF:=Qh kh;have ho:=opn_ge l[k];have gN:IntKind.i64.wrap (dd+opn l[k])=dd+opn l[k]:=QF _ (by omega);have sZ:IntKind.i64.wrap (((A.length+1:Nat):Int)-1)=(A.length:Int):=(by rw[QF _ (by omega)];omega);have hwl2:IntKind.i64.wrap ((A.length:Int)+1-1)=(A.length:Int):=(by rw[QF _ (by omega)];omega);have kw:=Qh (λW (hW:Below wr.heap.size wr W)=>Ziu _ l[k] _ W (sTok.below sL.out hW));have uF:=Qh (λW (hW:Below wr.heap.size wr W)=>Zee _ l[k] _ W (HX.out k af) (sTok.below sL.out hW));clear kh sL;obtain⟨cm,BR⟩:∃cm:Bool,Hid (cm=ZfA l[k]):=⟨ZfA l[k],rfl⟩;generalize hon:opn l[k]=on at *;have j7:∀b:Bool,b=(decide (dd=0) && cm)->b=false:=by
     rintro b rfl;rw[Bool.and_eq_false_iff];by_cases h0:dd=0
     ·right;rw[BR.out];cases e:ZfA l[k]
      ·rfl
      ·exact absurd ⟨h0,e⟩ ig
     ·left;exact JQ h0
    have yj:Hid (∀g,(Value.slice au M.length cu).ownBlock=some g->g<wr.heap.size):=HUL.out;have yi:Hid (∀b∈M.flatMap (·.fp),b<wr.heap.size):=HML.out;by_cases h0:dd=0
    ·have e0:(dd==0)=true:=(by simpa using h0);have su:cm=false:=j7 cm (by rw[JR h0];rfl);have e1:(l[k].text.toList==[44])=false:=(by rw[su]at BR;exact BR.out.symm);clear ig j7 su BR cC HUL HML;subst h0;rw[Int.zero_add]at HF;exact Y19A1
    ·have e0:(dd==0)=false:=(by simpa using h0);clear ig j7 BR cC HUL HML;exact Y19A1
  ·have HF:=Qh ((dvGo_end (by omega:l.length<=k) dd _ _).symm.trans HI.out);obtain⟨gm,hr,ho⟩:=HS.out.done;have fe:=Qh hr;have qQ:=Qh ho;clear HI hr ho;go_wp2;go_ret;exact⟨_,gm,rfl,by rw[←HF.out];exact fe.out,qQ.out,hb⟩
def ZhQ (r:Zbe × Int × Bool)(w:World)(e:Ending)(w':World):Prop:=
 ∃(v:Value) (fp:List Nat),e=.returned (.tuple #[v,.int .i64 r.2.1,.bool r.2.2])/\(Zaa sToks).R w' [v] r.1 fp/\Own w' w.heap.size fp/\Below w.heap.size w w'
theorem ZpT {n:Nat}(hn:n<l.length)(h:ZdQ l[n]=true):Zc3 (l.drop n) 0 n=Zc3 (l.drop (n+1)) 1 (n+1):=by
 rw[Zmj hn,Znm h,if_neg (by omega)];rfl
def Ze5 (l:List Tok)(n:Nat):Zbe × Int × Bool:=
 match Zc3 (l.drop (n+1)) 1 (n+1) with
 | none=>([],0,false)
 | some e=>(Zei ((l.drop (n+1)).take (e-(n+1))) 0 [] [],((e+1:Nat):Int),true)
theorem Zjo {n:Nat}(h:Zc3 (l.drop (n+1)) 1 (n+1)=none):Ze5 l n=([],0,false):=by unfold Ze5;rw[h]
theorem Zjp {n e:Nat}(h:Zc3 (l.drop (n+1)) 1 (n+1)=some e):Ze5 l n=(Zei ((l.drop (n+1)).take (e-(n+1))) 0 [] [],((e+1:Nat):Int),true):=by unfold Ze5;rw[h]
theorem ZjW (v:Value)(l:List Tok)(fp:List Nat)(n:Nat)(w:World)(je:l.length<=60)(hn:n<l.length)(ho:ZdQ l[n]=true)(hx:∀k,(hk:k<l.length)->l[k].hidden.length<=2000000)(H:(Zaa sTok).R w [v] l fp):
  Calls Tryz.prog 118 #[v,.int .i64 n] w (ZhQ (Ze5 l n) w):=by
 have iG:=Qh H;obtain⟨a1,c1,rfl,fJ,li,ai⟩:=Zac H;unfold maxLen at li;obtain⟨b1,ae,dt,rfl,aG,-,bj⟩:=ai (by omega);clear H ai bj;have hNo:∀(W:World),Below w.heap.size w W->Ze5 l n=([],0,false)->ZhQ (Ze5 l n) w (.returned (.tuple #[.slice none 0 0,.int .i64 0,.bool false])) W:=λW hW h=>by
  rw[h];exact⟨_,[],rfl,Zao sToks _ _ 0 (by simp),Own.nil _ _,hW⟩
 have fI:=Qh hNo;clear hNo;go_enter Tryz.func118,Tryz.ntmps118;have kB:=Qh (Zi1 _ l fp n w je (by omega) iG.out);rw[ZpT hn ho]at kB;cases dK:Zc3 (l.drop (n+1)) 1 (n+1) with
 |
  none =>
  have HF:=Qh (Zjo dK);rw[dK]at kB;clear dK ho;go_wp2_with fail
  refine kB.out.mono ?_;rintro e w3⟨rfl,aC⟩;unfold clRes;go_wp2
  go_ret3
  exact fI.out _ aC HF.out
 |
  some e =>
  have HF:=Qh (Zjp dK);have eD:=Zhe _ _ _ _ dK;rw[QM]at eD;rw[dK]at kB;clear dK ho;obtain⟨hge1,hge2⟩:=eD;have oF:e<l.length:=by omega
  go_wp2_with fail
  refine kB.out.mono ?_;rintro ee w3⟨rfl,aC⟩;have bW:=aC;have hcr:clRes (some e)=(e:Int):=rfl;rw[hcr];obtain⟨ft,RT,-⟩:=Zcp e (by omega) iG.out;obtain⟨fd,RD,-⟩:=Zbp (n+1) (by rw[Qd];omega) RT;rw[if_neg (by omega),JM,JN,List.drop_take]at RD;have tA:Hid (∀k,(hk:k<((l.drop (n+1)).take (e-(n+1))).length)->((l.drop (n+1)).take (e-(n+1)))[k].hidden.length<=2000000):=λk hk=>by
   rw[List.getElem_take,List.getElem_drop];exact hx _ _
  have HDV:=Qh (ZhP _ ((l.drop (n+1)).take (e-(n+1))) fd w3 (by rw[Qd,QM];omega) tA.out ((Zaa sTok).below RD bW));have gN:IntKind.i64.wrap ((n:Int)+1)=(n:Int)+1:=QF _ (by omega);have hwr2:IntKind.i64.wrap ((e:Int)+1)=(e:Int)+1:=QF _ (by omega);have cD:¬c1=n+1:=by omega
  have hp0:¬(e:Int)<0:=by omega
  have m6:(0:Int)<=(n:Int)+1:=by omega
  have yC:(n:Int)+1<=(e:Int):=by omega
  have yJ:(e:Int)<=(c1:Int):=by omega
  have Al:n+1<=c1:=by omega
  have eq:((n:Int)+1).toNat=n+1:=by omega
  have hm4:sTok.m=4:=rfl;rw[hm4]at HDV;clear RT RD tA;go_wp2_with fail
  refine HDV.out.mono ?_;rintro ee w4⟨v4,fp4,rfl,kK,hO4,aM⟩;have fe:=Qh kK;have qQ:=Qh hO4;have bg:=bW.trans (aM.mono bW.size);have yS:=bW.size;clear kK hO4;go_wp2
  go_ret3
  rw[HF.out];exact⟨_,fp4,rfl,fe.out,qQ.out.lower yS,bg⟩
def Tx (t:Tok):Prop:=Zap t.text t.kind=true
variable {t:Tok}
theorem Tx.bare (h:Tx t):Zaj ⟨t.kind,t.text,t.spaced,[]⟩=true:=by
 unfold Zaj;rw[show Zap t.text t.kind=true from h];rfl
theorem Tx.of (h:Zaj t=true):Tx t:=by
 unfold Zaj at h;exact(JK.1 h).1
theorem Tx.toks (h:Zam l=true):∀t∈l,Tx t:=λt ht=>by
 obtain⟨k,hk,rfl⟩:=QY ht;exact Tx.of ((Zay h).2 k hk)
theorem tx_kind (h:Tx t){c:UInt8}{l:List UInt8}(e:t.text=⟨(c::l).toArray⟩):t.kind=cutKind c:=ZqE (t:=⟨t.kind,t.text,t.spaced,[]⟩) h.bare e
theorem ZiV (h:Tx t){c:UInt8}(hc:cutKind c=4):isM t [c]=(t.text.toList==[c]):=by
 unfold isM;cases e:(t.text.toList==[c])
 ·rw[JB]
 ·rw[tx_kind h (txt_eq e),hc];rfl
theorem Zpk (h:Tx t):isM t [40]=ZdQ t:=ZiV h (by decide)
theorem tx_opn (h:Tx t):Zbc t=opn t:=by
 unfold Zbc opn;rw[Zpk h,show isM t [41]=Zgq t from ZiV h (by decide)]
theorem ZiW:∀(l:List Tok) (d:Int) (A:Zbe) (M:List Tok) (k:Nat),(∀t∈l,Tx t)->Zax l d A M k=Zgr l d A M k
 | [],_,_,_,_,_=>rfl
 |
  t::r,d,A,M,k,h=>by
  have hr:∀u∈r,Tx u:=λu hu=>h u (by simp[hu]);unfold Zax Zgr;rw[tx_opn (h t (by simp)),show isM t [44]=ZfA t from ZiV (h t (by simp)) (by decide),ZiW r _ _ _ _ hr,ZiW r _ _ _ _ hr]
theorem Zq6 (h:∀t∈l,Tx t){A:Zbe}{e:Nat}(hs:Zax (l.drop 2) 1 [] [] 2=(A,e,false)):Ze5 l 1=([],0,false):=by
 rw[ZiW _ _ _ _ _ (λt ht=>h t (JG ht))]at hs;have:=Zkr (l.drop 2) 0 [] [] 2;rw[show(0:Int)+1=1 from rfl]at this;cases hc:Zc3 (l.drop 2) 1 2 with
 | none=>exact Zjo hc
 | some e'=>rw[hc]at this;simp only at this;rw[this]at hs;simp at hs
theorem ZpU (h:∀t∈l,Tx t){A:Zbe}{e:Nat}(hs:Zax (l.drop 2) 1 [] [] 2=(A,e,true)):Ze5 l 1=(A,(e:Int),true):=by
 rw[ZiW _ _ _ _ _ (λt ht=>h t (JG ht))]at hs;have:=Zkr (l.drop 2) 0 [] [] 2;rw[show(0:Int)+1=1 from rfl]at this;cases hc:Zc3 (l.drop 2) 1 2 with
 | none=>rw[hc]at this;simp only at this;rw[hs]at this;simp at this
 |
  some e' =>
  rw[hc]at this;simp only at this;rw[this]at hs;simp only[QS,and_true]at hs;obtain⟨rfl,rfl⟩:=hs;exact Zjp hc
variable {b:Bool}
theorem ZkP:∀{l:List Tok},(∀t∈l,Zaj t=true)->∀t∈spc b l,Zaj t=true
 | [],_,t,ht=>by simp[spc]at ht
 |
  x::r,h,t,ht=>by
  rcases Q7.1 ht with rfl | ht
  ·exact h x (by simp)
  ·exact h t (by simp[ht])
variable {m:DMacro}
theorem Zmt {a:List (List Tok)}(h:ZaG m a=true):∀l∈a,∀t∈l,Zaj t=true:=λl hl t ht=>by
 unfold ZaG at h;rw[QI,Qk]at h;have:=h.2 l hl;obtain⟨k,hk,rfl⟩:=QY ht;exact(Zay this).2 k hk
theorem part_ok {raw ready:List (List Tok)}(hv:Zaq m=true)(ha:∀l∈raw,∀t∈l,Zaj t=true)(hy:∀l∈ready,∀t∈l,Zaj t=true)(k:Nat)(bQ:(ZaP m raw ready k).2.2=true):∀t∈(ZaP m raw ready k).1,Zaj t=true:=by
 intro t ht;unfold ZaP at ht bQ;split at ht
 ·rename_i hk;rw[dif_pos hk]at bQ;split at ht
  ·rename_i hf;rw[if_pos hf]at bQ;split at ht
   ·rename_i bY;rw[dif_pos bY]at bQ;rw[Qm ht];obtain⟨kk,s,b,hx,-⟩:=Zfo (Zcj raw (parOf m.params m.body[k+1]));have BS:(Zbl (Zcj raw (parOf m.params m.body[k+1]))).2=true:=bQ;rcases hz:Zbl (Zcj raw (parOf m.params m.body[k+1])) with⟨z,o⟩;rw[hz]at BS;have hok2:o=true:=BS;subst hok2;exact(txt_back hz).1
   ·simp at ht
  ·split at ht
   ·rw[Qm ht];exact(Zc1 hk ((Za0 hv).2.2 k hk)).1
   ·split at ht
    ·exact ZkP (ZgM ha _) t ht
    ·exact ZkP (ZgM hy _) t ht
 ·simp at ht
theorem subGo_ok {raw ready:List (List Tok)}(hv:Zaq m=true)(ha:∀l∈raw,∀t∈l,Zaj t=true)(hy:∀l∈ready,∀t∈l,Zaj t=true):∀(d k:Nat) (out:List Tok) (emp paste:Bool),m.body.length-k<=d->(∀t∈out,Zaj t=true)->∀t∈(ZaQ m raw ready k out emp paste).1,Zaj t=true:=by
 intro d;induction d with
 | zero=>intro k out emp paste hd ho;rw[Zf5 (by omega)];exact ho
 |
  succ d ih =>
  intro k out emp paste hd ho;by_cases hk:k<m.body.length;rotate_left
  ·rw[Zf5 (by omega)];exact ho
  by_cases h1:isM m.body[k] [35,35]=true/\paste=false
  ·obtain⟨h1,rfl⟩:=h1;rw[ZhE hk h1];exact ih _ _ _ _ (by omega) ho
  have Bf:=part_ok hv ha hy k;have jV:=ZgI m raw ready k;rcases hP:ZaP m raw ready k with⟨P,nx,ok⟩;rw[hP]at Bf jV;have hnx':k<nx:=jV;cases ok
  ·rw[Zhg hk h1 hP];simp
  have ry:∀t∈P,Zaj t=true:=Bf rfl;by_cases h2:paste=true/\emp=false/\0<P.length
  ·rcases hz:ZaD (out.getLastD Zaw) (P.headD Zaw) with⟨z,fw⟩;cases fw
   ·rw[Zkx hk h1 hP h2 hz];simp
   ·rw[ZiT hk h1 hP h2 hz];refine ih _ _ _ _ (by omega) λt ht=>?_;rcases Qa ht with ht | ht
    ·exact ho t ((List.dropLast_sublist out).subset ht)
    ·rcases Q7.1 ht with rfl | ht
     ·exact(ZhC hz).1
     ·exact ry t (List.mem_of_mem_tail ht)
  ·rw[Zf6 hk h1 hP h2];refine ih _ _ _ _ (by omega) λt ht=>?_;rcases Qa ht with ht | ht
   ·exact ho t ht
   ·exact ry t ht
theorem sub_ok {raw ready:List (List Tok)}:∀t∈(Zaz m raw ready).1,Zaj t=true:=by
 unfold Zaz;split
 ·rename_i h;split
  ·simp
  ·exact subGo_ok h.1 (Zmt h.2.1) (Zmt h.2.2) _ 0 [] true false (QA _) (by simp)
 ·simp
theorem spc_tx:∀{l:List Tok},(∀t∈l,Tx t)->∀t∈spc b l,Tx t
 | [],_,t,ht=>by simp[spc]at ht
 |
  x::r,h,t,ht=>by
  rcases Q7.1 ht with rfl | ht
  ·exact h x (by simp)
  ·exact h t (by simp[ht])
theorem putL_tx {h:List ByteArray}{sp:Bool}(hl:∀t∈l,Tx t):∀t∈Zbm l h sp,Tx t:=by
 refine spc_tx λt ht=>?_;obtain⟨u,hu,rfl⟩:=List.mem_map.1 ht;exact hl u hu
theorem sub_tx {raw ready:List (List Tok)}:∀t∈(Zaz m raw ready).1,Tx t:=λt ht=>Tx.of (sub_ok t ht)
theorem put_spc {h:List ByteArray}:∀{l:List Tok},(spc b l).map (ZdB h)=Zbm l h b
 | []=>rfl
 | _::_=>rfl
variable {T:List DMacro}
theorem Zq7 (hT:ZaU T=true){t:Tok}(ht:Tx t)(h:isIn T t.text=true):t.kind=1:=by
 unfold isIn at h;split at h
 ·rename_i hl;have e:=Zd7 h;have hn:=(Za0 ((ZgO hT).2.1 _ (QE hl))).1.1;rw[e]at hn;exact Zjv ht hn
 ·simp at h
theorem tx_has (l:List ByteArray)(x:ByteArray):Zb8 l x=Zdc l x:=by
 unfold Zb8 Zdc;induction l with
 | nil=>rfl
 |
  cons y r ih =>
  rw[List.any_cons,List.any_cons,ih];congr 1
  cases e:(y.toList==x.toList)
  ·simp only[decide_eq_false_iff_not];intro h;rw[Zca h]at e;exact absurd e (by simp)
  ·simp only[JT];exact Zd7 e
theorem find_out (hT:ZaU T=true){t:Tok}(h:isIn T t.text=false):Zbk T t=none:=by
 unfold Zbk;rw[if_neg];intro h';have:=h'.2.2;rw[Zgn hT,h]at this;simp at this
theorem find_at (hT:ZaU T=true){t:Tok}(ht:Tx t)(h:isIn T t.text=true)(hh:Zdc t.hidden t.text=false):∃hl:lowAt T t.text<T.length,Zbk T t=some T[lowAt T t.text]:=by
 have hl:lowAt T t.text<T.length:=by
  unfold isIn at h;split at h
  ·rename_i hl;exact hl
  ·simp at h
 refine⟨hl,?_⟩;unfold Zbk;rw[if_pos ⟨Zq7 hT ht h,hh,by rw[Zgn hT,if_pos h];omega⟩,Zgn hT,if_pos h];exact QJ hl
variable {r:List Tok}
theorem goM_none (h:Zbk T t=none):goM T (t::r)=none:=by unfold goM;dsimp only;rw[h]
theorem goM_shut (h:Zbk T t=some m)(hf:m.function=true)(ho:ZdS r=false):goM T (t::r)=none:=by unfold goM;dsimp only;rw[h];dsimp only;rw[if_pos ⟨hf,ho⟩]
theorem goM_some (h:Zbk T t=some m)(hf:¬(m.function=true/\ZdS r=false)):goM T (t::r)=some m:=by unfold goM;dsimp only;rw[h];dsimp only;rw[if_neg hf]
theorem ZnT (h0:0<l.length)(h:Zbk T l[0]=none):goM T l=none:=by
 cases l with
 | nil=>simp at h0
 | cons t r=>exact goM_none h
theorem ZnU (h0:0<l.length){m:DMacro}(h:Zbk T l[0]=some m)(hf:m.function=true)(ho:∀h1:1<l.length,isM l[1] [40]=false):goM T l=none:=by
 cases l with
 | nil=>simp at h0
 |
  cons t r =>
  refine goM_shut h hf ?_;cases r with
  | nil=>rfl
  | cons u q=>exact ho (by simp)
theorem ZnV (h0:0<l.length){m:DMacro}(h:Zbk T l[0]=some m)(hf:m.function=true->∃h1:1<l.length,isM l[1] [40]=true):goM T l=some m:=by
 cases l with
 | nil=>simp at h0
 |
  cons t r =>
  refine goM_some h λ⟨h1,h2⟩=>?_;obtain⟨h3,h4⟩:=hf h1;cases r with
  | nil=>simp at h3
  |
   cons u q =>
   have h5:isM u [40]=true:=h4;have h6:isM u [40]=false:=h2;rw[h5]at h6;exact absurd h6 (by simp)
def UsedOf (T:List DMacro)(cE:List Nat)(l:List Tok)(w:World)(e:Ending)(w':World):Prop:=
 (goM T l=none/\e=.returned (.tuple #[.agg #[.string ⟨#[]⟩,.bool false,.slice none 0 0,.slice none 0 0],.bool false])/\Below w.heap.size w w') \/
 ∃(m:DMacro) (a2 a3:Option Addr) (c2 c3:Nat) (fp:List Nat),goM T l=some m/\e=.returned (.tuple #[.agg #[.string m.name,.bool m.function,.slice a2 m.params.length c2,.slice a3 m.body.length c3],.bool true]) /\
  sMacro.R w' [.string m.name,.bool m.function,.slice a2 m.params.length c2,.slice a3 m.body.length c3] m fp/\(∀b∈fp,b∈cE)/\Below w.heap.size w w'
theorem Y19A2 (h:g:=by
 obtain⟨z0,dT,z1,dU,z2,dV,z3,dW⟩:=Q8 bB.out;have HS:=Qh (Za2 bB.out (.string ⟨#[]⟩) (.bool false) (.slice none 0 0) (.slice none 0 0));have HB:=Qh (ZaJ (g:=w.heap.size) aQ (QA _) (.string ⟨#[]⟩) (.bool false) (.slice none 0 0) (.slice none 0 0));unfold set4 at HS HB;go_wp2;refine JV (Zat rfl _ _ (w.heap.size) _ _ _ _ rfl HS.out Tryz.underlying56 rfl (by kernel_rfl)) rfl ?_
 exact .inl ⟨HF.out,rfl,HB.out⟩):g:=h
theorem Y19A3 (h:g:=by
 unfold set4 at HS HB yk;go_wp2;refine JV (Zat rfl _ _ (w.heap.size) _ _ _ _ rfl HS.out Tryz.underlying56 rfl (by kernel_rfl)) rfl ?_
 exact .inr ⟨M,a2,a3,d2,d3,fm,HF.out,by rw[←kZ.out];rfl,yk.out,HFMM.out,HB.out⟩):g:=h
theorem Zlv (vT:Value)(T:List DMacro)(cE:List Nat)(v:Value)(l:List Tok)(fp:List Nat)(w:World)(hT:ZaU T=true)(h0:0<l.length)(hl:l.length<=1000000)(BU:∀u∈l,Tx u)(HT:(Zaa sMacro).R w [vT] T cE)(H:(Zaa sTok).R w [v] l fp):
  Calls Tryz.prog 61 #[vT,v] w (UsedOf T cE l w):=by
 have mP:=Qh HT;have d7:=Qh ((Zaa sMacro).lt HT);obtain⟨aT,cT,rfl,-,gL,mu⟩:=Zac HT;unfold maxLen at gL;have ie:Hid (0<T.length->∃bb ob,aT=some ⟨bb,ob,none⟩):=λh=>by obtain⟨b,o,-,e,-⟩:=mu h;exact⟨b,o,e⟩
 have H0:=H;obtain⟨al,cl,rfl,dK,iu,ai⟩:=Zac H;unfold maxLen at iu;obtain⟨bw,ow,-,rfl,-,-,-⟩:=ai h0;have b0:=Zab w (.cells #[.string ⟨#[]⟩,.bool false,.slice none 0 0,.slice none 0 0] 56);have HX:=Qh (JS w (.cells #[.string ⟨#[]⟩,.bool false,.slice none 0 0,.slice none 0 0] 56));obtain⟨xa,xc,xf,c0,c1,c2,c3,xR,bu,-⟩:=ZaO H0 h0;simp only[Nat.zero_mul,Q0]at c0 c1 c2 c3;have vI:Hid (∀U:World,Below w.heap.size w U->U.cell? ⟨bw,ow+1,none⟩=some (.string l[0].text)/\U.cell? ⟨bw,ow+3,none⟩=some (.slice xa l[0].hidden.length xc)):=λU hU=>⟨(hU.cell (p:=⟨bw,ow+1,none⟩) bu).trans c1,(hU.cell (p:=⟨bw,ow+3,none⟩) bu).trans c3⟩;have ny:Hid (∀U:World,Below w.heap.size w U->(Zaa sStr).R U [.slice xa l[0].hidden.length xc] l[0].hidden xf):=λU hU=>ZeI (sTok.below xR hU);have gh:Hid (∀h1:1<l.length,∀U:World,Below w.heap.size w U->U.cell? ⟨bw,ow+4+1,none⟩=some (.string l[1].text)):=λh1 U hU=>by
  obtain⟨ya,yc,yf,-,d1,-,-,-,bu,-⟩:=ZaO H0 h1;simp only[Nat.one_mul]at d1;exact(hU.cell (p:=⟨bw,ow+4+1,none⟩) bu).trans d1
 have kC:=Qh BU;have kV:=Qh hT;clear HT H H0 ai mu xR c0 c1 c2 c3 BU hT;go_enter Tryz.func61,Tryz.ntmps61;go_upto_region 1 with fail
 generalize (w.alloc (.cells #[.string ⟨#[]⟩,.bool false,.slice none 0 0,.slice none 0 0] 56))=W1 at *;have h0i:(0:Int)<(l.length:Int):=by omega
 obtain⟨c1,c3⟩:=vI.out W1 b0;have dD:=Qh (Zil _ T l[0].text cE W1 kV.out ((Zaa sMacro).below mP.out b0));obtain⟨tx,pD⟩:∃tx:ByteArray,Hid (tx=l[0].text):=⟨_,Qh rfl⟩;obtain⟨lo,HLO⟩:∃lo:Nat,Hid (lo=lowAt T l[0].text):=⟨_,Qh rfl⟩;rw[show lowAt T l[0].text=lo from HLO.out.symm]at dD;rw[show l[0].text=tx from pD.out.symm]at dD c1;cases bO:isIn T tx
 ·rw[bO]at dD;have HF:Hid (goM T l=none):=ZnT h0 (find_out kV.out (by rw[←pD.out];exact bO));clear bO;go_wp2_with fail
  refine dD.out.mono ?_;rintro e w3⟨rfl,aC⟩;have bB:=Qh (Zag HX.out aC);have aQ:=b0.trans (aC.mono b0.size);clear dD c1 c3;exact Y19A2
 rw[bO]at dD;have cZ:=Qh bO;clear bO;go_wp2_with fail
 refine dD.out.mono ?_;rintro e w3⟨rfl,aC⟩;have bB:=Qh (Zag HX.out aC);have aQ:=b0.trans (aC.mono b0.size);clear dD c1 c3;obtain⟨c1,c3⟩:=vI.out w3 aQ;rw[show l[0].text=tx from pD.out.symm]at c1;have mO:=Qh (Zgj _ l[0].hidden xf tx w3 (ny.out w3 aQ));rw[tx_has]at mO;cases hh:Zdc l[0].hidden tx;rotate_left
 ·rw[hh]at mO;have HF:Hid (goM T l=none):=ZnT h0 (ZnJ (by rw[←pD.out];exact hh));clear hh;go_wp2_with fail
  refine mO.out.mono ?_;rintro e w4⟨rfl,rfl⟩;clear mO c1 c3;exact Y19A2
 rw[hh]at mO;have sU:=find_at kV.out (kC.out _ (QE h0)) (by rw[←pD.out];exact cZ.out) (by rw[←pD.out];exact hh);rw[show lowAt T l[0].text=lo from HLO.out.symm]at sU;obtain⟨cV,tV⟩:=sU;have BV:Zbk T l[0]=some T[lo]:=tV;have rF:=Qh BV;clear hh tV BV;obtain⟨bb,ob,rfl⟩:=ie.out (by omega);obtain⟨a2,a3,d2,d3,fm,m0,m1,m2,m3,RM,yW,pZ⟩:=mac_at ((Zaa sMacro).below mP.out aQ) cV;have uZ:=Qh RM;have HLM:Hid (w.heap.size∉fm):=λh=>by have:=d7.out _ (pZ _ h);omega
 have HFMM:=Qh pZ;generalize hM:T[lo]=M at *;obtain⟨fu,kZ⟩:∃fu:Bool,Hid (fu=M.function):=⟨_,Qh rfl⟩;rw[show M.function=fu from kZ.out.symm]at m1;have i0:(0:Int)<=(lo:Int):=by omega
 have i1:(lo:Int)<(T.length:Int):=by omega
 clear hM RM pZ;go_wp2_with fail
 refine mO.out.mono ?_;rintro e w4⟨rfl,rfl⟩;clear mO c1 c3;cases fu;rotate_left
 ·by_cases h1:l.length=1
  ·have HF:Hid (goM T l=none):=ZnU h0 rF.out kZ.out.symm (λh=>by omega);have e1:((l.length:Int)==1)=true:=(by simp;omega);have e2:(l.length:Int)=1:=(by omega);clear h1;clear m0 m2 m3;exact Y19A2
  have zr:1<l.length:=by omega
  have e1:((l.length:Int)==1)=false:=by simp;omega
  have e2:¬(l.length:Int)=1:=by omega
  have e3:(1:Int)<(l.length:Int):=by omega
  have d1:=gh.out zr w4 aQ;have HO:Hid (isM l[1] [40]=(l[1].text.toList==[40])):=ZiV (kC.out _ (QE zr)) (by decide);cases ho:(l[1].text.toList==[40])
  ·have HF:Hid (goM T l=none):=ZnU h0 rF.out kZ.out.symm (λh=>by rw[HO.out];exact ho);have e4:(l[1].text.toList != [40])=true:=(by rw[bne,ho];rfl);clear HO;clear m0 m2 m3;exact Y19A2
  have HF:Hid (goM T l=some M):=ZnV h0 rF.out (λ_=>⟨zr,by rw[HO.out];exact ho⟩);have e4:(l[1].text.toList != [40])=false:=by rw[bne,ho];rfl
  clear HO;obtain⟨z0,dT,z1,dU,z2,dV,z3,dW⟩:=Q8 bB.out;have HS:=Qh (Za2 bB.out (.string M.name) (.bool true) (.slice a2 M.params.length d2) (.slice a3 M.body.length d3));have HB:=Qh (ZaJ (g:=w.heap.size) aQ (QA _) (.string M.name) (.bool true) (.slice a2 M.params.length d2) (.slice a3 M.body.length d3));have yk:=Qh (sMacro.set4R uZ.out HLM.out (.string M.name) (.bool true) (.slice a2 M.params.length d2) (.slice a3 M.body.length d3));exact Y19A3
 have HF:Hid (goM T l=some M):=ZnV h0 rF.out (λh=>by rw[←kZ.out]at h;exact absurd h (by simp));obtain⟨z0,dT,z1,dU,z2,dV,z3,dW⟩:=Q8 bB.out;have HS:=Qh (Za2 bB.out (.string M.name) (.bool false) (.slice a2 M.params.length d2) (.slice a3 M.body.length d3));have HB:=Qh (ZaJ (g:=w.heap.size) aQ (QA _) (.string M.name) (.bool false) (.slice a2 M.params.length d2) (.slice a3 M.body.length d3));have yk:=Qh (sMacro.set4R uZ.out HLM.out (.string M.name) (.bool false) (.slice a2 M.params.length d2) (.slice a3 M.body.length d3));exact Y19A3
theorem ZhR (n:ByteArray):∀l:List ByteArray,(ins l n).length<=l.length+1
 | []=>by simp[ins]
 |
  x::r=>by
  have:=ZhR n r;unfold ins;split
  ·simp;omega
  ·split <;> simp
theorem ZkQ:∀(b a:List ByteArray),(ZbT a b).length<=a.length+b.length
 | [],a=>by simp[ZbT]
 |
  x::r,a=>by
  have h1:=ZkQ r (ins a x);have h2:=ZhR x a;show(ZbT (ins a x) r).length<=_;rw[QQ];omega
theorem ZpV {a h:List ByteArray}{i:Nat}(hi:i<h.length):ZbT a (h.take (i+1))=ins (ZbT a (h.take i)) h[i]:=by
 unfold ZbT;rw[Qb hi,List.foldl_append];rfl
def HidOf (h:List ByteArray)(l:List Tok)(fp:List Nat)(w:World)(e:Ending)(w':World):Prop:=
 ∃(v:Value) (L:List (Elem Tok)),e=.returned v/\RowN sTok w.heap.size 32 v L w'/\L.map (·.d)=l.map (ZdB h)/\(∀x∈L,∀b∈x.fp,b∈fp\/w.heap.size<=b)/\Below w.heap.size w w'
theorem Zlw (v:Value)(l:List Tok)(fp:List Nat)(vh:Value)(h:List ByteArray)(fph:List Nat)(w:World)(hl:l.length<=100000)(hu:∀t∈l,Up t.hidden)(hh:∀t∈l,t.hidden.length<=100000)(hhl:h.length<=100000)(H:(Zaa sTok).R w [v] l fp)(HH:(Zaa sStr).R w [vh] h fph):
  Calls Tryz.prog 122 #[v,vh] w (HidOf h l fp w):=by
 have d7:=Qh ((Zaa sTok).lt H);have H0:=Qh H;obtain⟨al,cl,rfl,dK,iu,ai⟩:=Zac H;unfold maxLen at iu;obtain⟨ah,ch,rfl,hch,hmh,BW,BX⟩:=Zaf HH;unfold maxLen at hmh;have fL:=Qh BX;have HU:=Qh hu;have HHL:=Qh hh;clear H HH BX hu hh;go_enter Tryz.func122,Tryz.ntmps122;go_wp2;go_loopw [5,12] (λvo i wr=>∃(k:Nat) (L:List (Elem Tok)),k<=l.length/\i=.int .i64 k/\Hid (L.map (·.d)=(l.take k).map (ZdB h))/\Hid (RowN sTok w.heap.size 32 vo L wr)/\Hid (∀x∈L,∀b∈x.fp,b∈fp\/w.heap.size<=b)/\Below w.heap.size w wr) (λ_ i _=>l.length-(intOf i).toNat)
 case atStart=>exact⟨0,[],by omega,rfl,rfl,RowN.nil _ _ _ _,(λx hx=>by simp at hx),QD _ _⟩
 case round =>
  obtain⟨k,L,hk,rfl,HD,HR,sR,hb⟩:=hrel;have pJ:L.length=k:=by have:=JY List.length HD.out;rw[QH,QH,Qd]at this;omega
  have yl:=Qh pJ;obtain⟨ao,co,mQ,-⟩:=HR.out.val;rw[pJ]at mQ;subst mQ;clear pJ;by_cases af:k<l.length
  ·obtain⟨b1,o1,-,rfl,-,-,-⟩:=ai (by omega);obtain⟨xa,xc,xf,x0,x1,x2,x3,xR,bu,kT⟩:=ZaO H0.out af;replace x0:=(hb.cell (p:=⟨b1,o1+k*4,none⟩) bu).trans x0;replace x1:=(hb.cell (p:=⟨b1,o1+k*4+1,none⟩) bu).trans x1;replace x2:=(hb.cell (p:=⟨b1,o1+k*4+2,none⟩) bu).trans x2;replace x3:=(hb.cell (p:=⟨b1,o1+k*4+3,none⟩) bu).trans x3;have XR:=Qh (sTok.below xR hb);have ls:=Qh kT;have bx:=Zab wr (.cells #[.int .i64 l[k].kind,.string l[k].text,.bool l[k].spaced,.slice xa l[k].hidden.length xc] 32);have cJ:=Qh (JS wr (.cells #[.int .i64 l[k].kind,.string l[k].text,.bool l[k].spaced,.slice xa l[k].hidden.length xc] 32));have y6:=HHL.out _ (QE af);have HUK:=Qh (HU.out _ (QE af));clear xR ai kT;go_upto_region 5 with fail
   clear x0 x1 x2 x3;have BY:=hb.size;generalize hW2:(wr.alloc (.cells #[.int .i64 l[k].kind,.string l[k].text,.bool l[k].spaced,.slice xa l[k].hidden.length xc] 32))=W2 at *;clear hW2;obtain⟨g,HG⟩:∃g:Nat,Hid (g=wr.heap.size):=⟨_,Qh rfl⟩;rw[show wr.heap.size=g from HG.out.symm]at cJ bx BY ⊢;have HFLT:=d7;have HXIN:Hid (∀b∈xf,b∈fp):=ls.out;have tC:=Qh hb;have HXFL:Hid (∀b∈xf,b<w.heap.size):=λb aE=>d7.out b (ls.out b aE);have HKR:Hid ((Zaa sStr).R W2 [.slice xa l[k].hidden.length xc] l[k].hidden xf):=by
    have:=sTok.below XR.out (by rw[←HG.out];exact bx:Below wr.heap.size wr W2);exact ZeI this
   obtain⟨-,-,pc,pd,-⟩:=XR.out;have BZ:=Qh pc;have rG:=Qh pd;have jI:=Qh (λ(U:World) (hU:Below g wr U)=>HR.out.below (by rw[←HG.out];exact hU));have gJ:=Qh HR.out.mine;have hbo:=Qh (λ(U:World) (hU:Below g wr U)=>hb.trans (hU.mono BY));obtain⟨tk,ez⟩:∃tk:Tok,Hid (tk=l[k]):=⟨_,Qh rfl⟩;rw[show l[k]=tk from ez.out.symm]at cJ y6 HUK HKR BZ rG;clear pc pd XR HR hb d7 ls;obtain⟨wo,hwo⟩:∃x:World,x=wr:=⟨_,rfl⟩;subst hwo;obtain⟨N0,HN0⟩:∃N:Nat,Hid (N=tk.hidden.length):=⟨_,Qh rfl⟩;rw[show tk.hidden.length=N0 from HN0.out.symm]at cJ HKR;go_wp2;go_loopw [18] (λj wr=>∃(i N:Nat) (hd:Option Addr) (c:Nat) (fj:List Nat),i<=h.length/\j=.int .i64 i/\Hid (N=(ZbT tk.hidden (h.take i)).length)/\Hid (wr.heap[g]?=some (.cells #[.int .i64 tk.kind,.string tk.text,.bool tk.spaced,.slice hd N c] 32 (0,0)))/\Hid ((Zaa sStr).R wr [.slice hd N c] (ZbT tk.hidden (h.take i)) fj)/\Hid (∀b∈fj,b∈fp\/g<b)/\Hid (g∉fj)/\Below g wo wr) (λj _=>h.length-(intOf j).toNat)
   case atStart=>exact⟨0,N0,xa,xc,xf,by omega,rfl,HN0.out,cJ.out,HKR.out,(λb aE=>.inl (HXIN.out b aE)),(λhx=>by have:=HXFL.out _ hx;omega),bx⟩
   case round =>
    clear cJ HKR bx;obtain⟨i,N,hd,c,fj,hi,rfl,HN,d6,B7,HJF,HGJ,pB⟩:=hrel;by_cases ue:i<h.length
    ·obtain⟨b2,o2,rfl,aF,-,aJ⟩:=BW (by omega);have y0:=(pB.cell (p:=⟨b2,o2+i,none⟩) (show b2<g by omega)).trans ((tC.out.cell (p:=⟨b2,o2+i,none⟩) aF).trans (aJ i ue));have p3:=Qc 3 d6.out;have hul:=ZkQ (h.take i) tk.hidden;rw[Qd]at hul;have ym:=Qh (ZfS (.slice hd N c) (ZbT tk.hidden (h.take i)) h[i] fj wr (ZjN HUK.out) (by omega) (fL.out i ue) B7.out);rw[←ZpV ue]at ym;have i0:(0:Int)<=(i:Int):=(by omega);have i1:(i:Int)<(h.length:Int):=(by omega);have hgl:g<wr.heap.size:=mlt d6.out;clear aJ hul;go_wp2_with fail
     refine ym.out.mono ?_;rintro e w3⟨a3,c3,f3,rfl,R3,O3,-,aC⟩;have bB:=Qh (Zag d6.out aC);have eZ:=Qh (pB.trans (aC.mono (Nat.le_of_lt hgl)));have ep:∀b∈f3,wr.heap.size<=b:=λb hb=>(O3.2 b hb).1;have tn:g∉f3:=λhx=>(by have:=ep g hx;omega);obtain⟨N3,HN3⟩:∃N3:Nat,Hid (N3=(ZbT tk.hidden (h.take (i+1))).length):=⟨_,Qh rfl⟩;rw[show(ZbT tk.hidden (h.take (i+1))).length=N3 from HN3.out.symm]at R3 ⊢;have q3:=Qc 3 bB.out;have xz3:=Qf 3 bB.out;have dJ:=Qh (Zai bB.out 3 (.slice a3 N3 c3));have gl:=Qh ((Zaa sStr).setB R3 tn 3 (.slice a3 N3 c3));have kq:=Qh (eZ.out.setCell (p:=⟨g,3,none⟩) (QA _) (.slice a3 N3 c3));have HF4:Hid (∀b∈f3,b∈fp\/g<b):=λb hb=>.inr (by have:=ep b hb;omega);have kl:=Qh tn;clear ym d6 B7 HJF aC R3 O3 ep tn y0 p3;go_wp2;go_roundw;case rel=>exact⟨i+1,N3,a3,c3,f3,by omega,by go_num,HN3.out,dJ.out,gl.out,HF4.out,kl.out,kq.out⟩
     case measure=>simp[intOf];omega
    ·have hih:i=h.length:=(by omega);have rL:Hid (ZbT tk.hidden (h.take i)=ZbT tk.hidden h):=(by show _=_;rw[Qe (by omega)]);rw[show ZbT tk.hidden (h.take i)=ZbT tk.hidden h from rL.out]at B7;clear hih;obtain⟨p0,p1,p2,p3⟩:=Q4 d6.out;have bl:=Zab wr (.cells #[.int .i64 tk.kind,.string tk.text,.bool tk.spaced,.slice hd N c] 32);have kD:=Qh (JS wr (.cells #[.int .i64 tk.kind,.string tk.text,.bool tk.spaced,.slice hd N c] 32));have fX:Below w.heap.size w (wr.alloc (.cells #[.int .i64 tk.kind,.string tk.text,.bool tk.spaced,.slice hd N c] 32)):=hbo.out _ (pB.trans (bl.mono (Nat.le_of_lt (mlt d6.out))));have jH:Hid (N=(ZbT tk.hidden h).length):=(by show _=_;rw[HN.out,rL.out]);have RX:Hid (sTok.R (wr.alloc (.cells #[.int .i64 tk.kind,.string tk.text,.bool tk.spaced,.slice hd N c] 32)) [.int .i64 tk.kind,.string tk.text,.bool tk.spaced,.slice hd N c] (ZdB h tk) fj):=⟨_,rfl,BZ.out,rG.out,(Zaa sStr).below B7.out bl⟩;have gl:=Qh (jI.out _ (pB.trans (bl.mono (Nat.le_of_lt (mlt d6.out)))));have om:Hid (∀b∈fj,(Value.slice ao k co).ownBlock≠some b):=λb hb h=>by
      have h1:=gJ.out b h;rcases HJF.out b hb with h2 | h2
      ·have:=HFLT.out b h2;omega
      ·have:=HG.out;omega
     clear bl B7 HN rL d6 pB;go_wp2_with (at_builtin;refine ZaT (X:=[(⟨[.int .i64 tk.kind,.string tk.text,.bool tk.spaced,.slice hd N c],ZdB h tk,fj⟩:Elem Tok)]) ti_tok rfl (by decide) _ rfl (.tmp 28) (.tmp 30) rfl w.heap.size (.slice ao k co) rfl gl.out ⟨wr.heap.size,0,none⟩ 1 1 rfl rfl (λx hx=>by obtain rfl:=Qm hx;exact⟨rfl,RX.out,om.out⟩) (λx hx=>by obtain rfl:=Qm hx;exact ZaX _ _ _ _ RX.out) (λj u hj=>by rw[ZaZ,QX,cell_of_row _ _ _ _ _ _ kD.out];simpa using hj) (by have:=yl.out;unfold maxLen;omega) (by have:=yl.out;omega) fX.size ?_;intro v5 w5 cz cG eq)
     have bg:=fX.grown cG fX.size (λb hb=>(gJ.out b hb).1);have sD:Hid (∀x∈L++[(⟨[.int .i64 tk.kind,.string tk.text,.bool tk.spaced,.slice hd N c],ZdB h tk,fj⟩:Elem Tok)],∀b∈x.fp,b∈fp\/w.heap.size<=b):=λx hx b aE=>by
      rcases Qa hx with hx | hx
      ·exact sR.out x hx b aE
      ·rw[Qm hx]at aE;exact(HJF.out b aE).imp id λh=>by omega
     have y7:Hid ((L++[(⟨[.int .i64 tk.kind,.string tk.text,.bool tk.spaced,.slice hd N c],ZdB h tk,fj⟩:Elem Tok)]).map (·.d)=(l.take (k+1)).map (ZdB h)):=by
      show _=_;rw[QG,HD.out,Qb af,QG,ez.out];rfl
     have eO:=Qh cz;clear cz cG eq;go_wp2;go_roundw;case rel=>exact⟨k+1,_,by omega,by go_num,y7,eO,sD,bg⟩
     case measure=>simp[intOf];omega
  ·have hkl:k=l.length:=(by omega);have HF:Hid (L.map (·.d)=l.map (ZdB h)):=(by show _=_;rw[HD.out,Qe (by omega)]);go_wp2;go_ret;exact⟨_,L,rfl,HR.out,HF.out,sR.out,hb⟩
def Zgy (w:World)(g:Nat)(v0 v1 v2 v3 v4 v5 v6:Value):World:=((((((w.setCell ⟨g,0,none⟩ v0).setCell ⟨g,1,none⟩ v1).setCell ⟨g,2,none⟩ v2).setCell ⟨g,3,none⟩ v3).setCell ⟨g,4,none⟩ v4).setCell ⟨g,5,none⟩ v5).setCell ⟨g,6,none⟩ v6
theorem Zlx {w:World}{g:Nat}{z0 z1 z2 z3 z4 z5 z6:Value}{ty:TypeId}(h:w.heap[g]?=some (.cells #[z0,z1,z2,z3,z4,z5,z6] ty (0,0)))(v0 v1 v2 v3 v4 v5 v6:Value):
  (Zgy w g v0 v1 v2 v3 v4 v5 v6).heap[g]?=some (.cells #[v0,v1,v2,v3,v4,v5,v6] ty (0,0)):=by
 have h0:(w.setCell ⟨g,0,none⟩ v0).heap[g]?=some (.cells #[v0,z1,z2,z3,z4,z5,z6] ty (0,0)):=Zai h 0 v0;have h1:((w.setCell ⟨g,0,none⟩ v0).setCell ⟨g,1,none⟩ v1).heap[g]?=some (.cells #[v0,v1,z2,z3,z4,z5,z6] ty (0,0)):=Zai h0 1 v1;have h2:(((w.setCell ⟨g,0,none⟩ v0).setCell ⟨g,1,none⟩ v1).setCell ⟨g,2,none⟩ v2).heap[g]?=some (.cells #[v0,v1,v2,z3,z4,z5,z6] ty (0,0)):=Zai h1 2 v2;have h3:((((w.setCell ⟨g,0,none⟩ v0).setCell ⟨g,1,none⟩ v1).setCell ⟨g,2,none⟩ v2).setCell ⟨g,3,none⟩ v3).heap[g]?=some (.cells #[v0,v1,v2,v3,z4,z5,z6] ty (0,0)):=Zai h2 3 v3;have h4:(((((w.setCell ⟨g,0,none⟩ v0).setCell ⟨g,1,none⟩ v1).setCell ⟨g,2,none⟩ v2).setCell ⟨g,3,none⟩ v3).setCell ⟨g,4,none⟩ v4).heap[g]?=some (.cells #[v0,v1,v2,v3,v4,z5,z6] ty (0,0)):=Zai h3 4 v4;have h5:((((((w.setCell ⟨g,0,none⟩ v0).setCell ⟨g,1,none⟩ v1).setCell ⟨g,2,none⟩ v2).setCell ⟨g,3,none⟩ v3).setCell ⟨g,4,none⟩ v4).setCell ⟨g,5,none⟩ v5).heap[g]?=some (.cells #[v0,v1,v2,v3,v4,v5,z6] ty (0,0)):=Zai h4 5 v5;have h6:(((((((w.setCell ⟨g,0,none⟩ v0).setCell ⟨g,1,none⟩ v1).setCell ⟨g,2,none⟩ v2).setCell ⟨g,3,none⟩ v3).setCell ⟨g,4,none⟩ v4).setCell ⟨g,5,none⟩ v5).setCell ⟨g,6,none⟩ v6).heap[g]?=some (.cells #[v0,v1,v2,v3,v4,v5,v6] ty (0,0)):=Zai h5 6 v6;exact h6
theorem ZhS {w:World}{g b:Nat}(h:b≠g)(v0 v1 v2 v3 v4 v5 v6:Value):(Zgy w g v0 v1 v2 v3 v4 v5 v6).heap[b]?=w.heap[b]?:=by
 unfold Zgy;rw[QV _ _ _ _ h,QV _ _ _ _ h,QV _ _ _ _ h,QV _ _ _ _ h,QV _ _ _ _ h,QV _ _ _ _ h,QV _ _ _ _ h]
theorem ZhT {B:Nat}{w0 w:World}(hB:Below B w0 w){g:Nat}(hg:B<=g)(v0 v1 v2 v3 v4 v5 v6:Value):Below B w0 (Zgy w g v0 v1 v2 v3 v4 v5 v6):=
 ((((((hB.setCell (p:=⟨g,0,none⟩) hg v0).setCell (p:=⟨g,1,none⟩) hg v1).setCell (p:=⟨g,2,none⟩) hg v2).setCell (p:=⟨g,3,none⟩) hg v3).setCell (p:=⟨g,4,none⟩) hg v4).setCell (p:=⟨g,5,none⟩) hg v5).setCell (p:=⟨g,6,none⟩) hg v6
theorem Shape.set7R {α:Type}(S:Shape α){w:World}{g:Nat}{cs:List Value}{d:α}{fp:List Nat}(h:S.R w cs d fp)(hn:g∉fp)(v0 v1 v2 v3 v4 v5 v6:Value):S.R (Zgy w g v0 v1 v2 v3 v4 v5 v6) cs d fp:=
 S.frame (λb hb=>ZhS (λe:b=g=>hn (by rw[←e];exact hb)) v0 v1 v2 v3 v4 v5 v6) h
def Zdf (m:DMacro)(l:List Tok):Option (Zbe × Nat × List ByteArray):=
 if m.function=false then some ([],1,ins (l.headD Zaw).hidden m.name)
 else if (Zax (l.drop 2) 1 [] [] 2).2.2=true/\Zcl m.params.length (Zax (l.drop 2) 1 [] [] 2).1=m.params.length then
  some ((Zax (l.drop 2) 1 [] [] 2).1.take m.params.length,(Zax (l.drop 2) 1 [] [] 2).2.1,ins (both (l.headD Zaw).hidden (l.getD ((Zax (l.drop 2) 1 [] [] 2).2.1-1) Zaw).hidden) m.name)
 else none
theorem ZnW (h0:0<l.length)(h:m.function=false):Zdf m l=some ([],1,ins l[0].hidden m.name):=by
 unfold Zdf;rw[if_pos h];cases l with
 | nil=>simp at h0
 | cons t r=>rfl
theorem Zpl (h:m.function=true){A:Zbe}{e:Nat}(hs:Zax (l.drop 2) 1 [] [] 2=(A,e,false)):Zdf m l=none:=by
 unfold Zdf;rw[if_neg (by simp[h]),hs,if_neg (by simp)]
theorem ZnX (h:m.function=true){A:Zbe}{e:Nat}{b:Bool}(hs:Zax (l.drop 2) 1 [] [] 2=(A,e,b))(hn:Zcl m.params.length A≠m.params.length):Zdf m l=none:=by
 unfold Zdf;rw[if_neg (by simp[h]),hs,if_neg (λh=>hn h.2)]
theorem useR_yes (h0:0<l.length)(h:m.function=true){A:Zbe}{e:Nat}(he:e-1<l.length)(hs:Zax (l.drop 2) 1 [] [] 2=(A,e,true))(hn:Zcl m.params.length A=m.params.length):Zdf m l=some (A.take m.params.length,e,ins (both l[0].hidden l[e-1].hidden) m.name):=by
 unfold Zdf;rw[if_neg (by simp[h]),hs,if_pos ⟨rfl,hn⟩];have e2:l.getD (e-1) Zaw=l[e-1]:=by rw[Qv,QJ he];rfl
 simp only[e2];cases l with
 | nil=>simp at h0
 | cons t r=>rfl
def UseOf (m:DMacro)(eE:List Value)(l:List Tok)(w:World)(e:Ending)(w':World):Prop:=
 (Zdf m l=none/\e=.returned (.tuple #[.agg #[.string ⟨#[]⟩,.bool false,.slice none 0 0,.slice none 0 0,.slice none 0 0,.int .i64 0,.slice none 0 0],.bool false])/\Below w.heap.size w w') \/
 ∃(A:Zbe) (en:Nat) (hs:List ByteArray) (vA vH:Value) (fA fH:List Nat),Zdf m l=some (A,en,hs)/\e=.returned (.tuple #[.agg (eE++[vA,.int .i64 en,vH]).toArray,.bool true]) /\
  (Zaa sToks).R w' [vA] A fA/\(∀b∈fA,w.heap.size<=b)/\(Zaa sStr).R w' [vH] hs fH/\(∀b∈fH,w.heap.size<=b)/\Below w.heap.size w w'
theorem Y19A4 (h:g:=by
 have d5:=yP.out;have z0:=Qc 0 d5;have dT:=Qf 0 d5;have z1:=Qc 1 d5;have dU:=Qf 1 d5;have z2:=Qc 2 d5;have dV:=Qf 2 d5;have z3:=Qc 3 d5;have dW:=Qf 3 d5;have z4:=Qc 4 d5;have zf4:=Qf 4 d5;have z5:=Qc 5 d5;have zf5:=Qf 5 d5;have z6:=Qc 6 d5;have zf6:=Qf 6 d5;have HS:=Qh (Zlx d5 (.string ⟨#[]⟩) (.bool false) (.slice none 0 0) (.slice none 0 0) (.slice none 0 0) (.int .i64 0) (.slice none 0 0));have HB:=Qh (ZhT (g:=w.heap.size+1) hB4 (by omega) (.string ⟨#[]⟩) (.bool false) (.slice none 0 0) (.slice none 0 0) (.slice none 0 0) (.int .i64 0) (.slice none 0 0));unfold Zgy at HS HB;go_wp2;refine JV (Zat rfl _ _ (w.heap.size+1) _ _ _ _ rfl HS.out Tryz.underlying129 rfl (by kernel_rfl)) rfl ?_
 exact .inl ⟨HF.out,rfl,HB.out⟩):g:=h
theorem ZpW (eE:List Value)(m:DMacro)(eV:List Nat)(v:Value)(l:List Tok)(fp:List Nat)(w:World)(hv:Zaq m=true)(h0:0<l.length)(je:l.length<=60)(BU:∀t∈l,Tx t)(hu:∀t∈l,Up t.hidden)(hh:∀t∈l,t.hidden.length<=100000)(hop:m.function=true->∃h1:1<l.length,isM l[1] [40]=true)
  (HM:sMacro.R w eE m eV) (H:(Zaa sTok).R w [v] l fp):Calls Tryz.prog 88 #[.agg eE.toArray,v] w (UseOf m eE l w):=by
 have gb:=HM;obtain⟨h2,h3,q2,q3,rfl,Bx,K2,K3,-⟩:=HM;obtain⟨a2,c2,rfl,-⟩:=Zaf K2;obtain⟨a3,c3,rfl,-⟩:=Zac K3;have vN:=H;obtain⟨al,cl,rfl,dK,iu,ai⟩:=Zac H;unfold maxLen at iu;obtain⟨bw,ow,-,rfl,-,-,-⟩:=ai h0;have HX:=Qh (Zdj w #[.string m.name,.bool m.function,.slice a2 m.params.length c2,.slice a3 m.body.length c3] #[.string ⟨#[]⟩,.bool false,.slice none 0 0,.slice none 0 0,.slice none 0 0,.int .i64 0,.slice none 0 0] 56 129);have b0:=Zab w (.cells #[.string m.name,.bool m.function,.slice a2 m.params.length c2,.slice a3 m.body.length c3] 56);have b2:=b0.trans ((Zab (w.alloc (.cells #[.string m.name,.bool m.function,.slice a2 m.params.length c2,.slice a3 m.body.length c3] 56)) (.cells #[.string ⟨#[]⟩,.bool false,.slice none 0 0,.slice none 0 0,.slice none 0 0,.int .i64 0,.slice none 0 0] 129)).mono b0.size);have bi:((w.alloc (.cells #[.string m.name,.bool m.function,.slice a2 m.params.length c2,.slice a3 m.body.length c3] 56)).alloc (.cells #[.string ⟨#[]⟩,.bool false,.slice none 0 0,.slice none 0 0,.slice none 0 0,.int .i64 0,.slice none 0 0] 129)).heap.size=w.heap.size+2:=by show((w.heap.push _).push _).size=_;simp
 have nf:=Qh (sMacro.below gb b2);have lE:=Qh ((Zaa sTok).below vN b2);have pR:=Qh hv;have kC:=Qh BU;have HUP:=Qh hu;have xM:=Qh hh;have kw:=Qh hop;have iS:Hid (m.name.size<=maxLen):=Bx;clear gb K2 K3 H vN ai BU hu hh hv hop;go_enter Tryz.func88,Tryz.ntmps88;go_upto_region 1 with fail
 generalize ((w.alloc (.cells #[.string m.name,.bool m.function,.slice a2 m.params.length c2,.slice a3 m.body.length c3] 56)).alloc (.cells #[.string ⟨#[]⟩,.bool false,.slice none 0 0,.slice none 0 0,.slice none 0 0,.int .i64 0,.slice none 0 0] 129))=W2 at *;obtain⟨xa,xc,xf,c0,c1,Bd,c3',xR,bu,kT⟩:=ZaO lE.out h0;simp only[Nat.zero_mul,Q0]at c0 c1 Bd c3';have bt:=Zab W2 (.cells #[.int .i64 l[0].kind,.string l[0].text,.bool l[0].spaced,.slice xa l[0].hidden.length xc] 32);have mP:=Qh (JS W2 (.cells #[.int .i64 l[0].kind,.string l[0].text,.bool l[0].spaced,.slice xa l[0].hidden.length xc] 32));rw[bi]at mP;go_upto_region 2 with fail
 have iR:(W2.alloc (.cells #[.int .i64 l[0].kind,.string l[0].text,.bool l[0].spaced,.slice xa l[0].hidden.length xc] 32)).heap.size=w.heap.size+3:=by show(W2.heap.push _).size=_;simp[bi]
 have bB:=Qh (And.intro (Zag HX.out.1 bt) (Zag HX.out.2 bt));have mG:=Qh (sMacro.below nf.out bt);have qn:=Qh ((Zaa sTok).below lE.out bt);have lr:=Qh (ZeI (sTok.below xR bt));have b3:=b2.trans (bt.mono b2.size);clear c0 c1 Bd c3' nf lE xR kT HX bu bt b2 b0;generalize (W2.alloc (.cells #[.int .i64 l[0].kind,.string l[0].text,.bool l[0].spaced,.slice xa l[0].hidden.length xc] 32))=W3 at *;have p1:=Qc 1 bB.out.1;cases hf:m.function
 ·have HF:=Qh (ZnW h0 hf);rw[hf]at p1;have ym:=Qh (λ(Q:World) (hQ:Below W3.heap.size W3 Q)=>ZfS _ l[0].hidden m.name xf Q (HUP.out _ (QE h0)) (by have:=xM.out _ (QE h0);omega) iS.out ((Zaa sStr).below lr.out hQ));have eP:Hid (∀Q:World,Below W3.heap.size W3 Q->Q.heap[w.heap.size]?=some (.cells #[.string m.name,.bool m.function,.slice a2 m.params.length c2,.slice a3 m.body.length c3] 56 (0,0))/\Q.heap[w.heap.size+2]?=some (.cells #[.int .i64 l[0].kind,.string l[0].text,.bool l[0].spaced,.slice xa l[0].hidden.length xc] 32 (0,0))):=λQ hQ=>⟨Zag bB.out.1 hQ,Zag mP.out hQ⟩;obtain⟨fu,kZ⟩:∃fu:Bool,Hid (fu=m.function):=⟨_,Qh rfl⟩;clear hf;go_upto_region 3 with fail
  clear p1;have aS:Below W3.heap.size W3 W3.drew:=Zah (QD _ _) 1;refine wp_region_noPanic ?_;refine JU (S:=λw'=>w'.heap[w.heap.size]?=some (.cells #[.string m.name,.bool m.function,.slice a2 m.params.length c2,.slice a3 m.body.length c3] 56 (0,0))/\w'.heap[w.heap.size+2]?=some (.cells #[.int .i64 l[0].kind,.string l[0].text,.bool l[0].spaced,.slice xa l[0].hidden.length xc] 32 (0,0))) (by kernel_rfl) (by exact eP.out _ aS) (λac=>?_);generalize hwd:W3.drew=wd at *;refine Qt 0 17 rfl rfl ?_ (by intro w aI;obtain⟨m0,m1,m2,m3⟩:=Q4 aI.1;have t3:=Qc 3 aI.2;go_simp;(first | done | with_reducible rfl | rfl));try simp only[Qp]
  refine Qt 1 18 rfl rfl ?_;try simp only[Qp]
  refine Qt 2 19 rfl rfl ?_ (by intro w aI;obtain⟨m0,m1,m2,m3⟩:=Q4 aI.1;have t3:=Qc 3 aI.2;go_simp;(first | done | with_reducible rfl | rfl));try simp only[Qp]
  refine Qt 3 20 rfl rfl ?_;try simp only[Qp]
  refine Qt 4 21 rfl rfl ?_ (by intro w aI;obtain⟨m0,m1,m2,m3⟩:=Q4 aI.1;have t3:=Qc 3 aI.2;go_simp;(first | done | with_reducible rfl | rfl));try simp only[Qp]
  refine Qr 5 rfl (λK hK=>?_);go_simp;refine(ym.out _ aS).mono ?_;rintro e w9⟨ao,co,f9,rfl,R9,O9,-,gc⟩;have mv:=aS.trans (gc.mono aS.size);refine hK.out _ _ (eP.out _ mv) (λac=>?_);clear hK K;try simp only[Qp]
  refine Qt 6 23 rfl rfl ?_;try simp only[Qp]
  have jG:=Zag bB.out.2 mv;have tY:=b3.trans (mv.mono b3.size);have pM:w.heap.size+1∉f9:=λhx=>by have h1:=(O9.2 _ hx).1;have h2:=aS.size;omega
  have z0:=Qc 0 jG;have dT:=Qf 0 jG;have z1:=Qc 1 jG;have dU:=Qf 1 jG;have z2:=Qc 2 jG;have dV:=Qf 2 jG;have z3:=Qc 3 jG;have dW:=Qf 3 jG;have z4:=Qc 4 jG;have zf4:=Qf 4 jG;have z5:=Qc 5 jG;have zf5:=Qf 5 jG;have z6:=Qc 6 jG;have zf6:=Qf 6 jG;have HS:=Qh (Zlx jG (.string m.name) (.bool m.function) (.slice a2 m.params.length c2) (.slice a3 m.body.length c3) (.slice none 0 0) (.int .i64 1) (.slice ao (ins l[0].hidden m.name).length co));have HB:=Qh (ZhT (g:=w.heap.size+1) tY (by omega) (.string m.name) (.bool m.function) (.slice a2 m.params.length c2) (.slice a3 m.body.length c3) (.slice none 0 0) (.int .i64 1) (.slice ao (ins l[0].hidden m.name).length co));have fM:=Qh ((Zaa sStr).set7R R9 pM (.string m.name) (.bool m.function) (.slice a2 m.params.length c2) (.slice a3 m.body.length c3) (.slice none 0 0) (.int .i64 1) (.slice ao (ins l[0].hidden m.name).length co));have B8:Hid ((Zgy w9 (w.heap.size+1) (.string m.name) (.bool m.function) (.slice a2 m.params.length c2) (.slice a3 m.body.length c3) (.slice none 0 0) (.int .i64 1) (.slice ao (ins l[0].hidden m.name).length co)).heap[w.heap.size]?=some (.cells #[.string m.name,.bool m.function,.slice a2 m.params.length c2,.slice a3 m.body.length c3] 56 (0,0))/\(Zgy w9 (w.heap.size+1) (.string m.name) (.bool m.function) (.slice a2 m.params.length c2) (.slice a3 m.body.length c3) (.slice none 0 0) (.int .i64 1) (.slice ao (ins l[0].hidden m.name).length co)).heap[w.heap.size+2]?=some (.cells #[.int .i64 l[0].kind,.string l[0].text,.bool l[0].spaced,.slice xa l[0].hidden.length xc] 32 (0,0))):=⟨(ZhS (by omega) _ _ _ _ _ _ _).trans ac.1,(ZhS (by omega) _ _ _ _ _ _ _).trans ac.2⟩;unfold Zgy at HS HB fM B8;refine Qr 7 rfl (λK hK=>?_);go_simp;refine hK.out _ _ (B8.out) (λac=>?_);clear hK K;try simp only[Qp]
  refine Qt 8 5 rfl rfl ?_;try simp only[Qp]
  refine wpAnyH_done (by kernel_rfl) ?_ _;refine QP ?_;clear ac;go_wp2;refine JV (Zat rfl _ _ (w.heap.size+1) _ _ _ _ rfl HS.out Tryz.underlying129 rfl (by kernel_rfl)) rfl ?_;exact .inr ⟨[],1,ins l[0].hidden m.name,_,_,[],f9,HF.out,rfl,Zao sToks _ _ 0 (by simp),by simp,fM.out,λb hb=>by have h1:=(O9.2 _ hb).1;have h2:=aS.size;omega,HB.out⟩
 rw[hf]at p1;have HFT:=Qh hf;obtain⟨zr,ho1⟩:=kw.out hf;have HO1:ZdQ l[1]=true:=by rw[←Zpk (kC.out _ (QE zr))];exact ho1
 have nY:=Qh (ZjW _ l fp 1 W3 je zr HO1 (λk hk=>by have:=xM.out _ (QE hk);omega) qn.out);have sQ:=λR e h=>Zdy (l.drop 2) 1 [] [] 2 (R:=R) (e:=e) h;rcases hS:Zax (l.drop 2) 1 [] [] 2 with⟨AA,en,ok⟩;have gK:=Qh hS;clear HO1 ho1 hf;cases ok
 ·have HF:=Qh (Zpl HFT.out hS);rw[Zq6 kC.out hS]at nY;unfold ZhQ at nY;try dsimp only at nY
  clear hS sQ;go_wp2_with fail
  refine nY.out.mono ?_;rintro e w4⟨vA,fA,rfl,RA,-,aM⟩;obtain⟨aA,cA,rfl,-⟩:=Zac RA;have yP:=Qh (Zag bB.out.2 aM);have hB4:=b3.trans (aM.mono b3.size);clear RA nY p1;exact Y19A4
 have xT:2<en/\en<=l.length:=by
  have:=sQ _ _ hS;rw[QM]at this;omega
 rw[ZpU kC.out hS]at nY;unfold ZhQ at nY;try dsimp only at nY
 clear sQ hS;go_wp2_with fail
 refine nY.out.mono ?_;rintro e w3⟨vA,fA,rfl,RA,OA,aM⟩;obtain⟨aA,cA,rfl,hcA,hmA,-⟩:=Zac RA;unfold maxLen at hmA;have dx:=Qh RA;have uD:=Qh (λb hb=>(OA.2 b hb).1);have hs34:=b3.size;have sw:=Qh (Zag bB.out.2 aM);have dJ:=Qh (Zag bB.out.1 aM);have lu:=Qh (Zag mP.out aM);have aQ:=b3.trans (aM.mono b3.size);have kD:=Qh ((Zaa sTok).below qn.out aM);have B9:=Qh ((Zaa sStr).below lr.out aM);have p0:=Qc 0 dJ.out;replace p1:=Qc 1 dJ.out;have p2:=Qc 2 dJ.out;have p3:=Qc 3 dJ.out;have sU:=Qh (Zi2 _ m eV _ AA fA w3 (sMacro.below mG.out aM) dx.out);rw[Zpc pR.out HFT.out]at sU;clear RA OA nY aM b3 bB mP qn mG lr;by_cases gv:Zcl m.params.length AA=m.params.length;rotate_left
 ·have HF:=Qh (ZnX HFT.out gK.out gv);rw[JQ gv]at sU;clear gv;go_wp2_with fail
  refine sU.out.mono ?_;rintro e w4⟨rfl,aM⟩;have yP:=Qh (Zag sw.out aM);have hB4:=aQ.trans (aM.mono aQ.size);clear sU p0 p1 p2 p3;exact Y19A4
 have sR:=useR_yes h0 HFT.out (by omega:en-1<l.length) gK.out gv;have dD:m.params.length<=AA.length:=Zpg gv;rw[JR gv]at sU;obtain⟨j,hj⟩:∃j,en-1=j:=⟨_,rfl⟩;have lj:j<l.length:=by omega
 have HF:Hid (Zdf m l=some (AA.take m.params.length,en,ins (both l[0].hidden l[j].hidden) m.name)):=by show _=_;subst hj;exact sR
 have gN:IntKind.i64.wrap ((en:Int)-1)=(j:Int):=by rw[QF _ (by omega)];omega
 clear sR gv;obtain⟨np,HNP⟩:∃np:Nat,Hid (np=m.params.length):=⟨_,Qh rfl⟩;go_wp2_with fail
 refine sU.out.mono ?_;rintro e w4⟨rfl,aM⟩;clear p0 p1 p2 p3 sU;have hB4:=aQ.trans (aM.mono aQ.size);have gy:=Qh (Zag dJ.out aM);have eA:=Qh (Zag lu.out aM);have gH:=Qh (Zag sw.out aM);have fW:=Qh ((Zaa sTok).below kD.out aM);have HXR5:=Qh ((Zaa sStr).below B9.out aM);obtain⟨ft,RT,mK⟩:=Zcp m.params.length dD ((Zaa sToks).below dx.out aM);have sL:=Qh RT;have HFT3:Hid (∀b∈ft,w.heap.size+3<=b):=λb hb=>by have:=uD.out b (mK b hb);omega
 have HFT2:Hid (∀b∈ft,w.heap.size<=b):=λb hb=>by have:=uD.out b (mK b hb);omega
 have p2:=Qc 2 gy.out;have k0:(0:Int)<=(m.params.length:Int):=by omega
 have k1:(m.params.length:Int)<=(cA:Int):=by omega
 have k2:m.params.length<=cA:=by omega
 obtain⟨ya,yc,yf,-,-,-,y3,yR,me,-⟩:=ZaO fW.out lj;have HYR:=Qh (ZeI yR);have HY3:=Qh y3;clear dJ lu sw kD B9 dx RT mK y3 yR aQ;go_upto_region 8 with fail
 clear p2 k0 k1 k2;have eP:Hid (∀Q:World,Below w4.heap.size w4 Q->Q.heap[w.heap.size+2]?=some (.cells #[.int .i64 l[0].kind,.string l[0].text,.bool l[0].spaced,.slice xa l[0].hidden.length xc] 32 (0,0))/\Q.cell? ⟨bw,ow+j*4+3,none⟩=some (.slice ya l[j].hidden.length yc)):=λQ hQ=>⟨Zag eA.out hQ,(hQ.cell (p:=⟨bw,ow+j*4+3,none⟩) me).trans HY3.out⟩;have lp:=Qh (λ(Q:World) (hQ:Below w4.heap.size w4 Q)=>Zgu _ _ l[0].hidden l[j].hidden xf yf Q (by have:=xM.out _ (QE h0);omega) (by have:=xM.out _ (QE lj);omega) (HUP.out _ (QE lj)) ((Zaa sStr).below HXR5.out hQ) ((Zaa sStr).below HYR.out hQ));have aS:Below w4.heap.size w4 w4.drew:=Zah (QD _ _) 1;have i0:(0:Int)<=(j:Int):=by omega
 have i1:(j:Int)<(l.length:Int):=by omega
 refine wp_region_noPanic ?_;refine JU (S:=λw'=>w'.heap[w.heap.size+2]?=some (.cells #[.int .i64 l[0].kind,.string l[0].text,.bool l[0].spaced,.slice xa l[0].hidden.length xc] 32 (0,0))/\w'.cell? ⟨bw,ow+j*4+3,none⟩=some (.slice ya l[j].hidden.length yc)) (by kernel_rfl) (by exact eP.out _ aS) (λac=>?_);generalize hwd:w4.drew=wd at *;refine Qt 0 44 rfl rfl ?_;try simp only[Qp]
 refine Qt 1 45 rfl rfl ?_ (by intro w aI;have t3:=Qc 3 aI.1;have y3:=aI.2;go_simp;(first | done | with_reducible rfl | rfl));try simp only[Qp]
 refine Qt 2 46 rfl rfl ?_;try simp only[Qp]
 refine Qt 3 47 rfl rfl ?_;try simp only[Qp]
 refine Qt 4 48 rfl rfl ?_;try simp only[Qp]
 refine Qt 5 49 rfl rfl ?_;try simp only[Qp]
 refine Qt 6 50 rfl rfl ?_;try simp only[Qp]
 refine Qt 7 51 rfl rfl ?_ (by intro w aI;have t3:=Qc 3 aI.1;have y3:=aI.2;go_simp;(first | done | with_reducible rfl | rfl));try simp only[Qp]
 refine Qr 8 rfl (λK hK=>?_);go_simp;refine(lp.out _ aS).mono ?_;rintro e w5⟨v5,f5,rfl,R5,O5,bg⟩;have mL:=aS.trans (bg.mono aS.size);refine hK.out _ _ (eP.out _ mL) (λac=>?_);clear hK K;try simp only[Qp]
 refine Qt 9 10 rfl rfl ?_;try simp only[Qp]
 refine wpAnyH_done (by kernel_rfl) ?_ _;refine QP ?_;clear ac;have eO:=Qh R5;have cg:=hB4.trans (mL.mono hB4.size);have lk:=Qh (Zag gy.out mL);have kO:=Qh (Zag gH.out mL);have HRT5:=Qh ((Zaa sToks).below sL.out mL);obtain⟨a5,c5,rfl,-⟩:=Zaf R5;have ym:=Qh (λ(Q:World) (hQ:Below w5.heap.size w5 Q)=>ZfS _ (both l[0].hidden l[j].hidden) m.name f5 Q (List.Pairwise.filter _ (HUP.out _ (QE h0))) (by have h1:=xM.out _ (QE h0);have h2:=List.length_filter_le (λx=>Zdc l[j].hidden x) l[0].hidden;have h3:(both l[0].hidden l[j].hidden).length<=l[0].hidden.length:=h2;omega) iS.out ((Zaa sStr).below eO.out hQ));have tX:Hid (∀Q:World,Below w5.heap.size w5 Q->Q.heap[w.heap.size]?=some (.cells #[.string m.name,.bool m.function,.slice a2 m.params.length c2,.slice a3 m.body.length c3] 56 (0,0))):=λQ hQ=>Zag lk.out hQ;clear R5 O5 bg eP lp mL aS gy gH hwd sL HYR HY3;go_upto_region 9 with fail
 have aS:Below w5.heap.size w5 w5.drew:=Zah (QD _ _) 1;refine wp_region_noPanic ?_;refine JU (S:=λw'=>w'.heap[w.heap.size]?=some (.cells #[.string m.name,.bool m.function,.slice a2 m.params.length c2,.slice a3 m.body.length c3] 56 (0,0))) (by kernel_rfl) (by exact tX.out _ aS) (λac=>?_);generalize hwd:w5.drew=wd at *;refine Qt 0 53 rfl rfl ?_ (by intro w aI;obtain⟨m0,m1,m2,m3⟩:=Q4 aI;go_simp;(first | done | with_reducible rfl | rfl));try simp only[Qp]
 refine Qt 1 54 rfl rfl ?_;try simp only[Qp]
 refine Qt 2 55 rfl rfl ?_;try simp only[Qp]
 refine Qt 3 56 rfl rfl ?_;try simp only[Qp]
 refine Qt 4 57 rfl rfl ?_;try simp only[Qp]
 refine Qt 5 58 rfl rfl ?_ (by intro w aI;obtain⟨m0,m1,m2,m3⟩:=Q4 aI;go_simp;(first | done | with_reducible rfl | rfl));try simp only[Qp]
 refine Qr 6 rfl (λK hK=>?_);go_simp;refine(ym.out _ aS).mono ?_;rintro e w9⟨ao,co,f9,rfl,R9,O9,-,gc⟩;have mv:=aS.trans (gc.mono aS.size);refine hK.out _ _ (tX.out _ mv) (λac=>?_);clear hK K;try simp only[Qp]
 refine Qt 7 60 rfl rfl ?_;try simp only[Qp]
 have jG:=Zag kO.out mv;have tY:=cg.trans (mv.mono cg.size);have pM:w.heap.size+1∉f9:=λhx=>by have h1:=(O9.2 _ hx).1;have h2:=aS.size;have h3:=mlt kO.out;omega
 have HRT9:=(Zaa sToks).below HRT5.out mv;have hnt:w.heap.size+1∉ft:=λhx=>by have:=HFT3.out _ hx;omega
 have z0:=Qc 0 jG;have dT:=Qf 0 jG;have z1:=Qc 1 jG;have dU:=Qf 1 jG;have z2:=Qc 2 jG;have dV:=Qf 2 jG;have z3:=Qc 3 jG;have dW:=Qf 3 jG;have z4:=Qc 4 jG;have zf4:=Qf 4 jG;have z5:=Qc 5 jG;have zf5:=Qf 5 jG;have z6:=Qc 6 jG;have zf6:=Qf 6 jG;have HS:=Qh (Zlx jG (.string m.name) (.bool m.function) (.slice a2 m.params.length c2) (.slice a3 m.body.length c3) (.slice aA m.params.length cA) (.int .i64 (en:Nat)) (.slice ao (ins (both l[0].hidden l[j].hidden) m.name).length co));have HB:=Qh (ZhT (g:=w.heap.size+1) tY (by omega) (.string m.name) (.bool m.function) (.slice a2 m.params.length c2) (.slice a3 m.body.length c3) (.slice aA m.params.length cA) (.int .i64 (en:Nat)) (.slice ao (ins (both l[0].hidden l[j].hidden) m.name).length co));have fM:=Qh ((Zaa sStr).set7R R9 pM (.string m.name) (.bool m.function) (.slice a2 m.params.length c2) (.slice a3 m.body.length c3) (.slice aA m.params.length cA) (.int .i64 (en:Nat)) (.slice ao (ins (both l[0].hidden l[j].hidden) m.name).length co));have HRG:=Qh ((Zaa sToks).set7R HRT9 hnt (.string m.name) (.bool m.function) (.slice a2 m.params.length c2) (.slice a3 m.body.length c3) (.slice aA m.params.length cA) (.int .i64 (en:Nat)) (.slice ao (ins (both l[0].hidden l[j].hidden) m.name).length co));have B8:Hid ((Zgy w9 (w.heap.size+1) (.string m.name) (.bool m.function) (.slice a2 m.params.length c2) (.slice a3 m.body.length c3) (.slice aA m.params.length cA) (.int .i64 (en:Nat)) (.slice ao (ins (both l[0].hidden l[j].hidden) m.name).length co)).heap[w.heap.size]?=some (.cells #[.string m.name,.bool m.function,.slice a2 m.params.length c2,.slice a3 m.body.length c3] 56 (0,0))):=(ZhS (by omega) _ _ _ _ _ _ _).trans ac;unfold Zgy at HS HB fM HRG B8;refine Qr 8 rfl (λK hK=>?_);go_simp;refine hK.out _ _ (B8.out) (λac=>?_);clear hK K;try simp only[Qp]
 refine Qt 9 5 rfl rfl ?_;try simp only[Qp]
 refine wpAnyH_done (by kernel_rfl) ?_ _;refine QP ?_;clear ac;go_wp2;refine JV (Zat rfl _ _ (w.heap.size+1) _ _ _ _ rfl HS.out Tryz.underlying129 rfl (by kernel_rfl)) rfl ?_;exact .inr ⟨_,en,_,_,_,ft,f9,HF.out,rfl,HRG.out,HFT2.out,fM.out,λb hb=>by have h1:=(O9.2 _ hb).1;have h2:=aS.size;have h3:=mlt lk.out;omega,HB.out⟩
theorem Ze7 (eE:List Value)(m:DMacro)(eV:List Nat)(v:Value)(a:List (List Tok))(fp:List Nat)(w:World)(HM:sMacro.R w eE m eV)(H:(Zaa (Zaa sTok)).R w [v] a fp):
  Calls Tryz.prog 138 #[.agg eE.toArray,v] w (Zbu (ZaG m a) w):=by
 obtain⟨h2,h3,q2,q3,rfl,-,K2,K3,-⟩:=HM;obtain⟨a2,c2,rfl,-⟩:=Zaf K2;obtain⟨a3,c3,rfl,-⟩:=Zac K3;obtain⟨aa,ca,rfl,m7,AM,ai⟩:=Zac H;unfold maxLen at AM;have b0:=Zab w (.cells #[.string m.name,.bool m.function,.slice a2 m.params.length c2,.slice a3 m.body.length c3] 56);have HX:=Qh (JS w (.cells #[.string m.name,.bool m.function,.slice a2 m.params.length c2,.slice a3 m.body.length c3] 56));have HA:=Qh ((Zaa (Zaa sTok)).below H b0);clear K2 K3 H;go_enter Tryz.func138,Tryz.ntmps138;go_upto_region 1 with fail
 generalize (w.alloc (.cells #[.string m.name,.bool m.function,.slice a2 m.params.length c2,.slice a3 m.body.length c3] 56))=W1 at *;have p2:=Qc 2 HX.out;by_cases h1:a.length=m.params.length;rotate_left
 ·have HF:=Qh (ZjP h1);have e1:((a.length:Int) != (m.params.length:Int))=true:=by simp;omega
  clear h1;go_wp2;go_ret;exact⟨Zad HF.out.symm,b0⟩
 have e1:((a.length:Int) != (m.params.length:Int))=false:=by simp;omega
 have H1:=Qh h1;clear h1;go_wp2;clear p2 e1;go_loopw [15] (λi wr=>∃k:Nat,k<=a.length/\i=.int .i64 k/\Hid (∀j,(hj:j<a.length)->j<k->Zam a[j]=true)/\Below W1.heap.size W1 wr) (λi _=>a.length-(intOf i).toNat)
 case atStart=>exact⟨0,by omega,rfl,Qh (λj _ h=>absurd h (by omega)),QD _ _⟩
 case round =>
  obtain⟨k,hk,rfl,HV,hb⟩:=hrel;have ns:=b0.trans (hb.mono b0.size);by_cases af:k<a.length
  ·obtain⟨b1,o1,-,rfl,-,-,-⟩:=ai (by omega);obtain⟨aj,cj,f1,q1,R1,l1,-⟩:=Zdd HA.out af;replace q1:=(hb.cell (p:=⟨b1,o1+k,none⟩) l1).trans q1;have HT:=Qh (ZbZ _ a[k] f1 wr ((Zaa sTok).below R1 hb));clear R1 ai;cases hv:Zam a[k]
   ·have HF:=Qh (ZjQ (m:=m) af hv);rw[hv]at HT;clear hv HV;go_wp2_with (go_at_call 35;refine(HT.out).mono ?_;rintro e w7⟨rfl,db⟩)
    go_ret;exact⟨Zad HF.out.symm,ns.trans (db.mono ns.size)⟩
   ·have Bw:=Qh hv;rw[hv]at HT;clear hv
    have HN:Hid (∀j,(hj:j<a.length)->j<k+1->Zam a[j]=true):=Qh (λj hj my=>by
     rcases Nat.lt_succ_iff_lt_or_eq.1 my with h | rfl
     ·exact HV.out j hj h
     ·exact Bw.out)
    go_wp2_with (go_at_call 35;refine(HT.out).mono ?_;rintro e w7⟨rfl,db⟩)
    go_roundw;case rel=>exact⟨k+1,by omega,by go_num,HN,hb.trans (db.mono hb.size)⟩
    case measure=>simp[intOf];omega
  ·have HF:=Qh (ZjR H1.out λj hj=>HV.out j hj (by omega));go_wp2;go_ret;exact⟨Zad HF.out.symm,ns⟩
theorem ZjX (v:Value)(l:List Tok)(fp:List Nat)(k:Nat)(w:World)(hl:l.length<=1000000)(hk:k<l.length)(H:(Zaa sTok).R w [v] l fp):
  Calls Tryz.prog 155 #[v,.int .i64 k] w λe w'=>e=.returned (.bool (besL l k || besR l k))/\w'=w:=by
 obtain⟨a,cap,rfl,hc,hm,ai⟩:=Zac H;obtain⟨bb,ob,-,rfl,-,-,-⟩:=ai (by omega);unfold maxLen at hm;have HK:=Qh H;clear H ai;obtain⟨r,HR⟩:∃r,Hid (r=(besL l k || besR l k)):=⟨_,Qh rfl⟩;rw[←HR.out];have i1:(0:Int)<=(k:Int)+1:=by omega
 have i2:((k:Int)+1).toNat=k+1:=by omega
 have i3:IntKind.i64.wrap ((k:Int)+1)=(k:Int)+1:=QF _ (by omega);have fe:Hid (∀bY:k+1<l.length,besR l k=(l[k+1].text.toList==[35,35])):=λbY=>by unfold besR;rw[dif_pos bY]
 have ov:Hid (¬k+1<l.length->besR l k=false):=λbY=>by unfold besR;rw[dif_neg bY]
 go_enter Tryz.func155,Tryz.ntmps155;by_cases ek:0<k
 ·have j0:(0:Int)<(k:Int):=by omega
  have j1:IntKind.i64.wrap ((k:Int)-1)=(k:Int)-1:=QF _ (by omega);have j2:(0:Int)<=(k:Int)-1:=by omega
  have j3:(k:Int)-1<(l.length:Int):=by omega
  have j4:((k:Int)-1).toNat=k-1:=by omega
  have j5:(1:Int)<=(k:Int):=by omega
  obtain⟨xa,xc,xf,-,x1,-,-,-,-,-⟩:=ZaO HK.out (j:=k-1) (by omega);have HL:Hid (besL l k=((l[k-1]'(by omega)).text.toList==[35,35])):=by show _=_;unfold besL;rw[dif_pos ⟨ek,by omega⟩]
  generalize (l[k-1]'(by omega)).text=tx at *;cases hg:(tx.toList==[35,35])
  ·by_cases bY:k+1<l.length
   ·obtain⟨ya,yc,yf,-,y1,-,-,-,-,-⟩:=ZaO HK.out (j:=k+1) bY;have HF:Hid (r=(l[k+1].text.toList==[35,35])):=(by show _=_;rw[HR.out,HL.out,hg,fe.out bY];rfl);have j6:(k:Int)+1<(l.length:Int):=(by omega);go_wp2;go_ret;exact⟨by rw[HF.out];rfl,by trivial⟩
   ·have HF:Hid (r=false):=(by show _=_;rw[HR.out,HL.out,hg,ov.out bY];rfl);have j6:¬(k:Int)+1<(l.length:Int):=(by omega);go_wp2;go_ret;exact⟨by rw[HF.out];rfl,by trivial⟩
  ·have HF:Hid (r=true):=(by show _=_;rw[HR.out,HL.out,hg];rfl);go_wp2;go_ret;exact⟨by rw[HF.out];rfl,by trivial⟩
 ·have j0:¬(0:Int)<(k:Int):=by omega
  have HL:Hid (besL l k=false):=by show _=_;unfold besL;rw[dif_neg (λh=>ek h.1)]
  by_cases bY:k+1<l.length
  ·obtain⟨ya,yc,yf,-,y1,-,-,-,-,-⟩:=ZaO HK.out (j:=k+1) bY;have HF:Hid (r=(l[k+1].text.toList==[35,35])):=(by show _=_;rw[HR.out,HL.out,fe.out bY];rfl);have j6:(k:Int)+1<(l.length:Int):=(by omega);go_wp2;go_ret;exact⟨by rw[HF.out];rfl,by trivial⟩
  ·have HF:Hid (r=false):=(by show _=_;rw[HR.out,HL.out,ov.out bY];rfl);have j6:¬(k:Int)+1<(l.length:Int):=(by omega);go_wp2;go_ret;exact⟨by rw[HF.out];rfl,by trivial⟩
theorem Zdr (ct:List Value)(t:Tok)(yy:List Nat)(v:Value)(l:List Tok)(fp:List Nat)(w:World)(hl:l.length<=1000000)(hh:∀k,(hk:k<l.length)->l[k].hidden.length<=2000000)(HT:sTok.R w ct t yy)(H:(Zaa sTok).R w [v] l fp):
  Calls Tryz.prog 123 #[.agg ct.toArray,v] w (MineN (spc t.spaced l) w):=by
 obtain⟨ht,rfl,-,-,KT⟩:=HT;obtain⟨AO,AP,rfl,-⟩:=Zaf KT;clear KT;obtain⟨a,cap,rfl,hc,hm,ai⟩:=Zac H;unfold maxLen at hm;have b0:=Zab w (.cells #[.int .i64 t.kind,.string t.text,.bool t.spaced,.slice AO t.hidden.length AP] 32);have HX:=Qh (JS w (.cells #[.int .i64 t.kind,.string t.text,.bool t.spaced,.slice AO t.hidden.length AP] 32));have HK:=Qh ((Zaa sTok).below H b0);have HH:=Qh hh;clear H hh;go_enter Tryz.func123,Tryz.ntmps123;go_upto_region 1 with fail
 generalize (w.alloc (.cells #[.int .i64 t.kind,.string t.text,.bool t.spaced,.slice AO t.hidden.length AP] 32))=W1 at *;have hsw:w.heap.size<W1.heap.size:=mlt HX.out;go_wp2;go_loopw [5,10] (λvo i wr=>∃(k:Nat) (L:List (Elem Tok)),k<=l.length/\i=.int .i64 k/\Hid (L.map (·.d)=l.take k)/\Hid (RowN sTok W1.heap.size 32 vo L wr)/\Hid (Own wr W1.heap.size (L.flatMap (·.fp)))/\Below W1.heap.size W1 wr) (λ_ i _=>l.length-(intOf i).toNat)
 case atStart=>exact⟨0,[],by omega,rfl,rfl,RowN.nil _ _ _ _,Own.nil _ _,QD _ _⟩
 case round =>
  obtain⟨k,L,hk,rfl,HD,HR,HO,hb⟩:=hrel;have pJ:L.length=k:=by have:=JY List.length HD.out;rw[QH,Qd]at this;omega
  have yl:=Qh pJ;obtain⟨ao,co,mQ,-⟩:=HR.out.val;rw[pJ]at mQ;subst mQ;clear pJ;by_cases af:k<l.length
  ·obtain⟨b1,o1,-,rfl,-,-,-⟩:=ai (by omega);obtain⟨xa,xc,xf,x0,x1,x2,x3,xR,bu,-⟩:=ZaO HK.out af;replace x0:=(hb.cell (p:=⟨b1,o1+k*4,none⟩) bu).trans x0;replace x1:=(hb.cell (p:=⟨b1,o1+k*4+1,none⟩) bu).trans x1;replace x2:=(hb.cell (p:=⟨b1,o1+k*4+2,none⟩) bu).trans x2;replace x3:=(hb.cell (p:=⟨b1,o1+k*4+3,none⟩) bu).trans x3;have XR:=Qh (sTok.below xR hb);have bx:=Zab wr (.cells #[.int .i64 l[k].kind,.string l[k].text,.bool l[k].spaced,.slice xa l[k].hidden.length xc] 32);have cJ:=Qh (JS wr (.cells #[.int .i64 l[k].kind,.string l[k].text,.bool l[k].spaced,.slice xa l[k].hidden.length xc] 32));clear xR ai;go_upto_region 5 with fail
   clear x0 x1 x2 x3;generalize (wr.alloc (.cells #[.int .i64 l[k].kind,.string l[k].text,.bool l[k].spaced,.slice xa l[k].hidden.length xc] 32))=W2 at *;obtain⟨p0,p1,p2,p3⟩:=Q4 cJ.out;have HC:=Qh (Zee _ l[k] _ W2 (HH.out k af) (sTok.below XR.out bx));have ky:wr.heap.size<=W2.heap.size:=bx.size;go_wp2_with fail
   refine(HC.out).mono ?_;rintro e w3⟨a3,c3,f3,rfl,R3,O3,-,aC⟩;clear p0 p1 p2 p3 HC;have kW:=bx.trans (aC.mono bx.size);have hW3:=kW.size;have hW1:=hb.size;have dv:=hb.trans (kW.mono hb.size);have bl:=Zab w3 (.cells #[.int .i64 l[k].kind,.string l[k].text,.bool l[k].spaced,.slice a3 l[k].hidden.length c3] 32);have kD:=Qh (JS w3 (.cells #[.int .i64 l[k].kind,.string l[k].text,.bool l[k].spaced,.slice a3 l[k].hidden.length c3] 32));have gl:=Qh ((HR.out.below kW).below bl);have sN:=Qh ((HO.out.grow kW).grow bl);have RX:=Qh (sTok.below R3 bl);have OX:=Qh (O3.grow bl);have fX:=dv.trans (bl.mono dv.size);have HLO:=Qh (λb hb=>HO.out.lt b hb);have gJ:=Qh HR.out.mine;have om:Hid (∀b∈f3,(Value.slice ao k co).ownBlock≠some b):=λb hb h=>by
    have h1:=(gJ.out b h).2;have h2:=(O3.2 b hb).1;omega
   clear R3 O3 HR HO bx aC XR cJ kW hb;go_wp2_with (at_builtin;refine ZaT (X:=[(⟨[.int .i64 l[k].kind,.string l[k].text,.bool l[k].spaced,.slice a3 l[k].hidden.length c3],l[k],f3⟩:Elem Tok)]) ti_tok rfl (by decide) _ rfl (.tmp 14) (.tmp 17) rfl W1.heap.size (.slice ao k co) rfl gl.out ⟨w3.heap.size,0,none⟩ 1 1 rfl rfl (λx hx=>by obtain rfl:=Qm hx;exact⟨rfl,RX.out,om.out⟩) (λx hx=>by obtain rfl:=Qm hx;exact ZaX _ _ _ _ RX.out) (λj u hj=>by rw[ZaZ,QX,cell_of_row _ _ _ _ _ _ kD.out];simpa using hj) (by have:=yl.out;unfold maxLen;omega) (by have:=yl.out;omega) fX.size ?_;intro v5 w5 cz cG eq)
   have bg:Below W1.heap.size W1 w5:=fX.grown cG fX.size (λb hb=>(gJ.out b hb).1);have nj:Hid (Own w5 W1.heap.size ((L++[(⟨[.int .i64 l[k].kind,.string l[k].text,.bool l[k].spaced,.slice a3 l[k].hidden.length c3],l[k],f3⟩:Elem Tok)]).flatMap (·.fp))):=by
    show Own _ _ _;rw[ZfN];have e1:([(⟨[.int .i64 l[k].kind,.string l[k].text,.bool l[k].spaced,.slice a3 l[k].hidden.length c3],l[k],f3⟩:Elem Tok)]).flatMap (·.fp)=f3:=(by simp);rw[e1];refine Zcq (sN.out.app (OX.out.lower (by omega)) λb hb hx=>?_) (λb hb=>?_) cG
    ·have h1:=HLO.out b hb;have h2:=(OX.out.2 b hx).1;omega
    ·rcases Qa hb with hb | hb
     ·obtain⟨x,hx,aE⟩:=QO.1 hb;exact gl.out.ap x hx b aE
     ·exact om.out b hb
   have y7:Hid ((L++[(⟨[.int .i64 l[k].kind,.string l[k].text,.bool l[k].spaced,.slice a3 l[k].hidden.length c3],l[k],f3⟩:Elem Tok)]).map (·.d)=l.take (k+1)):=by
    show _=_;rw[QG,HD.out,Qb af];rfl
   have eO:=Qh cz;clear cz cG eq;go_wp2;go_roundw;case rel=>exact⟨k+1,_,by omega,by go_num,y7,eO,nj,bg⟩
   case measure=>simp[intOf];omega
  ·have hkl:k=l.length:=(by omega);have fi:=Qh (Zag HX.out hb);have aD:=b0.trans (hb.mono b0.size);have xN:Hid (L.map (·.d)=l):=(by show _=_;rw[HD.out,Qe (by omega)]);have io:=Qh (HR.out.lower (base':=w.heap.size) b0.size);have qN:=Qh (HO.out.lower (lo':=w.heap.size) b0.size);have p2:=Qc 2 fi.out;clear HD HR HO hkl;by_cases h0:k=0
   ·have HF:Hid (L.map (·.d)=spc t.spaced l):=by
     show _=_;have ur:l=[]:=QU.1 (by have:=JY List.length xN.out;rw[QH]at this;have:=yl.out;omega);rw[xN.out,ur];rfl
    have e0:¬(0:Int)<(k:Int):=(by omega);clear h0;go_wp2;go_ret;refine⟨_,L,rfl,?_,HF.out,qN.out,aD⟩;exact io.out
   ·obtain⟨x,X',rfl⟩:∃x X',L=x::X':=by
     cases L with
     | nil=>exact absurd yl.out.symm h0
     | cons x X'=>exact⟨x,X',rfl⟩
    obtain⟨g,nU,kL,cX⟩:∃g,ao=some ⟨g,0,none⟩/\w.heap.size<=g/\g<wr.heap.size:=by
     obtain⟨a9,c9,e,-,-,h⟩:=io.out.val;simp only[QT]at e;obtain⟨rfl,-,-⟩:=e;exact h (by simp)
    subst nU;obtain⟨hx,aS,pc,pd,K⟩:=io.out.el x (by simp);obtain⟨ah,ch,rfl,-⟩:=Zaf K;have rf:g∉x.fp:=λhx=>io.out.ap x (by simp) g hx rfl;have ij:=io.out;have c2:wr.cell? ⟨g,2,none⟩=some (.bool x.d.spaced):=by
     have:=ij.cellAt (k:=0) (by simp) (j:=2) (by decide) (u:=.bool x.d.spaced) (by show x.cells[2]?=_;rw[aS];rfl);simpa using this
    have f2:wr.frozen? ⟨g,2,none⟩=false:=ij.frozen 2;have HS:Hid (RowN sTok w.heap.size 32 (.slice (some ⟨g,0,none⟩) k co) (⟨[.int .i64 x.d.kind,.string x.d.text,.bool t.spaced,.slice ah x.d.hidden.length ch],⟨x.d.kind,x.d.text,t.spaced,x.d.hidden⟩,x.fp⟩::X') (wr.setCell ⟨g,2,none⟩ (.bool t.spaced))):=by
     show RowN _ _ _ _ _ _;have:=ij.set (k:=0) (by simp) (j:=2) (by decide) (.bool t.spaced) ⟨[.int .i64 x.d.kind,.string x.d.text,.bool t.spaced,.slice ah x.d.hidden.length ch],⟨x.d.kind,x.d.text,t.spaced,x.d.hidden⟩,x.fp⟩ (by show _=x.cells.set 2 _;rw[aS];rfl) ⟨_,rfl,pc,pd,K⟩ rf;simpa using this
    have HF:Hid (((⟨[.int .i64 x.d.kind,.string x.d.text,.bool t.spaced,.slice ah x.d.hidden.length ch],⟨x.d.kind,x.d.text,t.spaced,x.d.hidden⟩,x.fp⟩:Elem Tok)::X').map (·.d)=spc t.spaced l):=by
     show _=_;rw[←xN.out];rfl
    have HOS:Hid (Own (wr.setCell ⟨g,2,none⟩ (.bool t.spaced)) w.heap.size (((⟨[.int .i64 x.d.kind,.string x.d.text,.bool t.spaced,.slice ah x.d.hidden.length ch],⟨x.d.kind,x.d.text,t.spaced,x.d.hidden⟩,x.fp⟩:Elem Tok)::X').flatMap (·.fp))):=qN.out.setCell ⟨g,2,none⟩ (.bool t.spaced);have aF:=aD.setCell (p:=⟨g,2,none⟩) kL (.bool t.spaced);have e0:(0:Int)<(k:Int):=(by omega);have e1:0<k:=(by omega);clear K aS ij io h0 kL cX;go_wp2;go_ret;exact⟨_,_,rfl,HS.out,HF.out,HOS.out,aF⟩
end Go.Proofs.YtipfpppcbmpjiaaGreat
