/- Texts that the proof of EConditionOf stands on, in one file. -/
import Derived.Test.YtipfpppcbmpjiaaGreatZEConditionOf12
import Derived.Deep.RegionLaw
import Derived.Lib.SliceRun
set_option linter.unusedVariables false
set_option maxHeartbeats 16000000
set_option maxRecDepth 100000
set_option linter.unusedSimpArgs false
/- Substitute of the program: what it asks beyond the contracts. Rows of the call's own whose elements' memory is its own, too. -/
namespace Go.Proofs.YtipfpppcbmpjiaaGreat
open Go.RowKit
/-! ### Marks and parameters in a valid body -/
theorem Znm {t:Tok} (h:tokOk t=true) {r:List UInt8} (ht:t.text=⟨(35::r).toArray⟩):t.kind=4:=by
 obtain⟨⟨h0,hk⟩,-⟩:=ZaP h
 have e0:t.text[0]=35:=by
  have:∀ (s:ByteArray) (hs:0<s.size),s=⟨(35::r).toArray⟩->s[0]=35:=by rintro s hs rfl;rfl
  exact this _ h0 ht
 rw [hk,e0]
 decide
theorem isM_is {t:Tok} (h:tokOk t=true) (r:List UInt8):isM t (35::r)=(t.text.toList==35::r):=by
 unfold isM
 cases e:(t.text.toList==35::r)
 ·rw [Bool.and_false]
 ·rw [Zc8] at e
  rw [Znm h (of_decide_eq_true e)];rfl
theorem ZlS {m:DMacro} (h:macOk m=true) {k:Nat} (hk:k<m.body.length):tokOk m.body[k]=true:=(Zb8 hk ((ZaJ h).2.2 k hk)).1
theorem Zfm {m:DMacro} (h:macOk m=true) {k:Nat} (hk:k<m.body.length) (r:List UInt8):isM m.body[k] (35::r)=(m.body[k].text.toList==35::r):=isM_is (ZlS h hk) r
theorem mark_in {m:DMacro} (h:macOk m=true) {k:Nat} (hk:k<m.body.length) (hi:isM m.body[k] [35,35]=true):k+1<m.body.length:=by
 have hb:=(ZaJ h).2.2 k hk
 have ht:m.body[k].text=hash2:=Zfk hi
 unfold bodOk at hb
 rw [dif_pos hk,Bool.and_eq_true,Bool.and_eq_true] at hb
 have h2:=hb.1.2
 rw [ht,decide_eq_true rfl] at h2
 by_cases e:k+1=m.body.length
 ·rw [decide_eq_true e] at h2;simp at h2
 ·omega
theorem idx_par {ps:List ByteArray} {t:Tok} (hp:∀ k,(hk:k<ps.length)->Zak ps[k] 1=true) (ht:tokOk t=true) (k:Nat):idxTx ps t.text k=parFrom ps t k:=by
 induction k using idxTx.induct (ps:=ps) (x:=t.text) with
 |
  case1 k h hc =>
  have h5:=ht
  unfold tokOk at h5
  rw [Bool.and_eq_true] at h5
  have hk:t.kind=1:=Zhb h5.1 (by rw [hc];exact hp k h)
  rw [Zio h hc,ZlF h hk hc.symm]
 |
  case2 k h hc ih =>
  rw [Zhc h hc,ih,Zha h λ e=>hc e.2.symm]
 | case3 k h=>rw [Zin (by omega),ZlE (by omega)]
theorem Zkw {m:DMacro} (h:macOk m=true) {k:Nat} (hk:k<m.body.length):idxTx m.params m.body[k].text 0=parOf m.params m.body[k]:=idx_par (ZaJ h).2.1 (ZlS h hk) 0
def besL (l:List Tok) (k:Nat):Bool:=if h:0<k/\k-1<l.length then (l[k-1].text.toList==[35,35]) else false
def besR (l:List Tok) (k:Nat):Bool:=if h:k+1<l.length then (l[k+1].text.toList==[35,35]) else false
theorem bes_glue {m:DMacro} (h:macOk m=true) (k:Nat):(besL m.body k || besR m.body k)=(glueL m k || glueR m k):=by
 have e1:besL m.body k=glueL m k:=by
  unfold besL glueL
  by_cases hk:0<k/\k-1<m.body.length
  ·rw [dif_pos hk,dif_pos hk,Zfm h hk.2]
  ·rw [dif_neg hk,dif_neg hk]
 have e2:besR m.body k=glueR m k:=by
  unfold besR glueR
  by_cases hk:k+1<m.body.length
  ·rw [dif_pos hk,dif_pos hk,Zfm h hk]
  ·rw [dif_neg hk,dif_neg hk]
 rw [e1,e2]
/-! ### Rows that are the call's own, elements and all -/
theorem Zdx {α:Type} (A X:List (Elem α)):(A++X).flatMap (·.fp)=A.flatMap (·.fp)++X.flatMap (·.fp):=List.flatMap_append
theorem Zbu {w w':World} {lo:Nat} {fp:List Nat} {o:Option Nat} (h:Own w lo fp) (hn:∀ b∈fp,o≠some b) (hg:w.grownBy w' o):Own w' lo fp:=
 ⟨h.1,λ b hb=>by
  obtain⟨q1,cur,e,q2⟩:=h.2 b hb
  exact⟨q1,cur,e,(hg.block b (h.lt b hb) λ e=>hn b hb e.symm).trans q2⟩⟩
theorem Zjp {α:Type} {L M:List (Elem α)} (h:M.Sublist L):(M.flatMap (·.fp)).Sublist (L.flatMap (·.fp)):=by
 induction h with
 | slnil=>exact List.Sublist.refl _
 | cons a _ ih=>rw [List.flatMap_cons];exact ih.trans (List.sublist_append_right _ _)
 | cons_cons a _ ih=>rw [List.flatMap_cons,List.flatMap_cons];exact(List.Sublist.refl _).append ih
theorem Zh2 {w w':World} {o:Option Nat} (hg:w.grownBy w' o):Kept o.toList w w':=⟨hg.os,hg.tape,hg.output,hg.size,λ k hk hn=>hg.block k hk λ e=>hn (by rw [← e];simp)⟩
def MineN (l:List Tok) (w:World) (e:Ending) (w':World):Prop:=
 ∃ (v:Value) (L:List (Elem Tok)),e=.returned v/\RowN sTok w.heap.size 32 v L w'/\L.map (·.d)=l/\Own w' w.heap.size (L.flatMap (·.fp))/\Below w.heap.size w w'
theorem Zjq {α β:Type} {f:α->List β} {m:Nat}:∀ (L:List α) (k:Nat),(∀ x∈L,(f x).length=m)->(L.take k).flatMap f=(L.flatMap f).take (k * m)
 | [],k,_=>by simp
 | x::r,0,_=>by simp
 |
  x::r,k+1,h=>by
  have hx:=h x (by simp)
  rw [List.take_succ_cons,List.flatMap_cons,List.flatMap_cons,Zjq r k (λ y hy=>h y (by simp [hy])),List.take_append,hx,Nat.succ_mul,List.take_of_length_le (by omega:(f x).length<=k * m+m)]
  congr 2
  omega
theorem RowN.short {α:Type} {S:Shape α} {base:Nat} {e:TypeId} {L:List (Elem α)} {w:World} {g n cap:Nat} (h:RowN S base e (.slice (some ⟨g,0,none⟩) n cap) L w) {k:Nat} (hk:k<=L.length):RowN S base e (.slice (some ⟨g,0,none⟩) k cap) (L.take k) w where
 row:=by
  have hl:(L.take k).length=k:=by rw [List.length_take];omega
  have hf:((L.take k).flatMap (·.cells)).length=k * S.m:=by rw [ZaU (f:=Elem.cells) (m:=S.m) (λ y hy=>h.len y (List.mem_of_mem_take hy)),hl]
  rw [hl]
  refine ⟨hf,?_⟩
  rcases h.row.2 with⟨h',_⟩ | ⟨g',cap',cur,h',h1,h2,h3,h4,h5,h6⟩
  ·cases h'
  ·simp only [Value.slice.injEq,Qi,Addr.mk.injEq,and_true] at h'
   obtain⟨rfl,rfl,rfl⟩:=h'
   refine .inr ⟨g,cap,cur,rfl,h1,h2,by omega,h4,h5,?_⟩
   rw [Zjq (f:=Elem.cells) L k h.len,← h6,List.take_take,Nat.min_eq_left (Nat.mul_le_mul_right _ hk)]
 len:=λ x hx=>h.len x (List.mem_of_mem_take hx)
 el:=λ x hx=>h.el x (List.mem_of_mem_take hx)
 ap:=λ x hx=>h.ap x (List.mem_of_mem_take hx)
structure TwoN (base:Nat) (vd:Value) (D:List (Elem Tok)) (vl:Value) (L:List (Elem Tok)) (w:World):Prop where
 d:RowN sTok base 32 vd D w
 l:RowN sTok base 32 vl L w
 own:Own w base (D.flatMap (·.fp)++L.flatMap (·.fp))
 ne:∀ b,vd.ownBlock=some b->vl.ownBlock≠some b
 dl:∀ x∈D,∀ b∈x.fp,vl.ownBlock≠some b
 ld:∀ x∈L,∀ b∈x.fp,vd.ownBlock≠some b
section
variable {base:Nat} {vd vl:Value} {D L:List (Elem Tok)} {w w':World}
theorem TwoN.start (base:Nat) (w:World):TwoN base (.slice none 0 0) [] (.slice none 0 0) [] w:=⟨RowN.nil _ _ _ _,RowN.nil _ _ _ _,Own.nil _ _,by simp [Value.ownBlock],by simp,by simp⟩
theorem TwoN.below (h:TwoN base vd D vl L w) (hb:Below w.heap.size w w'):TwoN base vd D vl L w':=⟨h.d.below hb,h.l.below hb,h.own.grow hb,h.ne,h.dl,h.ld⟩
theorem TwoN.fresh {vp:Value} {P:List (Elem Tok)} {lo:Nat} (hd:RowN sTok base 32 vd D w) (ho:Own w base (D.flatMap (·.fp))) (hp:RowN sTok lo 32 vp P w) (hpo:Own w lo (P.flatMap (·.fp))) (hlo:base<=lo) (h1:∀ b,vd.ownBlock=some b->b<lo) (h2:∀ x∈D,∀ b∈x.fp,b<lo):TwoN base vd D vp P w where
 d:=hd
 l:=hp.lower hlo
 own:=ho.app (hpo.lower hlo) λ b hb hx=>by
  obtain⟨x,hx1,hx2⟩:=List.mem_flatMap.1 hb
  have:=h2 x hx1 b hx2
  have:=(hpo.2 b hx).1
  omega
 ne:=λ b hb hv=>by have:=h1 b hb;have:=(hp.mine b hv).1;omega
 dl:=λ x hx b hb hv=>by have:=h2 x hx b hb;have:=(hp.mine b hv).1;omega
 ld:=λ x hx b hb hv=>by have:=h1 b hv;have:=(hpo.2 b (List.mem_flatMap.2 ⟨x,hx,hb⟩)).1;omega
theorem TwoN.lt (h:TwoN base vd D vl L w):(∀ b,vd.ownBlock=some b->b<w.heap.size)/\(∀ b,vl.ownBlock=some b->b<w.heap.size)/\(∀ x∈D,∀ b∈x.fp,b<w.heap.size)/\∀ x∈L,∀ b∈x.fp,b<w.heap.size:=
 ⟨λ b hb=>(h.d.mine b hb).2,λ b hb=>(h.l.mine b hb).2,λ x hx b hb=>sTok.lt (h.d.el x hx) b hb,λ x hx b hb=>sTok.lt (h.l.el x hx) b hb⟩
theorem TwoN.flushed {vd':Value} (h:TwoN base vd D vl L w) (hr:RowN sTok base 32 vd' (D++L) w') (hg:w.grownBy w' vd.ownBlock):Own w' base ((D++L).flatMap (·.fp)):=by
 rw [Zdx]
 refine Zbu h.own (λ b hb=>?_) hg
 rcases Qa hb with hb | hb
 ·obtain⟨x,hx1,hx2⟩:=List.mem_flatMap.1 hb
  exact h.d.ap x hx1 b hx2
 ·obtain⟨x,hx1,hx2⟩:=List.mem_flatMap.1 hb
  exact h.ld x hx1 b hx2
end
def GlueOf (base:Nat) (vl:Value) (L R:List (Elem Tok)) (w:World) (e:Ending) (w':World):Prop:=
 ((Zaq ((L.map (·.d)).getLastD zTok) ((R.map (·.d)).headD zTok)).2=false/\e=.returned (.tuple #[.slice none 0 0,.bool false])/\Below w.heap.size w w') \/
 ((
  Zaq ((L.map (·.d)).getLastD zTok) ((R.map (·.d)).headD zTok)).2=true/\∃ (v:Value) (X:Elem Tok),e=.returned (.tuple #[v,.bool true])/\RowN sTok base 32 v (L.dropLast++X::R.tail) w'/\X.d=(Zaq ((L.map (·.d)).getLastD zTok) ((R.map (·.d)).headD zTok)).1 /\
  Own w' w.heap.size X.fp/\Kept vl.ownBlock.toList w w'/\(v.ownBlock=vl.ownBlock\/∃ b,v.ownBlock=some b/\w.heap.size<=b))
theorem GlueOf.no {base:Nat} {vl:Value} {L R:List (Elem Tok)} {w w':World} {z:Tok} (h:Zaq ((L.map (·.d)).getLastD zTok) ((R.map (·.d)).headD zTok)=(z,false)) (hb:Below w.heap.size w w'):GlueOf base vl L R w (.returned (.tuple #[.slice none 0 0,.bool false])) w':=
 .inl ⟨by rw [h],rfl,hb⟩
theorem GlueOf.yes {base:Nat} {vl v:Value} {L R:List (Elem Tok)} {X:Elem Tok} {w w':World} {z:Tok} (h:Zaq ((L.map (·.d)).getLastD zTok) ((R.map (·.d)).headD zTok)=(z,true)) (hr:RowN sTok base 32 v (L.dropLast++X::R.tail) w') (hx:X.d=z)
  (ho:Own w' w.heap.size X.fp) (hk:Kept vl.ownBlock.toList w w') (hv:v.ownBlock=vl.ownBlock\/∃ b,v.ownBlock=some b/\w.heap.size<=b):GlueOf base vl L R w (.returned (.tuple #[v,.bool true])) w':=
 .inr ⟨by rw [h],v,X,rfl,hr,by rw [h];exact hx,ho,hk,hv⟩
theorem TwoN.glued {base:Nat} {vd vl vr v:Value} {D L R:List (Elem Tok)} {X:Elem Tok} {w w':World} (h:TwoN base vd D vl L w) (h2:TwoN base vl L vr R w) (h3:∀ b,vd.ownBlock=some b->∀ x∈R,b∉x.fp) (h4:∀ b∈D.flatMap (·.fp),b∉R.flatMap (·.fp)) (hb:base<=w.heap.size)
  (hr:RowN sTok base 32 v (L.dropLast++X::R.tail) w') (ho:Own w' w.heap.size X.fp) (hk:Kept vl.ownBlock.toList w w') (hv:v.ownBlock=vl.ownBlock\/∃ b,v.ownBlock=some b/\w.heap.size<=b):TwoN base vd D v (L.dropLast++X::R.tail) w' where
 d:=h.d.kept hk (λ g hg hx=>by simp only [Option.mem_toList] at hx;exact h.ne g hg hx) (λ x hx b hb hx'=>by simp only [Option.mem_toList] at hx';exact h.dl x hx b hb hx')
 l:=hr
 own:=by
  have hsL:(L.dropLast.flatMap (·.fp)).Sublist (L.flatMap (·.fp)):=Zjp (List.dropLast_sublist L)
  have hsR:(R.tail.flatMap (·.fp)).Sublist (R.flatMap (·.fp)):=Zjp (List.tail_sublist R)
  have hK:∀ b∈D.flatMap (·.fp)++(L.dropLast.flatMap (·.fp)++R.tail.flatMap (·.fp)),b<w.heap.size/\b∉vl.ownBlock.toList:=λ b hb=>by
   simp only [Option.mem_toList]
   rcases Qa hb with hb | hb
   ·obtain⟨x,q1,q2⟩:=List.mem_flatMap.1 hb
    exact⟨h.lt.2.2.1 x q1 b q2,h.dl x q1 b q2⟩
   ·rcases Qa hb with hb | hb
    ·obtain⟨x,q1,q2⟩:=List.mem_flatMap.1 (hsL.subset hb)
     exact⟨h.lt.2.2.2 x q1 b q2,h.l.ap x q1 b q2⟩
    ·obtain⟨x,q1,q2⟩:=List.mem_flatMap.1 (hsR.subset hb)
     exact⟨h2.lt.2.2.2 x q1 b q2,h2.ld x q1 b q2⟩
  have o1:Own w base (D.flatMap (·.fp)++(L.dropLast.flatMap (·.fp)++R.tail.flatMap (·.fp))):=by
   have a1:=h.own.split
   have a2:=h2.own.split
   have n1:(L.dropLast.flatMap (·.fp)++R.tail.flatMap (·.fp)).Nodup:=(hsL.append hsR).nodup h2.own.1
   refine a1.1.app ⟨n1,λ b hb=>?_⟩ λ b hb hx=>?_
   ·rcases Qa hb with hb | hb
    ·exact a2.1.2 b (hsL.subset hb)
    ·exact a2.2.1.2 b (hsR.subset hb)
   ·rcases Qa hx with hx | hx
    ·exact(List.nodup_append.1 h.own.1).2.2 b hb b (hsL.subset hx) rfl
    ·exact h4 b hb (hsR.subset hx)
  have o2:Own w' base (D.flatMap (·.fp)++(L.dropLast.flatMap (·.fp)++R.tail.flatMap (·.fp))):=o1.kept (λ b hb=>(hK b hb).2) hk
  have o3:Own w' base ((D.flatMap (·.fp)++(L.dropLast.flatMap (·.fp)++R.tail.flatMap (·.fp)))++X.fp):=o2.app (ho.lower hb) λ b hb hx=>by
   have:=(hK b hb).1;have:=(ho.2 b hx).1;omega
  refine ⟨?_,λ b hb=>o3.2 b ?_⟩
  ·refine (List.Perm.nodup_iff ?_).1 o3.1
   rw [List.append_assoc,List.flatMap_append,List.flatMap_cons,List.append_assoc]
   exact(List.Perm.refl _).append ((List.Perm.refl _).append List.perm_append_comm)
  ·simp only [List.flatMap_append,List.flatMap_cons,List.mem_append] at hb ⊢
   rcases hb with hb | hb | hb | hb
   ·exact .inl (.inl hb)
   ·exact .inl (.inr (.inl hb))
   ·exact .inr hb
   ·exact .inl (.inr (.inr hb))
 ne:=λ b hb hx=>by
  rcases hv with e | ⟨c,e,hc⟩
  ·exact h.ne b hb (by rw [← e];exact hx)
  ·rw [e,Qi] at hx;subst hx;have:=h.lt.1 _ hb;omega
 dl:=λ x hx b hb hx'=>by
  rcases hv with e | ⟨c,e,hc⟩
  ·exact h.dl x hx b hb (by rw [← e];exact hx')
  ·rw [e,Qi] at hx';subst hx';have:=h.lt.2.2.1 x hx _ hb;omega
 ld:=λ x hx b hb hx'=>by
  rcases Qa hx with hx | hx
  ·exact h.ld x ((List.dropLast_sublist L).subset hx) b hb hx'
  ·rcases List.mem_cons.1 hx with rfl | hx
   ·have:=h.lt.1 _ hx';have:=(ho.2 b hb).1;omega
   ·exact h3 b hx' x (List.mem_of_mem_tail hx) hb
theorem Zbt {α:Type} {S:Shape α} {P:Program} {t e:TypeId} {z:Value} {bytes:Nat} (ti:TI P t e z S.m bytes) (hzs:z.cells.size=S.m) (h0:0<S.m) (w:World) {L X:List (Elem α)} {ops:Array Oper} {o:Oper} {a:Act} {K:Act->World->Prop} {Q:Exit->Act->World->Prop} {E:Prop}
  (d:Nat) (hdst:o.dst=some d) (hg:o.guard=none) (s y:Operand) (ho:o.op=.call { callee:=.builtin .append,args:=#[s,y],argTypes:=#[t,t] })
  (base:Nat) (v:Value) (hs:a.eval s=v) (hown:RowN S base e v L w) (ad:Addr) (m c:Nat) (hy:a.eval y=.slice (some ad) m c) (hm:X.length=m)
  (hX:∀ x∈X,x.cells.length=S.m/\S.R w x.cells x.d x.fp/\∀ b∈x.fp,v.ownBlock≠some b) (h1:∀ x∈X,∀ u∈x.cells,u.oneCell'=true) (hcell:∀ j u,(X.flatMap (·.cells))[j]?=some u->w.cell? (ad.add j)=some u)
  (h63:L.length+m<=maxLen) (hbytes:(L.length+m) * bytes<=140737488355328) (hbase:base<=w.heap.size)
  (h:∀ v' w',RowN S base e v' (L++X) w'->w.grownBy w' v.ownBlock->(v'.ownBlock=v.ownBlock\/v'.ownBlock=some w.heap.size)->K (a.put (some d) v') w'):if Region.wanted o (yielded ops a.tmps)=true then Oper.wp P o a w K Q else E:=by
 rw [← hdst] at h
 have hwt:Region.wanted o (yielded ops a.tmps)=true:=by simp [Region.wanted,hg]
 rw [if_pos hwt]
 exact Zbz ti hzs h0 w s y ho base v hs hown ad m c hy hm hX h1 hcell h63 hbytes hbase h
theorem Zh3 (al:Option Addr) (cl:Nat) (vr:Value) (w:World):Calls Tryz.prog 140 #[.slice al 0 cl,vr] w λ e w'=>e=.returned (.tuple #[vr,.bool true])/\w'=w:=by
 go_enter Tryz.func140,Tryz.ntmps140
 go_wp2
 go_ret2
 exact⟨rfl,rfl⟩
theorem Zh4 (al ar:Option Addr) (n cl cr:Nat) (w:World) (hn:0<n):Calls Tryz.prog 140 #[.slice al n cl,.slice ar 0 cr] w λ e w'=>e=.returned (.tuple #[.slice al n cl,.bool true])/\w'=w:=by
 have e0:((n:Int)==0)=false:=by rw [beq_eq_false_iff_ne];omega
 go_enter Tryz.func140,Tryz.ntmps140
 go_wp2
 go_ret2
 exact⟨rfl,rfl⟩
theorem Y13A1 {g:Prop} (h:g:=by
 intro v7 w7 hG7 hg7 hp7
 have HZ7:=Qh ((hg7.block _ (Nat.lt_of_lt_of_le (mlt HZ5.out) hs6) (λ e=>by rcases hv6b gB e.symm with h | h;omega;have:=mlt HZ5.out;omega)).trans HZ6.out)
 have hK7:Kept [g] w w7:=⟨hg7.os.trans hK6.os,hg7.tape.trans hK6.tape,hg7.output.trans hK6.output,Nat.le_trans hK6.size hg7.size,λ b hb hn=>(hg7.block b (Nat.lt_of_lt_of_le hb hK6.size) (λ e=>by rcases hv6b b e.symm with h | h;exact hn (by simp [h]);have:=hbz5.size;omega)).trans (hK6.block b hb hn)⟩
 have OZ7:=Qh (Zbu OZ6.out (λ b hb h=>by rcases hv6b b h with h | h;exact hgx (h ▸ hb);have:=OZ5.out.lt b hb;omega) hg7)
 have hv7:v7.ownBlock=some g\/∃ b,v7.ownBlock=some b/\w.heap.size<=b:=by
  rcases hp7 with h | h
  ·obtain⟨a8,c8,e8,-,-,h8⟩:=HG6.out.val
   simp only [Value.slice.injEq] at e8
   obtain⟨rfl,-,-⟩:=e8
   obtain⟨g8,rfl,-,-⟩:=h8 (by have:=HL6.out;omega)
   rcases hv6b g8 rfl with h6 | h6
   ·left;rw [h,← h6];rfl
   ·right;exact⟨g8,h,by have:=hbz5.size;omega⟩
  ·right;exact⟨_,h,by have:=hbz5.size;omega⟩
 have HG7:Hid (RowN sTok base 32 v7 (L.dropLast++(⟨[.int .i64 z.kind,.string z.text,.bool z.spaced,.slice za z.hidden.length zc],z,fz⟩:Elem Tok)::R.tail) w7):=by
  show RowN _ _ _ _ _ _
  rw [HM6.out,HL1D.out,HR1.out,List.append_assoc] at hG7
  exact hG7
 clear hG7 hg7 hp7
 refine hK.out _ _ HZ7.out (λ hHeld=>?_)
 clear hK K
 try simp only [Qp]
 refine Qt 9 4 rfl rfl ?_
 try simp only [Qp]
 refine Qt 10 5 rfl rfl ?_
 try simp only [Qp]
 refine wpAnyH_done (by kernel_rfl) ?_ _
 refine NoPanic.normal ?_
 clear hHeld
 go_wp2
 go_ret2
 exact GlueOf.yes (X:=⟨[.int .i64 z.kind,.string z.text,.bool z.spaced,.slice za z.hidden.length zc],z,fz⟩) HPZ.out HG7.out rfl OZ7.out hK7 hv7):g:=h
theorem Y13A2 {g:Prop} (h:g:=by
 have q1:=HR95.out.el q hqR
 have q2:∀ b∈q.fp,b≠g:=λ b hb e=>HLD.out q hqR b hb (by rw [e];rfl)
 refine ⟨HR95.out.len q hqR,sTok.frame (λ b hb=>hg6.block b (sTok.lt q1 b hb) (λ e=>by simp only [Value.ownBlock,Qi] at e;exact q2 b hb e)) q1,λ b hb h=>?_⟩
 rcases hv6b b h with h | h
 ·exact q2 b hb h
 ·have:=sTok.lt q1 b hb;omega):g:=h
theorem Zhl (base:Nat) (vl vr:Value) (L R:List (Elem Tok)) (w:World) (hbase:base<=w.heap.size) (H:TwoN base vl L vr R w) (hl:0<L.length) (hr:0<R.length) (hlm:L.length<=5000) (hrm:R.length<=5000) (hhl:∀ x∈L,x.d.hidden.length<=60) (hhr:∀ x∈R,x.d.hidden.length<=60) :
  Calls Tryz.prog 140 #[vl,vr] w (GlueOf base vl L R w):=by
 obtain⟨al,co,rfl,hco,hcm,hvl⟩:=H.d.val
 obtain⟨g,rfl,hgw,hg3⟩:=hvl hl
 obtain⟨ar,c9,rfl,hc9,hc9m,hvr⟩:=H.l.val
 obtain⟨g9,rfl,hg9w,hg93⟩:=hvr hr
 clear hvl hvr
 obtain⟨N,HN⟩:∃ N:Nat,Hid (N=L.length):=⟨L.length,Qh rfl⟩
 obtain⟨N9,HN9⟩:∃ N9:Nat,Hid (N9=R.length):=⟨R.length,Qh rfl⟩
 have HR:=Qh H.d
 have HR9':=Qh H.l
 have HLD:=Qh H.ld
 rw [show L.length=N from HN.out.symm] at HR hl hlm hco ⊢
 rw [show R.length=N9 from HN9.out.symm] at HR9' hr hrm hc9 ⊢
 have hgg:g≠g9:=λ e=>H.ne g rfl (by rw [e];rfl)
 have hNl:N-1<L.length:=by have:=HN.out;omega
 have hN9l:0<R.length:=by have:=HN9.out;omega
 obtain⟨y,hyd⟩:∃ y:Elem Tok,Hid (y=L[N-1]'hNl):=⟨L[N-1]'hNl,Qh rfl⟩
 obtain⟨x,hxd⟩:∃ x:Elem Tok,Hid (x=R[0]'hN9l):=⟨R[0]'hN9l,Qh rfl⟩
 have hym:y∈L:=by rw [hyd.out];exact List.getElem_mem hNl
 have hxm:x∈R:=by rw [hxd.out];exact List.getElem_mem hN9l
 obtain⟨hyv,hyc,-,-,KY⟩:=HR.out.el y hym
 obtain⟨ya,yc,rfl,-⟩:=Zaf KY
 obtain⟨hxv,hxc,-,-,KX⟩:=HR9'.out.el x hxm
 obtain⟨xa,xc,rfl,-⟩:=Zaf KX
 clear KY KX
 have RY:=HR.out.el y hym
 have RX:=HR9'.out.el x hxm
 rw [hyc] at RY
 rw [hxc] at RX
 have y0:w.cell? ⟨g,(N-1) * 4,none⟩=some (.int .i64 y.d.kind):=HR.out.cellAt hNl (j:=0) (by decide) (by rw [← hyd.out,hyc];rfl)
 have y1:w.cell? ⟨g,(N-1) * 4+1,none⟩=some (.string y.d.text):=HR.out.cellAt hNl (j:=1) (by decide) (by rw [← hyd.out,hyc];rfl)
 have y2:w.cell? ⟨g,(N-1) * 4+2,none⟩=some (.bool y.d.spaced):=HR.out.cellAt hNl (j:=2) (by decide) (by rw [← hyd.out,hyc];rfl)
 have y3:w.cell? ⟨g,(N-1) * 4+3,none⟩=some (.slice ya y.d.hidden.length yc):=HR.out.cellAt hNl (j:=3) (by decide) (by rw [← hyd.out,hyc];rfl)
 have x0:w.cell? ⟨g9,0,none⟩=some (.int .i64 x.d.kind):=by have:=HR9'.out.cellAt hN9l (j:=0) (by decide) (u:=.int .i64 x.d.kind) (by rw [← hxd.out,hxc];rfl);simpa using this
 have x1:w.cell? ⟨g9,1,none⟩=some (.string x.d.text):=by have:=HR9'.out.cellAt hN9l (j:=1) (by decide) (u:=.string x.d.text) (by rw [← hxd.out,hxc];rfl);simpa using this
 have x2:w.cell? ⟨g9,2,none⟩=some (.bool x.d.spaced):=by have:=HR9'.out.cellAt hN9l (j:=2) (by decide) (u:=.bool x.d.spaced) (by rw [← hxd.out,hxc];rfl);simpa using this
 have x3:w.cell? ⟨g9,3,none⟩=some (.slice xa x.d.hidden.length xc):=by have:=HR9'.out.cellAt hN9l (j:=3) (by decide) (u:=.slice xa x.d.hidden.length xc) (by rw [← hxd.out,hxc];rfl);simpa using this
 have HYX:Hid ((L.map (·.d)).getLastD zTok=y.d/\(R.map (·.d)).headD zTok=x.d):=by
  refine ⟨?_,?_⟩
  ·have hne:L.map (·.d)≠[]:=λ h=>by have:=congrArg List.length h;rw [List.length_map] at this;simp at this;rw [this] at hNl;simp at hNl
   rw [List.getLastD_eq_getLast?,List.getLast?_eq_some_getLast hne,Option.getD_some,List.getLast_eq_getElem,List.getElem_map,hyd.out]
   congr 2
   rw [List.length_map];have:=HN.out;omega
  ·rw [hxd.out]
   cases R with
   | nil=>simp at hN9l
   | cons q r=>rfl
 have hyh:y.d.hidden.length<=60:=hhl y hym
 have hxh:x.d.hidden.length<=60:=hhr x hxm
 rcases hpr:Zaq y.d x.d with⟨z,fine⟩
 have HPR:=Qh hpr
 have HPT2:=Qh (λ (U:World) (hU:Below w.heap.size w U)=>Zhk [.int .i64 y.d.kind,.string y.d.text,.bool y.d.spaced,.slice ya y.d.hidden.length yc] [.int .i64 x.d.kind,.string x.d.text,.bool x.d.spaced,.slice xa x.d.hidden.length xc] y.d x.d y.fp x.fp U (by omega) (by omega) (sTok.below RY hU) (sTok.below RX hU))
 unfold ZdP at HPT2
 rw [hpr] at HPT2
 try dsimp only at HPT2
 have HPZ:Hid (Zaq ((L.map (·.d)).getLastD zTok) ((R.map (·.d)).headD zTok)=(z,fine)):=by show _=_;rw [HYX.out.1,HYX.out.2];exact HPR.out
 have HSS:Hid (∀ U:World,Below w.heap.size w U->U.cell? ⟨g,(N-1) * 4,none⟩=some (.int .i64 y.d.kind)/\U.cell? ⟨g,(N-1) * 4+1,none⟩=some (.string y.d.text)/\U.cell? ⟨g,(N-1) * 4+2,none⟩=some (.bool y.d.spaced)/\U.cell? ⟨g,(N-1) * 4+3,none⟩=some (.slice ya y.d.hidden.length yc)/\U.cell? ⟨g9,0,none⟩=some (.int .i64 x.d.kind)/\U.cell? ⟨g9,1,none⟩=some (.string x.d.text)/\U.cell? ⟨g9,2,none⟩=some (.bool x.d.spaced)/\U.cell? ⟨g9,3,none⟩=some (.slice xa x.d.hidden.length xc)):=λ U hU=>⟨(hU.cell hg3).trans y0,(hU.cell hg3).trans y1,(hU.cell hg3).trans y2,(hU.cell hg3).trans y3,(hU.cell hg93).trans x0,(hU.cell hg93).trans x1,(hU.cell hg93).trans x2,(hU.cell hg93).trans x3⟩
 have hcs:Below w.heap.size w w.drew:=Zag (Below.refl _ _) 1
 have hwn:IntKind.i64.wrap ((N:Int)-1)=(N:Int)-1:=IntWalk.i64_in _ (by omega)
 have n0:((N:Int)==0)=false:=by rw [beq_eq_false_iff_ne];omega
 have m0:((N9:Int)==0)=false:=by rw [beq_eq_false_iff_ne];omega
 have n1:(0:Int)<=(N:Int)-1:=by omega
 have n2:(N:Int)-1<(N:Int):=by omega
 have n3:((N:Int)-1).toNat=N-1:=by omega
 have n4:(1:Int)<=(N:Int):=by omega
 have n5:(0:Int)<(N9:Int):=by omega
 clear y0 y1 y2 y3 x0 x1 x2 x3 hpr RY RX hxc
 go_enter Tryz.func140,Tryz.ntmps140
 go_upto_region 6 with fail
 go_cut [7,8] from 9 (λ d e wx=>∃ (gB:Nat) (za:Option Addr) (zc:Nat) (fz:List Nat),d=.pointer (some ⟨gB,0,none⟩)/\e=.bool fine/\wx.heap[gB]?=some (.cells #[.int .i64 z.kind,.string z.text,.bool z.spaced,.slice za z.hidden.length zc] 32 (0,0))/\w.heap.size<=gB/\gB<wx.heap.size/\sTok.R wx [.int .i64 z.kind,.string z.text,.bool z.spaced,.slice za z.hidden.length zc] z fz/\Own wx w.heap.size fz/\Below w.heap.size w wx)
 case first =>
  refine wp_region_noPanic ?_
  refine wp_region_held_drew (S:=λ w'=>w'.cell? ⟨g,(N-1) * 4,none⟩=some (.int .i64 y.d.kind)/\w'.cell? ⟨g,(N-1) * 4+1,none⟩=some (.string y.d.text)/\w'.cell? ⟨g,(N-1) * 4+2,none⟩=some (.bool y.d.spaced)/\w'.cell? ⟨g,(N-1) * 4+3,none⟩=some (.slice ya y.d.hidden.length yc)/\w'.cell? ⟨g9,0,none⟩=some (.int .i64 x.d.kind)/\w'.cell? ⟨g9,1,none⟩=some (.string x.d.text)/\w'.cell? ⟨g9,2,none⟩=some (.bool x.d.spaced)/\w'.cell? ⟨g9,3,none⟩=some (.slice xa x.d.hidden.length xc)) (by kernel_rfl) (by exact HSS.out _ hcs) (λ hHeld=>?_)
  generalize w.drew=wd at *
  refine Qt 0 21 rfl rfl ?_
  try simp only [Qp]
  refine Qt 1 22 rfl rfl ?_
  try simp only [Qp]
  refine Qt 2 23 rfl rfl ?_
  try simp only [Qp]
  refine Qt 3 24 rfl rfl ?_ (by intro w hSw;obtain⟨s0,s1,s2,s3,t0,t1,t2,t3⟩:=hSw;go_simp;(first | done | with_reducible rfl | rfl))
  try simp only [Qp]
  refine Qt 4 25 rfl rfl ?_
  try simp only [Qp]
  refine Qt 5 26 rfl rfl ?_
  try simp only [Qp]
  refine Qt 6 27 rfl rfl ?_ (by intro w hSw;obtain⟨s0,s1,s2,s3,t0,t1,t2,t3⟩:=hSw;go_simp;(first | done | with_reducible rfl | rfl))
  try simp only [Qp]
  refine wpAnyH_ready (rs:=[7,11]) (by kernel_rfl) (by simp) ?_
  refine AllReadyH.cons rfl (λ K hK=>?_) ?_
  ·skip
   go_simp
   refine (HPT2.out _ hcs).mono ?_
   rintro e wx1 ⟨czs,fz,rfl,rZ,oZ,brz⟩
   obtain⟨hz,rfl,-,-,KZ⟩:=id rZ
   obtain⟨za,zc,rfl,-⟩:=Zaf KZ
   clear KZ
   have hx1:=hcs.trans (brz.mono hcs.size)
   replace oZ:=oZ.lower hcs.size
   refine hK.out _ _ (HSS.out _ hx1) (λ hHeld=>?_)
   clear hK K
   try simp only [Qp]
   refine Qt 8 20 rfl rfl ?_
   try simp only [Qp]
   refine Qt 9 29 rfl rfl ?_
   try simp only [Qp]
   refine Qt 10 30 rfl rfl ?_
   try simp only [Qp]
   refine Qr 11 rfl (λ K hK=>?_)
   go_simp
   have bk:=Zab wx1 (.cells #[.int .i64 0,.string ⟨#[]⟩,.bool false,.slice none 0 0] 32)
   have HBX:=Qh (heap_alloc_new wx1 (.cells #[.int .i64 0,.string ⟨#[]⟩,.bool false,.slice none 0 0] 32))
   have hx2:=hx1.trans (bk.mono hx1.size)
   have hge:=hx1.size
   replace rZ:=sTok.below rZ bk
   have hnz:wx1.heap.size∉fz:=λ h=>Nat.lt_irrefl _ (oZ.lt _ h)
   replace oZ:=oZ.grow bk
   refine hK.out _ _ (HSS.out _ hx2) (λ hHeld=>?_)
   clear hK K bk
   try simp only [Qp]
   generalize (wx1.alloc (.cells #[.int .i64 0,.string ⟨#[]⟩,.bool false,.slice none 0 0] 32))=wx2 at *
   have zc0:=Qc 0 HBX.out
   have zf0:=Qf 0 HBX.out
   have zc1:=Qc 1 HBX.out
   have zf1:=Qf 1 HBX.out
   have zc2:=Qc 2 HBX.out
   have zf2:=Qf 2 HBX.out
   have zc3:=Qc 3 HBX.out
   have zf3:=Qf 3 HBX.out
   have HDN:=Qh (Zfd HBX.out hge rZ oZ hnz hx2 (.int .i64 z.kind) (.string z.text) (.bool z.spaced) (.slice za z.hidden.length zc))
   refine Qr 12 rfl (λ K hK=>?_)
   go_simp
   change K _ (set4 wx2 (wx1.heap.size) (.int .i64 z.kind) (.string z.text) (.bool z.spaced) (.slice za z.hidden.length zc))
   refine hK.out _ _ (HSS.out _ HDN.out.2.2.2.2.2) (λ hHeld=>?_)
   clear hK K
   try simp only [Qp]
   refine Qt 13 8 rfl rfl ?_
   try simp only [Qp]
   refine wpAnyH_done (by kernel_rfl) ?_ _
   refine NoPanic.normal ?_
   clear hHeld
   go_wp2
   go_meet
   case rel=>exact⟨_,za,zc,_,rfl,rfl,HDN.out.1,HDN.out.2.1,HDN.out.2.2.1,HDN.out.2.2.2.1,HDN.out.2.2.2.2.1,HDN.out.2.2.2.2.2⟩
  refine AllReadyH.cons rfl (λ K hK=>?_) AllReadyH.nil
  go_simp
  have bk:=Zab wd (.cells #[.int .i64 0,.string ⟨#[]⟩,.bool false,.slice none 0 0] 32)
  have HBX:=Qh (heap_alloc_new wd (.cells #[.int .i64 0,.string ⟨#[]⟩,.bool false,.slice none 0 0] 32))
  have hx3:=hcs.trans (bk.mono hcs.size)
  have hge:=hcs.size
  refine hK.out _ _ (HSS.out _ hx3) (λ hHeld=>?_)
  clear hK K bk
  try simp only [Qp]
  generalize (wd.alloc (.cells #[.int .i64 0,.string ⟨#[]⟩,.bool false,.slice none 0 0] 32))=wx3 at *
  refine Qr 7 rfl (λ K hK=>?_)
  go_simp
  refine (HPT2.out _ hx3).mono ?_
  rintro e wx4 ⟨czs,fz,rfl,rZ,oZ,brz⟩
  obtain⟨hz,rfl,-,-,KZ⟩:=id rZ
  obtain⟨za,zc,rfl,-⟩:=Zaf KZ
  clear KZ
  have hx4:=hx3.trans (brz.mono hx3.size)
  have hnz:wd.heap.size∉fz:=λ h=>by have h1:=(oZ.2 _ h).1;have h2:=mlt HBX.out;omega
  replace HBX:=Qh (mbox HBX.out brz)
  replace oZ:=oZ.lower hx3.size
  refine hK.out _ _ (HSS.out _ hx4) (λ hHeld=>?_)
  clear hK K
  try simp only [Qp]
  refine Qt 8 20 rfl rfl ?_
  try simp only [Qp]
  refine Qt 9 29 rfl rfl ?_
  try simp only [Qp]
  refine Qt 10 30 rfl rfl ?_
  try simp only [Qp]
  have zc0:=Qc 0 HBX.out
  have zf0:=Qf 0 HBX.out
  have zc1:=Qc 1 HBX.out
  have zf1:=Qf 1 HBX.out
  have zc2:=Qc 2 HBX.out
  have zf2:=Qf 2 HBX.out
  have zc3:=Qc 3 HBX.out
  have zf3:=Qf 3 HBX.out
  have HDN:=Qh (Zfd HBX.out hge rZ oZ hnz hx4 (.int .i64 z.kind) (.string z.text) (.bool z.spaced) (.slice za z.hidden.length zc))
  refine Qr 12 rfl (λ K hK=>?_)
  go_simp
  change K _ (set4 wx4 (wd.heap.size) (.int .i64 z.kind) (.string z.text) (.bool z.spaced) (.slice za z.hidden.length zc))
  refine hK.out _ _ (HSS.out _ HDN.out.2.2.2.2.2) (λ hHeld=>?_)
  clear hK K
  try simp only [Qp]
  refine Qt 13 8 rfl rfl ?_
  try simp only [Qp]
  refine wpAnyH_done (by kernel_rfl) ?_ _
  refine NoPanic.normal ?_
  clear hHeld
  go_wp2
  go_meet
  case rel=>exact⟨_,za,zc,_,rfl,rfl,HDN.out.1,HDN.out.2.1,HDN.out.2.2.1,HDN.out.2.2.2.1,HDN.out.2.2.2.2.1,HDN.out.2.2.2.2.2⟩
 obtain⟨gB,za,zc,fz,rfl,rfl,HZB0,hgB1,hgB2,RZ,hfz,hbz⟩:=hcut
 generalize wc=wb at *
 have HZB:=Qh HZB0
 replace HR:=Qh (HR.out.below hbz)
 replace HR9':=Qh (HR9'.out.below hbz)
 clear HZB0 HPT2 HSS hcs
 cases fine
 ·go_wp2
  go_ret2
  exact GlueOf.no HPZ.out hbz
 have hgx:g∉fz:=λ h=>by have:=(hfz.2 _ h).1;omega
 obtain⟨R1,HR1⟩:∃ R1:List (Elem Tok),Hid (R1=R.tail):=⟨R.tail,Qh rfl⟩
 have HRC:Hid (R1.length=N9-1):=by show _=_;rw [HR1.out,List.length_tail];have:=HN9.out;omega
 have HRM:Hid (∀ q∈R1,q∈R):=λ q hq=>List.mem_of_mem_tail (by rw [← HR1.out];exact hq)
 have hcl:Below wb.heap.size wb wb.drew:=Zag (Below.refl _ _) 1
 have hwd:=hcl.size
 have bl:=Zab wb.drew (.cells #[.int .i64 z.kind,.string z.text,.bool z.spaced,.slice za z.hidden.length zc] 32)
 have HL5:=Qh (heap_alloc_new wb.drew (.cells #[.int .i64 z.kind,.string z.text,.bool z.spaced,.slice za z.hidden.length zc] 32))
 have HS5:=Qh ((HR.out.short (k:=N-1) (by have:=HN.out;omega)).below (hcl.trans (bl.mono hcl.size)))
 have RZ5:=Qh (sTok.below RZ (hcl.trans (bl.mono hcl.size)))
 have OZ5:=Qh ((hfz.grow hcl).grow bl)
 have HR95:=Qh (HR9'.out.below (hcl.trans (bl.mono hcl.size)))
 have hbz5:=hbz.trans ((hcl.trans (bl.mono hcl.size)).mono hbz.size)
 have HZ5:=Qh (mbox HZB.out (hcl.trans (bl.mono hcl.size)))
 have HZd:wb.drew.heap[gB]?=some (.cells #[.int .i64 z.kind,.string z.text,.bool z.spaced,.slice za z.hidden.length zc] 32 (0,0)):=HZB.out
 have hlt':(L.take (N-1)).length=N-1:=by rw [List.length_take];have:=HN.out;omega
 have HTL:=Qh hlt'
 obtain⟨L1,HL1⟩:∃ L1:List (Elem Tok),Hid (L1=L.take (N-1)):=⟨L.take (N-1),Qh rfl⟩
 have HL1D:Hid (L1=L.dropLast):=by show _=_;rw [HL1.out,List.dropLast_eq_take];congr 1;have:=HN.out;omega
 rw [show L.take (N-1)=L1 from HL1.out.symm] at HS5 HTL
 have HL1M:Hid (∀ q∈L1,q∈L):=λ q hq=>List.mem_of_mem_take (by rw [← HL1.out];exact hq)
 have hgb3:g<wb.heap.size:=Nat.lt_of_lt_of_le hg3 hbz.size
 have hg9b3:g9<wb.heap.size:=Nat.lt_of_lt_of_le hg93 hbz.size
 clear hlt' hcl bl HR HR9' hfz RZ
 have HRT:Hid (∀ j u,(R1.flatMap (·.cells))[j]?=some u->(wb.drew.alloc (.cells #[.int .i64 z.kind,.string z.text,.bool z.spaced,.slice za z.hidden.length zc] 32)).cell? ⟨g9,4+j,none⟩=some u):=by
  intro j u hj
  cases R with
  | nil=>simp at hN9l
  |
   cons q r =>
   have e1:R1=r:=HR1.out
   rw [e1] at hj
   have hql:q.cells.length=4:=HR95.out.len q (by simp)
   have hj2:j<(r.flatMap (·.cells)).length:=(List.getElem?_eq_some_iff.1 hj).1
   rw [ZaU (f:=Elem.cells) (m:=4) (λ q' hq'=>HR95.out.len q' (by simp [hq']))] at hj2
   have hrow:=HR95.out.row
   rw [show N9=(q::r).length from HN9.out] at hrow
   rw [hrow.cellAt (4+j) (by show 4+j<(r.length+1) * 4;omega),List.flatMap_cons,List.getElem?_append_right (by omega),hql,show 4+j-4=j by omega]
   exact hj
 generalize hw5:(wb.drew.alloc (.cells #[.int .i64 z.kind,.string z.text,.bool z.spaced,.slice za z.hidden.length zc] 32))=w5 at HL5 HS5 RZ5 OZ5 HR95 hbz5 HZ5 HRT
 have HW5:=Qh hw5
 clear hw5
 have o1:(1:Int)<=(N9:Int):=by omega
 have o2:1<=N9:=hr
 have o3:1<=c9:=by omega
 have o4:(1:Int)<=(c9:Int):=by omega
 have o5:(N:Int)-1<=(co:Int):=by omega
 have o6:N-1<=co:=by omega
 by_cases h1:c9=1
 ·have HC1:Hid (c9=1/\N9-1=0):=⟨h1,by omega⟩
  have HSL:Hid (Value.slice (if c9=1 then some ⟨g9,0,none⟩ else some ⟨g9,4,none⟩) (N9-1) (c9-1)=.slice (some ⟨g9,0,none⟩) (N9-1) (c9-1)):=by show _=_;rw [if_pos h1]
  go_upto_region 9 with fail
  refine wp_region_noPanic ?_
  refine wp_region_held_drew (S:=λ w'=>w'.heap[gB]?=some (.cells #[.int .i64 z.kind,.string z.text,.bool z.spaced,.slice za z.hidden.length zc] 32 (0,0))) (by kernel_rfl) (by exact HZd) (λ hHeld=>?_)
  generalize wb.drew=wd at *
  refine Qt 0 33 rfl rfl ?_
  try simp only [Qp]
  refine Qt 1 34 rfl rfl ?_
  try simp only [Qp]
  refine Qt 2 35 rfl rfl ?_
  try simp only [Qp]
  refine Qt 3 36 rfl rfl ?_ (by intro w hSw;obtain⟨t0,t1,t2,t3⟩:=Q4 hSw;go_simp;(first | done | with_reducible rfl | rfl))
  try simp only [Qp]
  refine Qt 6 39 rfl rfl ?_
  try simp only [Qp]
  refine Qt 7 40 rfl rfl ?_
  try simp only [Qp]
  refine Qr 4 rfl (λ K hK=>?_)
  go_simp
  rw [HW5.out]
  refine hK.out _ _ HZ5.out (λ hHeld=>?_)
  clear hK K
  try simp only [Qp]
  refine Qr 5 rfl (λ K hK=>?_)
  refine Zbt (X:=[(⟨[.int .i64 z.kind,.string z.text,.bool z.spaced,.slice za z.hidden.length zc],z,fz⟩:Elem Tok)]) ZaG rfl (by decide) _ 38 rfl rfl (.tmp 35) (.tmp 37) rfl base (.slice (some ⟨g,0,none⟩) (N-1) co) rfl HS5.out ⟨wd.heap.size,0,none⟩ 1 1 rfl rfl (λ q hq=>by obtain rfl:=Qm hq;exact⟨rfl,RZ5.out,λ b hb h=>hgx (by simp only [Value.ownBlock,Qi] at h;rw [h];exact hb)⟩) (λ q hq=>by obtain rfl:=Qm hq;exact ZaF _ _ _ _ RZ5.out) (λ j u hj=>by rw [ZaI,Nat.zero_add,cell_of_row _ _ _ _ _ _ HL5.out];simpa using hj) (by have:=HTL.out;unfold maxLen;omega) (by have:=HTL.out;omega) (Nat.le_trans hbase hbz5.size) ?_
  intro v6 w6 hG6 hg6 hp6
  have hv6:∀ b,v6.ownBlock=some b->b=g\/w.heap.size<=b:=λ b hb=>by
   rcases hp6 with h | h
   ·rw [h] at hb;simp only [Value.ownBlock,Qi] at hb;exact .inl hb.symm
   ·rw [h] at hb;simp only [Qi] at hb;have:=hbz5.size;right;omega
  have hv6b:∀ b,v6.ownBlock=some b->b=g\/w5.heap.size<=b:=λ b hb=>by
   rcases hp6 with h | h
   ·rw [h] at hb;simp only [Value.ownBlock,Qi] at hb;exact .inl hb.symm
   ·rw [h] at hb;simp only [Qi] at hb;right;omega
  have HZ6:=Qh ((hg6.block _ (mlt HZ5.out) (λ e=>by simp only [Value.ownBlock,Qi] at e;omega)).trans HZ5.out)
  have hK6:Kept [g] w w6:=(Kept.of_below hbz5).trans ((Zh2 hg6).mono (λ b hb=>by simpa [Value.ownBlock] using hb))
  have OZ6:=Qh (Zbu OZ5.out (λ b hb h=>hgx (by simp only [Value.ownBlock,Qi] at h;rw [h];exact hb)) hg6)
  have HRE6:Hid (∀ q∈R1,q.cells.length=4/\sTok.R w6 q.cells q.d q.fp/\∀ b∈q.fp,v6.ownBlock≠some b):=λ q hq=>by
   have hqR:=HRM.out q hq
   exact Y13A2
  have HRT6:Hid (∀ j u,(R1.flatMap (·.cells))[j]?=some u->w6.cell? ⟨g9,4+j,none⟩=some u):=λ j u hj=>(World.cell?_of_block (hg6.block g9 (Nat.lt_of_lt_of_le hg93 hbz5.size) (λ e=>by simp only [Value.ownBlock,Qi] at e;exact hgg e.symm))).trans (HRT.out j u hj)
  have hl6:(L1++[(⟨[.int .i64 z.kind,.string z.text,.bool z.spaced,.slice za z.hidden.length zc],z,fz⟩:Elem Tok)]).length=N:=by rw [List.length_append,HTL.out];simp;omega
  have HL6:=Qh hl6
  obtain⟨a6,c6,hv6e,-⟩:=hG6.val
  rw [hl6] at hv6e
  subst hv6e
  have HG6:=Qh hG6
  obtain⟨M6,HM6⟩:∃ M6,Hid (M6=L1++[(⟨[.int .i64 z.kind,.string z.text,.bool z.spaced,.slice za z.hidden.length zc],z,fz⟩:Elem Tok)]):=⟨L1++[(⟨[.int .i64 z.kind,.string z.text,.bool z.spaced,.slice za z.hidden.length zc],z,fz⟩:Elem Tok)],Qh rfl⟩
  rw [show L1++[(⟨[.int .i64 z.kind,.string z.text,.bool z.spaced,.slice za z.hidden.length zc],z,fz⟩:Elem Tok)]=M6 from HM6.out.symm] at HG6 HL6
  have hs6:=hg6.size
  clear hG6 hg6 hp6 hl6 hv6
  refine hK.out _ _ HZ6.out (λ hHeld=>?_)
  clear hK K
  try simp only [Qp]
  refine Qr 8 rfl (λ K hK=>?_)
  refine Zbt (X:=R1) ZaG rfl (by decide) _ 41 rfl rfl (.tmp 38) (.tmp 40) rfl base (.slice a6 N c6) rfl HG6.out ⟨g9,0,none⟩ (N9-1) 0 rfl HRC.out (λ q hq=>HRE6.out q hq) (λ q hq=>ZaF _ _ _ _ (HRE6.out q hq).2.1) (λ j u hj=>by have h1:R1=[]:=List.length_eq_zero_iff.1 (by have:=HRC.out;have:=HC1.out;omega);rw [h1] at hj;simp at hj) (by have:=HL6.out;unfold maxLen;omega) (by have:=HL6.out;omega) (by have:=hbz5.size;omega) ?_
  exact Y13A1
 ·have HC1:Hid (c9≠1):=h1
  have HSL:Hid (Value.slice (if c9=1 then some ⟨g9,0,none⟩ else some ⟨g9,4,none⟩) (N9-1) (c9-1)=.slice (some ⟨g9,4,none⟩) (N9-1) (c9-1)):=by show _=_;rw [if_neg h1]
  go_upto_region 9 with fail
  refine wp_region_noPanic ?_
  refine wp_region_held_drew (S:=λ w'=>w'.heap[gB]?=some (.cells #[.int .i64 z.kind,.string z.text,.bool z.spaced,.slice za z.hidden.length zc] 32 (0,0))) (by kernel_rfl) (by exact HZd) (λ hHeld=>?_)
  generalize wb.drew=wd at *
  refine Qt 0 33 rfl rfl ?_
  try simp only [Qp]
  refine Qt 1 34 rfl rfl ?_
  try simp only [Qp]
  refine Qt 2 35 rfl rfl ?_
  try simp only [Qp]
  refine Qt 3 36 rfl rfl ?_ (by intro w hSw;obtain⟨t0,t1,t2,t3⟩:=Q4 hSw;go_simp;(first | done | with_reducible rfl | rfl))
  try simp only [Qp]
  refine Qt 6 39 rfl rfl ?_
  try simp only [Qp]
  refine Qt 7 40 rfl rfl ?_
  try simp only [Qp]
  refine Qr 4 rfl (λ K hK=>?_)
  go_simp
  rw [HW5.out]
  refine hK.out _ _ HZ5.out (λ hHeld=>?_)
  clear hK K
  try simp only [Qp]
  refine Qr 5 rfl (λ K hK=>?_)
  refine Zbt (X:=[(⟨[.int .i64 z.kind,.string z.text,.bool z.spaced,.slice za z.hidden.length zc],z,fz⟩:Elem Tok)]) ZaG rfl (by decide) _ 38 rfl rfl (.tmp 35) (.tmp 37) rfl base (.slice (some ⟨g,0,none⟩) (N-1) co) rfl HS5.out ⟨wd.heap.size,0,none⟩ 1 1 rfl rfl (λ q hq=>by obtain rfl:=Qm hq;exact⟨rfl,RZ5.out,λ b hb h=>hgx (by simp only [Value.ownBlock,Qi] at h;rw [h];exact hb)⟩) (λ q hq=>by obtain rfl:=Qm hq;exact ZaF _ _ _ _ RZ5.out) (λ j u hj=>by rw [ZaI,Nat.zero_add,cell_of_row _ _ _ _ _ _ HL5.out];simpa using hj) (by have:=HTL.out;unfold maxLen;omega) (by have:=HTL.out;omega) (Nat.le_trans hbase hbz5.size) ?_
  intro v6 w6 hG6 hg6 hp6
  have hv6:∀ b,v6.ownBlock=some b->b=g\/w.heap.size<=b:=λ b hb=>by
   rcases hp6 with h | h
   ·rw [h] at hb;simp only [Value.ownBlock,Qi] at hb;exact .inl hb.symm
   ·rw [h] at hb;simp only [Qi] at hb;have:=hbz5.size;right;omega
  have hv6b:∀ b,v6.ownBlock=some b->b=g\/w5.heap.size<=b:=λ b hb=>by
   rcases hp6 with h | h
   ·rw [h] at hb;simp only [Value.ownBlock,Qi] at hb;exact .inl hb.symm
   ·rw [h] at hb;simp only [Qi] at hb;right;omega
  have HZ6:=Qh ((hg6.block _ (mlt HZ5.out) (λ e=>by simp only [Value.ownBlock,Qi] at e;omega)).trans HZ5.out)
  have hK6:Kept [g] w w6:=(Kept.of_below hbz5).trans ((Zh2 hg6).mono (λ b hb=>by simpa [Value.ownBlock] using hb))
  have OZ6:=Qh (Zbu OZ5.out (λ b hb h=>hgx (by simp only [Value.ownBlock,Qi] at h;rw [h];exact hb)) hg6)
  have HRE6:Hid (∀ q∈R1,q.cells.length=4/\sTok.R w6 q.cells q.d q.fp/\∀ b∈q.fp,v6.ownBlock≠some b):=λ q hq=>by
   have hqR:=HRM.out q hq
   exact Y13A2
  have HRT6:Hid (∀ j u,(R1.flatMap (·.cells))[j]?=some u->w6.cell? ⟨g9,4+j,none⟩=some u):=λ j u hj=>(World.cell?_of_block (hg6.block g9 (Nat.lt_of_lt_of_le hg93 hbz5.size) (λ e=>by simp only [Value.ownBlock,Qi] at e;exact hgg e.symm))).trans (HRT.out j u hj)
  have hl6:(L1++[(⟨[.int .i64 z.kind,.string z.text,.bool z.spaced,.slice za z.hidden.length zc],z,fz⟩:Elem Tok)]).length=N:=by rw [List.length_append,HTL.out];simp;omega
  have HL6:=Qh hl6
  obtain⟨a6,c6,hv6e,-⟩:=hG6.val
  rw [hl6] at hv6e
  subst hv6e
  have HG6:=Qh hG6
  obtain⟨M6,HM6⟩:∃ M6,Hid (M6=L1++[(⟨[.int .i64 z.kind,.string z.text,.bool z.spaced,.slice za z.hidden.length zc],z,fz⟩:Elem Tok)]):=⟨L1++[(⟨[.int .i64 z.kind,.string z.text,.bool z.spaced,.slice za z.hidden.length zc],z,fz⟩:Elem Tok)],Qh rfl⟩
  rw [show L1++[(⟨[.int .i64 z.kind,.string z.text,.bool z.spaced,.slice za z.hidden.length zc],z,fz⟩:Elem Tok)]=M6 from HM6.out.symm] at HG6 HL6
  have hs6:=hg6.size
  clear hG6 hg6 hp6 hl6 hv6
  refine hK.out _ _ HZ6.out (λ hHeld=>?_)
  clear hK K
  try simp only [Qp]
  refine Qr 8 rfl (λ K hK=>?_)
  refine Zbt (X:=R1) ZaG rfl (by decide) _ 41 rfl rfl (.tmp 38) (.tmp 40) rfl base (.slice a6 N c6) rfl HG6.out ⟨g9,4,none⟩ (N9-1) (c9-1) rfl HRC.out (λ q hq=>HRE6.out q hq) (λ q hq=>ZaF _ _ _ _ (HRE6.out q hq).2.1) (λ j u hj=>by rw [ZaI];exact HRT6.out j u hj) (by have:=HL6.out;unfold maxLen;omega) (by have:=HL6.out;omega) (by have:=hbz5.size;omega) ?_
  exact Y13A1
def Zh5 (r:List Tok × Bool) (w:World) (e:Ending) (w':World):Prop:=
 ∃ (v:Value) (fp:List Nat),e=.returned (.tuple #[v,.bool r.2])/\(Zaa sTok).R w' [v] r.1 fp/\(∀ b∈fp,w.heap.size<=b)/\Below w.heap.size w w'
theorem Zdy {r:List Tok × Bool} {w W:World} (h:r=([],false)) (hb:Below w.heap.size w W):Zh5 r w (.returned (.tuple #[.slice (some ⟨W.heap.size,0,none⟩) 0 0,.bool false])) (W.alloc (.cells #[] 32)):=
 ⟨_,[],by rw [h],by rw [h];exact Zay _ _ _ _ (by simp),by simp,hb.alloc hb.size _⟩
theorem Zfn {r:List Tok × Bool} {w W:World} {base:Nat} {v:Value} {L:List (Elem Tok)} {c:Bool} (h:r=(L.map (·.d),c)) (hG:RowG sTok base 32 v L W) (hbase:w.heap.size<=base) (hf:∀ x∈L,∀ b∈x.fp,w.heap.size<=b) (hb:Below w.heap.size w W):Zh5 r w (.returned (.tuple #[v,.bool c])) W:=by
 obtain⟨fp,h1,h2,-⟩:=hG.read
 refine ⟨v,fp,by rw [h],by rw [h];exact h1,λ b hb'=>?_,hb⟩
 rcases h2 b hb' with h | ⟨x,hx,h⟩
 ·exact Nat.le_trans hbase (hG.mine b h)
 ·exact hf x hx b h
theorem ZlT {cs:List Value} {x:Tok} {fp:List Nat} {w:World} {c:UInt8} (H:sTok.R w cs x fp):Calls Tryz.prog 45 #[.agg cs.toArray,.string ⟨#[c]⟩] w (Says (isMk x [c]) w):=Zdu cs x fp w c H
theorem Zf7 {n:Nat} {L:List (Elem Tok)} {x:Elem Tok} (h:∀ x∈L,∀ b∈x.fp,n<=b) (hx:∀ b∈x.fp,n<=b):Hid (∀ y∈L++[x],∀ b∈y.fp,n<=b):=λ y hy=>by
 rcases Qa hy with h' | h'
 ·exact h y h'
 ·obtain rfl:=Qm h';exact hx
theorem num_R (w:World) (b sp:Bool):sTok.R w [.int .i64 2,.string (if b=true then ⟨#[49]⟩ else ⟨#[48]⟩),.bool sp,.slice none 0 0] (numTk b sp) []:=by
 exact⟨_,rfl,(show okInt 2 from⟨by decide,by decide⟩),by cases b <;> exact(show (1:Nat)<=maxLen by unfold maxLen;omega),Zay sStr _ _ 0 (by simp)⟩
theorem RowG.toN {α:Type} {S:Shape α} {base:Nat} {e:TypeId} {v:Value} {L:List (Elem α)} {w:World} (h:RowG S base e v L w):RowN S base e v L w:=⟨h.row,h.len,h.el,h.ap⟩
theorem RowN.toG {α:Type} {S:Shape α} {base:Nat} {e:TypeId} {v:Value} {L:List (Elem α)} {w:World} (h:RowN S base e v L w) (hi:∀ x∈L,∀ b∈x.fp,b<base):RowG S base e v L w:=⟨h.row,h.len,h.el,hi⟩
theorem Zcc {w:World} {L:List (Elem Tok)} {ops:Array Oper} {o:Oper} {a:Act} {K:Act->World->Prop} {Q:Exit->Act->World->Prop} {E:Prop}
  (d:Nat) (hdst:o.dst=some d) (hg:o.guard=none) (s y:Operand) (ho:o.op=.call { callee:=.builtin .append,args:=#[s,y],argTypes:=#[24,24] })
  (base:Nat) (v:Value) (hs:a.eval s=v) (hown:RowG sTok base 32 v L w) (bb sp:Bool) (x:ByteArray) (hx:sTok.R w [.int .i64 2,.string x,.bool sp,.slice none 0 0] (numTk bb sp) [])
  (hy:a.eval y=.slice (some ⟨w.heap.size,0,none⟩) 1 1) (h63:L.length<=1500000) (hbase:base<=w.heap.size)
  (h:∀ v' w',RowG sTok base 32 v' (L++[⟨[.int .i64 2,.string x,.bool sp,.slice none 0 0],numTk bb sp,[]⟩]) w'->w.grownBy w' v.ownBlock->K (a.put (some d) v') w') :
  if Region.wanted o (yielded ops a.tmps)=true then Oper.wp Tryz.prog o a (w.alloc (.cells #[.int .i64 2,.string x,.bool sp,.slice none 0 0] 32)) K Q else E:=by
 have hb:=Zab w (.cells #[.int .i64 2,.string x,.bool sp,.slice none 0 0] 32)
 refine Zbt (S:=sTok) (X:=[⟨[.int .i64 2,.string x,.bool sp,.slice none 0 0],numTk bb sp,[]⟩]) ZaG rfl (by decide) _ d hdst hg s y ho base v hs (hown.below hb).toN ⟨w.heap.size,0,none⟩ 1 1 hy rfl ?_ ?_ ?_ (by unfold maxLen;omega) (by omega) (by simp;omega) λ v' w' a b _=>h v' w' (a.toG ?_) (Zb7 (World.grownBy_alloc _ _ _) b)
 ·intro q hq;obtain rfl:=Qm hq;exact⟨rfl,sTok.below hx hb,by simp⟩
 ·intro q hq;obtain rfl:=Qm hq;simp [Value.oneCell']
 ·intro j u hj
  rw [ZaI,Nat.zero_add,World.cell?_alloc_at _ _ _ _ rfl]
  simpa using hj
 ·intro q hq
  rcases Qa hq with h | h
  ·exact hown.hi q h
  ·obtain rfl:=Qm h;simp
theorem Y13A3 {g:Prop} (h:g:=by
 have HE:Hid (repG T l (k+1) (L.map (·.d)++[tk])=r):=by show _=_;rw [HTK.out,← Zj9 hlt HN.out];exact HI.out
 clear HN HI HTK hk1
 go_wp2_with (at_builtin;refine Ziv rfl (.tmp 42) (.tmp 44) rfl w2.heap.size (.slice am L.length cm) L rfl HGX.out tk.kind tk.text tk.spaced xa tk.hidden.length xc tk xf rfl HXR.out (λ b hb=>(HXF.out b hb).2) (by omega) hbX.size ?_;intro v3 w3 hG3 hg3)
 have hb3:Below w2.heap.size w2 w3:=hbX.grown hg3 hbX.size (λ b hb=>HGX.out.mine b hb)
 have HG3:=Qh hG3
 clear hG3 hg3
 go_roundw
 case rel=>exact⟨k+1,_,by omega,by go_num,by simp;omega,HG3,Zf7 HLF.out (λ b hb=>(HXF.out b hb).1),by show _=_;rw [List.map_append];exact HE.out,hb3⟩
 case measure=>simp [intOf];omega):g:=h
theorem ZfH (vT:Value) (T:List DMacro) (fpT:List Nat) (v:Value) (l:List Tok) (fp:List Nat) (w:World) (hTl:T.length<=1048576) (hTs:∀ k,(hk:k<T.length)->MacSm T[k]) (hl:l.length<=1048576) (hx:∀ k,(hk:k<l.length)->l[k].hidden.length<=2000000)
  (HT:(Zaa sMacro).R w [vT] T fpT) (H:(Zaa sTok).R w [v] l fp):Calls Tryz.prog 19 #[vT,v] w (Zh5 (ZaN T l) w):=by
 have HCT:=Qh (Zc1 vT T fpT w hTl hTs HT)
 have HCL:=Qh (λ (U:World) (hU:Below w.heap.size w U)=>ZaO v l fp U hl hx ((Zaa sTok).below H hU))
 clear HT H hTs hx hTl hl
 go_enter Tryz.func19,Tryz.ntmps19
 go_wp2_with fail
 refine HCT.out.mono ?_
 rintro e w1 ⟨v1,f1,rfl,hR1,hlo1,hB1⟩
 clear HCT
 go_wp2_with fail
 refine (HCL.out w1 hB1).mono ?_
 rintro e w2 ⟨v2,f2,rfl,hR2,hlo2,-,hb2⟩
 have hB2:=hB1.trans (hb2.mono hB1.size)
 have HT2:=Qh ((Zaa sMacro).below hR1 hb2)
 have HR2:=Qh hR2
 have b0:=Zab w2 (.cells #[] 32)
 have HG0:=Qh (RowG.lit0 sTok 32 w2)
 have hB3:=hB2.trans (b0.mono hB2.size)
 have HVT:=Qh (Zel v1 T f1 _ ((Zaa sMacro).below HT2.out b0))
 have HVL:=Qh (λ (U:World) (hU:Below w2.heap.size w2 U)=>Zbf v2 l f2 U ((Zaa sTok).below HR2.out hU))
 have HLO:Hid (∀ b∈f2,w.heap.size<=b/\b<w2.heap.size):=λ b hb=>⟨Nat.le_trans hB1.size (hlo2 b hb),(Zaa sTok).lt hR2 b hb⟩
 clear HCL hR1 hR2 hlo1 hlo2 hb2 hB1
 cases ht:tabOk T
 ·have HF:=Qh (ZdH (T:=T) (l:=l) (λ h=>by rw [ht] at h;exact absurd h.1 (by simp)))
  rw [ht] at HVT
  clear ht HVL
  go_wp2_with fail
  refine HVT.out.mono ?_
  rintro e w3 ⟨rfl,hb3⟩
  have HG:=Qh (HG0.out.below hb3)
  go_wp2
  go_ret2
  exact Zfn (L:=[]) HF.out HG.out hB2.size (by simp) (hB3.trans (hb3.mono hB3.size))
 cases hv:Zaj l
 ·have HF:=Qh (ZdH (T:=T) (l:=l) (λ h=>by rw [hv] at h;exact absurd h.2 (by simp)))
  rw [ht] at HVT
  rw [hv] at HVL
  clear ht hv
  go_wp2_with fail
  refine HVT.out.mono ?_
  rintro e w3 ⟨rfl,hb3⟩
  have hq3:=b0.trans (hb3.mono b0.size)
  go_wp2_with fail
  refine (HVL.out w3 hq3).mono ?_
  rintro e w4 ⟨rfl,hb4⟩
  have HG:=Qh ((HG0.out.below hb3).below hb4)
  go_wp2
  go_ret2
  exact Zfn (L:=[]) HF.out HG.out hB2.size (by simp) ((hB3.trans (hb3.mono hB3.size)).trans (hb4.mono (hB3.trans (hb3.mono hB3.size)).size))
 have hl60:=(Zan hv).1
 obtain⟨r,HR⟩:∃ r,Hid (r=repG T l 0 []):=⟨_,Qh rfl⟩
 have HF:Hid (ZaN T l=r):=by show _=_;unfold ZaN;rw [if_pos ⟨ht,hv⟩];exact HR.out.symm
 rw [ht] at HVT
 rw [hv] at HVL
 clear ht hv
 go_wp2_with fail
 refine HVT.out.mono ?_
 rintro e w3 ⟨rfl,hb3⟩
 have hq3:=b0.trans (hb3.mono b0.size)
 go_wp2_with fail
 refine (HVL.out w3 hq3).mono ?_
 rintro e w4 ⟨rfl,hb4⟩
 have hq4:=hq3.trans (hb4.mono hq3.size)
 have HG4:=Qh ((HG0.out.below hb3).below hb4)
 clear hb3 hb4 hq3 b0 HG0 hB3 HVT HVL
 obtain⟨al,cl,rfl,hcl,hml,hrow⟩:=Zac HR2.out
 unfold maxLen at hml
 go_wp2_with fail
 go_loopw [6,7] (λ vo i wr=>∃ (k:Nat) (L:List (Elem Tok)),k<=l.length/\i=.int .i64 k/\L.length<=k/\Hid (RowG sTok w2.heap.size 32 vo L wr)/\Hid (∀ x∈L,∀ b∈x.fp,w.heap.size<=b)/\Hid (repG T l k (L.map (·.d))=r)/\Below w2.heap.size w2 wr) (λ _ i _=>l.length-(intOf i).toNat)
 case atStart=>exact⟨0,[],by omega,rfl,by simp,HG4,Qh (by simp),Qh HR.out.symm,hq4⟩
 case round =>
  clear HG4 HR hq4
  obtain⟨k,L,hk,rfl,hLk,HG,HLF,HI,hb⟩:=hrel
  obtain⟨am,cm,rfl,-⟩:=HG.out.val
  have HNE:Hid (∀ b,(Value.slice am L.length cm).ownBlock=some b->b<wr.heap.size):=λ b hb=>(HG.out.row.lt b hb).2
  have hB:=hB2.trans (hb.mono hB2.size)
  by_cases hlt:k<l.length
  rotate_left
  ·have HE:Hid (ZaN T l=(L.map (·.d),true)):=by show _=_;rw [HF.out,← HI.out,Zgs (by omega)]
   clear HI HF hrow
   go_wp2
   go_ret2
   exact Zfn HE.out HG.out hB2.size HLF.out hB
  obtain⟨b1,o1,-,rfl,-,-,-⟩:=hrow (by omega)
  clear hrow
  have HLR:=Qh ((Zaa sTok).below HR2.out hb)
  have HTR:=Qh ((Zaa sMacro).below HT2.out hb)
  obtain⟨xa,xc,xf,x0,x1,x2,x3,xR,hbb,hxf⟩:=ZaB HLR.out hlt
  obtain⟨tk,HTK⟩:∃ tk:Tok,Hid (tk=l[k]):=⟨_,Qh rfl⟩
  rw [show l[k]=tk from HTK.out.symm] at x0 x1 x2 x3 xR
  have bx:=Zab wr (.cells #[.int .i64 tk.kind,.string tk.text,.bool tk.spaced,.slice xa tk.hidden.length xc] 32)
  have HX:=Qh (heap_alloc_new wr (.cells #[.int .i64 tk.kind,.string tk.text,.bool tk.spaced,.slice xa tk.hidden.length xc] 32))
  have HXF:Hid (∀ b∈xf,w.heap.size<=b/\b<w2.heap.size):=λ b hb'=>HLO.out b (hxf b hb')
  have HXR:=Qh (sTok.below xR bx)
  have HGX:=Qh (HG.out.below bx)
  have hbX:=hb.trans (bx.mono hb.size)
  have HLX:=Qh ((Zaa sTok).below HLR.out bx)
  have HTX:=Qh ((Zaa sMacro).below HTR.out bx)
  have hok:okStr tk.text:=xR.choose_spec.2.2.1
  have HOK:=Qh hok
  clear xR hxf hbb HLR HTR HG hok
  go_upto_region 9 with fail
  clear x0 x1 x2 x3
  generalize (wr.alloc (.cells #[.int .i64 tk.kind,.string tk.text,.bool tk.spaced,.slice xa tk.hidden.length xc] 32))=W1 at *
  obtain⟨p0,p1,p2,p3⟩:=Q4 HX.out
  by_cases hk1:tk.kind=1
  rotate_left
  ·have e1:(tk.kind != 1)=true:=by simp [hk1]
   have HN:Hid (isDfn l[k]=false):=by show _=_;rw [← HTK.out];unfold isDfn;rw [decide_eq_false hk1];rfl
   exact Y13A3
  have e1:(tk.kind != 1)=false:=by simp [hk1]
  cases hd:(tk.text.toList==[100,101,102,105,110,101,100])
  ·have HN:Hid (isDfn l[k]=false):=by show _=_;rw [← HTK.out];unfold isDfn;rw [hd,Bool.and_false]
   exact Y13A3
  have HD:Hid (isDfn l[k]=true):=by show _=_;rw [← HTK.out];unfold isDfn;rw [hd,decide_eq_true hk1];rfl
  clear hk1 HXR HXF
  have hBX:=hB2.trans (hbX.mono hB2.size)
  have i0:(0:Int)<=(k:Int):=by omega
  have hw1:IntKind.i64.wrap ((k:Int)+1)=((k+1:Nat):Int):=by rw [IntWalk.i64_in _ (by omega)];omega
  have hw2:IntKind.i64.wrap ((k:Int)+2)=((k+2:Nat):Int):=by rw [IntWalk.i64_in _ (by omega)];omega
  have hw4:IntKind.i64.wrap ((k:Int)+4)=((k+4:Nat):Int):=by rw [IntWalk.i64_in _ (by omega)];omega
  have HXX:=HX
  by_cases hn1:k+1<l.length
  rotate_left
  ·have i1:¬ (((k+1:Nat):Int)<(l.length:Int)):=by omega
   have i2:(l.length:Int)<=((k+1:Nat):Int):=by omega
   have HE:Hid (ZaN T l=([],false)):=by show _=_;rw [HF.out,← HI.out];exact Zhf hlt HD.out (ZeO (by omega)) (ZlI (by omega))
   go_wp2
   go_ret2
   exact Zdy HE.out hBX
  obtain⟨ya,yc,yf,y0,y1,y2,y3,yR,-,-⟩:=ZaB HLX.out hn1
  obtain⟨ty,HTy⟩:∃ ty:Tok,Hid (ty=l[k+1]):=⟨_,Qh rfl⟩
  rw [show l[k+1]=ty from HTy.out.symm] at y0 y1 y2 y3 yR
  have i_y:((k+1:Nat):Int)<(l.length:Int):=by omega
  have j_y:(0:Int)<=((k+1:Nat):Int):=by omega
  have k_y:(((k+1:Nat):Int)).toNat=k+1:=by omega
  have HC1:=Qh (ZlT (c:=40) yR)
  have HMK:Hid (mkAt l (k+1) [40]=isMk ty [40]):=by show _=_;rw [ZeP hn1,HTy.out]
  clear yR
  go_wp2_with fail
  refine HC1.out.mono ?_
  rintro e W5 ⟨rfl,q5⟩
  clear y0 y1 y2 y3 p0 p1 p2 p3 hd
  have HL5:=Qh ((Zaa sTok).below HLX.out q5)
  have HT5:=Qh ((Zaa sMacro).below HTX.out q5)
  have HG5:=Qh (HGX.out.below q5)
  have HX5:=Qh (mbox HXX.out q5)
  have hb5:=hbX.trans (q5.mono hbX.size)
  have hB5:=hBX.trans (q5.mono hBX.size)
  clear HLX HTX HGX HXX
  clear HC1
  cases hm:isMk ty [40]
  ·have HO:Hid (mkAt l (k+1) [40]=false):=by show _=_;rw [HMK.out];exact hm
   have i2:¬ ((l.length:Int)<=((k+1:Nat):Int)):=by omega
   clear hm HMK
   obtain⟨za,zc,zf,z0,z1,z2,z3,zR,-,-⟩:=ZaB HL5.out hn1
   obtain⟨tz,HTz⟩:∃ tz:Tok,Hid (tz=l[k+1]):=⟨_,Qh rfl⟩
   rw [show l[k+1]=tz from HTz.out.symm] at z0 z1 z2 z3 zR
   have i_z:((k+1:Nat):Int)<(l.length:Int):=by omega
   have j_z:(0:Int)<=((k+1:Nat):Int):=by omega
   have k_z:(((k+1:Nat):Int)).toNat=k+1:=by omega
   clear z2 z3
   by_cases hk2:tz.kind=1
   rotate_left
   ·have e2:(tz.kind != 1)=true:=by simp [hk2]
    have HNM:Hid (nmAt l (k+1)=false):=by show _=_;rw [ZdL hn1,← HTz.out];exact decide_eq_false hk2
    clear hk2
    have HE:Hid (ZaN T l=([],false)):=by show _=_;rw [HF.out,← HI.out];exact Zhf hlt HD.out HO.out HNM.out
    go_wp2
    go_ret2
    exact Zdy HE.out hB5
   have e2:(tz.kind != 1)=false:=by simp [hk2]
   have HNM:Hid (nmAt l (k+1)=true):=by show _=_;rw [ZdL hn1,← HTz.out];exact decide_eq_true hk2
   clear hk2
   have HP:=Qh (Zd4 v1 T tz.text f1 W5 HT5.out)
   have HTX':Hid (txAt l (k+1)=tz.text):=by show _=_;rw [Zgt hn1];exact congrArg Tok.text HTz.out.symm
   go_wp2_with fail
   refine HP.out.mono ?_
   rintro e W6 ⟨rfl,q6⟩
   have HL6:=Qh ((Zaa sTok).below HL5.out q6)
   have HT6:=Qh ((Zaa sMacro).below HT5.out q6)
   have HG6:=Qh (HG5.out.below q6)
   have HX6:=Qh (mbox HX5.out q6)
   have hb6:=hb5.trans (q6.mono hb5.size)
   have hB6:=hB5.trans (q6.mono hB5.size)
   clear HL5 HT5 HG5 HX5
   clear HP
   have p2:=Qc 2 HX6.out
   have HNR:Hid (∀ W b,sTok.R W [.int .i64 2,.string (if b=true then ⟨#[49]⟩ else ⟨#[48]⟩),.bool tk.spaced,.slice none 0 0] (numTk b tk.spaced) []):=λ W b=>num_R W b tk.spaced
   by_cases hp:0<=place T tz.text
   ·have e3:decide ((0:Int)<=place T tz.text)=true:=by simpa using hp
    have HH:Hid (hasT T (txAt l (k+1))=true):=by show _=_;rw [HTX'.out];unfold hasT;exact e3
    have HTR:=Qh (Zbd true W6)
    unfold bit1 at HTR
    simp only [if_true,Bool.false_eq_true,if_false] at HTR
    have HE:Hid (repG T l (k+2) (L.map (·.d)++[numTk true tk.spaced])=r):=by show _=_;rw [← HI.out,Zf0 hlt HD.out HO.out HNM.out,HH.out,HTK.out]
    clear HH hp HI
    go_wp2_with fail
    refine HTR.out.mono ?_
    rintro e w9 ⟨rfl,rfl⟩
    go_upto_region 22 with fail
    have hd0:Below w9.heap.size w9 w9.drew:=Zag (Below.refl _ _) 1
    have HGd:=Qh (HG6.out.below hd0)
    have hbd:=hb6.trans (hd0.mono hb6.size)
    have HXd:=Qh (mbox HX6.out hd0)
    clear hd0
    have hs:∀ W,Sem.run Tryz.prog (Instr.slice 9 (.string ⟨#[48,49]⟩) (some (.int .i64 1)) (some (.int .i64 2)) none) W=.ok (.string ⟨#[49]⟩) W:=λ W=>by
     first | rfl | kernel_rfl
    have hw:IntKind.i64.wrap 2=2:=by decide
    refine wp_region_noPanic ?_
    refine wp_region_held_drew (S:=λ w'=>w'.heap[wr.heap.size]?=some (.cells #[.int .i64 tk.kind,.string tk.text,.bool tk.spaced,.slice xa tk.hidden.length xc] 32 (0,0))) (by kernel_rfl) (by exact HX6.out) (λ hHeld=>?_)
    generalize w9.drew=wd at *
    refine Qt 0 103 rfl rfl ?_
    try simp only [Qp]
    refine Qt 1 104 rfl rfl ?_
    try simp only [Qp]
    refine Qt 2 105 rfl rfl ?_
    try simp only [Qp]
    refine Qt 3 106 rfl rfl ?_
    try simp only [Qp]
    refine Qt 4 107 rfl rfl ?_
    try simp only [Qp]
    refine Qt 5 108 rfl rfl ?_
    try simp only [Qp]
    refine Qt 6 109 rfl rfl ?_ (by intro w hSw;have t2:=Qc 2 hSw;go_simp;(first | done | with_reducible rfl | rfl))
    try simp only [Qp]
    refine Qt 7 110 rfl rfl ?_
    try simp only [Qp]
    refine Qr 8 rfl (λ K hK=>?_)
    go_simp
    refine hK.out _ _ (mbox HXd.out (Zab wd _)) (λ hHeld=>?_)
    clear hK K
    try simp only [Qp]
    refine Qr 9 rfl (λ K hK=>?_)
    refine Zcc (w:=wd) (L:=L) 112 rfl rfl (.tmp 103) (.tmp 111) rfl w2.heap.size (.slice am L.length cm) rfl HGd.out true tk.spaced ⟨#[49]⟩ (HNR.out wd true) rfl (by omega) hbd.size ?_
    intro v3 w3 hG3 hg3
    refine hK.out _ _ ((hg3.block _ (Qg HXd.out).1 (λ e=>Nat.lt_irrefl _ (HNE.out _ e.symm))).trans HXd.out) (λ hHeld=>?_)
    clear hK K
    try simp only [Qp]
    refine Qt 10 6 rfl rfl ?_
    try simp only [Qp]
    refine wpAnyH_done (by kernel_rfl) ?_ _
    refine NoPanic.normal ?_
    clear hHeld
    have hb3:Below w2.heap.size w2 w3:=hbd.grown hg3 hbd.size (λ b hb=>HGd.out.mine b hb)
    have HG3:=Qh hG3
    clear hG3 hg3 HXd HGd hs hw
    go_wp2
    go_roundw
    case rel=>exact⟨k+2,_,by omega,by go_num,by simp;omega,HG3,Zf7 HLF.out (by simp),by show _=_;rw [List.map_append];exact HE.out,hb3⟩
    case measure=>simp [intOf];omega
   ·have e3:decide ((0:Int)<=place T tz.text)=false:=by simpa using hp
    have HH:Hid (hasT T (txAt l (k+1))=false):=by show _=_;rw [HTX'.out];unfold hasT;exact e3
    have HTR:=Qh (Zbd false W6)
    unfold bit1 at HTR
    simp only [if_true,Bool.false_eq_true,if_false] at HTR
    have HE:Hid (repG T l (k+2) (L.map (·.d)++[numTk false tk.spaced])=r):=by show _=_;rw [← HI.out,Zf0 hlt HD.out HO.out HNM.out,HH.out,HTK.out]
    clear HH hp HI
    go_wp2_with fail
    refine HTR.out.mono ?_
    rintro e w9 ⟨rfl,rfl⟩
    go_upto_region 22 with fail
    have hd0:Below w9.heap.size w9 w9.drew:=Zag (Below.refl _ _) 1
    have HGd:=Qh (HG6.out.below hd0)
    have hbd:=hb6.trans (hd0.mono hb6.size)
    have HXd:=Qh (mbox HX6.out hd0)
    clear hd0
    have hs:∀ W,Sem.run Tryz.prog (Instr.slice 9 (.string ⟨#[48,49]⟩) (some (.int .i64 0)) (some (.int .i64 1)) none) W=.ok (.string ⟨#[48]⟩) W:=λ W=>by
     first | rfl | kernel_rfl
    have hw:IntKind.i64.wrap 1=1:=by decide
    refine wp_region_noPanic ?_
    refine wp_region_held_drew (S:=λ w'=>w'.heap[wr.heap.size]?=some (.cells #[.int .i64 tk.kind,.string tk.text,.bool tk.spaced,.slice xa tk.hidden.length xc] 32 (0,0))) (by kernel_rfl) (by exact HX6.out) (λ hHeld=>?_)
    generalize w9.drew=wd at *
    refine Qt 0 103 rfl rfl ?_
    try simp only [Qp]
    refine Qt 1 104 rfl rfl ?_
    try simp only [Qp]
    refine Qt 2 105 rfl rfl ?_
    try simp only [Qp]
    refine Qt 3 106 rfl rfl ?_
    try simp only [Qp]
    refine Qt 4 107 rfl rfl ?_
    try simp only [Qp]
    refine Qt 5 108 rfl rfl ?_
    try simp only [Qp]
    refine Qt 6 109 rfl rfl ?_ (by intro w hSw;have t2:=Qc 2 hSw;go_simp;(first | done | with_reducible rfl | rfl))
    try simp only [Qp]
    refine Qt 7 110 rfl rfl ?_
    try simp only [Qp]
    refine Qr 8 rfl (λ K hK=>?_)
    go_simp
    refine hK.out _ _ (mbox HXd.out (Zab wd _)) (λ hHeld=>?_)
    clear hK K
    try simp only [Qp]
    refine Qr 9 rfl (λ K hK=>?_)
    refine Zcc (w:=wd) (L:=L) 112 rfl rfl (.tmp 103) (.tmp 111) rfl w2.heap.size (.slice am L.length cm) rfl HGd.out false tk.spaced ⟨#[48]⟩ (HNR.out wd false) rfl (by omega) hbd.size ?_
    intro v3 w3 hG3 hg3
    refine hK.out _ _ ((hg3.block _ (Qg HXd.out).1 (λ e=>Nat.lt_irrefl _ (HNE.out _ e.symm))).trans HXd.out) (λ hHeld=>?_)
    clear hK K
    try simp only [Qp]
    refine Qt 10 6 rfl rfl ?_
    try simp only [Qp]
    refine wpAnyH_done (by kernel_rfl) ?_ _
    refine NoPanic.normal ?_
    clear hHeld
    have hb3:Below w2.heap.size w2 w3:=hbd.grown hg3 hbd.size (λ b hb=>HGd.out.mine b hb)
    have HG3:=Qh hG3
    clear hG3 hg3 HXd HGd hs hw
    go_wp2
    go_roundw
    case rel=>exact⟨k+2,_,by omega,by go_num,by simp;omega,HG3,Zf7 HLF.out (by simp),by show _=_;rw [List.map_append];exact HE.out,hb3⟩
    case measure=>simp [intOf];omega
  have HO:Hid (mkAt l (k+1) [40]=true):=by show _=_;rw [HMK.out];exact hm
  clear hm HMK
  by_cases hn4:k+4<=l.length
  rotate_left
  ·have i4:(l.length:Int)<((k+4:Nat):Int):=by omega
   have HE:Hid (ZaN T l=([],false)):=by show _=_;rw [HF.out,← HI.out];exact Zfb hlt HD.out HO.out (λ h=>by rw [ZeO (by omega)] at h;exact absurd h.1 (by simp))
   go_wp2
   go_ret2
   exact Zdy HE.out hB5
  have hn3:k+3<l.length:=by omega
  have i4:¬ ((l.length:Int)<((k+4:Nat):Int)):=by omega
  have hw3:IntKind.i64.wrap (((k+4:Nat):Int)-1)=((k+3:Nat):Int):=by rw [IntWalk.i64_in _ (by omega)];omega
  obtain⟨ma,mc,mf,m0,m1,m2,m3,mR,-,-⟩:=ZaB HL5.out hn3
  obtain⟨tm,HTm⟩:∃ tm:Tok,Hid (tm=l[k+3]):=⟨_,Qh rfl⟩
  rw [show l[k+3]=tm from HTm.out.symm] at m0 m1 m2 m3 mR
  have i_m:((k+3:Nat):Int)<(l.length:Int):=by omega
  have j_m:(0:Int)<=((k+3:Nat):Int):=by omega
  have k_m:(((k+3:Nat):Int)).toNat=k+3:=by omega
  have HC2:=Qh (ZlT (c:=41) mR)
  have HMK:Hid (mkAt l (k+3) [41]=isMk tm [41]):=by show _=_;rw [ZeP hn3,HTm.out]
  clear mR
  go_wp2_with fail
  refine HC2.out.mono ?_
  rintro e W6 ⟨rfl,q6⟩
  clear m0 m1 m2 m3
  have HL6:=Qh ((Zaa sTok).below HL5.out q6)
  have HT6:=Qh ((Zaa sMacro).below HT5.out q6)
  have HG6:=Qh (HG5.out.below q6)
  have HX6:=Qh (mbox HX5.out q6)
  have hb6:=hb5.trans (q6.mono hb5.size)
  have hB6:=hB5.trans (q6.mono hB5.size)
  clear HL5 HT5 HG5 HX5
  clear HC2
  cases hm:isMk tm [41]
  ·have HO2:Hid (mkAt l (k+3) [41]=false):=by show _=_;rw [HMK.out];exact hm
   clear hm HMK
   have HE:Hid (ZaN T l=([],false)):=by show _=_;rw [HF.out,← HI.out];exact Zfb hlt HD.out HO.out (λ h=>by rw [HO2.out] at h;exact absurd h.1 (by simp))
   go_wp2
   go_ret2
   exact Zdy HE.out hB6
  have HO2:Hid (mkAt l (k+3) [41]=true):=by show _=_;rw [HMK.out];exact hm
  have hn2:k+2<l.length:=by omega
  have i2:¬ ((l.length:Int)<=((k+2:Nat):Int)):=by omega
  clear hm HMK
  obtain⟨za,zc,zf,z0,z1,z2,z3,zR,-,-⟩:=ZaB HL6.out hn2
  obtain⟨tz,HTz⟩:∃ tz:Tok,Hid (tz=l[k+2]):=⟨_,Qh rfl⟩
  rw [show l[k+2]=tz from HTz.out.symm] at z0 z1 z2 z3 zR
  have i_z:((k+2:Nat):Int)<(l.length:Int):=by omega
  have j_z:(0:Int)<=((k+2:Nat):Int):=by omega
  have k_z:(((k+2:Nat):Int)).toNat=k+2:=by omega
  clear z2 z3
  by_cases hk2:tz.kind=1
  rotate_left
  ·have e2:(tz.kind != 1)=true:=by simp [hk2]
   have HNM:Hid (nmAt l (k+2)=false):=by show _=_;rw [ZdL hn2,← HTz.out];exact decide_eq_false hk2
   clear hk2
   have HE:Hid (ZaN T l=([],false)):=by show _=_;rw [HF.out,← HI.out];exact Zfb hlt HD.out HO.out (λ h=>by rw [HNM.out] at h;exact absurd h.2 (by simp))
   go_wp2
   go_ret2
   exact Zdy HE.out hB6
  have e2:(tz.kind != 1)=false:=by simp [hk2]
  have HNM:Hid (nmAt l (k+2)=true):=by show _=_;rw [ZdL hn2,← HTz.out];exact decide_eq_true hk2
  clear hk2
  have HP:=Qh (Zd4 v1 T tz.text f1 W6 HT6.out)
  have HTX':Hid (txAt l (k+2)=tz.text):=by show _=_;rw [Zgt hn2];exact congrArg Tok.text HTz.out.symm
  go_wp2_with fail
  refine HP.out.mono ?_
  rintro e W7 ⟨rfl,q7⟩
  have HL7:=Qh ((Zaa sTok).below HL6.out q7)
  have HT7:=Qh ((Zaa sMacro).below HT6.out q7)
  have HG7:=Qh (HG6.out.below q7)
  have HX7:=Qh (mbox HX6.out q7)
  have hb7:=hb6.trans (q7.mono hb6.size)
  have hB7:=hB6.trans (q7.mono hB6.size)
  clear HL6 HT6 HG6 HX6
  clear HP
  have p2:=Qc 2 HX7.out
  have HNR:Hid (∀ W b,sTok.R W [.int .i64 2,.string (if b=true then ⟨#[49]⟩ else ⟨#[48]⟩),.bool tk.spaced,.slice none 0 0] (numTk b tk.spaced) []):=λ W b=>num_R W b tk.spaced
  by_cases hp:0<=place T tz.text
  ·have e3:decide ((0:Int)<=place T tz.text)=true:=by simpa using hp
   have HH:Hid (hasT T (txAt l (k+2))=true):=by show _=_;rw [HTX'.out];unfold hasT;exact e3
   have HTR:=Qh (Zbd true W7)
   unfold bit1 at HTR
   simp only [if_true,Bool.false_eq_true,if_false] at HTR
   have HE:Hid (repG T l (k+4) (L.map (·.d)++[numTk true tk.spaced])=r):=by show _=_;rw [← HI.out,Zka hlt HD.out HO.out HO2.out HNM.out,HH.out,HTK.out]
   clear HH hp HI
   go_wp2_with fail
   refine HTR.out.mono ?_
   rintro e w9 ⟨rfl,rfl⟩
   go_upto_region 22 with fail
   have hd0:Below w9.heap.size w9 w9.drew:=Zag (Below.refl _ _) 1
   have HGd:=Qh (HG7.out.below hd0)
   have hbd:=hb7.trans (hd0.mono hb7.size)
   have HXd:=Qh (mbox HX7.out hd0)
   clear hd0
   have hs:∀ W,Sem.run Tryz.prog (Instr.slice 9 (.string ⟨#[48,49]⟩) (some (.int .i64 1)) (some (.int .i64 2)) none) W=.ok (.string ⟨#[49]⟩) W:=λ W=>by
    first | rfl | kernel_rfl
   have hw:IntKind.i64.wrap 2=2:=by decide
   refine wp_region_noPanic ?_
   refine wp_region_held_drew (S:=λ w'=>w'.heap[wr.heap.size]?=some (.cells #[.int .i64 tk.kind,.string tk.text,.bool tk.spaced,.slice xa tk.hidden.length xc] 32 (0,0))) (by kernel_rfl) (by exact HX7.out) (λ hHeld=>?_)
   generalize w9.drew=wd at *
   refine Qt 0 103 rfl rfl ?_
   try simp only [Qp]
   refine Qt 1 104 rfl rfl ?_
   try simp only [Qp]
   refine Qt 2 105 rfl rfl ?_
   try simp only [Qp]
   refine Qt 3 106 rfl rfl ?_
   try simp only [Qp]
   refine Qt 4 107 rfl rfl ?_
   try simp only [Qp]
   refine Qt 5 108 rfl rfl ?_
   try simp only [Qp]
   refine Qt 6 109 rfl rfl ?_ (by intro w hSw;have t2:=Qc 2 hSw;go_simp;(first | done | with_reducible rfl | rfl))
   try simp only [Qp]
   refine Qt 7 110 rfl rfl ?_
   try simp only [Qp]
   refine Qr 8 rfl (λ K hK=>?_)
   go_simp
   refine hK.out _ _ (mbox HXd.out (Zab wd _)) (λ hHeld=>?_)
   clear hK K
   try simp only [Qp]
   refine Qr 9 rfl (λ K hK=>?_)
   refine Zcc (w:=wd) (L:=L) 112 rfl rfl (.tmp 103) (.tmp 111) rfl w2.heap.size (.slice am L.length cm) rfl HGd.out true tk.spaced ⟨#[49]⟩ (HNR.out wd true) rfl (by omega) hbd.size ?_
   intro v3 w3 hG3 hg3
   refine hK.out _ _ ((hg3.block _ (Qg HXd.out).1 (λ e=>Nat.lt_irrefl _ (HNE.out _ e.symm))).trans HXd.out) (λ hHeld=>?_)
   clear hK K
   try simp only [Qp]
   refine Qt 10 6 rfl rfl ?_
   try simp only [Qp]
   refine wpAnyH_done (by kernel_rfl) ?_ _
   refine NoPanic.normal ?_
   clear hHeld
   have hb3:Below w2.heap.size w2 w3:=hbd.grown hg3 hbd.size (λ b hb=>HGd.out.mine b hb)
   have HG3:=Qh hG3
   clear hG3 hg3 HXd HGd hs hw
   go_wp2
   go_roundw
   case rel=>exact⟨k+4,_,by omega,by go_num,by simp;omega,HG3,Zf7 HLF.out (by simp),by show _=_;rw [List.map_append];exact HE.out,hb3⟩
   case measure=>simp [intOf];omega
  ·have e3:decide ((0:Int)<=place T tz.text)=false:=by simpa using hp
   have HH:Hid (hasT T (txAt l (k+2))=false):=by show _=_;rw [HTX'.out];unfold hasT;exact e3
   have HTR:=Qh (Zbd false W7)
   unfold bit1 at HTR
   simp only [if_true,Bool.false_eq_true,if_false] at HTR
   have HE:Hid (repG T l (k+4) (L.map (·.d)++[numTk false tk.spaced])=r):=by show _=_;rw [← HI.out,Zka hlt HD.out HO.out HO2.out HNM.out,HH.out,HTK.out]
   clear HH hp HI
   go_wp2_with fail
   refine HTR.out.mono ?_
   rintro e w9 ⟨rfl,rfl⟩
   go_upto_region 22 with fail
   have hd0:Below w9.heap.size w9 w9.drew:=Zag (Below.refl _ _) 1
   have HGd:=Qh (HG7.out.below hd0)
   have hbd:=hb7.trans (hd0.mono hb7.size)
   have HXd:=Qh (mbox HX7.out hd0)
   clear hd0
   have hs:∀ W,Sem.run Tryz.prog (Instr.slice 9 (.string ⟨#[48,49]⟩) (some (.int .i64 0)) (some (.int .i64 1)) none) W=.ok (.string ⟨#[48]⟩) W:=λ W=>by
    first | rfl | kernel_rfl
   have hw:IntKind.i64.wrap 1=1:=by decide
   refine wp_region_noPanic ?_
   refine wp_region_held_drew (S:=λ w'=>w'.heap[wr.heap.size]?=some (.cells #[.int .i64 tk.kind,.string tk.text,.bool tk.spaced,.slice xa tk.hidden.length xc] 32 (0,0))) (by kernel_rfl) (by exact HX7.out) (λ hHeld=>?_)
   generalize w9.drew=wd at *
   refine Qt 0 103 rfl rfl ?_
   try simp only [Qp]
   refine Qt 1 104 rfl rfl ?_
   try simp only [Qp]
   refine Qt 2 105 rfl rfl ?_
   try simp only [Qp]
   refine Qt 3 106 rfl rfl ?_
   try simp only [Qp]
   refine Qt 4 107 rfl rfl ?_
   try simp only [Qp]
   refine Qt 5 108 rfl rfl ?_
   try simp only [Qp]
   refine Qt 6 109 rfl rfl ?_ (by intro w hSw;have t2:=Qc 2 hSw;go_simp;(first | done | with_reducible rfl | rfl))
   try simp only [Qp]
   refine Qt 7 110 rfl rfl ?_
   try simp only [Qp]
   refine Qr 8 rfl (λ K hK=>?_)
   go_simp
   refine hK.out _ _ (mbox HXd.out (Zab wd _)) (λ hHeld=>?_)
   clear hK K
   try simp only [Qp]
   refine Qr 9 rfl (λ K hK=>?_)
   refine Zcc (w:=wd) (L:=L) 112 rfl rfl (.tmp 103) (.tmp 111) rfl w2.heap.size (.slice am L.length cm) rfl HGd.out false tk.spaced ⟨#[48]⟩ (HNR.out wd false) rfl (by omega) hbd.size ?_
   intro v3 w3 hG3 hg3
   refine hK.out _ _ ((hg3.block _ (Qg HXd.out).1 (λ e=>Nat.lt_irrefl _ (HNE.out _ e.symm))).trans HXd.out) (λ hHeld=>?_)
   clear hK K
   try simp only [Qp]
   refine Qt 10 6 rfl rfl ?_
   try simp only [Qp]
   refine wpAnyH_done (by kernel_rfl) ?_ _
   refine NoPanic.normal ?_
   clear hHeld
   have hb3:Below w2.heap.size w2 w3:=hbd.grown hg3 hbd.size (λ b hb=>HGd.out.mine b hb)
   have HG3:=Qh hG3
   clear hG3 hg3 HXd HGd hs hw
   go_wp2
   go_roundw
   case rel=>exact⟨k+4,_,by omega,by go_num,by simp;omega,HG3,Zf7 HLF.out (by simp),by show _=_;rw [List.map_append];exact HE.out,hb3⟩
   case measure=>simp [intOf];omega
/-! ### As the exact law calls them -/
theorem ZgY {l:List DMacro} (h:ZaS l<=1048576):l.length<=1048576/\∀ k,(hk:k<l.length)->MacSm l[k]:=by
 refine ⟨by unfold ZaS at h;omega,λ k hk=>?_⟩
 have h1:=ZeN ZaM l k hk
 unfold ZaS at h
 have h2:ZaM l[k]=l[k].name.size+(l[k].params.length+(l[k].params.map (·.size)).sum)+ZaD l[k].body:=rfl
 have h3:ZaD l[k].body<=1048576:=by omega
 have h4:l[k].body.length<=1048576:=by unfold ZaD at h3;omega
 refine ⟨by omega,h4,λ j hj=>?_⟩
 have h5:=ZeN ZaQ l[k].body j hj
 unfold ZaD at h3
 have h6:ZaQ l[k].body[j]=l[k].body[j].text.size+(l[k].body[j].hidden.length+(l[k].body[j].hidden.map (·.size)).sum):=rfl
 omega
end Go.Proofs.YtipfpppcbmpjiaaGreat
