/- Lemmas. -/
import Derived.Test.YtipfpppcbmpjiaaGreatZC14
import Derived.Deep.RegionLaw
import Derived.Lib.SliceRun
set_option linter.unusedVariables false
set_option maxHeartbeats 16000000
set_option maxRecDepth 100000
set_option linter.unusedSimpArgs false
namespace Go.Proofs.YtipfpppcbmpjiaaGreat
open Go.RowKit
theorem Zmi {α β:Type}{f:α->List β}{m:Nat}:∀(L:List α) (k:Nat),(∀x∈L,(f x).length=m)->(L.take k).flatMap f=(L.flatMap f).take (k*m)
 | [],k,_=>by simp
 | x::r,0,_=>by simp
 |
  x::r,k+1,h=>by
  have hx:=h x (by simp);rw[List.take_succ_cons,Qw,Qw,Zmi r k (λy hy=>h y (by simp[hy])),List.take_append,hx,Nat.succ_mul,Qe (by omega:(f x).length<=k*m+m)];congr 2
  omega
theorem RowN.short {α:Type}{S:Shape α}{base:Nat}{e:TypeId}{L:List (Elem α)}{w:World}{g n cap:Nat}(h:RowN S base e (.slice (some ⟨g,0,none⟩) n cap) L w){k:Nat}(hk:k<=L.length):RowN S base e (.slice (some ⟨g,0,none⟩) k cap) (L.take k) w where
 row:=by
  have hl:(L.take k).length=k:=by rw[Qd];omega
  have hf:((L.take k).flatMap (·.cells)).length=k*S.m:=by rw[ZaR (f:=Elem.cells) (m:=S.m) (λy hy=>h.len y (JC hy)),hl]
  rw[hl];refine⟨hf,?_⟩;rcases h.row.2 with⟨h',_⟩ | ⟨g',dF,cur,h',h1,h2,h3,h4,h5,h6⟩
  ·cases h'
  ·simp only[QT,Qi,Addr.mk.injEq,and_true]at h';obtain⟨rfl,rfl,rfl⟩:=h';refine .inr ⟨g,cap,cur,rfl,h1,h2,by omega,h4,h5,?_⟩;rw[Zmi (f:=Elem.cells) L k h.len,←h6,List.take_take,Nat.min_eq_left (Nat.mul_le_mul_right _ hk)]
 len:=λx hx=>h.len x (JC hx)
 el:=λx hx=>h.el x (JC hx)
 ap:=λx hx=>h.ap x (JC hx)
structure TwoN (base:Nat)(vd:Value)(D:List (Elem Tok))(vl:Value)(L:List (Elem Tok))(w:World):Prop where
 d:RowN sTok base 32 vd D w
 l:RowN sTok base 32 vl L w
 own:Own w base (D.flatMap (·.fp)++L.flatMap (·.fp))
 ne:∀b,vd.ownBlock=some b->vl.ownBlock≠some b
 dl:∀x∈D,∀b∈x.fp,vl.ownBlock≠some b
 ld:∀x∈L,∀b∈x.fp,vd.ownBlock≠some b
section
variable {base:Nat}{vd vl:Value}{D L:List (Elem Tok)}{w w':World}
theorem TwoN.start (base:Nat)(w:World):TwoN base (.slice none 0 0) [] (.slice none 0 0) [] w:=⟨RowN.nil _ _ _ _,RowN.nil _ _ _ _,Own.nil _ _,by simp[Value.ownBlock],by simp,by simp⟩
theorem TwoN.below (h:TwoN base vd D vl L w)(hb:Below w.heap.size w w'):TwoN base vd D vl L w':=⟨h.d.below hb,h.l.below hb,h.own.grow hb,h.ne,h.dl,h.ld⟩
theorem TwoN.fresh {vp:Value}{P:List (Elem Tok)}{lo:Nat}(hd:RowN sTok base 32 vd D w)(ho:Own w base (D.flatMap (·.fp)))(hp:RowN sTok lo 32 vp P w)(hpo:Own w lo (P.flatMap (·.fp)))(cV:base<=lo)(h1:∀b,vd.ownBlock=some b->b<lo)(h2:∀x∈D,∀b∈x.fp,b<lo):TwoN base vd D vp P w where
 d:=hd
 l:=hp.lower cV
 own:=ho.app (hpo.lower cV) λb hb hx=>by
  obtain⟨x,bZ,dp⟩:=QO.1 hb;have:=h2 x bZ b dp;have:=(hpo.2 b hx).1;omega
 ne:=λb hb hv=>by have:=h1 b hb;have:=(hp.mine b hv).1;omega
 dl:=λx hx b hb hv=>by have:=h2 x hx b hb;have:=(hp.mine b hv).1;omega
 ld:=λx hx b hb hv=>by have:=h1 b hv;have:=(hpo.2 b (QO.2 ⟨x,hx,hb⟩)).1;omega
theorem TwoN.lt (h:TwoN base vd D vl L w):(∀b,vd.ownBlock=some b->b<w.heap.size)/\(∀b,vl.ownBlock=some b->b<w.heap.size)/\(∀x∈D,∀b∈x.fp,b<w.heap.size)/\∀x∈L,∀b∈x.fp,b<w.heap.size:=
 ⟨λb hb=>(h.d.mine b hb).2,λb hb=>(h.l.mine b hb).2,λx hx b hb=>sTok.lt (h.d.el x hx) b hb,λx hx b hb=>sTok.lt (h.l.el x hx) b hb⟩
theorem TwoN.flushed {vd':Value}(h:TwoN base vd D vl L w)(hr:RowN sTok base 32 vd' (D++L) w')(hg:w.grownBy w' vd.ownBlock):Own w' base ((D++L).flatMap (·.fp)):=by
 rw[ZfN];refine Zcq h.own (λb hb=>?_) hg;rcases Qa hb with hb | hb
 ·obtain⟨x,bZ,dp⟩:=QO.1 hb;exact h.d.ap x bZ b dp
 ·obtain⟨x,bZ,dp⟩:=QO.1 hb;exact h.ld x bZ b dp
end
def GlueOf (base:Nat)(vl:Value)(L R:List (Elem Tok))(w:World)(e:Ending)(w':World):Prop:=
 ((ZaD ((L.map (·.d)).getLastD Zaw) ((R.map (·.d)).headD Zaw)).2=false/\e=.returned (.tuple #[.slice none 0 0,.bool false])/\Below w.heap.size w w') \/
 ((
  ZaD ((L.map (·.d)).getLastD Zaw) ((R.map (·.d)).headD Zaw)).2=true/\∃(v:Value) (X:Elem Tok),e=.returned (.tuple #[v,.bool true])/\RowN sTok base 32 v (L.dropLast++X::R.tail) w'/\X.d=(ZaD ((L.map (·.d)).getLastD Zaw) ((R.map (·.d)).headD Zaw)).1 /\
  Own w' w.heap.size X.fp/\Kept vl.ownBlock.toList w w'/\(v.ownBlock=vl.ownBlock\/∃b,v.ownBlock=some b/\w.heap.size<=b))
variable {base:Nat}
theorem GlueOf.no {vl:Value}{L R:List (Elem Tok)}{w w':World}{z:Tok}(h:ZaD ((L.map (·.d)).getLastD Zaw) ((R.map (·.d)).headD Zaw)=(z,false))(hb:Below w.heap.size w w'):GlueOf base vl L R w (.returned (.tuple #[.slice none 0 0,.bool false])) w':=
 .inl ⟨by rw[h],rfl,hb⟩
theorem GlueOf.yes {vl v:Value}{L R:List (Elem Tok)}{X:Elem Tok}{w w':World}{z:Tok}(h:ZaD ((L.map (·.d)).getLastD Zaw) ((R.map (·.d)).headD Zaw)=(z,true))(hr:RowN sTok base 32 v (L.dropLast++X::R.tail) w')(hx:X.d=z)
  (ho:Own w' w.heap.size X.fp) (hk:Kept vl.ownBlock.toList w w') (hv:v.ownBlock=vl.ownBlock\/∃b,v.ownBlock=some b/\w.heap.size<=b):GlueOf base vl L R w (.returned (.tuple #[v,.bool true])) w':=
 .inr ⟨by rw[h],v,X,rfl,hr,by rw[h];exact hx,ho,hk,hv⟩
theorem TwoN.glued {vd vl vr v:Value}{D L R:List (Elem Tok)}{X:Elem Tok}{w w':World}(h:TwoN base vd D vl L w)(h2:TwoN base vl L vr R w)(h3:∀b,vd.ownBlock=some b->∀x∈R,b∉x.fp)(h4:∀b∈D.flatMap (·.fp),b∉R.flatMap (·.fp))(hb:base<=w.heap.size)
  (hr:RowN sTok base 32 v (L.dropLast++X::R.tail) w') (ho:Own w' w.heap.size X.fp) (hk:Kept vl.ownBlock.toList w w') (hv:v.ownBlock=vl.ownBlock\/∃b,v.ownBlock=some b/\w.heap.size<=b):TwoN base vd D v (L.dropLast++X::R.tail) w' where
 d:=h.d.kept hk (λg hg hx=>by simp only[Option.mem_toList]at hx;exact h.ne g hg hx) (λx hx b hb bJ=>by simp only[Option.mem_toList]at bJ;exact h.dl x hx b hb bJ)
 l:=hr
 own:=by
  have hsL:(L.dropLast.flatMap (·.fp)).Sublist (L.flatMap (·.fp)):=Zmh (List.dropLast_sublist L);have hsR:(R.tail.flatMap (·.fp)).Sublist (R.flatMap (·.fp)):=Zmh (List.tail_sublist R);have hK:∀b∈D.flatMap (·.fp)++(L.dropLast.flatMap (·.fp)++R.tail.flatMap (·.fp)),b<w.heap.size/\b∉vl.ownBlock.toList:=λb hb=>by
   simp only[Option.mem_toList];rcases Qa hb with hb | hb
   ·obtain⟨x,q1,q2⟩:=QO.1 hb;exact⟨h.lt.2.2.1 x q1 b q2,h.dl x q1 b q2⟩
   ·rcases Qa hb with hb | hb
    ·obtain⟨x,q1,q2⟩:=QO.1 (hsL.subset hb);exact⟨h.lt.2.2.2 x q1 b q2,h.l.ap x q1 b q2⟩
    ·obtain⟨x,q1,q2⟩:=QO.1 (hsR.subset hb);exact⟨h2.lt.2.2.2 x q1 b q2,h2.ld x q1 b q2⟩
  have o1:Own w base (D.flatMap (·.fp)++(L.dropLast.flatMap (·.fp)++R.tail.flatMap (·.fp))):=by
   have a1:=h.own.split;have a2:=h2.own.split;have n1:(L.dropLast.flatMap (·.fp)++R.tail.flatMap (·.fp)).Nodup:=(hsL.append hsR).nodup h2.own.1;refine a1.1.app ⟨n1,λb hb=>?_⟩ λb hb hx=>?_
   ·rcases Qa hb with hb | hb
    ·exact a2.1.2 b (hsL.subset hb)
    ·exact a2.2.1.2 b (hsR.subset hb)
   ·rcases Qa hx with hx | hx
    ·exact(List.nodup_append.1 h.own.1).2.2 b hb b (hsL.subset hx) rfl
    ·exact h4 b hb (hsR.subset hx)
  have o2:Own w' base (D.flatMap (·.fp)++(L.dropLast.flatMap (·.fp)++R.tail.flatMap (·.fp))):=o1.kept (λb hb=>(hK b hb).2) hk;have o3:Own w' base ((D.flatMap (·.fp)++(L.dropLast.flatMap (·.fp)++R.tail.flatMap (·.fp)))++X.fp):=o2.app (ho.lower hb) λb hb hx=>by
   have:=(hK b hb).1;have:=(ho.2 b hx).1;omega
  refine⟨?_,λb hb=>o3.2 b ?_⟩
  ·refine(List.Perm.nodup_iff ?_).1 o3.1;rw[Qn,Qo,Qw,Qn];exact(List.Perm.refl _).append ((List.Perm.refl _).append List.perm_append_comm)
  ·simp only[Qo,Qw,List.mem_append]at hb ⊢;rcases hb with hb | hb | hb | hb
   ·exact .inl (.inl hb)
   ·exact .inl (.inr (.inl hb))
   ·exact .inr hb
   ·exact .inl (.inr (.inr hb))
 ne:=λb hb hx=>by
  rcases hv with e | ⟨c,e,hc⟩
  ·exact h.ne b hb (by rw[←e];exact hx)
  ·rw[e,Qi]at hx;subst hx;have:=h.lt.1 _ hb;omega
 dl:=λx hx b hb bJ=>by
  rcases hv with e | ⟨c,e,hc⟩
  ·exact h.dl x hx b hb (by rw[←e];exact bJ)
  ·rw[e,Qi]at bJ;subst bJ;have:=h.lt.2.2.1 x hx _ hb;omega
 ld:=λx hx b hb bJ=>by
  rcases Qa hx with hx | hx
  ·exact h.ld x ((List.dropLast_sublist L).subset hx) b hb bJ
  ·rcases Q7.1 hx with rfl | hx
   ·have:=h.lt.1 _ bJ;have:=(ho.2 b hb).1;omega
   ·exact h3 b bJ x (List.mem_of_mem_tail hx) hb
variable {α:Type}{S:Shape α}
theorem Zcn {P:Program}{t e:TypeId}{z:Value}{bytes:Nat}(ti:TI P t e z S.m bytes)(ev:z.cells.size=S.m)(h0:0<S.m)(w:World){L X:List (Elem α)}{ops:Array Oper}{o:Oper}{a:Act}{K:Act->World->Prop}{Q:Exit->Act->World->Prop}{E:Prop}
  (d:Nat) (fN:o.dst=some d) (hg:o.guard=none) (s y:Operand) (ho:o.op=.call { callee:=.builtin .append,args:=#[s,y],argTypes:=#[t,t] })
  (base:Nat) (v:Value) (hs:a.eval s=v) (ag:RowN S base e v L w) (ad:Addr) (m c:Nat) (hy:a.eval y=.slice (some ad) m c) (hm:X.length=m)
  (hX:∀x∈X,x.cells.length=S.m/\S.R w x.cells x.d x.fp/\∀b∈x.fp,v.ownBlock≠some b) (h1:∀x∈X,∀u∈x.cells,u.oneCell'=true) (aJ:∀j u,(X.flatMap (·.cells))[j]?=some u->w.cell? (ad.add j)=some u)
  (dz:L.length+m<=maxLen) (aO:(L.length+m)*bytes<=140737488355328) (aK:base<=w.heap.size)
  (h:∀v' w',RowN S base e v' (L++X) w'->w.grownBy w' v.ownBlock->(v'.ownBlock=v.ownBlock\/v'.ownBlock=some w.heap.size)->K (a.put (some d) v') w'):if Region.wanted o (yielded ops a.tmps)=true then Oper.wp P o a w K Q else E:=by
 rw[←fN]at h;have pI:Region.wanted o (yielded ops a.tmps)=true:=by simp[Region.wanted,hg]
 rw[if_pos pI];exact ZcC ti ev h0 w s y ho base v hs ag ad m c hy hm hX h1 aJ dz aO aK h
theorem ZkE (al:Option Addr)(cl:Nat)(vr:Value)(w:World):Calls Tryz.prog 140 #[.slice al 0 cl,vr] w λe w'=>e=.returned (.tuple #[vr,.bool true])/\w'=w:=by
 go_enter Tryz.func140,Tryz.ntmps140;go_wp2;go_ret2;exact⟨rfl,rfl⟩
theorem ZkF (al ar:Option Addr)(n cl cr:Nat)(w:World)(hn:0<n):Calls Tryz.prog 140 #[.slice al n cl,.slice ar 0 cr] w λe w'=>e=.returned (.tuple #[.slice al n cl,.bool true])/\w'=w:=by
 have e0:((n:Int)==0)=false:=by rw[beq_eq_false_iff_ne];omega
 go_enter Tryz.func140,Tryz.ntmps140;go_wp2;go_ret2;exact⟨rfl,rfl⟩
variable {g:Prop}
theorem Y15A1 (h:g:=by
 intro v7 w7 hG7 dc iA;have ln:=Qh ((dc.block _ (QW (mlt gH.out) yE) (λe=>by rcases pj gB e.symm with h | h;omega;have:=mlt gH.out;omega)).trans kO.out);have uG:Kept [g] w w7:=⟨dc.os.trans gI.os,dc.tape.trans gI.tape,dc.output.trans gI.output,QZ gI.size dc.size,λb hb hn=>(dc.block b (QW hb gI.size) (λe=>by rcases pj b e.symm with h | h;exact hn (by simp[h]);have:=gz.size;omega)).trans (gI.block b hb hn)⟩;have OZ7:=Qh (Zcq OZ6.out (λb hb h=>by rcases pj b h with h | h;exact rf (h ▸ hb);have:=OZ5.out.lt b hb;omega) dc);have pk:v7.ownBlock=some g\/∃b,v7.ownBlock=some b/\w.heap.size<=b:=by
  rcases iA with h | h
  ·obtain⟨a8,c8,e8,-,-,h8⟩:=lY.out.val;simp only[QT]at e8;obtain⟨rfl,-,-⟩:=e8;obtain⟨g8,rfl,-,-⟩:=h8 (by have:=im.out;omega);rcases pj g8 rfl with h6 | h6
   ·left;rw[h,←h6];rfl
   ·right;exact⟨g8,h,by have:=gz.size;omega⟩
  ·right;exact⟨_,h,by have:=gz.size;omega⟩
 have oU:Hid (RowN sTok base 32 v7 (L.dropLast++(⟨[.int .i64 z.kind,.string z.text,.bool z.spaced,.slice za z.hidden.length zc],z,fz⟩:Elem Tok)::R.tail) w7):=by
  show RowN _ _ _ _ _ _;rw[kt.out,HL1D.out,iG.out,Qn]at hG7;exact hG7
 clear hG7 dc iA;refine hK.out _ _ ln.out (λac=>?_);clear hK K;try simp only[Qp]
 refine Qt 9 4 rfl rfl ?_;try simp only[Qp]
 refine Qt 10 5 rfl rfl ?_;try simp only[Qp]
 refine wpAnyH_done (by kernel_rfl) ?_ _;refine QP ?_;clear ac;go_wp2;go_ret2
 exact GlueOf.yes (X:=⟨[.int .i64 z.kind,.string z.text,.bool z.spaced,.slice za z.hidden.length zc],z,fz⟩) HPZ.out oU.out rfl OZ7.out uG pk):g:=h
theorem Y15A2 (h:g:=by
 have q1:=pm.out.el q hqR;have q2:∀b∈q.fp,b≠g:=λb hb e=>HLD.out q hqR b hb (by rw[e];rfl);refine⟨pm.out.len q hqR,sTok.frame (λb hb=>d9.block b (sTok.lt q1 b hb) (λe=>by simp only[Value.ownBlock,Qi]at e;exact q2 b hb e)) q1,λb hb h=>?_⟩;rcases pj b h with h | h
 ·exact q2 b hb h
 ·have:=sTok.lt q1 b hb;omega):g:=h
theorem ZjL (base:Nat)(vl vr:Value)(L R:List (Elem Tok))(w:World)(aK:base<=w.heap.size)(H:TwoN base vl L vr R w)(hl:0<L.length)(hr:0<R.length)(hlm:L.length<=5000)(hrm:R.length<=5000)(hhl:∀x∈L,x.d.hidden.length<=60)(hhr:∀x∈R,x.d.hidden.length<=60):
  Calls Tryz.prog 140 #[vl,vr] w (GlueOf base vl L R w):=by
 obtain⟨al,co,rfl,hco,gL,hvl⟩:=H.d.val;obtain⟨g,rfl,A1,cX⟩:=hvl hl;obtain⟨ar,c9,rfl,hc9,hc9m,sK⟩:=H.l.val;obtain⟨g9,rfl,hg9w,iz⟩:=sK hr;clear hvl sK;obtain⟨N,HN⟩:∃N:Nat,Hid (N=L.length):=⟨L.length,Qh rfl⟩;obtain⟨N9,eS⟩:∃N9:Nat,Hid (N9=R.length):=⟨R.length,Qh rfl⟩;have HR:=Qh H.d;have cM:=Qh H.l;have HLD:=Qh H.ld;rw[show L.length=N from HN.out.symm]at HR hl hlm hco ⊢;rw[show R.length=N9 from eS.out.symm]at cM hr hrm hc9 ⊢;have hgg:g≠g9:=λe=>H.ne g rfl (by rw[e];rfl);have iL:N-1<L.length:=by have:=HN.out;omega
 have eB:0<R.length:=by have:=eS.out;omega
 obtain⟨y,mh⟩:∃y:Elem Tok,Hid (y=L[N-1]'iL):=⟨L[N-1]'iL,Qh rfl⟩;obtain⟨x,ph⟩:∃x:Elem Tok,Hid (x=R[0]'eB):=⟨R[0]'eB,Qh rfl⟩;have xv:y∈L:=by rw[mh.out];exact QE iL
 have xw:x∈R:=by rw[ph.out];exact QE eB
 obtain⟨hyv,nz,-,-,KY⟩:=HR.out.el y xv;obtain⟨ya,yc,rfl,-⟩:=Zaf KY;obtain⟨hxv,pi,-,-,KX⟩:=cM.out.el x xw;obtain⟨xa,xc,rfl,-⟩:=Zaf KX;clear KY KX;have RY:=HR.out.el y xv;have RX:=cM.out.el x xw;rw[nz]at RY;rw[pi]at RX;have y0:w.cell? ⟨g,(N-1)*4,none⟩=some (.int .i64 y.d.kind):=HR.out.cellAt iL (j:=0) (by decide) (by rw[←mh.out,nz];rfl);have y1:w.cell? ⟨g,(N-1)*4+1,none⟩=some (.string y.d.text):=HR.out.cellAt iL (j:=1) (by decide) (by rw[←mh.out,nz];rfl);have y2:w.cell? ⟨g,(N-1)*4+2,none⟩=some (.bool y.d.spaced):=HR.out.cellAt iL (j:=2) (by decide) (by rw[←mh.out,nz];rfl);have y3:w.cell? ⟨g,(N-1)*4+3,none⟩=some (.slice ya y.d.hidden.length yc):=HR.out.cellAt iL (j:=3) (by decide) (by rw[←mh.out,nz];rfl);have x0:w.cell? ⟨g9,0,none⟩=some (.int .i64 x.d.kind):=by have:=cM.out.cellAt eB (j:=0) (by decide) (u:=.int .i64 x.d.kind) (by rw[←ph.out,pi];rfl);simpa using this
 have x1:w.cell? ⟨g9,1,none⟩=some (.string x.d.text):=by have:=cM.out.cellAt eB (j:=1) (by decide) (u:=.string x.d.text) (by rw[←ph.out,pi];rfl);simpa using this
 have x2:w.cell? ⟨g9,2,none⟩=some (.bool x.d.spaced):=by have:=cM.out.cellAt eB (j:=2) (by decide) (u:=.bool x.d.spaced) (by rw[←ph.out,pi];rfl);simpa using this
 have x3:w.cell? ⟨g9,3,none⟩=some (.slice xa x.d.hidden.length xc):=by have:=cM.out.cellAt eB (j:=3) (by decide) (u:=.slice xa x.d.hidden.length xc) (by rw[←ph.out,pi];rfl);simpa using this
 have A2:Hid ((L.map (·.d)).getLastD Zaw=y.d/\(R.map (·.d)).headD Zaw=x.d):=by
  refine⟨?_,?_⟩
  ·have cD:L.map (·.d)≠[]:=λh=>(by have:=JY List.length h;rw[QH]at this;simp at this;rw[this]at iL;simp at iL);rw[List.getLastD_eq_getLast?,List.getLast?_eq_some_getLast cD,Option.getD_some,List.getLast_eq_getElem,JF,mh.out];congr 2
   rw[QH];have:=HN.out;omega
  ·rw[ph.out];cases R with
   | nil=>simp at eB
   | cons q r=>rfl
 have hyh:y.d.hidden.length<=60:=hhl y xv;have hxh:x.d.hidden.length<=60:=hhr x xw;rcases pU:ZaD y.d x.d with⟨z,fw⟩;have HPR:=Qh pU;have gY:=Qh (λ(U:World) (hU:Below w.heap.size w U)=>ZjK [.int .i64 y.d.kind,.string y.d.text,.bool y.d.spaced,.slice ya y.d.hidden.length yc] [.int .i64 x.d.kind,.string x.d.text,.bool x.d.spaced,.slice xa x.d.hidden.length xc] y.d x.d y.fp x.fp U (by omega) (by omega) (sTok.below RY hU) (sTok.below RX hU));unfold Zf7 at gY;rw[pU]at gY;try dsimp only at gY
 have HPZ:Hid (ZaD ((L.map (·.d)).getLastD Zaw) ((R.map (·.d)).headD Zaw)=(z,fw)):=by show _=_;rw[A2.out.1,A2.out.2];exact HPR.out
 have gK:Hid (∀U:World,Below w.heap.size w U->U.cell? ⟨g,(N-1)*4,none⟩=some (.int .i64 y.d.kind)/\U.cell? ⟨g,(N-1)*4+1,none⟩=some (.string y.d.text)/\U.cell? ⟨g,(N-1)*4+2,none⟩=some (.bool y.d.spaced)/\U.cell? ⟨g,(N-1)*4+3,none⟩=some (.slice ya y.d.hidden.length yc)/\U.cell? ⟨g9,0,none⟩=some (.int .i64 x.d.kind)/\U.cell? ⟨g9,1,none⟩=some (.string x.d.text)/\U.cell? ⟨g9,2,none⟩=some (.bool x.d.spaced)/\U.cell? ⟨g9,3,none⟩=some (.slice xa x.d.hidden.length xc)):=λU hU=>⟨(hU.cell cX).trans y0,(hU.cell cX).trans y1,(hU.cell cX).trans y2,(hU.cell cX).trans y3,(hU.cell iz).trans x0,(hU.cell iz).trans x1,(hU.cell iz).trans x2,(hU.cell iz).trans x3⟩;have aS:Below w.heap.size w w.drew:=Zah (QD _ _) 1;have hwn:IntKind.i64.wrap ((N:Int)-1)=(N:Int)-1:=QF _ (by omega);have n0:((N:Int)==0)=false:=by rw[beq_eq_false_iff_ne];omega
 have m0:((N9:Int)==0)=false:=by rw[beq_eq_false_iff_ne];omega
 have n1:(0:Int)<=(N:Int)-1:=by omega
 have n2:(N:Int)-1<(N:Int):=by omega
 have n3:((N:Int)-1).toNat=N-1:=by omega
 have n4:(1:Int)<=(N:Int):=by omega
 have n5:(0:Int)<(N9:Int):=by omega
 clear y0 y1 y2 y3 x0 x1 x2 x3 pU RY RX pi;go_enter Tryz.func140,Tryz.ntmps140;go_upto_region 6 with fail
 go_cut [7,8] from 9 (λd e wx=>∃(gB:Nat) (za:Option Addr) (zc:Nat) (fz:List Nat),d=.pointer (some ⟨gB,0,none⟩)/\e=.bool fw/\wx.heap[gB]?=some (.cells #[.int .i64 z.kind,.string z.text,.bool z.spaced,.slice za z.hidden.length zc] 32 (0,0))/\w.heap.size<=gB/\gB<wx.heap.size/\sTok.R wx [.int .i64 z.kind,.string z.text,.bool z.spaced,.slice za z.hidden.length zc] z fz/\Own wx w.heap.size fz/\Below w.heap.size w wx)
 case first =>
  refine wp_region_noPanic ?_;refine JU (S:=λw'=>w'.cell? ⟨g,(N-1)*4,none⟩=some (.int .i64 y.d.kind)/\w'.cell? ⟨g,(N-1)*4+1,none⟩=some (.string y.d.text)/\w'.cell? ⟨g,(N-1)*4+2,none⟩=some (.bool y.d.spaced)/\w'.cell? ⟨g,(N-1)*4+3,none⟩=some (.slice ya y.d.hidden.length yc)/\w'.cell? ⟨g9,0,none⟩=some (.int .i64 x.d.kind)/\w'.cell? ⟨g9,1,none⟩=some (.string x.d.text)/\w'.cell? ⟨g9,2,none⟩=some (.bool x.d.spaced)/\w'.cell? ⟨g9,3,none⟩=some (.slice xa x.d.hidden.length xc)) (by kernel_rfl) (by exact gK.out _ aS) (λac=>?_);generalize w.drew=wd at *;refine Qt 0 21 rfl rfl ?_;try simp only[Qp]
  refine Qt 1 22 rfl rfl ?_;try simp only[Qp]
  refine Qt 2 23 rfl rfl ?_;try simp only[Qp]
  refine Qt 3 24 rfl rfl ?_ (by intro w aI;obtain⟨s0,s1,s2,s3,t0,t1,t2,t3⟩:=aI;go_simp;(first | done | with_reducible rfl | rfl));try simp only[Qp]
  refine Qt 4 25 rfl rfl ?_;try simp only[Qp]
  refine Qt 5 26 rfl rfl ?_;try simp only[Qp]
  refine Qt 6 27 rfl rfl ?_ (by intro w aI;obtain⟨s0,s1,s2,s3,t0,t1,t2,t3⟩:=aI;go_simp;(first | done | with_reducible rfl | rfl));try simp only[Qp]
  refine wpAnyH_ready (rs:=[7,11]) (by kernel_rfl) (by simp) ?_;refine JP rfl (λK hK=>?_) ?_
  ·skip
   go_simp;refine(gY.out _ aS).mono ?_;rintro e eR⟨czs,fz,rfl,rZ,oZ,tQ⟩;obtain⟨hz,rfl,-,-,KZ⟩:=id rZ;obtain⟨za,zc,rfl,-⟩:=Zaf KZ;clear KZ;have bZ:=aS.trans (tQ.mono aS.size);replace oZ:=oZ.lower aS.size;refine hK.out _ _ (gK.out _ bZ) (λac=>?_);clear hK K;try simp only[Qp]
   refine Qt 8 20 rfl rfl ?_;try simp only[Qp]
   refine Qt 9 29 rfl rfl ?_;try simp only[Qp]
   refine Qt 10 30 rfl rfl ?_;try simp only[Qp]
   refine Qr 11 rfl (λK hK=>?_);go_simp;have bk:=Zab eR (.cells #[.int .i64 0,.string ⟨#[]⟩,.bool false,.slice none 0 0] 32);have d6:=Qh (JS eR (.cells #[.int .i64 0,.string ⟨#[]⟩,.bool false,.slice none 0 0] 32));have dp:=bZ.trans (bk.mono bZ.size);have eD:=bZ.size;replace rZ:=sTok.below rZ bk;have xx:eR.heap.size∉fz:=λh=>Nat.lt_irrefl _ (oZ.lt _ h);replace oZ:=oZ.grow bk;refine hK.out _ _ (gK.out _ dp) (λac=>?_);clear hK K bk;try simp only[Qp]
   generalize (eR.alloc (.cells #[.int .i64 0,.string ⟨#[]⟩,.bool false,.slice none 0 0] 32))=gw at *;obtain⟨tL,dT,tM,dU,tN,dV,tO,dW⟩:=Q8 d6.out;have fU:=Qh (Zhy d6.out eD rZ oZ xx dp (.int .i64 z.kind) (.string z.text) (.bool z.spaced) (.slice za z.hidden.length zc));refine Qr 12 rfl (λK hK=>?_);go_simp;change K _ (set4 gw (eR.heap.size) (.int .i64 z.kind) (.string z.text) (.bool z.spaced) (.slice za z.hidden.length zc));refine hK.out _ _ (gK.out _ fU.out.2.2.2.2.2) (λac=>?_);clear hK K;try simp only[Qp]
   refine Qt 13 8 rfl rfl ?_;try simp only[Qp]
   refine wpAnyH_done (by kernel_rfl) ?_ _;refine QP ?_;clear ac;go_wp2;go_meet;case rel=>exact⟨_,za,zc,_,rfl,rfl,fU.out.1,fU.out.2.1,fU.out.2.2.1,fU.out.2.2.2.1,fU.out.2.2.2.2.1,fU.out.2.2.2.2.2⟩
  refine JP rfl (λK hK=>?_) AllReadyH.nil;go_simp;have bk:=Zab wd (.cells #[.int .i64 0,.string ⟨#[]⟩,.bool false,.slice none 0 0] 32);have d6:=Qh (JS wd (.cells #[.int .i64 0,.string ⟨#[]⟩,.bool false,.slice none 0 0] 32));have d8:=aS.trans (bk.mono aS.size);have eD:=aS.size;refine hK.out _ _ (gK.out _ d8) (λac=>?_);clear hK K bk;try simp only[Qp]
  generalize (wd.alloc (.cells #[.int .i64 0,.string ⟨#[]⟩,.bool false,.slice none 0 0] 32))=sH at *;refine Qr 7 rfl (λK hK=>?_);go_simp;refine(gY.out _ d8).mono ?_;rintro e xq⟨czs,fz,rfl,rZ,oZ,tQ⟩;obtain⟨hz,rfl,-,-,KZ⟩:=id rZ;obtain⟨za,zc,rfl,-⟩:=Zaf KZ;clear KZ;have iK:=d8.trans (tQ.mono d8.size);have xx:wd.heap.size∉fz:=λh=>by have h1:=(oZ.2 _ h).1;have h2:=mlt d6.out;omega
  replace d6:=Qh (Zag d6.out tQ);replace oZ:=oZ.lower d8.size;refine hK.out _ _ (gK.out _ iK) (λac=>?_);clear hK K;try simp only[Qp]
  refine Qt 8 20 rfl rfl ?_;try simp only[Qp]
  refine Qt 9 29 rfl rfl ?_;try simp only[Qp]
  refine Qt 10 30 rfl rfl ?_;try simp only[Qp]
  obtain⟨tL,dT,tM,dU,tN,dV,tO,dW⟩:=Q8 d6.out;have fU:=Qh (Zhy d6.out eD rZ oZ xx iK (.int .i64 z.kind) (.string z.text) (.bool z.spaced) (.slice za z.hidden.length zc));refine Qr 12 rfl (λK hK=>?_);go_simp;change K _ (set4 xq (wd.heap.size) (.int .i64 z.kind) (.string z.text) (.bool z.spaced) (.slice za z.hidden.length zc));refine hK.out _ _ (gK.out _ fU.out.2.2.2.2.2) (λac=>?_);clear hK K;try simp only[Qp]
  refine Qt 13 8 rfl rfl ?_;try simp only[Qp]
  refine wpAnyH_done (by kernel_rfl) ?_ _;refine QP ?_;clear ac;go_wp2;go_meet;case rel=>exact⟨_,za,zc,_,rfl,rfl,fU.out.1,fU.out.2.1,fU.out.2.2.1,fU.out.2.2.2.1,fU.out.2.2.2.2.1,fU.out.2.2.2.2.2⟩
 obtain⟨gB,za,zc,fz,rfl,rfl,rp,hgB1,hgB2,RZ,qa,mi⟩:=hcut;generalize wc=wb at *;have A3:=Qh rp;replace HR:=Qh (HR.out.below mi);replace cM:=Qh (cM.out.below mi);clear rp gY gK aS;cases fw
 ·go_wp2;go_ret2;exact GlueOf.no HPZ.out mi
 have rf:g∉fz:=λh=>by have:=(qa.2 _ h).1;omega
 obtain⟨R1,iG⟩:∃R1:List (Elem Tok),Hid (R1=R.tail):=⟨R.tail,Qh rfl⟩;have HRC:Hid (R1.length=N9-1):=by show _=_;rw[iG.out,List.length_tail];have:=eS.out;omega
 have uZ:Hid (∀q∈R1,q∈R):=λq hq=>List.mem_of_mem_tail (by rw[←iG.out];exact hq);have dK:Below wb.heap.size wb wb.drew:=Zah (QD _ _) 1;have hwd:=dK.size;have bl:=Zab wb.drew (.cells #[.int .i64 z.kind,.string z.text,.bool z.spaced,.slice za z.hidden.length zc] 32);have fW:=Qh (JS wb.drew (.cells #[.int .i64 z.kind,.string z.text,.bool z.spaced,.slice za z.hidden.length zc] 32));have fG:=Qh ((HR.out.short (k:=N-1) (by have:=HN.out;omega)).below (dK.trans (bl.mono dK.size)));have A6:=Qh (sTok.below RZ (dK.trans (bl.mono dK.size)));have OZ5:=Qh ((qa.grow dK).grow bl);have pm:=Qh (cM.out.below (dK.trans (bl.mono dK.size)));have gz:=mi.trans ((dK.trans (bl.mono dK.size)).mono mi.size);have gH:=Qh (Zag A3.out (dK.trans (bl.mono dK.size)));have HZd:wb.drew.heap[gB]?=some (.cells #[.int .i64 z.kind,.string z.text,.bool z.spaced,.slice za z.hidden.length zc] 32 (0,0)):=A3.out;have vY:(L.take (N-1)).length=N-1:=by rw[Qd];have:=HN.out;omega
 have dE:=Qh vY;obtain⟨L1,kj⟩:∃L1:List (Elem Tok),Hid (L1=L.take (N-1)):=⟨L.take (N-1),Qh rfl⟩;have HL1D:Hid (L1=L.dropLast):=by show _=_;rw[kj.out,List.dropLast_eq_take];congr 1;have:=HN.out;omega
 rw[show L.take (N-1)=L1 from kj.out.symm]at fG dE;have HL1M:Hid (∀q∈L1,q∈L):=λq hq=>JC (by rw[←kj.out];exact hq);have hgb3:g<wb.heap.size:=QW cX mi.size;have hg9b3:g9<wb.heap.size:=QW iz mi.size;clear vY dK bl HR cM qa RZ;have sL:Hid (∀j u,(R1.flatMap (·.cells))[j]?=some u->(wb.drew.alloc (.cells #[.int .i64 z.kind,.string z.text,.bool z.spaced,.slice za z.hidden.length zc] 32)).cell? ⟨g9,4+j,none⟩=some u):=by
  intro j u hj;cases R with
  | nil=>simp at eB
  |
   cons q r =>
   have e1:R1=r:=iG.out;rw[e1]at hj;have hql:q.cells.length=4:=pm.out.len q (by simp);have iF:j<(r.flatMap (·.cells)).length:=(Qq.1 hj).1;rw[ZaR (f:=Elem.cells) (m:=4) (λq' hq'=>pm.out.len q' (by simp[hq']))]at iF;have ai:=pm.out.row;rw[show N9=(q::r).length from eS.out]at ai;rw[ai.cellAt (4+j) (by show 4+j<(r.length+1)*4;omega),Qw,List.getElem?_append_right (by omega),hql,show 4+j-4=j by omega];exact hj
 generalize hw5:(wb.drew.alloc (.cells #[.int .i64 z.kind,.string z.text,.bool z.spaced,.slice za z.hidden.length zc] 32))=w5 at fW fG A6 OZ5 pm gz gH sL;have vc:=Qh hw5;clear hw5;have o1:(1:Int)<=(N9:Int):=by omega
 have o2:1<=N9:=hr;have o3:1<=c9:=by omega
 have o4:(1:Int)<=(c9:Int):=by omega
 have o5:(N:Int)-1<=(co:Int):=by omega
 have o6:N-1<=co:=by omega
 by_cases h1:c9=1
 ·have mj:Hid (c9=1/\N9-1=0):=⟨h1,by omega⟩;have xy:Hid (Value.slice (if c9=1 then some ⟨g9,0,none⟩ else some ⟨g9,4,none⟩) (N9-1) (c9-1)=.slice (some ⟨g9,0,none⟩) (N9-1) (c9-1)):=by show _=_;rw[if_pos h1]
  go_upto_region 9 with fail
  refine wp_region_noPanic ?_;refine JU (S:=λw'=>w'.heap[gB]?=some (.cells #[.int .i64 z.kind,.string z.text,.bool z.spaced,.slice za z.hidden.length zc] 32 (0,0))) (by kernel_rfl) (by exact HZd) (λac=>?_);generalize wb.drew=wd at *;refine Qt 0 33 rfl rfl ?_;try simp only[Qp]
  refine Qt 1 34 rfl rfl ?_;try simp only[Qp]
  refine Qt 2 35 rfl rfl ?_;try simp only[Qp]
  refine Qt 3 36 rfl rfl ?_ (by intro w aI;obtain⟨t0,t1,t2,t3⟩:=Q4 aI;go_simp;(first | done | with_reducible rfl | rfl));try simp only[Qp]
  refine Qt 6 39 rfl rfl ?_;try simp only[Qp]
  refine Qt 7 40 rfl rfl ?_;try simp only[Qp]
  refine Qr 4 rfl (λK hK=>?_);go_simp;rw[vc.out];refine hK.out _ _ gH.out (λac=>?_);clear hK K;try simp only[Qp]
  refine Qr 5 rfl (λK hK=>?_);refine Zcn (X:=[(⟨[.int .i64 z.kind,.string z.text,.bool z.spaced,.slice za z.hidden.length zc],z,fz⟩:Elem Tok)]) ti_tok rfl (by decide) _ 38 rfl rfl (.tmp 35) (.tmp 37) rfl base (.slice (some ⟨g,0,none⟩) (N-1) co) rfl fG.out ⟨wd.heap.size,0,none⟩ 1 1 rfl rfl (λq hq=>by obtain rfl:=Qm hq;exact⟨rfl,A6.out,λb hb h=>rf (by simp only[Value.ownBlock,Qi]at h;rw[h];exact hb)⟩) (λq hq=>by obtain rfl:=Qm hq;exact ZaX _ _ _ _ A6.out) (λj u hj=>by rw[ZaZ,QX,cell_of_row _ _ _ _ _ _ fW.out];simpa using hj) (by have:=dE.out;unfold maxLen;omega) (by have:=dE.out;omega) (QZ aK gz.size) ?_;intro v6 w6 kS d9 pV;have hv6:∀b,v6.ownBlock=some b->b=g\/w.heap.size<=b:=λb hb=>by
   rcases pV with h | h
   ·rw[h]at hb;simp only[Value.ownBlock,Qi]at hb;exact .inl hb.symm
   ·rw[h]at hb;simp only[Qi]at hb;have:=gz.size;right;omega
  have pj:∀b,v6.ownBlock=some b->b=g\/w5.heap.size<=b:=λb hb=>by
   rcases pV with h | h
   ·rw[h]at hb;simp only[Value.ownBlock,Qi]at hb;exact .inl hb.symm
   ·rw[h]at hb;simp only[Qi]at hb;right;omega
  have kO:=Qh ((d9.block _ (mlt gH.out) (λe=>by simp only[Value.ownBlock,Qi]at e;omega)).trans gH.out);have gI:Kept [g] w w6:=(Kept.of_below gz).trans ((ZkD d9).mono (λb hb=>by simpa[Value.ownBlock]using hb));have OZ6:=Qh (Zcq OZ5.out (λb hb h=>rf (by simp only[Value.ownBlock,Qi]at h;rw[h];exact hb)) d9);have rq:Hid (∀q∈R1,q.cells.length=4/\sTok.R w6 q.cells q.d q.fp/\∀b∈q.fp,v6.ownBlock≠some b):=λq hq=>by
   have hqR:=uZ.out q hq;exact Y15A2
  have A7:Hid (∀j u,(R1.flatMap (·.cells))[j]?=some u->w6.cell? ⟨g9,4+j,none⟩=some u):=λj u hj=>(Qu (d9.block g9 (QW iz gz.size) (λe=>by simp only[Value.ownBlock,Qi]at e;exact hgg e.symm))).trans (sL.out j u hj);have xz:(L1++[(⟨[.int .i64 z.kind,.string z.text,.bool z.spaced,.slice za z.hidden.length zc],z,fz⟩:Elem Tok)]).length=N:=by rw[QC,dE.out];simp;omega
  have im:=Qh xz;obtain⟨a6,c6,rt,-⟩:=kS.val;rw[xz]at rt;subst rt;have lY:=Qh kS;obtain⟨M6,kt⟩:∃M6,Hid (M6=L1++[(⟨[.int .i64 z.kind,.string z.text,.bool z.spaced,.slice za z.hidden.length zc],z,fz⟩:Elem Tok)]):=⟨L1++[(⟨[.int .i64 z.kind,.string z.text,.bool z.spaced,.slice za z.hidden.length zc],z,fz⟩:Elem Tok)],Qh rfl⟩;rw[show L1++[(⟨[.int .i64 z.kind,.string z.text,.bool z.spaced,.slice za z.hidden.length zc],z,fz⟩:Elem Tok)]=M6 from kt.out.symm]at lY im;have yE:=d9.size;clear kS d9 pV xz hv6;refine hK.out _ _ kO.out (λac=>?_);clear hK K;try simp only[Qp]
  refine Qr 8 rfl (λK hK=>?_);refine Zcn (X:=R1) ti_tok rfl (by decide) _ 41 rfl rfl (.tmp 38) (.tmp 40) rfl base (.slice a6 N c6) rfl lY.out ⟨g9,0,none⟩ (N9-1) 0 rfl HRC.out (λq hq=>rq.out q hq) (λq hq=>ZaX _ _ _ _ (rq.out q hq).2.1) (λj u hj=>by have h1:R1=[]:=QU.1 (by have:=HRC.out;have:=mj.out;omega);rw[h1]at hj;simp at hj) (by have:=im.out;unfold maxLen;omega) (by have:=im.out;omega) (by have:=gz.size;omega) ?_;exact Y15A1
 ·have mj:Hid (c9≠1):=h1;have xy:Hid (Value.slice (if c9=1 then some ⟨g9,0,none⟩ else some ⟨g9,4,none⟩) (N9-1) (c9-1)=.slice (some ⟨g9,4,none⟩) (N9-1) (c9-1)):=by show _=_;rw[if_neg h1]
  go_upto_region 9 with fail
  refine wp_region_noPanic ?_;refine JU (S:=λw'=>w'.heap[gB]?=some (.cells #[.int .i64 z.kind,.string z.text,.bool z.spaced,.slice za z.hidden.length zc] 32 (0,0))) (by kernel_rfl) (by exact HZd) (λac=>?_);generalize wb.drew=wd at *;refine Qt 0 33 rfl rfl ?_;try simp only[Qp]
  refine Qt 1 34 rfl rfl ?_;try simp only[Qp]
  refine Qt 2 35 rfl rfl ?_;try simp only[Qp]
  refine Qt 3 36 rfl rfl ?_ (by intro w aI;obtain⟨t0,t1,t2,t3⟩:=Q4 aI;go_simp;(first | done | with_reducible rfl | rfl));try simp only[Qp]
  refine Qt 6 39 rfl rfl ?_;try simp only[Qp]
  refine Qt 7 40 rfl rfl ?_;try simp only[Qp]
  refine Qr 4 rfl (λK hK=>?_);go_simp;rw[vc.out];refine hK.out _ _ gH.out (λac=>?_);clear hK K;try simp only[Qp]
  refine Qr 5 rfl (λK hK=>?_);refine Zcn (X:=[(⟨[.int .i64 z.kind,.string z.text,.bool z.spaced,.slice za z.hidden.length zc],z,fz⟩:Elem Tok)]) ti_tok rfl (by decide) _ 38 rfl rfl (.tmp 35) (.tmp 37) rfl base (.slice (some ⟨g,0,none⟩) (N-1) co) rfl fG.out ⟨wd.heap.size,0,none⟩ 1 1 rfl rfl (λq hq=>by obtain rfl:=Qm hq;exact⟨rfl,A6.out,λb hb h=>rf (by simp only[Value.ownBlock,Qi]at h;rw[h];exact hb)⟩) (λq hq=>by obtain rfl:=Qm hq;exact ZaX _ _ _ _ A6.out) (λj u hj=>by rw[ZaZ,QX,cell_of_row _ _ _ _ _ _ fW.out];simpa using hj) (by have:=dE.out;unfold maxLen;omega) (by have:=dE.out;omega) (QZ aK gz.size) ?_;intro v6 w6 kS d9 pV;have hv6:∀b,v6.ownBlock=some b->b=g\/w.heap.size<=b:=λb hb=>by
   rcases pV with h | h
   ·rw[h]at hb;simp only[Value.ownBlock,Qi]at hb;exact .inl hb.symm
   ·rw[h]at hb;simp only[Qi]at hb;have:=gz.size;right;omega
  have pj:∀b,v6.ownBlock=some b->b=g\/w5.heap.size<=b:=λb hb=>by
   rcases pV with h | h
   ·rw[h]at hb;simp only[Value.ownBlock,Qi]at hb;exact .inl hb.symm
   ·rw[h]at hb;simp only[Qi]at hb;right;omega
  have kO:=Qh ((d9.block _ (mlt gH.out) (λe=>by simp only[Value.ownBlock,Qi]at e;omega)).trans gH.out);have gI:Kept [g] w w6:=(Kept.of_below gz).trans ((ZkD d9).mono (λb hb=>by simpa[Value.ownBlock]using hb));have OZ6:=Qh (Zcq OZ5.out (λb hb h=>rf (by simp only[Value.ownBlock,Qi]at h;rw[h];exact hb)) d9);have rq:Hid (∀q∈R1,q.cells.length=4/\sTok.R w6 q.cells q.d q.fp/\∀b∈q.fp,v6.ownBlock≠some b):=λq hq=>by
   have hqR:=uZ.out q hq;exact Y15A2
  have A7:Hid (∀j u,(R1.flatMap (·.cells))[j]?=some u->w6.cell? ⟨g9,4+j,none⟩=some u):=λj u hj=>(Qu (d9.block g9 (QW iz gz.size) (λe=>by simp only[Value.ownBlock,Qi]at e;exact hgg e.symm))).trans (sL.out j u hj);have xz:(L1++[(⟨[.int .i64 z.kind,.string z.text,.bool z.spaced,.slice za z.hidden.length zc],z,fz⟩:Elem Tok)]).length=N:=by rw[QC,dE.out];simp;omega
  have im:=Qh xz;obtain⟨a6,c6,rt,-⟩:=kS.val;rw[xz]at rt;subst rt;have lY:=Qh kS;obtain⟨M6,kt⟩:∃M6,Hid (M6=L1++[(⟨[.int .i64 z.kind,.string z.text,.bool z.spaced,.slice za z.hidden.length zc],z,fz⟩:Elem Tok)]):=⟨L1++[(⟨[.int .i64 z.kind,.string z.text,.bool z.spaced,.slice za z.hidden.length zc],z,fz⟩:Elem Tok)],Qh rfl⟩;rw[show L1++[(⟨[.int .i64 z.kind,.string z.text,.bool z.spaced,.slice za z.hidden.length zc],z,fz⟩:Elem Tok)]=M6 from kt.out.symm]at lY im;have yE:=d9.size;clear kS d9 pV xz hv6;refine hK.out _ _ kO.out (λac=>?_);clear hK K;try simp only[Qp]
  refine Qr 8 rfl (λK hK=>?_);refine Zcn (X:=R1) ti_tok rfl (by decide) _ 41 rfl rfl (.tmp 38) (.tmp 40) rfl base (.slice a6 N c6) rfl lY.out ⟨g9,4,none⟩ (N9-1) (c9-1) rfl HRC.out (λq hq=>rq.out q hq) (λq hq=>ZaX _ _ _ _ (rq.out q hq).2.1) (λj u hj=>by rw[ZaZ];exact A7.out j u hj) (by have:=im.out;unfold maxLen;omega) (by have:=im.out;omega) (by have:=gz.size;omega) ?_;exact Y15A1
def ZkG (r:List Tok × Bool)(w:World)(e:Ending)(w':World):Prop:=
 ∃(v:Value) (fp:List Nat),e=.returned (.tuple #[v,.bool r.2])/\(Zaa sTok).R w' [v] r.1 fp/\(∀b∈fp,w.heap.size<=b)/\Below w.heap.size w w'
theorem ZfO {r:List Tok × Bool}{w W:World}(h:r=([],false))(hb:Below w.heap.size w W):ZkG r w (.returned (.tuple #[.slice (some ⟨W.heap.size,0,none⟩) 0 0,.bool false])) (W.alloc (.cells #[] 32)):=
 ⟨_,[],by rw[h],by rw[h];exact Zao _ _ _ _ (by simp),by simp,hb.alloc hb.size _⟩
variable {v:Value}
theorem ZhJ {r:List Tok × Bool}{w W:World}{L:List (Elem Tok)}{c:Bool}(h:r=(L.map (·.d),c))(hG:RowG sTok base 32 v L W)(aK:w.heap.size<=base)(hf:∀x∈L,∀b∈x.fp,w.heap.size<=b)(hb:Below w.heap.size w W):ZkG r w (.returned (.tuple #[v,.bool c])) W:=by
 obtain⟨fp,h1,h2,-⟩:=hG.read;refine⟨v,fp,by rw[h],by rw[h];exact h1,λb aE=>?_,hb⟩;rcases h2 b aE with h | ⟨x,hx,h⟩
 ·exact QZ aK (hG.mine b h)
 ·exact hf x hx b h
theorem Zpa {cs:List Value}{x:Tok}{fp:List Nat}{w:World}{c:UInt8}(H:sTok.R w cs x fp):Calls Tryz.prog 45 #[.agg cs.toArray,.string ⟨#[c]⟩] w (Zbu (ZaS x [c]) w):=ZfK cs x fp w c H
theorem Zit {n:Nat}{L:List (Elem Tok)}{x:Elem Tok}(h:∀x∈L,∀b∈x.fp,n<=b)(hx:∀b∈x.fp,n<=b):Hid (∀y∈L++[x],∀b∈y.fp,n<=b):=λy hy=>by
 rcases Qa hy with h' | h'
 ·exact h y h'
 ·obtain rfl:=Qm h';exact hx
theorem num_R (w:World)(b sp:Bool):sTok.R w [.int .i64 2,.string (if b=true then ⟨#[49]⟩ else ⟨#[48]⟩),.bool sp,.slice none 0 0] (Zbw b sp) []:=by
 exact⟨_,rfl,(show Zb3 2 from⟨by decide,by decide⟩),by cases b <;> exact(show(1:Nat)<=maxLen by unfold maxLen;omega),Zao sStr _ _ 0 (by simp)⟩
theorem RowG.toN {e:TypeId}{L:List (Elem α)}{w:World}(h:RowG S base e v L w):RowN S base e v L w:=⟨h.row,h.len,h.el,h.ap⟩
theorem RowN.toG {e:TypeId}{L:List (Elem α)}{w:World}(h:RowN S base e v L w)(hi:∀x∈L,∀b∈x.fp,b<base):RowG S base e v L w:=⟨h.row,h.len,h.el,hi⟩
theorem ZdH {w:World}{L:List (Elem Tok)}{ops:Array Oper}{o:Oper}{a:Act}{K:Act->World->Prop}{Q:Exit->Act->World->Prop}{E:Prop}
  (d:Nat) (fN:o.dst=some d) (hg:o.guard=none) (s y:Operand) (ho:o.op=.call { callee:=.builtin .append,args:=#[s,y],argTypes:=#[24,24] })
  (base:Nat) (v:Value) (hs:a.eval s=v) (ag:RowG sTok base 32 v L w) (bb sp:Bool) (x:ByteArray) (hx:sTok.R w [.int .i64 2,.string x,.bool sp,.slice none 0 0] (Zbw bb sp) [])
  (hy:a.eval y=.slice (some ⟨w.heap.size,0,none⟩) 1 1) (dz:L.length<=1500000) (aK:base<=w.heap.size)
  (h:∀v' w',RowG sTok base 32 v' (L++[⟨[.int .i64 2,.string x,.bool sp,.slice none 0 0],Zbw bb sp,[]⟩]) w'->w.grownBy w' v.ownBlock->K (a.put (some d) v') w') :
  if Region.wanted o (yielded ops a.tmps)=true then Oper.wp Tryz.prog o a (w.alloc (.cells #[.int .i64 2,.string x,.bool sp,.slice none 0 0] 32)) K Q else E:=by
 have hb:=Zab w (.cells #[.int .i64 2,.string x,.bool sp,.slice none 0 0] 32);refine Zcn (S:=sTok) (X:=[⟨[.int .i64 2,.string x,.bool sp,.slice none 0 0],Zbw bb sp,[]⟩]) ti_tok rfl (by decide) _ d fN hg s y ho base v hs (ag.below hb).toN ⟨w.heap.size,0,none⟩ 1 1 hy rfl ?_ ?_ ?_ (by unfold maxLen;omega) (by omega) (by simp;omega) λv' w' a b _=>h v' w' (a.toG ?_) (Zds (World.grownBy_alloc _ _ _) b)
 ·intro q hq;obtain rfl:=Qm hq;exact⟨rfl,sTok.below hx hb,by simp⟩
 ·intro q hq;obtain rfl:=Qm hq;simp[Value.oneCell']
 ·intro j u hj;rw[ZaZ,QX,Qy _ _ _ _ rfl];simpa using hj
 ·intro q hq;rcases Qa hq with h | h
  ·exact ag.hi q h
  ·obtain rfl:=Qm h;simp
theorem Y15A3 (h:g:=by
 have HE:Hid (ZaY T l (k+1) (L.map (·.d)++[tk])=r):=by show _=_;rw[ez.out,←ZcB af HN.out];exact HI.out
 clear HN HI ez bG;go_wp2_with (at_builtin;refine Zlg rfl (.tmp 42) (.tmp 44) rfl w2.heap.size (.slice am L.length cm) L rfl ru.out tk.kind tk.text tk.spaced xa tk.hidden.length xc tk xf rfl lr.out (λb hb=>(ls.out b hb).2) (by omega) po.size ?_;intro v3 w3 l7 cX)
 have aC:Below w2.heap.size w2 w3:=po.grown cX po.size (λb hb=>ru.out.mine b hb);have nc:=Qh l7;clear l7 cX;go_roundw;case rel=>exact⟨k+1,_,by omega,by go_num,by simp;omega,nc,Zit nd.out (λb hb=>(ls.out b hb).1),by show _=_;rw[QG];exact HE.out,aC⟩
 case measure=>simp[intOf];omega):g:=h
theorem Zh6 (vT:Value)(T:List DMacro)(cE:List Nat)(v:Value)(l:List Tok)(fp:List Nat)(w:World)(pW:T.length<=1048576)(pX:∀k,(hk:k<T.length)->ZfX T[k])(hl:l.length<=1048576)(hx:∀k,(hk:k<l.length)->l[k].hidden.length<=2000000)
  (HT:(Zaa sMacro).R w [vT] T cE) (H:(Zaa sTok).R w [v] l fp):Calls Tryz.prog 19 #[vT,v] w (ZkG (Za4 T l) w):=by
 have mO:=Qh (Zdz vT T cE w pW pX HT);have kB:=Qh (λ(U:World) (hU:Below w.heap.size w U)=>Zbd v l fp U hl hx ((Zaa sTok).below H hU));clear HT H pX hx pW hl;go_enter Tryz.func19,Tryz.ntmps19;go_wp2_with fail
 refine mO.out.mono ?_;rintro e w1⟨v1,f1,rfl,bR,xA,cq⟩;clear mO;go_wp2_with fail
 refine(kB.out w1 cq).mono ?_;rintro e w2⟨v2,f2,rfl,bN,jM,-,aF⟩;have aY:=cq.trans (aF.mono cq.size);have gC:=Qh ((Zaa sMacro).below bR aF);have ij:=Qh bN;have b0:=Zab w2 (.cells #[] 32);have gX:=Qh (RowG.lit0 sTok 32 w2);have aQ:=aY.trans (b0.mono aY.size);have gg:=Qh (ZeT v1 T f1 _ ((Zaa sMacro).below gC.out b0));have ip:=Qh (λ(U:World) (hU:Below w2.heap.size w2 U)=>ZbC v2 l f2 U ((Zaa sTok).below ij.out hU));have HLO:Hid (∀b∈f2,w.heap.size<=b/\b<w2.heap.size):=λb hb=>⟨QZ cq.size (jM b hb),(Zaa sTok).lt bN b hb⟩;clear kB bR bN xA jM aF cq;cases ht:ZaU T
 ·have HF:=Qh (ZfY (T:=T) (l:=l) (λh=>by rw[ht]at h;exact absurd h.1 (by simp)));rw[ht]at gg;clear ht ip;go_wp2_with fail
  refine gg.out.mono ?_;rintro e w3⟨rfl,aC⟩;have HG:=Qh (gX.out.below aC);go_wp2;go_ret2;exact ZhJ (L:=[]) HF.out HG.out aY.size (by simp) (aQ.trans (aC.mono aQ.size))
 cases hv:Zam l
 ·have HF:=Qh (ZfY (T:=T) (l:=l) (λh=>by rw[hv]at h;exact absurd h.2 (by simp)));rw[ht]at gg;rw[hv]at ip;clear ht hv;go_wp2_with fail
  refine gg.out.mono ?_;rintro e w3⟨rfl,aC⟩;have yX:=b0.trans (aC.mono b0.size);go_wp2_with fail
  refine(ip.out w3 yX).mono ?_;rintro e w4⟨rfl,aM⟩;have HG:=Qh ((gX.out.below aC).below aM);go_wp2;go_ret2;exact ZhJ (L:=[]) HF.out HG.out aY.size (by simp) ((aQ.trans (aC.mono aQ.size)).trans (aM.mono (aQ.trans (aC.mono aQ.size)).size))
 have je:=(Zay hv).1;obtain⟨r,HR⟩:∃r,Hid (r=ZaY T l 0 []):=⟨_,Qh rfl⟩;have HF:Hid (Za4 T l=r):=by show _=_;unfold Za4;rw[if_pos ⟨ht,hv⟩];exact HR.out.symm
 rw[ht]at gg;rw[hv]at ip;clear ht hv;go_wp2_with fail
 refine gg.out.mono ?_;rintro e w3⟨rfl,aC⟩;have yX:=b0.trans (aC.mono b0.size);go_wp2_with fail
 refine(ip.out w3 yX).mono ?_;rintro e w4⟨rfl,aM⟩;have hq4:=yX.trans (aM.mono yX.size);have kl:=Qh ((gX.out.below aC).below aM);clear aC aM yX b0 gX aQ gg ip;obtain⟨al,cl,rfl,dK,iu,ai⟩:=Zac ij.out;unfold maxLen at iu;go_wp2_with fail
 go_loopw [6,7] (λvo i wr=>∃(k:Nat) (L:List (Elem Tok)),k<=l.length/\i=.int .i64 k/\L.length<=k/\Hid (RowG sTok w2.heap.size 32 vo L wr)/\Hid (∀x∈L,∀b∈x.fp,w.heap.size<=b)/\Hid (ZaY T l k (L.map (·.d))=r)/\Below w2.heap.size w2 wr) (λ_ i _=>l.length-(intOf i).toNat)
 case atStart=>exact⟨0,[],by omega,rfl,by simp,kl,Qh (by simp),Qh HR.out.symm,hq4⟩
 case round =>
  clear kl HR hq4;obtain⟨k,L,hk,rfl,pJ,HG,nd,HI,hb⟩:=hrel;obtain⟨am,cm,rfl,-⟩:=HG.out.val;have nZ:Hid (∀b,(Value.slice am L.length cm).ownBlock=some b->b<wr.heap.size):=λb hb=>(HG.out.row.lt b hb).2;have hB:=aY.trans (hb.mono aY.size);by_cases af:k<l.length;rotate_left
  ·have HE:Hid (Za4 T l=(L.map (·.d),true)):=(by show _=_;rw[HF.out,←HI.out,Zdw (by omega)]);clear HI HF ai;go_wp2;go_ret2;exact ZhJ HE.out HG.out aY.size nd.out hB
  obtain⟨b1,o1,-,rfl,-,-,-⟩:=ai (by omega);clear ai;have HLR:=Qh ((Zaa sTok).below ij.out hb);have ei:=Qh ((Zaa sMacro).below gC.out hb);obtain⟨xa,xc,xf,x0,x1,x2,x3,xR,bu,kT⟩:=ZaO HLR.out af;obtain⟨tk,ez⟩:∃tk:Tok,Hid (tk=l[k]):=⟨_,Qh rfl⟩;rw[show l[k]=tk from ez.out.symm]at x0 x1 x2 x3 xR;have bx:=Zab wr (.cells #[.int .i64 tk.kind,.string tk.text,.bool tk.spaced,.slice xa tk.hidden.length xc] 32);have HX:=Qh (JS wr (.cells #[.int .i64 tk.kind,.string tk.text,.bool tk.spaced,.slice xa tk.hidden.length xc] 32));have ls:Hid (∀b∈xf,w.heap.size<=b/\b<w2.heap.size):=λb aE=>HLO.out b (kT b aE);have lr:=Qh (sTok.below xR bx);have ru:=Qh (HG.out.below bx);have po:=hb.trans (bx.mono hb.size);have tA:=Qh ((Zaa sTok).below HLR.out bx);have kC:=Qh ((Zaa sMacro).below ei.out bx);have bQ:ZaC tk.text:=xR.choose_spec.2.2.1;have bC:=Qh bQ;clear xR kT bu HLR ei HG bQ;go_upto_region 9 with fail
  clear x0 x1 x2 x3;generalize (wr.alloc (.cells #[.int .i64 tk.kind,.string tk.text,.bool tk.spaced,.slice xa tk.hidden.length xc] 32))=W1 at *;obtain⟨p0,p1,p2,p3⟩:=Q4 HX.out;by_cases bG:tk.kind=1;rotate_left
  ·have e1:(tk.kind != 1)=true:=(by simp[bG]);have HN:Hid (ZbJ l[k]=false):=(by show _=_;rw[←ez.out];unfold ZbJ;rw[JQ bG];rfl);exact Y15A3
  have e1:(tk.kind != 1)=false:=by simp[bG]
  cases hd:(tk.text.toList==[100,101,102,105,110,101,100])
  ·have HN:Hid (ZbJ l[k]=false):=(by show _=_;rw[←ez.out];unfold ZbJ;rw[hd,JB]);exact Y15A3
  have HD:Hid (ZbJ l[k]=true):=by show _=_;rw[←ez.out];unfold ZbJ;rw[hd,JR bG];rfl
  clear bG lr ls;have tw:=aY.trans (po.mono aY.size);have i0:(0:Int)<=(k:Int):=by omega
  have sX:IntKind.i64.wrap ((k:Int)+1)=((k+1:Nat):Int):=by rw[QF _ (by omega)];omega
  have wg:IntKind.i64.wrap ((k:Int)+2)=((k+2:Nat):Int):=by rw[QF _ (by omega)];omega
  have hw4:IntKind.i64.wrap ((k:Int)+4)=((k+4:Nat):Int):=by rw[QF _ (by omega)];omega
  have oh:=HX;by_cases d4:k+1<l.length;rotate_left
  ·have i1:¬(((k+1:Nat):Int)<(l.length:Int)):=(by omega);have i2:(l.length:Int)<=((k+1:Nat):Int):=(by omega);have HE:Hid (Za4 T l=([],false)):=(by show _=_;rw[HF.out,←HI.out];exact Zew af HD.out (ZeF (by omega)) (Zhd (by omega)));go_wp2;go_ret2;exact ZfO HE.out tw
  obtain⟨ya,yc,yf,y0,y1,y2,y3,yR,-,-⟩:=ZaO tA.out d4;obtain⟨ty,HTy⟩:∃ty:Tok,Hid (ty=l[k+1]):=⟨_,Qh rfl⟩;rw[show l[k+1]=ty from HTy.out.symm]at y0 y1 y2 y3 yR;have i_y:((k+1:Nat):Int)<(l.length:Int):=by omega
  have j_y:(0:Int)<=((k+1:Nat):Int):=by omega
  have k_y:(((k+1:Nat):Int)).toNat=k+1:=by omega
  have mj:=Qh (Zpa (c:=40) yR);have mg:Hid (Zan l (k+1) [40]=ZaS ty [40]):=by show _=_;rw[Zeb d4,HTy.out]
  clear yR;go_wp2_with fail
  refine mj.out.mono ?_;rintro e W5⟨rfl,q5⟩;clear y0 y1 y2 y3 p0 p1 p2 p3 hd;have fW:=Qh ((Zaa sTok).below tA.out q5);have eA:=Qh ((Zaa sMacro).below kC.out q5);have HG5:=Qh (ru.out.below q5);have gy:=Qh (Zag oh.out q5);have bg:=po.trans (q5.mono po.size);have cg:=tw.trans (q5.mono tw.size);clear tA kC ru oh;clear mj;cases hm:ZaS ty [40]
  ·have HO:Hid (Zan l (k+1) [40]=false):=(by show _=_;rw[mg.out];exact hm);have i2:¬((l.length:Int)<=((k+1:Nat):Int)):=(by omega);clear hm mg;obtain⟨za,zc,zf,z0,z1,z2,z3,zR,-,-⟩:=ZaO fW.out d4;obtain⟨tz,tS⟩:∃tz:Tok,Hid (tz=l[k+1]):=⟨_,Qh rfl⟩;rw[show l[k+1]=tz from tS.out.symm]at z0 z1 z2 z3 zR;have i_z:((k+1:Nat):Int)<(l.length:Int):=(by omega);have j_z:(0:Int)<=((k+1:Nat):Int):=(by omega);have k_z:(((k+1:Nat):Int)).toNat=k+1:=(by omega);clear z2 z3;by_cases bY:tz.kind=1;rotate_left
   ·have e2:(tz.kind != 1)=true:=(by simp[bY]);have iS:Hid (Za5 l (k+1)=false):=(by show _=_;rw[Zdx d4,←tS.out];exact JQ bY);clear bY;have HE:Hid (Za4 T l=([],false)):=(by show _=_;rw[HF.out,←HI.out];exact Zew af HD.out HO.out iS.out);go_wp2;go_ret2;exact ZfO HE.out cg
   have e2:(tz.kind != 1)=false:=(by simp[bY]);have iS:Hid (Za5 l (k+1)=true):=(by show _=_;rw[Zdx d4,←tS.out];exact JR bY);clear bY;have HP:=Qh (ZeV v1 T tz.text f1 W5 eA.out);have rv:Hid (ZbW l (k+1)=tz.text):=(by show _=_;rw[ZeG d4];exact JY Tok.text tS.out.symm);go_wp2_with fail
   refine HP.out.mono ?_;rintro e W6⟨rfl,q6⟩;have im:=Qh ((Zaa sTok).below fW.out q6);have uN:=Qh ((Zaa sMacro).below eA.out q6);have lY:=Qh (HG5.out.below q6);have lk:=Qh (Zag gy.out q6);have bq:=bg.trans (q6.mono bg.size);have bU:=cg.trans (q6.mono cg.size);clear fW eA HG5 gy;clear HP;have p2:=Qc 2 lk.out;have sM:Hid (∀W b,sTok.R W [.int .i64 2,.string (if b=true then ⟨#[49]⟩ else ⟨#[48]⟩),.bool tk.spaced,.slice none 0 0] (Zbw b tk.spaced) []):=λW b=>num_R W b tk.spaced;by_cases hp:0<=place T tz.text
   ·have e3:decide ((0:Int)<=place T tz.text)=true:=(by simpa using hp);have HH:Hid (ZdA T (ZbW l (k+1))=true):=(by show _=_;rw[rv.out];unfold ZdA;exact e3);have ei:=Qh (ZbU true W6);unfold ZaV at ei;simp only[if_true,Bool.false_eq_true,if_false]at ei;have HE:Hid (ZaY T l (k+2) (L.map (·.d)++[Zbw true tk.spaced])=r):=(by show _=_;rw[←HI.out,ZcT af HD.out HO.out iS.out,HH.out,ez.out]);clear HH hp HI;go_wp2_with fail
    refine ei.out.mono ?_;rintro e w9⟨rfl,rfl⟩;go_upto_region 22 with fail
    have gO:Below w9.heap.size w9 w9.drew:=Zah (QD _ _) 1;have nA:=Qh (lY.out.below gO);have dj:=bq.trans (gO.mono bq.size);have kU:=Qh (Zag lk.out gO);clear gO;have hs:∀W,Sem.run Tryz.prog (Instr.slice 9 (.string ⟨#[48,49]⟩) (some (.int .i64 1)) (some (.int .i64 2)) none) W=.ok (.string ⟨#[49]⟩) W:=λW=>by
     first | rfl | kernel_rfl
    have hw:IntKind.i64.wrap 2=2:=(by decide);refine wp_region_noPanic ?_;refine JU (S:=λw'=>w'.heap[wr.heap.size]?=some (.cells #[.int .i64 tk.kind,.string tk.text,.bool tk.spaced,.slice xa tk.hidden.length xc] 32 (0,0))) (by kernel_rfl) (by exact lk.out) (λac=>?_);generalize w9.drew=wd at *;refine Qt 0 103 rfl rfl ?_;try simp only[Qp]
    refine Qt 1 104 rfl rfl ?_;try simp only[Qp]
    refine Qt 2 105 rfl rfl ?_;try simp only[Qp]
    refine Qt 3 106 rfl rfl ?_;try simp only[Qp]
    refine Qt 4 107 rfl rfl ?_;try simp only[Qp]
    refine Qt 5 108 rfl rfl ?_;try simp only[Qp]
    refine Qt 6 109 rfl rfl ?_ (by intro w aI;have t2:=Qc 2 aI;go_simp;(first | done | with_reducible rfl | rfl));try simp only[Qp]
    refine Qt 7 110 rfl rfl ?_;try simp only[Qp]
    refine Qr 8 rfl (λK hK=>?_);go_simp;refine hK.out _ _ (Zag kU.out (Zab wd _)) (λac=>?_);clear hK K;try simp only[Qp]
    refine Qr 9 rfl (λK hK=>?_);refine ZdH (w:=wd) (L:=L) 112 rfl rfl (.tmp 103) (.tmp 111) rfl w2.heap.size (.slice am L.length cm) rfl nA.out true tk.spaced ⟨#[49]⟩ (sM.out wd true) rfl (by omega) dj.size ?_;intro v3 w3 l7 cX;refine hK.out _ _ ((cX.block _ (Qg kU.out).1 (λe=>Nat.lt_irrefl _ (nZ.out _ e.symm))).trans kU.out) (λac=>?_);clear hK K;try simp only[Qp]
    refine Qt 10 6 rfl rfl ?_;try simp only[Qp]
    refine wpAnyH_done (by kernel_rfl) ?_ _;refine QP ?_;clear ac;have aC:Below w2.heap.size w2 w3:=dj.grown cX dj.size (λb hb=>nA.out.mine b hb);have nc:=Qh l7;clear l7 cX kU nA hs hw;go_wp2;go_roundw;case rel=>exact⟨k+2,_,by omega,by go_num,by simp;omega,nc,Zit nd.out (by simp),by show _=_;rw[QG];exact HE.out,aC⟩
    case measure=>simp[intOf];omega
   ·have e3:decide ((0:Int)<=place T tz.text)=false:=(by simpa using hp);have HH:Hid (ZdA T (ZbW l (k+1))=false):=(by show _=_;rw[rv.out];unfold ZdA;exact e3);have ei:=Qh (ZbU false W6);unfold ZaV at ei;simp only[if_true,Bool.false_eq_true,if_false]at ei;have HE:Hid (ZaY T l (k+2) (L.map (·.d)++[Zbw false tk.spaced])=r):=(by show _=_;rw[←HI.out,ZcT af HD.out HO.out iS.out,HH.out,ez.out]);clear HH hp HI;go_wp2_with fail
    refine ei.out.mono ?_;rintro e w9⟨rfl,rfl⟩;go_upto_region 22 with fail
    have gO:Below w9.heap.size w9 w9.drew:=Zah (QD _ _) 1;have nA:=Qh (lY.out.below gO);have dj:=bq.trans (gO.mono bq.size);have kU:=Qh (Zag lk.out gO);clear gO;have hs:∀W,Sem.run Tryz.prog (Instr.slice 9 (.string ⟨#[48,49]⟩) (some (.int .i64 0)) (some (.int .i64 1)) none) W=.ok (.string ⟨#[48]⟩) W:=λW=>by
     first | rfl | kernel_rfl
    have hw:IntKind.i64.wrap 1=1:=(by decide);refine wp_region_noPanic ?_;refine JU (S:=λw'=>w'.heap[wr.heap.size]?=some (.cells #[.int .i64 tk.kind,.string tk.text,.bool tk.spaced,.slice xa tk.hidden.length xc] 32 (0,0))) (by kernel_rfl) (by exact lk.out) (λac=>?_);generalize w9.drew=wd at *;refine Qt 0 103 rfl rfl ?_;try simp only[Qp]
    refine Qt 1 104 rfl rfl ?_;try simp only[Qp]
    refine Qt 2 105 rfl rfl ?_;try simp only[Qp]
    refine Qt 3 106 rfl rfl ?_;try simp only[Qp]
    refine Qt 4 107 rfl rfl ?_;try simp only[Qp]
    refine Qt 5 108 rfl rfl ?_;try simp only[Qp]
    refine Qt 6 109 rfl rfl ?_ (by intro w aI;have t2:=Qc 2 aI;go_simp;(first | done | with_reducible rfl | rfl));try simp only[Qp]
    refine Qt 7 110 rfl rfl ?_;try simp only[Qp]
    refine Qr 8 rfl (λK hK=>?_);go_simp;refine hK.out _ _ (Zag kU.out (Zab wd _)) (λac=>?_);clear hK K;try simp only[Qp]
    refine Qr 9 rfl (λK hK=>?_);refine ZdH (w:=wd) (L:=L) 112 rfl rfl (.tmp 103) (.tmp 111) rfl w2.heap.size (.slice am L.length cm) rfl nA.out false tk.spaced ⟨#[48]⟩ (sM.out wd false) rfl (by omega) dj.size ?_;intro v3 w3 l7 cX;refine hK.out _ _ ((cX.block _ (Qg kU.out).1 (λe=>Nat.lt_irrefl _ (nZ.out _ e.symm))).trans kU.out) (λac=>?_);clear hK K;try simp only[Qp]
    refine Qt 10 6 rfl rfl ?_;try simp only[Qp]
    refine wpAnyH_done (by kernel_rfl) ?_ _;refine QP ?_;clear ac;have aC:Below w2.heap.size w2 w3:=dj.grown cX dj.size (λb hb=>nA.out.mine b hb);have nc:=Qh l7;clear l7 cX kU nA hs hw;go_wp2;go_roundw;case rel=>exact⟨k+2,_,by omega,by go_num,by simp;omega,nc,Zit nd.out (by simp),by show _=_;rw[QG];exact HE.out,aC⟩
    case measure=>simp[intOf];omega
  have HO:Hid (Zan l (k+1) [40]=true):=by show _=_;rw[mg.out];exact hm
  clear hm mg;by_cases hn4:k+4<=l.length;rotate_left
  ·have i4:(l.length:Int)<((k+4:Nat):Int):=(by omega);have HE:Hid (Za4 T l=([],false)):=(by show _=_;rw[HF.out,←HI.out];exact ZdP af HD.out HO.out (λh=>by rw[ZeF (by omega)]at h;exact absurd h.1 (by simp)));go_wp2;go_ret2;exact ZfO HE.out cg
  have tn:k+3<l.length:=by omega
  have i4:¬((l.length:Int)<((k+4:Nat):Int)):=by omega
  have hw3:IntKind.i64.wrap (((k+4:Nat):Int)-1)=((k+3:Nat):Int):=by rw[QF _ (by omega)];omega
  obtain⟨ma,mc,mf,m0,m1,m2,m3,mR,-,-⟩:=ZaO fW.out tn;obtain⟨tm,HTm⟩:∃tm:Tok,Hid (tm=l[k+3]):=⟨_,Qh rfl⟩;rw[show l[k+3]=tm from HTm.out.symm]at m0 m1 m2 m3 mR;have i_m:((k+3:Nat):Int)<(l.length:Int):=by omega
  have j_m:(0:Int)<=((k+3:Nat):Int):=by omega
  have k_m:(((k+3:Nat):Int)).toNat=k+3:=by omega
  have HC2:=Qh (Zpa (c:=41) mR);have mg:Hid (Zan l (k+3) [41]=ZaS tm [41]):=by show _=_;rw[Zeb tn,HTm.out]
  clear mR;go_wp2_with fail
  refine HC2.out.mono ?_;rintro e W6⟨rfl,q6⟩;clear m0 m1 m2 m3;have im:=Qh ((Zaa sTok).below fW.out q6);have uN:=Qh ((Zaa sMacro).below eA.out q6);have lY:=Qh (HG5.out.below q6);have lk:=Qh (Zag gy.out q6);have bq:=bg.trans (q6.mono bg.size);have bU:=cg.trans (q6.mono cg.size);clear fW eA HG5 gy;clear HC2;cases hm:ZaS tm [41]
  ·have uP:Hid (Zan l (k+3) [41]=false):=(by show _=_;rw[mg.out];exact hm);clear hm mg;have HE:Hid (Za4 T l=([],false)):=(by show _=_;rw[HF.out,←HI.out];exact ZdP af HD.out HO.out (λh=>by rw[uP.out]at h;exact absurd h.1 (by simp)));go_wp2;go_ret2;exact ZfO HE.out bU
  have uP:Hid (Zan l (k+3) [41]=true):=by show _=_;rw[mg.out];exact hm
  have jB:k+2<l.length:=by omega
  have i2:¬((l.length:Int)<=((k+2:Nat):Int)):=by omega
  clear hm mg;obtain⟨za,zc,zf,z0,z1,z2,z3,zR,-,-⟩:=ZaO im.out jB;obtain⟨tz,tS⟩:∃tz:Tok,Hid (tz=l[k+2]):=⟨_,Qh rfl⟩;rw[show l[k+2]=tz from tS.out.symm]at z0 z1 z2 z3 zR;have i_z:((k+2:Nat):Int)<(l.length:Int):=by omega
  have j_z:(0:Int)<=((k+2:Nat):Int):=by omega
  have k_z:(((k+2:Nat):Int)).toNat=k+2:=by omega
  clear z2 z3;by_cases bY:tz.kind=1;rotate_left
  ·have e2:(tz.kind != 1)=true:=(by simp[bY]);have iS:Hid (Za5 l (k+2)=false):=(by show _=_;rw[Zdx jB,←tS.out];exact JQ bY);clear bY;have HE:Hid (Za4 T l=([],false)):=(by show _=_;rw[HF.out,←HI.out];exact ZdP af HD.out HO.out (λh=>by rw[iS.out]at h;exact absurd h.2 (by simp)));go_wp2;go_ret2;exact ZfO HE.out bU
  have e2:(tz.kind != 1)=false:=by simp[bY]
  have iS:Hid (Za5 l (k+2)=true):=by show _=_;rw[Zdx jB,←tS.out];exact JR bY
  clear bY;have HP:=Qh (ZeV v1 T tz.text f1 W6 uN.out);have rv:Hid (ZbW l (k+2)=tz.text):=by show _=_;rw[ZeG jB];exact JY Tok.text tS.out.symm
  go_wp2_with fail
  refine HP.out.mono ?_;rintro e W7⟨rfl,q7⟩;have HL7:=Qh ((Zaa sTok).below im.out q7);have vg:=Qh ((Zaa sMacro).below uN.out q7);have oU:=Qh (lY.out.below q7);have iH:=Qh (Zag lk.out q7);have db:=bq.trans (q7.mono bq.size);have lq:=bU.trans (q7.mono bU.size);clear im uN lY lk;clear HP;have p2:=Qc 2 iH.out;have sM:Hid (∀W b,sTok.R W [.int .i64 2,.string (if b=true then ⟨#[49]⟩ else ⟨#[48]⟩),.bool tk.spaced,.slice none 0 0] (Zbw b tk.spaced) []):=λW b=>num_R W b tk.spaced;by_cases hp:0<=place T tz.text
  ·have e3:decide ((0:Int)<=place T tz.text)=true:=(by simpa using hp);have HH:Hid (ZdA T (ZbW l (k+2))=true):=(by show _=_;rw[rv.out];unfold ZdA;exact e3);have ei:=Qh (ZbU true W7);unfold ZaV at ei;simp only[if_true,Bool.false_eq_true,if_false]at ei;have HE:Hid (ZaY T l (k+4) (L.map (·.d)++[Zbw true tk.spaced])=r):=(by show _=_;rw[←HI.out,Ze0 af HD.out HO.out uP.out iS.out,HH.out,ez.out]);clear HH hp HI;go_wp2_with fail
   refine ei.out.mono ?_;rintro e w9⟨rfl,rfl⟩;go_upto_region 22 with fail
   have gO:Below w9.heap.size w9 w9.drew:=Zah (QD _ _) 1;have nA:=Qh (oU.out.below gO);have dj:=db.trans (gO.mono db.size);have kU:=Qh (Zag iH.out gO);clear gO;have hs:∀W,Sem.run Tryz.prog (Instr.slice 9 (.string ⟨#[48,49]⟩) (some (.int .i64 1)) (some (.int .i64 2)) none) W=.ok (.string ⟨#[49]⟩) W:=λW=>by
    first | rfl | kernel_rfl
   have hw:IntKind.i64.wrap 2=2:=(by decide);refine wp_region_noPanic ?_;refine JU (S:=λw'=>w'.heap[wr.heap.size]?=some (.cells #[.int .i64 tk.kind,.string tk.text,.bool tk.spaced,.slice xa tk.hidden.length xc] 32 (0,0))) (by kernel_rfl) (by exact iH.out) (λac=>?_);generalize w9.drew=wd at *;refine Qt 0 103 rfl rfl ?_;try simp only[Qp]
   refine Qt 1 104 rfl rfl ?_;try simp only[Qp]
   refine Qt 2 105 rfl rfl ?_;try simp only[Qp]
   refine Qt 3 106 rfl rfl ?_;try simp only[Qp]
   refine Qt 4 107 rfl rfl ?_;try simp only[Qp]
   refine Qt 5 108 rfl rfl ?_;try simp only[Qp]
   refine Qt 6 109 rfl rfl ?_ (by intro w aI;have t2:=Qc 2 aI;go_simp;(first | done | with_reducible rfl | rfl));try simp only[Qp]
   refine Qt 7 110 rfl rfl ?_;try simp only[Qp]
   refine Qr 8 rfl (λK hK=>?_);go_simp;refine hK.out _ _ (Zag kU.out (Zab wd _)) (λac=>?_);clear hK K;try simp only[Qp]
   refine Qr 9 rfl (λK hK=>?_);refine ZdH (w:=wd) (L:=L) 112 rfl rfl (.tmp 103) (.tmp 111) rfl w2.heap.size (.slice am L.length cm) rfl nA.out true tk.spaced ⟨#[49]⟩ (sM.out wd true) rfl (by omega) dj.size ?_;intro v3 w3 l7 cX;refine hK.out _ _ ((cX.block _ (Qg kU.out).1 (λe=>Nat.lt_irrefl _ (nZ.out _ e.symm))).trans kU.out) (λac=>?_);clear hK K;try simp only[Qp]
   refine Qt 10 6 rfl rfl ?_;try simp only[Qp]
   refine wpAnyH_done (by kernel_rfl) ?_ _;refine QP ?_;clear ac;have aC:Below w2.heap.size w2 w3:=dj.grown cX dj.size (λb hb=>nA.out.mine b hb);have nc:=Qh l7;clear l7 cX kU nA hs hw;go_wp2;go_roundw;case rel=>exact⟨k+4,_,by omega,by go_num,by simp;omega,nc,Zit nd.out (by simp),by show _=_;rw[QG];exact HE.out,aC⟩
   case measure=>simp[intOf];omega
  ·have e3:decide ((0:Int)<=place T tz.text)=false:=(by simpa using hp);have HH:Hid (ZdA T (ZbW l (k+2))=false):=(by show _=_;rw[rv.out];unfold ZdA;exact e3);have ei:=Qh (ZbU false W7);unfold ZaV at ei;simp only[if_true,Bool.false_eq_true,if_false]at ei;have HE:Hid (ZaY T l (k+4) (L.map (·.d)++[Zbw false tk.spaced])=r):=(by show _=_;rw[←HI.out,Ze0 af HD.out HO.out uP.out iS.out,HH.out,ez.out]);clear HH hp HI;go_wp2_with fail
   refine ei.out.mono ?_;rintro e w9⟨rfl,rfl⟩;go_upto_region 22 with fail
   have gO:Below w9.heap.size w9 w9.drew:=Zah (QD _ _) 1;have nA:=Qh (oU.out.below gO);have dj:=db.trans (gO.mono db.size);have kU:=Qh (Zag iH.out gO);clear gO;have hs:∀W,Sem.run Tryz.prog (Instr.slice 9 (.string ⟨#[48,49]⟩) (some (.int .i64 0)) (some (.int .i64 1)) none) W=.ok (.string ⟨#[48]⟩) W:=λW=>by
    first | rfl | kernel_rfl
   have hw:IntKind.i64.wrap 1=1:=(by decide);refine wp_region_noPanic ?_;refine JU (S:=λw'=>w'.heap[wr.heap.size]?=some (.cells #[.int .i64 tk.kind,.string tk.text,.bool tk.spaced,.slice xa tk.hidden.length xc] 32 (0,0))) (by kernel_rfl) (by exact iH.out) (λac=>?_);generalize w9.drew=wd at *;refine Qt 0 103 rfl rfl ?_;try simp only[Qp]
   refine Qt 1 104 rfl rfl ?_;try simp only[Qp]
   refine Qt 2 105 rfl rfl ?_;try simp only[Qp]
   refine Qt 3 106 rfl rfl ?_;try simp only[Qp]
   refine Qt 4 107 rfl rfl ?_;try simp only[Qp]
   refine Qt 5 108 rfl rfl ?_;try simp only[Qp]
   refine Qt 6 109 rfl rfl ?_ (by intro w aI;have t2:=Qc 2 aI;go_simp;(first | done | with_reducible rfl | rfl));try simp only[Qp]
   refine Qt 7 110 rfl rfl ?_;try simp only[Qp]
   refine Qr 8 rfl (λK hK=>?_);go_simp;refine hK.out _ _ (Zag kU.out (Zab wd _)) (λac=>?_);clear hK K;try simp only[Qp]
   refine Qr 9 rfl (λK hK=>?_);refine ZdH (w:=wd) (L:=L) 112 rfl rfl (.tmp 103) (.tmp 111) rfl w2.heap.size (.slice am L.length cm) rfl nA.out false tk.spaced ⟨#[48]⟩ (sM.out wd false) rfl (by omega) dj.size ?_;intro v3 w3 l7 cX;refine hK.out _ _ ((cX.block _ (Qg kU.out).1 (λe=>Nat.lt_irrefl _ (nZ.out _ e.symm))).trans kU.out) (λac=>?_);clear hK K;try simp only[Qp]
   refine Qt 10 6 rfl rfl ?_;try simp only[Qp]
   refine wpAnyH_done (by kernel_rfl) ?_ _;refine QP ?_;clear ac;have aC:Below w2.heap.size w2 w3:=dj.grown cX dj.size (λb hb=>nA.out.mine b hb);have nc:=Qh l7;clear l7 cX kU nA hs hw;go_wp2;go_roundw;case rel=>exact⟨k+4,_,by omega,by go_num,by simp;omega,nc,Zit nd.out (by simp),by show _=_;rw[QG];exact HE.out,aC⟩
   case measure=>simp[intOf];omega
theorem Ziu (cs:List Value)(x:Tok)(fp:List Nat)(w:World)(H:sTok.R w cs x fp):
  Calls Tryz.prog 153 #[.agg cs.toArray] w λe w'=>e=.returned (.int .i64 (opn x))/\Below w.heap.size w w':=by
 obtain⟨h,rfl,hk,bQ,K⟩:=H;obtain⟨a0,cK,rfl,-⟩:=Zaf K;have hb:=Zab w (.cells #[.int .i64 x.kind,.string x.text,.bool x.spaced,.slice a0 x.hidden.length cK] 32);clear K;go_enter Tryz.func153,Tryz.ntmps153;cases h1:ZdQ x
 ·have e1:(x.text.toList==[40])=false:=h1;cases h2:Zgq x
  ·have e2:(x.text.toList==[41])=false:=h2;have HF:=Qh (opn_else h1 h2);clear h1 h2;go_wp2;go_ret;exact⟨by rw[HF.out];rfl,hb⟩
  ·have e2:(x.text.toList==[41])=true:=h2;have HF:=Qh (opn_shut h1 h2);clear h1 h2;go_wp2;go_ret;exact⟨by rw[HF.out];rfl,hb⟩
 ·have e1:(x.text.toList==[40])=true:=h1;have HF:=Qh (Znm h1);clear h1;go_wp2;go_ret;exact⟨by rw[HF.out];rfl,hb⟩
theorem Zmj {l:List Tok}{k:Nat}(hk:k<l.length)(d:Int):Zc3 (l.drop k) d k=if d+opn l[k]=0 then some k else Zc3 (l.drop (k+1)) (d+opn l[k]) (k+1):=by
 rw[Qj hk];rfl
theorem clGo_end {l:List Tok}{k:Nat}(hk:l.length<=k)(d:Int):Zc3 (l.drop k) d k=none:=by rw[List.drop_of_length_le hk];rfl
def clRes (o:Option Nat):Int:=match o with | some e=>(e:Int) | none=>-1
theorem Zi1 (v:Value)(l:List Tok)(fp:List Nat)(n:Nat)(w:World)(hl:l.length<=60)(hn:n<=l.length)(H:(Zaa sTok).R w [v] l fp):
  Calls Tryz.prog 136 #[v,.int .i64 n] w λe w'=>e=.returned (.int .i64 (clRes (Zc3 (l.drop n) 0 n)))/\Below w.heap.size w w':=by
 obtain⟨a,cap,rfl,hc,hm,ai⟩:=Zac H;unfold maxLen at hm;clear H;obtain⟨r,HR⟩:∃r,Hid (r=Zc3 (l.drop n) 0 n):=⟨_,rfl⟩;rw[←HR.out];go_enter Tryz.func136,Tryz.ntmps136;go_wp2;go_loopw [5,6] (λd i wr=>∃(k:Nat) (dd:Int),n<=k/\k<=l.length/\i=.int .i64 k/\d=.int .i64 dd/\-(k:Int)<=dd/\dd<=k/\Hid (Zc3 (l.drop k) dd k=r)/\Below w.heap.size w wr) (λ_ i _=>l.length-(intOf i).toNat)
 case atStart=>exact⟨n,0,QA _,hn,rfl,rfl,by omega,by omega,HR.out.symm,QD _ _⟩
 case round =>
  obtain⟨k,dd,qO,hk,rfl,rfl,ta,jD,HI,hb⟩:=hrel;by_cases af:k<l.length
  ·obtain⟨b1,ae,dt,rfl,aG,-,bj⟩:=ai (by omega);obtain⟨lA,bf,bR⟩:=bj k af;clear ai bj;have bN:=sTok.below bR hb;obtain⟨h1',rfl,_,_,_⟩:=bR;have HC:=Qh (Ziu _ _ _ wr bN);clear bN;replace bf:=bf.frame (hb.block b1 aG);have dg:wr.cell? ⟨b1,ae+k*4,none⟩=some _:=ZaB bf (by decide) rfl;have dL:wr.cell? ⟨b1,ae+k*4+1,none⟩=some _:=Zae (j:=1) bf (by decide) rfl;have dh:wr.cell? ⟨b1,ae+k*4+2,none⟩=some _:=Zae (j:=2) bf (by decide) rfl;have ew:wr.cell? ⟨b1,ae+k*4+3,none⟩=some _:=Zae (j:=3) bf (by decide) rfl;clear bf;have kh:=HI.out;rw[Zmj af]at kh;have ho:=opn_ge l[k];have gN:IntKind.i64.wrap (dd+opn l[k])=dd+opn l[k]:=QF _ (by omega);generalize hon:opn l[k]=on at *;go_wp2_with fail
   refine HC.out.mono ?_;rintro e w2⟨rfl,aF⟩;clear dg dL dh ew HC;have aE:=hb.trans (aF.mono hb.size);by_cases h0:dd+on=0
   ·rw[if_pos h0]at kh;have e0:((dd+on:Int)==0)=true:=(by simpa using h0);have HF:=Qh kh;clear kh h0 hon;go_wp2;go_ret;exact⟨by rw[←HF.out];rfl,aE⟩
   ·rw[if_neg h0]at kh;have e0:((dd+on:Int)==0)=false:=(by simpa using h0);have HF:=Qh kh;clear kh h0 hon;go_wp2;go_roundw;case rel=>exact⟨k+1,dd+on,by omega,by omega,by go_num,rfl,by omega,by omega,HF,aE⟩
    case measure=>simp[intOf];omega
  ·have HF:=Qh ((clGo_end (by omega:l.length<=k) dd).symm.trans HI.out);clear HI;go_wp2;go_ret;exact⟨by rw[←HF.out];rfl,hb⟩
def CopyTok (x:Tok)(w:World)(e:Ending)(w':World):Prop:=
 ∃(ao:Option Addr) (c:Nat) (fp:List Nat),e=.returned (.agg #[.int .i64 x.kind,.string x.text,.bool x.spaced,.slice ao x.hidden.length c])/\sTok.R w' [.int .i64 x.kind,.string x.text,.bool x.spaced,.slice ao x.hidden.length c] x fp /\
  Own w' w.heap.size fp/\(∀b∈fp,∃cur t fr,w'.heap[b]?=some (.cells cur t fr)/\t=9)/\Below w.heap.size w w'
theorem Zee (cs:List Value)(x:Tok)(fp:List Nat)(w:World)(hx:x.hidden.length<=2000000)(H:sTok.R w cs x fp):Calls Tryz.prog 36 #[.agg cs.toArray] w (CopyTok x w):=by
 obtain⟨h,rfl,hk,bQ,K⟩:=H;obtain⟨a0,cK,rfl,-,-,-,cC⟩:=Zaf K;have b0:=Zab w (.cells #[.int .i64 x.kind,.string x.text,.bool x.spaced,.slice a0 x.hidden.length cK] 32);have aF:=b0.trans ((Zab (w.alloc (.cells #[.int .i64 x.kind,.string x.text,.bool x.spaced,.slice a0 x.hidden.length cK] 32)) (.cells #[.int .i64 0,.string ⟨#[]⟩,.bool false,.slice none 0 0] 32)).mono b0.size);obtain⟨g0,g1⟩:=Zdj w #[.int .i64 x.kind,.string x.text,.bool x.spaced,.slice a0 x.hidden.length cK] #[.int .i64 0,.string ⟨#[]⟩,.bool false,.slice none 0 0] 32 32;have bi:((w.alloc (.cells #[.int .i64 x.kind,.string x.text,.bool x.spaced,.slice a0 x.hidden.length cK] 32)).alloc (.cells #[.int .i64 0,.string ⟨#[]⟩,.bool false,.slice none 0 0] 32)).heap.size=w.heap.size+2:=by
  show((w.heap.push _).push _).size=_;simp
 have HK:=Qh ((Zaa sStr).below K aF);have fL:=Qh cC;clear K cC b0;obtain⟨hv,HV⟩:∃hv:Value,Hid (hv=Value.slice a0 x.hidden.length cK):=⟨_,rfl⟩;go_enter Tryz.func36,Tryz.ntmps36;go_upto_region 2 with fail
 generalize ((w.alloc (.cells #[.int .i64 x.kind,.string x.text,.bool x.spaced,.slice a0 x.hidden.length cK] 32)).alloc (.cells #[.int .i64 0,.string ⟨#[]⟩,.bool false,.slice none 0 0] 32))=W3 at *;have c03:W3.cell? ⟨w.heap.size,3,none⟩=some hv:=by
  rw[HV.out];exact Qc 3 g0
 have uw:Hid ((Zaa sStr).R W3 [hv] x.hidden fp):=by show(Zaa sStr).R _ _ _ _;rw[HV.out];exact HK.out
 have HG:=Qh (And.intro g0 (And.intro g1 bi));have aM:=Qh aF;clear g0 g1 bi HK aF
 go_wp2_with (
  at_builtin;refine ZbS rfl (.tmp 4) (.tmp 6) rfl W3.heap.size (.slice none 0 0) hv [] x.hidden _ rfl (World.ownsRow_nil _ _ _ _) rfl uw.out (by simp;omega) (QA _) ?_;intro v5 w1 ag aX;rw[Q3]at ag;obtain⟨de,R1,O1,eY⟩:=ZbM (ok:=ZaC) ag fL.out;have iR:=HG.out.2.2;have dr:∀k,k<W3.heap.size->w1.heap[k]?=W3.heap[k]?:=λk hk=>aX.block k hk (by simp[Value.ownBlock]);have eo:Hid (w1.heap[w.heap.size]?=some (.cells #[.int .i64 x.kind,.string x.text,.bool x.spaced,.slice a0 x.hidden.length cK] 32 (0,0))/\w1.heap[w.heap.size+1]?=some (.cells #[.int .i64 0,.string ⟨#[]⟩,.bool false,.slice none 0 0] 32 (0,0))):=
   ⟨(dr _ (by omega)).trans HG.out.1,(dr _ (by omega)).trans HG.out.2.1⟩
  have hb:Below w.heap.size w w1:=aM.out.grown aX (by omega) (λb hb=>by simp[Value.ownBlock]at hb);have gD:∀b∈de,∃cur t fr,w1.heap[b]?=some (.cells cur t fr)/\t=9:=λb aE=>by
   have hv:=eY b aE;rcases ag.2 with⟨rfl,_⟩ | ⟨g,cap,cur,rfl,_,hg,_⟩
   ·simp[Value.ownBlock]at hv
   ·simp only[Value.ownBlock,Qi]at hv;subst hv;exact⟨_,_,_,hg,rfl⟩
  have cV:∀b∈de,w.heap.size+2<=b:=λb hb=>by have:=(O1.2 b hb).1;omega
  have qN:Hid (Own w1 w.heap.size de):=O1.lower (by omega);clear HG dr aX ag eY O1 c03 aM uw iR;obtain⟨a1,aN,rfl,hq⟩:=Zac R1;clear hq;have dg:=Qc 0 eo.out.2;have dL:=Qc 1 eo.out.2;have dh:=Qc 2 eo.out.2;have ew:=Qc 3 eo.out.2;have c20:=Qc 0 eo.out.1;have uq:=Qc 1 eo.out.1;have c22:=Qc 2 eo.out.1;have c23:=Qc 3 eo.out.1;have zI:=Qf 0 eo.out.2;have zJ:=Qf 1 eo.out.2;have zK:=Qf 2 eo.out.2;have zL:=Qf 3 eo.out.2;have f23:=Qf 3 eo.out.1;have d4:w.heap.size+1∉de:=λhx=>by have:=cV _ hx;omega
  have jB:w.heap.size∉de:=λhx=>by have:=cV _ hx;omega
  have HR:=Qh ((Zaa sStr).setB ((Zaa sStr).setB ((Zaa sStr).setB ((Zaa sStr).setB ((Zaa sStr).setB R1 jB 3 (.slice a1 x.hidden.length aN)) d4 0 (.int .i64 x.kind)) d4 1 (.string x.text)) d4 2 (.bool x.spaced)) d4 3 (.slice a1 x.hidden.length aN));have l4:=Qh (((((qN.out.setCell ⟨w.heap.size,3,none⟩ (.slice a1 x.hidden.length aN)).setCell ⟨w.heap.size+1,0,none⟩ (.int .i64 x.kind)).setCell ⟨w.heap.size+1,1,none⟩ (.string x.text)).setCell ⟨w.heap.size+1,2,none⟩ (.bool x.spaced)).setCell ⟨w.heap.size+1,3,none⟩ (.slice a1 x.hidden.length aN));have HT:Hid (∀b∈de,∃cur t fr,(((((w1.setCell ⟨w.heap.size,3,none⟩ (.slice a1 x.hidden.length aN)).setCell ⟨w.heap.size+1,0,none⟩ (.int .i64 x.kind)).setCell ⟨w.heap.size+1,1,none⟩ (.string x.text)).setCell ⟨w.heap.size+1,2,none⟩ (.bool x.spaced)).setCell ⟨w.heap.size+1,3,none⟩ (.slice a1 x.hidden.length aN)).heap[b]?=some (.cells cur t fr)/\t=9):=λb hb=>by
   obtain⟨cur,t,fr,q1,q2⟩:=gD b hb;have e1:b≠w.heap.size+1:=λe=>d4 (e ▸ hb);have e2:b≠w.heap.size:=λe=>jB (e ▸ hb);exact⟨cur,t,fr,ZaK (ZaK (ZaK (ZaK (ZaK q1 e2 _ _) e1 _ _) e1 _ _) e1 _ _) e1 _ _,q2⟩
  have HB:=Qh (((((hb.setCell (p:=⟨w.heap.size,3,none⟩) (by simp) (.slice a1 x.hidden.length aN)).setCell (p:=⟨w.heap.size+1,0,none⟩) (by simp) (.int .i64 x.kind)).setCell (p:=⟨w.heap.size+1,1,none⟩) (by simp) (.string x.text)).setCell (p:=⟨w.heap.size+1,2,none⟩) (by simp) (.bool x.spaced)).setCell (p:=⟨w.heap.size+1,3,none⟩) (by simp) (.slice a1 x.hidden.length aN));have HS:=Qh (Zai (Zai (Zai (Zai (ZaK eo.out.2 (by omega:w.heap.size+1≠w.heap.size) 3 (.slice a1 x.hidden.length aN)) 0 (.int .i64 x.kind)) 1 (.string x.text)) 2 (.bool x.spaced)) 3 (.slice a1 x.hidden.length aN))
  clear eo gD cV qN)
 refine JV (JX rfl _ _ (w.heap.size+1) _ _ _ _ rfl HS.out Tryz.underlying32 rfl (by kernel_rfl)) rfl ?_;exact⟨a1,aN,de,rfl,⟨_,rfl,hk,bQ,HR.out⟩,l4.out,HT.out,HB.out⟩
end Go.Proofs.YtipfpppcbmpjiaaGreat
