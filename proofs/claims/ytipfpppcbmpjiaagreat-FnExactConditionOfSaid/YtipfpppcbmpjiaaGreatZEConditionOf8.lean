/- Texts that the proof of EConditionOf stands on, in one file. -/
import Derived.Test.YtipfpppcbmpjiaaGreatZEConditionOf7
import Derived.Lib.AppendStr
import Derived.Laws.IdiomStrings
import Derived.Deep.Cut
set_option linter.unusedVariables false
set_option maxHeartbeats 16000000
set_option maxRecDepth 100000
set_option linter.unusedSimpArgs false
/- Lists of a given length. -/
namespace Go.Proofs.YtipfpppcbmpjiaaGreat
open Go.RowKit
theorem Zla {n:Nat} {xs:List Value} (h:xs.length=n+1):∃ x t,xs=x::t/\t.length=n:=by
 cases xs with
 | nil=>simp at h
 | cons x t=>exact⟨x,t,rfl,by simpa using h⟩
theorem len1 {xs:List Value} (h:xs.length=1):∃ x0,xs=[x0]:=by
 obtain⟨x,t,rfl,ht⟩:=Zla (n:=0) h
 exact⟨x,by rw [List.eq_nil_of_length_eq_zero ht]⟩
def jRd (rb p0:Nat) (w0:World) (m:Nat) (w:World):Prop:=(∃ p,p<=p0+m/\Rd w rb p)/\Kept [rb] w0 w
theorem jRd.same {rb p0 m:Nat} {w0 w:World} (h:jRd rb p0 w0 m w):jRd rb p0 w0 (m+1) w:=by
 obtain⟨⟨p,h1,h2⟩,h3⟩:=h
 exact⟨⟨p,by omega,h2⟩,h3⟩
theorem jRd.alloc {rb p0 m:Nat} {w0 w:World} (h:jRd rb p0 w0 m w) (o:Obj):jRd rb p0 w0 (m+1) (w.alloc o):=by
 obtain⟨⟨p,h1,h2⟩,h3⟩:=h
 have hb:=(Below.refl w.heap.size w).alloc (Nat.le_refl _) o
 exact⟨⟨p,by omega,h2.grow hb⟩,h3.trans (Kept.of_below hb)⟩
theorem jRd.lt {rb p0 m:Nat} {w0 w:World} (h:jRd rb p0 w0 m w):rb<w.heap.size:=by
 obtain⟨⟨p,h1,h2⟩,h3⟩:=h
 exact h2.lt
theorem At.mk {Ps:List (Value->World->Prop)} {i:Nat} {p:Value->World->Prop} {v:Value} {w:World} (h:Ps[i]?=some p) (hp:p v w):At Ps i v w:=by
 intro q hq
 rw [h] at hq
 cases hq
 exact hp
theorem jRd.top {rb p0 m B:Nat} {w00 w0 w:World} (h:jRd rb p0 w0 m w) (hb:Below B w00 w0) (hr:B<=rb) (hs:B<=w0.heap.size):Below B w00 w:=Zme hb h.2 hr hs
def jOwn (rb p0:Nat) (w0:World) (B:Nat) (v:Value) (L:List ByteArray) (k N M:Nat) (m:Nat) (w:World):Prop:=
 (∃ p,p<=p0+m/\Rd w rb p)/\Below w0.heap.size w0 w /\
  (w.ownsRow B 9 1 v L.length (L.map Value.string)\/m=N/\∃ s:ByteArray,s.size<=M/\w.ownsRow B 9 1 v L.length ((L.set k s).map Value.string))
section
variable {rb p0 B k N M m:Nat} {w0 w w':World} {v:Value} {L:List ByteArray}
theorem jOwn.row (h:jOwn rb p0 w0 B v L k N M m w) (hm:m<N):w.ownsRow B 9 1 v L.length (L.map Value.string):=by
 rcases h.2.2 with h | ⟨h,_⟩
 ·exact h
 ·omega
theorem jOwn.same (h:jOwn rb p0 w0 B v L k N M m w) (hm:m<N):jOwn rb p0 w0 B v L k N M (m+1) w:=by
 obtain⟨p,h1,h2⟩:=h.1
 exact⟨⟨p,by omega,h2⟩,h.2.1,.inl (h.row hm)⟩
theorem jOwn.alloc (h:jOwn rb p0 w0 B v L k N M m w) (hm:m<N) (o:Obj):jOwn rb p0 w0 B v L k N M (m+1) (w.alloc o):=by
 obtain⟨p,h1,h2⟩:=h.1
 have hb:=(Below.refl w.heap.size w).alloc (Nat.le_refl _) o
 exact⟨⟨p,by omega,h2.grow hb⟩,h.2.1.alloc h.2.1.size o,.inl ((h.row hm).alloc o)⟩
theorem Rd.kept {rb p:Nat} {fp:List Nat} {w w':World} (h:Rd w rb p) (hk:Kept fp w w') (hf:∀ b∈fp,rb<b):Rd w' rb p:=by
 have hlt:=h.lt
 obtain⟨⟨a,l,cap,fq,h1,h2,h3,h4⟩,h5⟩:=h
 refine ⟨⟨a,l,cap,fq,(hk.block rb hlt (λ hx=>by have:=hf rb hx;omega)).trans h1,(Zaa sByte).kept h2 (λ b hb hx=>by have:=hf b hx;have:=h3 b hb;omega) hk,h3,h4⟩,h5⟩
theorem jOwn.store {g cap n:Nat} {s:ByteArray} (h:jOwn rb p0 w0 B (.slice (some ⟨g,0,none⟩) n cap) L k N M m w) (hm:m<N) (hN:m+1=N) (hs:s.size<=M) (hrb:rb<B) (hg:B<=g) (hw0:w0.heap.size<=B) :
  jOwn rb p0 w0 B (.slice (some ⟨g,0,none⟩) n cap) L k N M (m+1) (w.setCell ⟨g,k,none⟩ (.string s)):=by
 obtain⟨p,h1,h2⟩:=h.1
 have hrow:=h.row hm
 have hn:L.length=n:=by
  rcases hrow.2 with⟨h',_⟩ | ⟨g',cap',cur,h',_⟩
  ·cases h'
  ·simp only [Value.slice.injEq] at h';exact h'.2.1.symm
 subst hn
 have hk:Kept [g] w (w.setCell ⟨g,k,none⟩ (.string s)):=(Kept.refl _ _).setCell (by simp) _
 refine ⟨⟨p,by omega,h2.kept hk (λ b hb=>by have e:b=g:=(by simpa using hb);omega)⟩,h.2.1.trans (hk.below (λ b hb=>by have e:b=g:=(by simpa using hb);omega) h.2.1.size),.inr ⟨hN,s,hs,?_⟩⟩
 have:=(hrow.stored k (.string s)).1
 rw [List.map_set]
 exact this
end
theorem ti_bytes:TI Tryz.prog 22 5 (.int .u8 0) 1 1:=⟨by kernel_rfl,by kernel_rfl⟩
def Bytes (base:Nat) (v:Value) (s:ByteArray) (w:World):Prop:=w.ownsRow base 5 1 v s.size (Lib.strCells s)
theorem ZhR (a b:ByteArray):Lib.strCells (a++b)=Lib.strCells a++Lib.strCells b:=by
 simp [Lib.strCells,ByteArray.data_append]
theorem Bytes.none (base:Nat) (w:World):Bytes base (.slice Option.none 0 0) ⟨#[]⟩ w:=World.ownsRow_nil _ _ _ _
theorem Zda {w0:World} {ops:Array Oper} {rest:List Oper} {o:Oper} {a:Act} {Q:Exit->Act->World->Prop} (hg:o.guard=Option.none) (s y:Operand)
  (ho:o.op=.call { callee:=.builtin .append,args:=#[s,y],argTypes:=#[22,22] })
  (base:Nat) (v:Value) (x b:ByteArray) (c:Int) (hs:a.eval s=v) (hown:Bytes base v x w0) (hy:a.eval y=.slice (some ⟨w0.heap.size,0,Option.none⟩) 1 1) (hb:Lib.strCells b=[.int .u8 c]) (h63:x.size<=1000000) (hbase:base<=w0.heap.size)
  (h:∀ v' w',Bytes base v' (x++b) w'->w0.grownBy w' v.ownBlock->wpList Tryz.prog ops Q rest (a.put o.dst v') w'):wpList Tryz.prog ops Q (o::rest) a (w0.alloc (.cells #[.int .u8 c] 5)):=by
 have hb1:b.size=1:=by have:=congrArg List.length hb;rwa [Lib.strCells_length] at this
 refine ZdC ti_bytes rfl w0 (.int .u8 c) rfl hg s y ho base v x.size (Lib.strCells x) hs hown hy (by unfold maxLen;omega) (by omega) hbase λ v' w' h1 h2=>h v' w' ?_ h2
 unfold Bytes
 rw [ZhR,ByteArray.size_append,hb,hb1]
 exact h1
theorem Zlb (s:ByteArray) (k:Nat) (h:k<s.size):Lib.strCells (s.extract k (k+1))=[.int .u8 (s[k].toNat:Int)]:=by
 have e:s.data.toList.length=s.size:=Array.length_toList
 unfold Lib.strCells
 rw [ByteArray.data_extract,Array.toList_extract,List.extract_eq_take_drop,List.drop_eq_getElem_cons (by omega),show k+1-k=1 from by omega]
 simp [ByteArray.getElem_eq_getElem_data]
theorem Zis {base:Nat} {v:Value} {s:ByteArray} {w:World} (h:Bytes base v s w):(convert 22 9 v).run Tryz.prog w=.ok (.string s) w:=by
 rcases h.2 with⟨rfl,h0⟩ | ⟨g,cap,cur,rfl,hb,hg,hnc,hcm,hcs,htake⟩
 ·rw [run_convert_bytes_string _ _ _ 5 _ 0 0 Tryz.underlying22 Tryz.underlying5 Tryz.underlying9]
  have:s=⟨#[]⟩:=by apply Go.WideShapes.bytes_inj;rw [← List.length_eq_zero_iff,Array.length_toList];exact h0
  subst this
  simp [Conv.bytesToString,loadCells]
  rfl
 ·have hl:s.data.toList.length=s.size:=Array.length_toList
  have:=run_convert_bytes_back (P:=Tryz.prog) w 22 9 5 ⟨g,0,Option.none⟩ cap s.data.toList Tryz.underlying22 Tryz.underlying5 Tryz.underlying9 (λ j hj=>by
   have h1:=h.cellAt j (by omega)
   have h2:(Lib.strCells s)[j]?=some (.int .u8 (s.data.toList[j].toNat:Int)):=by simp [Lib.strCells,List.getElem?_eq_getElem hj]
   rw [Addr.add_lit,Nat.zero_add]
   exact h1.trans h2)
  rw [hl] at this
  simpa using this
theorem Zit {w:World} {ops:Array Oper} {rest:List Oper} {o:Oper} {a:Act} {Q:Exit->Act->World->Prop} (hg:o.guard=none) (s y:Operand)
  (ho:o.op=.call { callee:=.builtin .append,args:=#[s,y],argTypes:=#[24,24] })
  (base:Nat) (v:Value) (L:List (Elem Tok)) (hs:a.eval s=v) (hown:RowE sTok base 32 v L w) (k:Int) (x:ByteArray) (b:Bool) (ao:Option Addr) (m c:Nat) (l:List ByteArray) (fp:List Nat)
  (hy:a.eval y=.slice (some ⟨w.heap.size,0,none⟩) 1 1) (hR:sTok.R w [.int .i64 k,.string x,.bool b,.slice ao m c] ⟨k,x,b,l⟩ fp) (hlo:∀ b∈fp,base<=b) (hty:∀ b∈fp,∃ cur t fr,w.heap[b]?=some (.cells cur t fr)/\t≠32)
  (h63:L.length<=2000000) (hbase:base<=w.heap.size)
  (h:∀ v' w',RowE sTok base 32 v' (L++[⟨[.int .i64 k,.string x,.bool b,.slice ao m c],⟨k,x,b,l⟩,fp⟩]) w'->w.grownBy w' v.ownBlock->wpList Tryz.prog ops Q rest (a.put o.dst v') w') :
  wpList Tryz.prog ops Q (o::rest) a (w.alloc (.cells #[.int .i64 k,.string x,.bool b,.slice ao m c] 32)):=by
 have hb:=Zab w (.cells #[.int .i64 k,.string x,.bool b,.slice ao m c] 32)
 refine ZeQ (S:=sTok) ZaG rfl (by decide) _ (X:=[⟨[.int .i64 k,.string x,.bool b,.slice ao m c],⟨k,x,b,l⟩,fp⟩]) hg s y ho base v hs (hown.below hb) w.heap.size 1 1 hy rfl ?_ ?_ ?_ ?_ ?_ ?_ (by unfold maxLen;omega) (by omega) (by simp;omega) λ v' w' a b=>h v' w' a (Zb7 (World.grownBy_alloc _ _ _) b)
 ·intro x hx;obtain rfl:=Qm hx;rfl
 ·intro x hx;obtain rfl:=Qm hx;simp [Value.oneCell']
 ·intro j u hj
  rw [World.cell?_alloc_at _ _ _ _ rfl]
  simpa using hj
 ·intro x hx;obtain rfl:=Qm hx;exact sTok.below hR hb
 ·intro x hx;obtain rfl:=Qm hx;exact hlo
 ·intro x hx b' hb'
  obtain rfl:=Qm hx
  obtain⟨cur,t,fr,h1,h2⟩:=hty b' hb'
  exact⟨cur,t,fr,(hb.block b' (Qg h1).1).trans h1,h2⟩
theorem run_append_nil {P:Program} {w:World} (base:Nat) (t ty e:TypeId) (i:TypeInfo) (size c:Nat) (ht:P.underlying t=some (.slice e)) (hi:P.info? e=some i)
  (v:Value) (n:Nat) (xs:List Value) (hown:w.ownsRow base e size v n xs):(Builtin.append_ #[t,t] ty #[v,.slice none 0 c]).run P w=.ok v w:=by
 rcases hown.2 with⟨rfl,rfl⟩ | ⟨g,cap,cur,rfl,_,_,hnc,_⟩
 ·simp [Builtin.append_,run_underlying ht,sizeOf,typeInfo,hi,Builtin.lenOf,Builtin.firstCells]
 ·simp [Builtin.append_,run_underlying ht,sizeOf,typeInfo,hi,Builtin.lenOf,Builtin.firstCells,hnc,storeCells]
theorem Zbs {w:World} {ops:Array Oper} {rest:List Oper} {o:Oper} {a:Act} {Q:Exit->Act->World->Prop} (hg:o.guard=none) (s y:Operand)
  (ho:o.op=.call { callee:=.builtin .append,args:=#[s,y],argTypes:=#[30,30] })
  (base:Nat) (v u:Value) (L M:List ByteArray) (fp:List Nat) (hs:a.eval s=v) (hown:w.ownsRow base 9 1 v L.length (L.map Value.string)) (hy:a.eval y=u) (HM:(Zaa sStr).R w [u] M fp)
  (h63:L.length+M.length<=4000000) (hbase:base<=w.heap.size)
  (h:∀ v' w',w'.ownsRow base 9 1 v' (L++M).length ((L++M).map Value.string)->w.grownBy w' v.ownBlock->wpList Tryz.prog ops Q rest (a.put o.dst v') w'):wpList Tryz.prog ops Q (o::rest) a w:=by
 obtain⟨i,hi,hz0,hz1,hz2⟩:=info_parts ti27.2
 obtain⟨ad,cap,rfl,hc,hm,hcell,hsz⟩:=Zaf HM
 have key:∀ (b off:Nat),(0<M.length->∀ j,(hj:j<M.length)->w.cell? ⟨b,off+j,none⟩=some (.string M[j]))->a.eval y=.slice (some ⟨b,off,none⟩) M.length cap->wpList Tryz.prog ops Q (o::rest) a w:=by
  intro b off hat hy'
  refine wpList_append_own _ hg s y 30 ho base 9 i _ 1 16 ti27.1 hi hz0 hz1 hz2 rfl (by decide) v L.length (L.map Value.string) hs hown ⟨b,off,none⟩ M.length cap (M.map Value.string) hy' (by simp) ?_ ?_ (by unfold maxLen;omega) (by omega) hbase λ v' w' h1 h2 _=>h v' w' ?_ h2
  ·intro j x hj
   have hj':j<M.length:=by have:=(List.getElem?_eq_some_iff.1 hj).1;simpa using this
   rw [Addr.add_lit,hat (by omega) j hj',← hj]
   simp [List.getElem?_eq_getElem hj']
  ·intro x hx
   obtain⟨s,_,rfl⟩:=List.mem_map.1 hx
   rfl
  ·simpa using h1
 by_cases h0:0<M.length
 ·obtain⟨b,off,rfl,_,_,hc2⟩:=hcell h0
  exact key b off (λ _ j hj=>hc2 j hj) hy
 ·have hM:M=[]:=List.length_eq_zero_iff.1 (by omega)
  subst hM
  cases ad with
  |
   none =>
   have hrun:=run_append_nil (P:=Tryz.prog) (w:=w) base 30 o.type 9 i 1 cap ti27.1 hi v L.length _ hown
   have hK:=h v w (by simpa using hown) ⟨rfl,rfl,rfl,Nat.le_refl _,λ _ _ _=>rfl⟩
   refine wpList_plain hg λ K hK'=>?_
   unfold Oper.wp
   simp only [List.length_nil] at hy
   simp [execOp,ho,resolve,invoke,builtin,hs,hy,hrun,Result.andThen]
   exact hK' _ _ hK
  |
   some ad =>
   refine wpList_append_own _ hg s y 30 ho base 9 i _ 1 16 ti27.1 hi hz0 hz1 hz2 rfl (by decide) v L.length (L.map Value.string) hs hown ad 0 cap [] hy rfl (by simp) (by simp) (by unfold maxLen;omega) (by omega) hbase λ v' w' h1 h2 _=>h v' w' (by simpa using h1) h2
def OwnTok (x:Tok) (w:World) (e:Ending) (w':World):Prop:=
 ∃ (ao:Option Addr) (c:Nat) (fp:List Nat),e=.returned (.agg #[.int .i64 x.kind,.string x.text,.bool x.spaced,.slice ao x.hidden.length c])/\sTok.R w' [.int .i64 x.kind,.string x.text,.bool x.spaced,.slice ao x.hidden.length c] x fp /\
  (∀ b∈fp,w.heap.size<=b)/\(∀ b∈fp,∃ cur t fr,w'.heap[b]?=some (.cells cur t fr)/\t=9)/\Below w.heap.size w w'
theorem ZcV (cs:List Value) (x:Tok) (fp:List Nat) (w:World) (hx:x.hidden.length<=2000000) (H:sTok.R w cs x fp):Calls Tryz.prog 66 #[.agg cs.toArray] w (OwnTok x w):=by
 obtain⟨h,rfl,hk,hok,K⟩:=H
 obtain⟨a0,cap0,rfl,-,-,-,hsz⟩:=Zaf K
 have hb3:=ZeL w #[.int .i64 x.kind,.string x.text,.bool x.spaced,.slice a0 x.hidden.length cap0] #[.int .i64 0,.string ⟨#[]⟩,.bool false,.slice none 0 0] #[.int .i64 x.kind,.string x.text,.bool x.spaced,.slice a0 x.hidden.length cap0] 32 32 32
 have g0:=Zcy w #[.int .i64 x.kind,.string x.text,.bool x.spaced,.slice a0 x.hidden.length cap0] #[.int .i64 0,.string ⟨#[]⟩,.bool false,.slice none 0 0] #[.int .i64 x.kind,.string x.text,.bool x.spaced,.slice a0 x.hidden.length cap0] 32 32 32
 obtain⟨g1,g2,hs3⟩:=Zcp w #[.int .i64 x.kind,.string x.text,.bool x.spaced,.slice a0 x.hidden.length cap0] #[.int .i64 0,.string ⟨#[]⟩,.bool false,.slice none 0 0] #[.int .i64 x.kind,.string x.text,.bool x.spaced,.slice a0 x.hidden.length cap0] 32 32 32
 have HK:=Qh ((Zaa sStr).below K hb3)
 have HSZ:=Qh hsz
 clear K hsz
 obtain⟨hv,HV⟩:∃ hv:Value,Hid (hv=Value.slice a0 x.hidden.length cap0):=⟨_,rfl⟩
 go_enter Tryz.func66,Tryz.ntmps66
 go_upto_region 2 with fail
 generalize (((w.alloc (.cells #[.int .i64 x.kind,.string x.text,.bool x.spaced,.slice a0 x.hidden.length cap0] 32)).alloc (.cells #[.int .i64 0,.string ⟨#[]⟩,.bool false,.slice none 0 0] 32)).alloc (.cells #[.int .i64 x.kind,.string x.text,.bool x.spaced,.slice a0 x.hidden.length cap0] 32))=W3 at *
 have hba:=Zab W3 (.cells #[] 9)
 have c03:(W3.alloc (.cells #[] 9)).cell? ⟨w.heap.size,3,none⟩=some hv:=by
  rw [HV.out]
  exact(hba.cell (p:=⟨w.heap.size,3,none⟩) (by show w.heap.size<_;omega)).trans (Qc 3 g0)
 have hlit:Hid ((W3.alloc (.cells #[] 9)).ownsRow W3.heap.size 9 1 (.slice (some ⟨W3.heap.size,0,none⟩) 0 0) ([]:List ByteArray).length (([]:List ByteArray).map Value.string)):=
  World.ownsRow_lit (base:=W3.heap.size) (e:=9) (size:=1) W3 #[] 0 (Nat.le_refl _) (by simp) rfl
 have HKV:Hid ((Zaa sStr).R (W3.alloc (.cells #[] 9)) [hv] x.hidden fp):=by show (Zaa sStr).R _ _ _ _;rw [HV.out];exact(Zaa sStr).below HK.out hba
 have HG:=Qh (And.intro g1 (And.intro g2 hs3))
 have hb4:=Qh (hb3.trans (hba.mono hb3.size))
 clear g0 g1 g2 hb3 hs3 HK hba
 go_wp2_with (
  at_builtin
  refine Zbs rfl (.tmp 5) (.tmp 7) rfl W3.heap.size (.slice (some ⟨W3.heap.size,0,none⟩) 0 0) hv [] x.hidden _ rfl hlit.out rfl HKV.out (by simp;omega) (by simp) ?_
  intro v5 w1 hown hgrow
  rw [List.nil_append] at hown
  obtain⟨fp1,R1,O1,hfp⟩:=Zb0 (ok:=okStr) hown HSZ.out
  have hs3:=HG.out.2.2
  have hblk:∀ k,k<W3.heap.size->w1.heap[k]?=W3.heap[k]?:=λ k hk=>(hgrow.block k (by simp;omega) (by simp [Value.ownBlock];omega)).trans ((Zab W3 _).block k hk)
  have HG1:Hid (w1.heap[w.heap.size+1]?=some (.cells #[.int .i64 0,.string ⟨#[]⟩,.bool false,.slice none 0 0] 32 (0,0))/\w1.heap[w.heap.size+1+1]?=some (.cells #[.int .i64 x.kind,.string x.text,.bool x.spaced,.slice a0 x.hidden.length cap0] 32 (0,0))):=
   ⟨(hblk _ (by omega)).trans HG.out.1,(hblk _ (by omega)).trans HG.out.2.1⟩
  have hb:Below w.heap.size w w1:=hb4.out.grown hgrow (by simp;omega) (λ b hb=>by simp [Value.ownBlock] at hb;omega)
  have hty:∀ b∈fp1,∃ cur t fr,w1.heap[b]?=some (.cells cur t fr)/\t=9:=λ b hb'=>by
   have hv:=hfp b hb'
   rcases hown.2 with⟨rfl,_⟩ | ⟨g,cap,cur,rfl,_,hg,_⟩
   ·simp [Value.ownBlock] at hv
   ·simp only [Value.ownBlock,Qi] at hv
    subst hv
    exact⟨_,_,_,hg,rfl⟩
  have hlo:∀ b∈fp1,w.heap.size+3<=b:=λ b hb=>by have:=(O1.2 b hb).1;omega
  clear HG hblk hgrow hown hfp O1 c03 hb4 HKV hlit hs3
  obtain⟨a1,cap1,rfl,hq⟩:=Zac R1
  clear hq
  have c10:=Qc 0 HG1.out.1
  have c11:=Qc 1 HG1.out.1
  have c12:=Qc 2 HG1.out.1
  have c13:=Qc 3 HG1.out.1
  have c20:=Qc 0 HG1.out.2
  have c21:=Qc 1 HG1.out.2
  have c22:=Qc 2 HG1.out.2
  have c23:=Qc 3 HG1.out.2
  have f10:=Qf 0 HG1.out.1
  have f11:=Qf 1 HG1.out.1
  have f12:=Qf 2 HG1.out.1
  have f13:=Qf 3 HG1.out.1
  have f23:=Qf 3 HG1.out.2
  have hn1:w.heap.size+1∉fp1:=λ hx=>by have:=hlo _ hx;omega
  have hn2:w.heap.size+1+1∉fp1:=λ hx=>by have:=hlo _ hx;omega
  have HLO:Hid (∀ b∈fp1,w.heap.size<=b):=λ b hb=>by have:=hlo b hb;omega
  have HR:=Qh ((Zaa sStr).setB ((Zaa sStr).setB ((Zaa sStr).setB ((Zaa sStr).setB ((Zaa sStr).setB R1 hn2 3 (.slice a1 x.hidden.length cap1)) hn1 0 (.int .i64 x.kind)) hn1 1 (.string x.text)) hn1 2 (.bool x.spaced)) hn1 3 (.slice a1 x.hidden.length cap1))
  have HT:Hid (∀ b∈fp1,∃ cur t fr,(((((w1.setCell ⟨w.heap.size+1+1,3,none⟩ (.slice a1 x.hidden.length cap1)).setCell ⟨w.heap.size+1,0,none⟩ (.int .i64 x.kind)).setCell ⟨w.heap.size+1,1,none⟩ (.string x.text)).setCell ⟨w.heap.size+1,2,none⟩ (.bool x.spaced)).setCell ⟨w.heap.size+1,3,none⟩ (.slice a1 x.hidden.length cap1)).heap[b]?=some (.cells cur t fr)/\t=9):=λ b hb=>by
   obtain⟨cur,t,fr,q1,q2⟩:=hty b hb
   have e1:b≠w.heap.size+1:=λ e=>hn1 (e ▸ hb)
   have e2:b≠w.heap.size+1+1:=λ e=>hn2 (e ▸ hb)
   exact⟨cur,t,fr,Zaz (Zaz (Zaz (Zaz (Zaz q1 e2 _ _) e1 _ _) e1 _ _) e1 _ _) e1 _ _,q2⟩
  have HB:=Qh (((((hb.setCell (p:=⟨w.heap.size+1+1,3,none⟩) (by simp;omega) (.slice a1 x.hidden.length cap1)).setCell (p:=⟨w.heap.size+1,0,none⟩) (by simp) (.int .i64 x.kind)).setCell (p:=⟨w.heap.size+1,1,none⟩) (by simp) (.string x.text)).setCell (p:=⟨w.heap.size+1,2,none⟩) (by simp) (.bool x.spaced)).setCell (p:=⟨w.heap.size+1,3,none⟩) (by simp) (.slice a1 x.hidden.length cap1))
  have HS:=Qh (Zai (Zai (Zai (Zai (Zaz HG1.out.1 (by omega:w.heap.size+1≠w.heap.size+1+1) 3 (.slice a1 x.hidden.length cap1)) 0 (.int .i64 x.kind)) 1 (.string x.text)) 2 (.bool x.spaced)) 3 (.slice a1 x.hidden.length cap1))
  clear HG1 hty hlo)
 refine bodyPost_ret (results_cell_row rfl _ _ (w.heap.size+1) _ _ _ _ rfl HS.out Tryz.underlying32 rfl (by kernel_rfl)) rfl ?_
 exact⟨a1,cap1,fp1,rfl,⟨_,rfl,hk,hok,HR.out⟩,HLO.out,HT.out,HB.out⟩
def NoMac (w:World) (fp:List Nat):Prop:=∀ b∈fp,∃ cur t fr,w.heap[b]?=some (.cells cur t fr)/\t≠56
theorem NoMac.same {w w':World} {fp:List Nat} (h:NoMac w fp) (hb:∀ b∈fp,b<w.heap.size->w'.heap[b]?=w.heap[b]?):NoMac w' fp:=λ b hb'=>by
 obtain⟨cur,t,fr,h1,h2⟩:=h b hb'
 exact⟨cur,t,fr,(hb b hb' (Qg h1).1).trans h1,h2⟩
theorem NoMac.below {w w':World} {fp:List Nat} (h:NoMac w fp) (hb:Below w.heap.size w w'):NoMac w' fp:=h.same λ b _ hl=>hb.block b hl
def TokTy (w:World) (fp:List Nat):Prop:=∀ b∈fp,∃ cur t fr,w.heap[b]?=some (.cells cur t fr)/\(t=32\/t=9)
theorem TokTy.same {w w':World} {fp:List Nat} (h:TokTy w fp) (hb:∀ b∈fp,b<w.heap.size->w'.heap[b]?=w.heap[b]?):TokTy w' fp:=λ b hb'=>by
 obtain⟨cur,t,fr,h1,h2⟩:=h b hb'
 exact⟨cur,t,fr,(hb b hb' (Qg h1).1).trans h1,h2⟩
theorem TokTy.below {w w':World} {fp:List Nat} (h:TokTy w fp) (hb:Below w.heap.size w w'):TokTy w' fp:=h.same λ b _ hl=>hb.block b hl
theorem TokTy.mac {w:World} {fp:List Nat} (h:TokTy w fp):NoMac w fp:=λ b hb=>by
 obtain⟨cur,t,fr,h1,h2⟩:=h b hb
 refine ⟨cur,t,fr,h1,?_⟩
 rcases h2 with rfl | rfl <;> decide
def OwnToksS (l:List Tok) (w:World) (e:Ending) (w':World):Prop:=∃ v fp,e=.returned v/\(Zaa sTok).R w' [v] l fp/\(∀ b∈fp,w.heap.size<=b)/\TokTy w' fp/\Below w.heap.size w w'
theorem ZaO (v:Value) (l:List Tok) (fp:List Nat) (w:World) (hl:l.length<=1048576) (hx:∀ k,(hk:k<l.length)->l[k].hidden.length<=2000000) (H:(Zaa sTok).R w [v] l fp) :
  Calls Tryz.prog 42 #[v] w (OwnToksS l w):=by
 obtain⟨a,cap,rfl,hc,hm,hrow⟩:=Zac H
 unfold maxLen at hm
 clear H
 have HX:=Qh hx
 clear hx
 have hlit:Hid (RowE sTok w.heap.size 32 (.slice (some ⟨w.heap.size,0,none⟩) 0 0) [] (w.alloc (.cells #[] 32))):=RowE.lit [] (by simp) (by simp) (by simp) (by simp) (Nat.le_refl _) (by simp)
 have hba:=Zab w (.cells #[] 32)
 go_enter Tryz.func42,Tryz.ntmps42
 go_wp2
 go_loopw [3,4] (λ o i wr=>∃ (k:Nat) (L:List (Elem Tok)),k<=l.length/\i=.int .i64 k/\Hid (RowE sTok w.heap.size 32 o L wr)/\Hid (L.map (·.d)=l.take k)/\Hid (∀ x∈L,TokTy wr x.fp)/\Below w.heap.size w wr) (λ _ i _=>l.length-(intOf i).toNat)
 case atStart=>exact⟨0,[],by omega,rfl,hlit,rfl,(show ∀ x∈([]:List (Elem Tok)),TokTy _ x.fp from by simp),hba⟩
 case round =>
  clear hlit hba
  obtain⟨k,L,hk,rfl,HE,HD,HN,hb⟩:=hrel
  by_cases hlt:k<l.length
  ·obtain⟨b1,off1,fps1,rfl,hb1,-,he1⟩:=hrow (by omega)
   obtain⟨es1,hE1,hR1⟩:=he1 k hlt
   clear hrow he1
   have hR2:=sTok.below hR1 hb
   obtain⟨h1',rfl,_,_,_⟩:=hR1
   have HC:=Qh (ZcV _ _ _ wr (HX.out k hlt) hR2)
   clear hR2
   replace hE1:=hE1.frame (hb.block b1 hb1)
   have c10:wr.cell? ⟨b1,off1+k * 4,none⟩=some _:=Zam hE1 (by decide) rfl
   have c11:wr.cell? ⟨b1,off1+k * 4+1,none⟩=some _:=Zae (j:=1) hE1 (by decide) rfl
   have c12:wr.cell? ⟨b1,off1+k * 4+2,none⟩=some _:=Zae (j:=2) hE1 (by decide) rfl
   have c13:wr.cell? ⟨b1,off1+k * 4+3,none⟩=some _:=Zae (j:=3) hE1 (by decide) rfl
   clear hE1
   have HLl:Hid (L.length=k):=by have:=congrArg List.length HD.out;simp at this;show _=_;omega
   go_wp2_with fail
   refine HC.out.mono ?_
   rintro e w2 ⟨ao,c,fp2,rfl,hR2,hlo2,hty2,hb2⟩
   obtain⟨ar,capr,rfl,-⟩:=HE.out.val
   have hE2:=HE.out.below hb2
   have hty2':∀ b∈fp2,∃ cur t fr,w2.heap[b]?=some (.cells cur t fr)/\t≠32:=λ b hb=>by obtain⟨cur,t,fr,h1,h2⟩:=hty2 b hb;exact⟨cur,t,fr,h1,by rw [h2];decide⟩
   have HN2:Hid (∀ x∈L++[(⟨[.int .i64 l[k].kind,.string l[k].text,.bool l[k].spaced,.slice ao l[k].hidden.length c],⟨l[k].kind,l[k].text,l[k].spaced,l[k].hidden⟩,fp2⟩:Elem Tok)],TokTy w2 x.fp):=λ x hx=>by
    rcases Qa hx with hx | hx
    ·exact(HN.out x hx).below hb2
    ·obtain rfl:=Qm hx
     intro b hb
     obtain⟨cur,t,fr,h1,h2⟩:=hty2 b hb
     exact⟨cur,t,fr,h1,.inr h2⟩
   have hbw:=hb.trans (hb2.mono hb.size)
   have hlo3:∀ b∈fp2,w.heap.size<=b:=λ b hx=>Nat.le_trans hb.size (hlo2 b hx)
   clear c10 c11 c12 c13 HC HE
   go_wp2_with (at_builtin;refine Zit rfl (.tmp 12) (.tmp 18) rfl w.heap.size (.slice ar L.length capr) L rfl hE2 l[k].kind l[k].text l[k].spaced ao l[k].hidden.length c l[k].hidden fp2 rfl hR2 hlo3 hty2' (by have:=HLl.out;omega) hbw.size ?_;intro v3 w3 hE3 hg3)
   have hb3:Below w.heap.size w w3:=hbw.grown hg3 hbw.size (λ b hb=>(hE2.row.lt b hb).1)
   have HE3:=Qh hE3
   have HN3:Hid (∀ x∈L++[(⟨[.int .i64 l[k].kind,.string l[k].text,.bool l[k].spaced,.slice ao l[k].hidden.length c],⟨l[k].kind,l[k].text,l[k].spaced,l[k].hidden⟩,fp2⟩:Elem Tok)],TokTy w3 x.fp):=λ x hx=>(HN2.out x hx).same λ b hb hl=>hg3.block b hl (by
    rcases Qa hx with hx | hx
    ·exact λ e=>hE2.ap hx hb e.symm
    ·obtain rfl:=Qm hx
     intro e
     obtain⟨cur,t,fr,h1,h2⟩:=hty2' b hb
     obtain⟨g,capg,curg,q1,q2,q3,-⟩:∃ g capg curg,Value.slice ar L.length capr=.slice (some ⟨g,0,none⟩) L.length capg/\w.heap.size<=g/\w2.heap[g]?=some (.cells curg 32 (0,0))/\True:=by
      rcases hE2.row.2 with⟨h0,_⟩ | ⟨g,capg,curg,q1,q2,q3,-⟩
      ·rw [h0] at e;simp [Value.ownBlock] at e
      ·exact⟨g,capg,curg,q1,q2,q3,trivial⟩
     rw [q1] at e
     simp only [Value.ownBlock,Qi] at e
     subst e
     rw [h1] at q3
     simp only [Qi,Obj.cells.injEq] at q3
     exact h2 q3.2.1)
   have HD3:Hid ((L++[(⟨[.int .i64 l[k].kind,.string l[k].text,.bool l[k].spaced,.slice ao l[k].hidden.length c],⟨l[k].kind,l[k].text,l[k].spaced,l[k].hidden⟩,fp2⟩:Elem Tok)]).map (·.d)=l.take (k+1)):=by
    show _=_
    rw [List.map_append,HD.out,List.take_succ_eq_append_getElem hlt];rfl
   clear hE2 hE3 hg3 hR2 hty2 hty2' hlo2 hlo3 hb2 HN2 HN
   go_roundw
   case rel=>exact⟨k+1,_,by omega,by go_num,HE3,HD3,HN3,hb3⟩
   case measure=>simp [intOf];omega
  ·obtain⟨fpr,hr,hin,-⟩:=Za7 HE.out.row λ x hx=>⟨HE.out.len x hx,HE.out.el x hx⟩
   have HLO:Hid (∀ b∈fpr,w.heap.size<=b):=λ b hb=>by
    rcases hin b hb with h | h
    ·exact HE.out.mine b h
    ·obtain⟨x,hx,hb'⟩:=List.mem_flatMap.1 h
     exact HE.out.lo x hx b hb'
   have HNM:Hid (TokTy wr fpr):=λ b hb=>by
    rcases hin b hb with h | h
    ·rcases HE.out.row.2 with⟨h0,_⟩ | ⟨g,capg,curg,q1,q2,q3,-⟩
     ·rw [h0] at h;simp [Value.ownBlock] at h
     ·rw [q1] at h
      simp only [Value.ownBlock,Qi] at h
      subst h
      exact⟨_,_,_,q3,.inl rfl⟩
    ·obtain⟨x,hx,hb'⟩:=List.mem_flatMap.1 h
     exact HN.out x hx b hb'
   clear hin
   have hd:=HD.out
   rw [List.take_of_length_le (by omega)] at hd
   rw [hd] at hr
   have HR:=Qh hr
   clear hr hd HE HD HN
   go_wp2
   go_ret
   exact⟨_,fpr,rfl,HR.out,HLO.out,HNM.out,hb⟩
def OwnToksT (l:List Tok) (w:World) (e:Ending) (w':World):Prop:=∃ v fp,e=.returned v/\(Zaa sTok).R w' [v] l fp/\(∀ b∈fp,w.heap.size<=b)/\NoMac w' fp/\Below w.heap.size w w'
theorem ZeR (v:Value) (l:List Tok) (fp:List Nat) (w:World) (hl:l.length<=1048576) (hx:∀ k,(hk:k<l.length)->l[k].hidden.length<=2000000) (H:(Zaa sTok).R w [v] l fp) :
  Calls Tryz.prog 42 #[v] w (OwnToksT l w):=(ZaO v l fp w hl hx H).mono λ _ _ ⟨v,fp,h1,h2,h3,h4,h5⟩=>⟨v,fp,h1,h2,h3,h4.mac,h5⟩
end Go.Proofs.YtipfpppcbmpjiaaGreat
