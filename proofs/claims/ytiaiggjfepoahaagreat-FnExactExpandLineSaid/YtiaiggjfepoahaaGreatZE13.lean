/- Texts that the proof of E stands on, in one file. -/
import Derived.Test.YtiaiggjfepoahaaGreatZE12
import Derived.Deep.RegionLaw
import Derived.Lib.SliceRun
import Derived.Shelf.Spec.SlicesInsertGrow
set_option linter.unusedVariables false
set_option maxHeartbeats 16000000
set_option maxRecDepth 100000
set_option linter.unusedSimpArgs false
/- Undefine (spec). -/
namespace Go.Proofs.YtiaiggjfepoahaaGreat
open Go.RowKit
/-! ### As the exact law calls them -/
theorem Zdk {l:List DMacro} (h:Zaz l<=1048576):l.length<=1048576/\∀ k,(hk:k<l.length)->MacSm l[k]:=by
 refine ⟨by unfold Zaz at h;omega,λ k hk=>?_⟩
 have h1:=Zey ZaG l k hk
 unfold Zaz at h
 have h2:ZaG l[k]=l[k].name.size+(l[k].params.length+(l[k].params.map (·.size)).sum)+Zaw l[k].body:=rfl
 have h3:Zaw l[k].body<=1048576:=by omega
 have h4:l[k].body.length<=1048576:=by unfold Zaw at h3;omega
 refine ⟨by omega,h4,λ j hj=>?_⟩
 have h5:=Zey ZaL l[k].body j hj
 unfold Zaw at h3
 have h6:ZaL l[k].body[j]=l[k].body[j].text.size+(l[k].body[j].hidden.length+(l[k].body[j].hidden.map (·.size)).sum):=rfl
 omega
def Asc (l:List DMacro):Prop:=l.Pairwise λ a b=>sLess a.name b.name=true
theorem Zei {l:List DMacro} (h:tabOk l=true):l.length<=10/\(∀ m∈l,macOk m=true)/\Asc l:=by
 refine ⟨(Ze0 h).1,λ m hm=>?_,?_⟩
 ·obtain⟨j,hj,rfl⟩:=List.getElem_of_mem hm
  have:=(Ze0 h).2 j hj
  unfold tabAt at this
  rw [dif_pos hj] at this
  exact(Bool.and_eq_true_iff.1 this).1
 ·unfold Asc
  rw [List.pairwise_iff_getElem]
  exact λ i j hi hj hij=>ZjT h hij hj
def Tx (t:Tok):Prop:=Zal t.text t.kind=true
theorem Tx.bare {t:Tok} (h:Tx t):tokOk ⟨t.kind,t.text,t.spaced,[]⟩=true:=by
 unfold tokOk
 rw [show Zal t.text t.kind=true from h]
 rfl
theorem Tx.of {t:Tok} (h:tokOk t=true):Tx t:=by
 unfold tokOk at h
 exact(Bool.and_eq_true_iff.1 h).1
theorem Tx.toks {l:List Tok} (h:Zaj l=true):∀ t∈l,Tx t:=λ t ht=>by
 obtain⟨k,hk,rfl⟩:=List.getElem_of_mem ht
 exact Tx.of ((Zau h).2 k hk)
theorem tx_kind {t:Tok} (h:Tx t) {c:UInt8} {l:List UInt8} (e:t.text=⟨(c::l).toArray⟩):t.kind=cutKind c:=Zmu (t:=⟨t.kind,t.text,t.spaced,[]⟩) h.bare e
theorem Zge {t:Tok} (h:Tx t) {c:UInt8} (hc:cutKind c=4):isM t [c]=(t.text.toList==[c]):=by
 unfold isM
 cases e:(t.text.toList==[c])
 ·rw [Bool.and_false]
 ·rw [tx_kind h (txt_eq e),hc];rfl
theorem Zlm {t:Tok} (h:Tx t):isM t [40]=Zch t:=Zge h (by decide)
theorem tx_opn {t:Tok} (h:Tx t):opnK t=opn t:=by
 unfold opnK opn
 rw [Zlm h,show isM t [41]=ZdW t from Zge h (by decide)]
theorem Zgf:∀ (l:List Tok) (d:Int) (A:Args) (M:List Tok) (k:Nat),(∀ t∈l,Tx t)->splK l d A M k=spGo l d A M k
 | [],_,_,_,_,_=>rfl
 |
  t::r,d,A,M,k,h=>by
  have hr:∀ u∈r,Tx u:=λ u hu=>h u (by simp [hu])
  unfold splK spGo
  rw [tx_opn (h t (by simp)),show isM t [44]=isCom t from Zge (h t (by simp)) (by decide),Zgf r _ _ _ _ hr,Zgf r _ _ _ _ hr]
def ZcW (l:List Tok) (n:Nat):Args × Int × Bool:=
 match clGo (l.drop (n+1)) 1 (n+1) with
 | none=>([],0,false)
 | some e=>(dvGo ((l.drop (n+1)).take (e-(n+1))) 0 [] [],((e+1:Nat):Int),true)
theorem ZgJ {l:List Tok} {n:Nat} (h:clGo (l.drop (n+1)) 1 (n+1)=none):ZcW l n=([],0,false):=by unfold ZcW;rw [h]
theorem ZgK {l:List Tok} {n e:Nat} (h:clGo (l.drop (n+1)) 1 (n+1)=some e):ZcW l n=(dvGo ((l.drop (n+1)).take (e-(n+1))) 0 [] [],((e+1:Nat):Int),true):=by unfold ZcW;rw [h]
theorem ZmL {l:List Tok} (h:∀ t∈l,Tx t) {A:Args} {e:Nat} (hs:splK (l.drop 2) 1 [] [] 2=(A,e,false)):ZcW l 1=([],0,false):=by
 rw [Zgf _ _ _ _ _ (λ t ht=>h t (List.mem_of_mem_drop ht))] at hs
 have:=sp_dv (l.drop 2) 0 [] [] 2
 rw [show (0:Int)+1=1 from rfl] at this
 cases hc:clGo (l.drop 2) 1 2 with
 | none=>exact ZgJ hc
 | some e'=>rw [hc] at this;simp only at this;rw [this] at hs;simp at hs
theorem ZlX {l:List Tok} (h:∀ t∈l,Tx t) {A:Args} {e:Nat} (hs:splK (l.drop 2) 1 [] [] 2=(A,e,true)):ZcW l 1=(A,(e:Int),true):=by
 rw [Zgf _ _ _ _ _ (λ t ht=>h t (List.mem_of_mem_drop ht))] at hs
 have:=sp_dv (l.drop 2) 0 [] [] 2
 rw [show (0:Int)+1=1 from rfl] at this
 cases hc:clGo (l.drop 2) 1 2 with
 | none=>rw [hc] at this;simp only at this;rw [hs] at this;simp at this
 |
  some e' =>
  rw [hc] at this;simp only at this
  rw [this] at hs
  simp only [Prod.mk.injEq,and_true] at hs
  obtain⟨rfl,rfl⟩:=hs
  exact ZgK hc
/-! ### What is put in are tokens -/
theorem ZhW {b:Bool}:∀ {l:List Tok},(∀ t∈l,tokOk t=true)->∀ t∈spc b l,tokOk t=true
 | [],_,t,ht=>by simp [spc] at ht
 |
  x::r,h,t,ht=>by
  rcases List.mem_cons.1 ht with rfl | ht
  ·exact h x (by simp)
  ·exact h t (by simp [ht])
theorem Zjf {m:DMacro} {a:List (List Tok)} (h:Zas m a=true):∀ l∈a,∀ t∈l,tokOk t=true:=λ l hl t ht=>by
 unfold Zas at h
 rw [Bool.and_eq_true,List.all_eq_true] at h
 have:=h.2 l hl
 obtain⟨k,hk,rfl⟩:=List.getElem_of_mem ht
 exact(Zau this).2 k hk
theorem part_ok {m:DMacro} {raw ready:List (List Tok)} (hv:macOk m=true) (ha:∀ l∈raw,∀ t∈l,tokOk t=true) (hy:∀ l∈ready,∀ t∈l,tokOk t=true) (k:Nat) (hok:(Zay m raw ready k).2.2=true):∀ t∈(Zay m raw ready k).1,tokOk t=true:=by
 intro t ht
 unfold Zay at ht hok
 split at ht
 ·rename_i hk
  rw [dif_pos hk] at hok
  split at ht
  ·rename_i hf
   rw [if_pos hf] at hok
   split at ht
   ·rename_i hk2
    rw [dif_pos hk2] at hok
    rw [Qm ht]
    obtain⟨kk,s,b,hx,-⟩:=Zc9 (argAt raw (parOf m.params m.body[k+1]))
    have hok':(ZaS (argAt raw (parOf m.params m.body[k+1]))).2=true:=hok
    rcases hz:ZaS (argAt raw (parOf m.params m.body[k+1])) with⟨z,o⟩
    rw [hz] at hok'
    have hok2:o=true:=hok'
    subst hok2
    exact(txt_back hz).1
   ·simp at ht
  ·split at ht
   ·rw [Qm ht];exact(Zb6 hk ((ZaH hv).2.2 k hk)).1
   ·split at ht
    ·exact ZhW (Zef ha _) t ht
    ·exact ZhW (Zef hy _) t ht
 ·simp at ht
theorem subGo_ok {m:DMacro} {raw ready:List (List Tok)} (hv:macOk m=true) (ha:∀ l∈raw,∀ t∈l,tokOk t=true) (hy:∀ l∈ready,∀ t∈l,tokOk t=true):∀ (d k:Nat) (out:List Tok) (emp paste:Bool),m.body.length-k<=d->(∀ t∈out,tokOk t=true)->∀ t∈(subGo m raw ready k out emp paste).1,tokOk t=true:=by
 intro d
 induction d with
 | zero=>intro k out emp paste hd ho;rw [ZdD (by omega)];exact ho
 |
  succ d ih =>
  intro k out emp paste hd ho
  by_cases hk:k<m.body.length
  rotate_left
  ·rw [ZdD (by omega)];exact ho
  by_cases h1:isM m.body[k] [35,35]=true/\paste=false
  ·obtain⟨h1,rfl⟩:=h1
   rw [Ze5 hk h1]
   exact ih _ _ _ _ (by omega) ho
  have hP2:=part_ok hv ha hy k
  have hnx:=Zec m raw ready k
  rcases hP:Zay m raw ready k with⟨P,nx,ok⟩
  rw [hP] at hP2 hnx
  have hnx':k<nx:=hnx
  cases ok
  ·rw [ZeH hk h1 hP];simp
  have hP2':∀ t∈P,tokOk t=true:=hP2 rfl
  by_cases h2:paste=true/\emp=false/\0<P.length
  ·rcases hz:Zaq (out.getLastD zTok) (P.headD zTok) with⟨z,fine⟩
   cases fine
   ·rw [ZhO hk h1 hP h2 hz];simp
   ·rw [Zgc hk h1 hP h2 hz]
    refine ih _ _ _ _ (by omega) λ t ht=>?_
    rcases Qa ht with ht | ht
    ·exact ho t ((List.dropLast_sublist out).subset ht)
    ·rcases List.mem_cons.1 ht with rfl | ht
     ·exact(Ze3 hz).1
     ·exact hP2' t (List.mem_of_mem_tail ht)
  ·rw [ZdE hk h1 hP h2]
   refine ih _ _ _ _ (by omega) λ t ht=>?_
   rcases Qa ht with ht | ht
   ·exact ho t ht
   ·exact hP2' t ht
theorem sub_ok {m:DMacro} {raw ready:List (List Tok)}:∀ t∈(Zap m raw ready).1,tokOk t=true:=by
 unfold Zap
 split
 ·rename_i h
  split
  ·simp
  ·exact subGo_ok h.1 (Zjf h.2.1) (Zjf h.2.2) _ 0 [] true false (Nat.le_refl _) (by simp)
 ·simp
theorem spc_tx {b:Bool}:∀ {l:List Tok},(∀ t∈l,Tx t)->∀ t∈spc b l,Tx t
 | [],_,t,ht=>by simp [spc] at ht
 |
  x::r,h,t,ht=>by
  rcases List.mem_cons.1 ht with rfl | ht
  ·exact h x (by simp)
  ·exact h t (by simp [ht])
theorem putL_tx {l:List Tok} {h:List ByteArray} {sp:Bool} (hl:∀ t∈l,Tx t):∀ t∈putL l h sp,Tx t:=by
 refine spc_tx λ t ht=>?_
 obtain⟨u,hu,rfl⟩:=List.mem_map.1 ht
 exact hl u hu
theorem sub_tx {m:DMacro} {raw ready:List (List Tok)}:∀ t∈(Zap m raw ready).1,Tx t:=λ t ht=>Tx.of (sub_ok t ht)
theorem put_spc {h:List ByteArray} {b:Bool}:∀ {l:List Tok},(spc b l).map (putT h)=putL l h b
 | []=>rfl
 | _::_=>rfl
/-! ### The macro that is used -/
theorem ZmM {T:List DMacro} (hT:tabOk T=true) {t:Tok} (ht:Tx t) (h:isIn T t.text=true):t.kind=1:=by
 unfold isIn at h
 split at h
 ·rename_i hl
  have e:=Zcq h
  have hn:=(ZaH ((Zei hT).2.1 _ (List.getElem_mem hl))).1.1
  rw [e] at hn
  exact ZgW ht hn
 ·simp at h
theorem tx_has (l:List ByteArray) (x:ByteArray):hasTx l x=hasN l x:=by
 unfold hasTx hasN
 induction l with
 | nil=>rfl
 |
  cons y r ih =>
  rw [List.any_cons,List.any_cons,ih]
  congr 1
  cases e:(y.toList==x.toList)
  ·simp only [decide_eq_false_iff_not]
   intro h;rw [ZaP h] at e;exact absurd e (by simp)
  ·simp only [decide_eq_true_eq]
   exact Zcq e
theorem find_out {T:List DMacro} (hT:tabOk T=true) {t:Tok} (h:isIn T t.text=false):findM T t=none:=by
 unfold findM
 rw [if_neg]
 intro h'
 have:=h'.2.2
 rw [Zg0 hT,h] at this
 simp at this
theorem find_at {T:List DMacro} (hT:tabOk T=true) {t:Tok} (ht:Tx t) (h:isIn T t.text=true) (hh:hasN t.hidden t.text=false):∃ hl:lowAt T t.text<T.length,findM T t=some T[lowAt T t.text]:=by
 have hl:lowAt T t.text<T.length:=by
  unfold isIn at h
  split at h
  ·rename_i hl;exact hl
  ·simp at h
 refine ⟨hl,?_⟩
 unfold findM
 rw [if_pos ⟨ZmM hT ht h,hh,by rw [Zg0 hT,if_pos h];omega⟩,Zg0 hT,if_pos h]
 exact List.getElem?_eq_getElem hl
theorem goM_none {T:List DMacro} {t:Tok} {r:List Tok} (h:findM T t=none):goM T (t::r)=none:=by unfold goM;dsimp only;rw [h]
theorem goM_shut {T:List DMacro} {t:Tok} {r:List Tok} {m:DMacro} (h:findM T t=some m) (hf:m.function=true) (ho:ZeI r=false):goM T (t::r)=none:=by unfold goM;dsimp only;rw [h];dsimp only;rw [if_pos ⟨hf,ho⟩]
theorem goM_some {T:List DMacro} {t:Tok} {r:List Tok} {m:DMacro} (h:findM T t=some m) (hf:¬ (m.function=true/\ZeI r=false)):goM T (t::r)=some m:=by unfold goM;dsimp only;rw [h];dsimp only;rw [if_neg hf]
open Go.RowKit Go.Shelf
def insLay_ren:Go.Shelf.Ren:=⟨fun | 17=>155 | 22=>135 | 29=>145 | 30=>146 | 36=>153 | n=>n,fun | 0=>0 | 3=>3 | 4=>4 | 9=>9 | 24=>55 | n=>n,fun | n=>n⟩
theorem ZfX:Go.Proofs.Lays2.n22 Tryz.prog insLay_ren:={
 mixed:=by kernel_rfl
 f17:=Tryz.func155.trans (congrArg some (by kernel_rfl))
 f22:=Tryz.func135.trans (congrArg some (by kernel_rfl))
 f29:=Tryz.func145.trans (congrArg some (by kernel_rfl))
 f30:=Tryz.func146.trans (congrArg some (by kernel_rfl))
 f36:=Tryz.func153.trans (congrArg some (by kernel_rfl))
 t0:=Tryz.underlying0
 a0:=Tryz.isAgg0
 z0:=Tryz.sizeOf0
 v0:=Tryz.zeroValue0
 t3:=Tryz.underlying3
 a3:=Tryz.isAgg3
 z3:=Tryz.sizeOf3
 v3:=Tryz.zeroValue3
 t4:=Tryz.underlying4
 a4:=Tryz.isAgg4
 z4:=Tryz.sizeOf4
 v4:=Tryz.zeroValue4
 t9:=Tryz.underlying9
 a9:=Tryz.isAgg9
 z9:=Tryz.sizeOf9
 v9:=Tryz.zeroValue9
 t24:=Tryz.underlying55
 a24:=Tryz.isAgg55
 z24:=Tryz.sizeOf55
 v24:=Tryz.zeroValue55
 i9:=by kernel_rfl }
def InsPostS (base k:Nat) (v:Value) (l:List ByteArray) (x:ByteArray) (w:World) (e:Ending) (w':World):Prop:=
 ∃ v',e=.returned v'/\w'.ownsRow base 9 1 v' (l.take k++x::l.drop k).length ((l.take k++x::l.drop k).map Value.string)/\w.grownBy w' v.ownBlock
theorem ZcX (w:World) (arr:Array Value) (T:TypeId):(w.alloc (.cells arr T)).heap[w.heap.size]?=some (.cells arr T (0,0)):=by show (w.heap.push _)[_]?=_;simp
theorem ZhX {g:Nat} {w w':World} (hK:Kept [g] w w'):w.grownBy w' (some g):=
 ⟨hK.os,hK.tape,hK.output,hK.size,λ b hb hn=>hK.block b hb (by simp;intro e;exact hn (by rw [e]))⟩
theorem one_str (l:List ByteArray):∀ u∈l.map Value.string,u.oneCell'=true:=λ u hu=>by
 obtain⟨s,_,rfl⟩:=List.mem_map.1 hu;rfl
theorem ZkW (base vb:Nat) (v:Value) (l:List ByteArray) (x:ByteArray) (k:Nat) (w:World) (hn:l.length<=1000000) (hk:k<=l.length) (H:w.ownsRow base 9 1 v l.length (l.map Value.string))
  (hvb:w.heap[vb]?=some (.cells #[.string x] 9 (0,0))) (hne:v.ownBlock≠some vb) (hbase:base<=w.heap.size) :
  Calls Tryz.prog 135 #[v,.int .i64 k,.slice (some ⟨vb,0,none⟩) 1 1] w (InsPostS base k v l x w):=by
 have hvs:∀ j u,([Value.string x]:List Value)[j]?=some u->w.cell? ⟨vb,0+j,none⟩=some u:=λ j u hj=>by rw [Nat.zero_add,cell_of_row w vb j _ _ _ hvb];simpa using hj
 have h1v:∀ u∈([Value.string x]:List Value),u.oneCell'=true:=by simp [Value.oneCell']
 have hlen:(l.take k++x::l.drop k).length=l.length+1:=by simp;omega
 have hmap:(l.take k++x::l.drop k).map Value.string=(l.take k).map Value.string++(Value.string x::(l.drop k).map Value.string):=by simp
 obtain⟨cs,hcs⟩:∃ cs,cs=l.map Value.string:=⟨_,rfl⟩
 have hcl:cs.length=l.length:=by rw [hcs];simp
 have htk:(l.take k).map Value.string=cs.take k:=by rw [hcs,List.map_take]
 have hdk:(l.drop k).map Value.string=cs.drop k:=by rw [hcs,List.map_drop]
 have h1c:∀ u∈cs,u.oneCell'=true:=by rw [hcs];exact one_str l
 rw [← hcs] at H
 have hg63:∀ c,grownCap w (l.length+1) c 9<=maxLen:=λ c=>grownCap_le_maxLen w (l.length+1) c 9 (by unfold maxLen;omega)
 have hgge:∀ c,l.length+1<=grownCap w (l.length+1) c 9:=λ c=>grownCap_ge w _ _ _
 -- a new row
 have newrow:∀ (W:World) (G:Nat) (cur:Array Value) (rest:List Value),W.heap[w.heap.size]?=some (.cells cur 9 (0,0))->l.length+1<=G->G<=maxLen->cur.size=G->cur.toList.take (l.length+1)=(l.take k++x::l.drop k).map Value.string ->
   W.ownsRow base 9 1 (.slice (some ⟨w.heap.size,0,none⟩) (l.length+1) G) (l.take k++x::l.drop k).length ((l.take k++x::l.drop k).map Value.string):=by
  intro W G cur _ h1 h2 h3 h4 h5
  rw [hlen]
  exact⟨by simp;omega,.inr ⟨w.heap.size,G,cur,rfl,hbase,h1,h2,h3,by rw [h4];omega,by rw [Nat.mul_one];exact h5⟩⟩
 rcases H.2 with⟨hv0,h0⟩ | ⟨g,c,cur0,hv0,q2,q3,q4,q5,q6,q7⟩
 ·
  subst hv0
  have hl0:l.length=0:=h0
  have hk0:k=0:=by omega
  subst hk0
  have C:=Any2.slices_Insert_string_end_grow ZfX (none:Option Addr) 0 0 vb 0 1 1 [] [Value.string x] w (by omega) (by omega) (by omega) (by omega) rfl rfl (λ _=>rfl) (λ a h=>by cases h) hvs h1v
  simp only [show insLay_ren.t 9=9 from rfl] at C
  refine C.mono ?_
  rintro e w' ⟨rfl,rfl⟩
  have hl:l=[]:=List.length_eq_zero_iff.1 hl0
  subst hl
  have hG:0+1<=grownCap w (0+1) 0 9:=grownCap_ge w _ _ _
  have hG2:grownCap w (0+1) 0 9<=maxLen:=grownCap_le_maxLen w (0+1) 0 9 (by unfold maxLen;omega)
  generalize grownCap w (0+1) 0 9=G at *
  refine ⟨_,rfl,newrow _ _ _ [] (ZcX w.drew _ _) hG hG2 (by simp [Builtin.zeroCells,Value.cells];omega) (by simp),?_⟩
  have hK:Kept [] w (w.drew.alloc (.cells (([]++[Value.string x]).toArray++Builtin.zeroCells (Value.string ⟨#[]⟩).cells (G-(0+1))) 9)):=
   (Kept.of_below (Zag (Below.refl _ _) 1)).trans (Kept.of_below (Zab _ _))
  exact⟨hK.os,hK.tape,hK.output,hK.size,λ b hb hn=>hK.block b hb (by simp)⟩
 ·subst hv0
  have hown:(Value.slice (some ⟨g,0,none⟩) l.length c).ownBlock=some g:=rfl
  have hne':vb≠g:=λ e=>hne (by rw [e];rfl)
  have hgl:g<w.heap.size:=(Qg q3).1
  have q6':cur0.size=c:=by simpa using q6
  have q7':cur0.toList.take l.length=cs:=by simpa using q7
  have hcell:∀ j u,cs[j]?=some u->w.cell? ⟨g,0+j,none⟩=some u:=λ j u hj=>by
   have hjl:j<cs.length:=(List.getElem?_eq_some_iff.1 hj).1
   rw [Nat.zero_add,H.cellAt j (by omega)];exact hj
  have hsome:∀ j,j<c->(w.cell? ⟨g,0+j,none⟩).isSome=true:=λ j hj=>by
   rw [Nat.zero_add,cell_of_row w g j _ _ _ q3,Array.getElem?_eq_getElem (show j<cur0.size by omega)];rfl
  have hfz:∀ j,w.frozen? ⟨g,0+j,none⟩=false:=λ j=>frozen_of_row w g _ _ _ q3
  have hc63:c<=9223372036854775807:=by unfold maxLen at q5;omega
  by_cases hroom:l.length+1<=c
  ·obtain⟨Z,hZ,hrowZ⟩:=ZmE H hroom
   by_cases hkn:k<l.length
   ·have C:=Any2.slices_Insert_string_shift ZfX g 0 l.length c k vb 0 1 1 cs [Value.string x] w hkn (by omega) hroom hc63 hne' hcl rfl hcell (λ j hj=>hsome j (by omega)) (λ j _=>hfz j) hvs h1c h1v 9 9 1 c (by simp [World.shape?,hvb]) (by simp [World.shape?,q3,q6']) (by omega) (frozen_of_row w vb 0 _ _ hvb) (frozen_of_row w vb 1 _ _ hvb)
    refine C.mono ?_
    rintro e w' ⟨rfl,rfl⟩
    have r1:=ZbC (cs.drop k) w.drew (cs++Z) (0+(k+1)) hrowZ
    have r2:=ZbC [Value.string x] _ _ (0+k) r1
    rw [Zbj,Zbj] at r2
    have e1:Zbm (Zbm (cs++Z) (0+(k+1)) (cs.drop k)) (0+k) [Value.string x]=cs.take k++([Value.string x]++cs.drop k):=by
     have:=ZkT (A:=cs.take k) (D:=cs.drop k) (X:=[Value.string x]) (Z:=Z) (by rw [hZ];rfl) (by simp [hZ];omega)
     rw [List.take_append_drop,List.length_take,Nat.min_eq_left (by omega)] at this
     simpa using this
    rw [e1] at r2
    refine ⟨_,rfl,?_,ZhX ?_⟩
    ·rw [hlen,hmap,htk,hdk];exact r2
    ·rw [← Zbj,← Zbj]
     exact((Kept.of_below (Zag (Below.refl _ _) 1)).trans (Zbr _ _ _)).trans (Zbr _ _ _)
   ·have hke:k=l.length:=by omega
    subst hke
    have C:=Any2.slices_Insert_string_end_room ZfX g 0 l.length c vb 0 1 1 [Value.string x] w (by omega) hroom hc63 rfl (λ j hj=>by have:=hsome (l.length+j) (by omega);rwa [Nat.zero_add] at this ⊢) (λ j _=>by have:=hfz (l.length+j);rwa [Nat.zero_add] at this ⊢) hvs h1v
    refine C.mono ?_
    rintro e w' ⟨rfl,rfl⟩
    have r1:=ZbC [Value.string x] w (cs++Z) (0+l.length) hrowZ
    rw [Zbj] at r1
    have e1:Zbm (cs++Z) (0+l.length) [Value.string x]=cs++([Value.string x]++[]):=by
     have:=Zbq [Value.string x] cs Z [] (by rw [hZ];rfl)
     rw [List.append_nil,hcl] at this
     rw [Nat.zero_add];exact this
    rw [e1] at r1
    refine ⟨_,rfl,?_,ZhX ?_⟩
    ·rw [hlen,hmap,htk,hdk,List.take_of_length_le (by omega),List.drop_eq_nil_of_le (by omega)];exact r1
    ·rw [← Zbj];exact Zbr _ _ _
  ·have hG:=hgge c
   have hG2:=hg63 c
   by_cases hkn:k<l.length
   ·have C:=Any2.slices_Insert_string_grow ZfX g 0 l.length c k vb 0 1 1 cs [Value.string x] w hkn (by omega) q4 (by omega) (by omega) hcl rfl hcell hvs h1c h1v
    simp only [show insLay_ren.t 9=9 from rfl] at C
    refine C.mono ?_
    rintro e w' ⟨rfl,rfl⟩
    obtain⟨ROW,hROW⟩:∃ ROW:Array Value,ROW=(cs.take k).toArray++Builtin.zeroCells (Value.string ⟨#[]⟩).cells (l.length+1-k)++Builtin.zeroCells (Value.string ⟨#[]⟩).cells (grownCap w (l.length+1) c 9-(l.length+1)):=⟨_,rfl⟩
    have hzc:∀ m,(Builtin.zeroCells (Value.string ⟨#[]⟩).cells m).size=m:=λ m=>by simp [Builtin.zeroCells,Value.cells]
    have hRs:ROW.size=grownCap w (l.length+1) c 9:=by rw [hROW,Array.size_append,Array.size_append,hzc,hzc];simp;omega
    have hrow1:(w.alloc (.cells ROW 9)).ownsRow base 9 1 (.slice (some ⟨w.heap.size,0,none⟩) (l.length+1) (grownCap w (l.length+1) c 9)) (l.length+1) (cs.take k++((ROW.toList.drop k).take (l.length+1-k))):=by
     refine ⟨by simp [hRs];omega,.inr ⟨w.heap.size,_,ROW,rfl,hbase,by show (w.heap.push _)[_]?=_;simp,hG,hG2,by rw [hRs];omega,?_⟩⟩
     have ht:ROW.toList.take k=cs.take k:=by
      rw [hROW,Array.append_assoc,Array.toList_append,List.take_append_of_le_length (by simp;omega)]
      simp [List.take_take]
     rw [Nat.mul_one]
     conv=>lhs;rw [show l.length+1=k+(l.length+1-k) by omega,List.take_add,ht]
    have r1:=ZbC [Value.string x] _ _ k (by exact hrow1:((w.alloc (.cells ROW 9)).drew).ownsRow base 9 1 _ _ _)
    have r2:=ZbC (cs.drop k) _ _ (k+1) (by exact r1:((Zdp (w.alloc (.cells ROW 9)).drew w.heap.size k [Value.string x]).drew).ownsRow base 9 1 _ _ _)
    rw [Zbj,Zbj] at r2
    have hZl:((ROW.toList.drop k).take (l.length+1-k)).length=l.length+1-k:=by simp [hRs];omega
    have e1:Zbm (Zbm (cs.take k++((ROW.toList.drop k).take (l.length+1-k))) k [Value.string x]) (k+1) (cs.drop k)=cs.take k++([Value.string x]++cs.drop k):=by
     have h1:=List.take_append_drop 1 ((ROW.toList.drop k).take (l.length+1-k))
     rw [← h1]
     have:=ZkU (A:=cs.take k) (X:=[Value.string x]) (D:=cs.drop k) (Z1:=((ROW.toList.drop k).take (l.length+1-k)).take 1) (Z2:=((ROW.toList.drop k).take (l.length+1-k)).drop 1) (by rw [List.length_take,hZl];simp;omega) (by rw [List.length_drop,hZl];simp;omega)
     rw [List.length_take,Nat.min_eq_left (by omega)] at this
     simpa using this
    rw [e1] at r2
    refine ⟨_,rfl,?_,?_⟩
    ·rw [hlen,hmap,htk,hdk]
     rw [hROW] at r2
     exact r2
    ·have hK:Kept [w.heap.size] w ((((w.alloc (.cells ROW 9)).drew.setCells w.heap.size k [Value.string x]).drew).setCells w.heap.size (k+1) (cs.drop k)):=by
      rw [← Zbj,← Zbj]
      exact((((Kept.of_below (Zab _ _)).drewN 1).trans (Zbr _ _ _)).drewN 1).trans (Zbr _ _ _)
     rw [hROW] at hK
     exact⟨hK.os,hK.tape,hK.output,hK.size,λ b hb _=>hK.block b hb (by simp;omega)⟩
   ·have hke:k=l.length:=by omega
    subst hke
    have C:=Any2.slices_Insert_string_end_grow ZfX (some ⟨g,0,none⟩) l.length c vb 0 1 1 cs [Value.string x] w (by omega) q4 (by omega) (by omega) hcl rfl (λ h=>by cases h) (λ a h j u hj=>by
     simp only [Qi] at h
     subst h
     rw [Addr.add_lit];exact hcell j u hj) hvs h1v
    simp only [show insLay_ren.t 9=9 from rfl] at C
    refine C.mono ?_
    rintro e w' ⟨rfl,rfl⟩
    refine ⟨_,rfl,newrow _ _ _ [] (ZcX w.drew _ _) hG hG2 (by simp [Builtin.zeroCells,Value.cells,hcl];omega) ?_,?_⟩
    ·rw [hmap,htk,hdk,List.take_of_length_le (l:=cs) (by omega),List.drop_eq_nil_of_le (by omega)]
     rw [Array.toList_append,List.take_append_of_le_length (by simp;omega),List.take_of_length_le (by simp;omega)]
    ·have hK:Kept [] w (w.drew.alloc (.cells ((cs++[Value.string x]).toArray++Builtin.zeroCells (Value.string ⟨#[]⟩).cells (grownCap w (l.length+1) c 9-(l.length+1))) 9)):=
      (Kept.of_below (Zag (Below.refl _ _) 1)).trans (Kept.of_below (Zab _ _))
     exact⟨hK.os,hK.tape,hK.output,hK.size,λ b hb hn=>hK.block b hb (by simp)⟩
end Go.Proofs.YtiaiggjfepoahaaGreat
