/- Texts that the proof of EConditionOf stands on, in one file. -/
import Derived.Test.YtipfpppcbmpjiaaGreatZEConditionOf8
import Derived.Laws.ResultCell
import Derived.Deep.Cut
import Derived.Deep.CutRange
import Derived.Laws.AppendOwnNone
set_option linter.unusedVariables false
set_option maxHeartbeats 16000000
set_option maxRecDepth 100000
set_option linter.unusedSimpArgs false
/- Parameters as they are read: the model. -/
namespace Go.Proofs.YtipfpppcbmpjiaaGreat
open Go.RowKit
theorem Zat {P:Program} {fn:Func} {p u:Tmp} {ty:TypeId} (h:fn.results=#[.cell p ty,.tmp u]) (tmps:Array Value) (w:World) (g:Nat) (t:TypeId) (cs:Array Value) (fr:Nat × Nat) (d:TypeDesc)
  (hp:tmps.getD p undef=.pointer (some ⟨g,0,none⟩)) (hg:w.heap[g]?=some (.cells cs t fr))
  (hu:P.underlying ty=some d) (hd:(match d with | .struct _ | .array _ _=>true | _=>false)=true) (hi:(P.info? ty).map (·.size)=some cs.size) :
  (results fn tmps).run P w=.ok (.tuple #[.agg cs,tmps.getD u undef]) w:=by
 have hp':tmps[p]?.getD undef=.pointer (some ⟨g,0,none⟩):=by simpa using hp
 rw [results_cell_tmp h]
 simp [hp',asAddr,run_loadVar_row w g t ty cs fr d hg hu hd hi,Result.andThen]
theorem mbox {w:World} {g:Nat} {arr:Array Value} {ty:TypeId} (h:w.heap[g]?=some (.cells arr ty (0,0))) {w':World} (hb:Below w.heap.size w w'):w'.heap[g]?=some (.cells arr ty (0,0)):=
 (hb.block g (Qg h).1).trans h
theorem mlt {w:World} {g:Nat} {o:Obj} (h:w.heap[g]?=some o):g<w.heap.size:=(Qg h).1
/-! ### The model's theorem, way by way -/
theorem Zm7 {t:Tok} (h:tokOk t=true) {c:UInt8} {l:List UInt8} (e:t.text=⟨(c::l).toArray⟩):t.kind=cutKind c:=by
 obtain⟨h0,hk⟩:=(ZaP h).1
 obtain⟨k,x,s,hd⟩:=t
 obtain rfl:x=⟨(c::l).toArray⟩:=e
 exact hk
theorem txt_eq {x:ByteArray} {l:List UInt8} (h:(x.toList==l)=true):x=⟨l.toArray⟩:=by rw [Zc8] at h;exact of_decide_eq_true h
theorem Za3 {α:Type} {S:Shape α} {w:World} {a:Option Addr} {len cap:Nat} {l:List α} {fp:List Nat} (i:Nat) (hi:i<=l.length) (H:(Zaa S).R w [.slice a len cap] l fp) :
  ∃ fp',(Zaa S).R w [.slice (if cap=i then a else a.map (·.add (i * S.m))) (len-i) (cap-i)] (l.drop i) fp'/\∀ b∈fp',b∈fp:=by
 obtain⟨a',cap',hv,hc,hm,h⟩:=H
 simp only [List.cons.injEq,Value.slice.injEq,and_true] at hv
 obtain⟨rfl,rfl,rfl⟩:=hv
 have hl:(l.drop i).length=l.length-i:=by simp
 by_cases h0:i=l.length
 ·refine ⟨[],⟨_,_,by rw [hl],by rw [hl];omega,by omega,.inl ⟨?_,rfl⟩⟩,by simp⟩
  subst h0;simp
 ·rcases h with⟨rfl,_⟩ | ⟨_,b,off,fps,ha,rfl,hb,he⟩
  ·simp at hi;simp at h0;omega
  ·subst ha
   refine ⟨b::(List.range (l.length-i)).flatMap λ j=>fps (i+j),⟨_,_,by rw [hl],by rw [hl];omega,by omega,.inr ⟨by omega,b,off+i * S.m,λ j=>fps (i+j),?_,by rw [hl],hb,λ j hj=>?_⟩⟩,?_⟩
   ·rw [if_neg (by omega),Option.map_some,Addr.add_lit]
   ·rw [hl] at hj
    obtain⟨es,h1,h2⟩:=he (i+j) (by omega)
    refine ⟨es,⟨h1.1,λ x hx=>?_⟩,by rw [List.getElem_drop];exact h2⟩
    rw [← h1.2 x hx]
    congr 2
    rw [Nat.add_mul];omega
   ·intro x hx
    rcases List.mem_cons.1 hx with rfl | hx
    ·simp
    ·obtain⟨j,hj,hx⟩:=List.mem_flatMap.1 hx
     refine List.mem_cons_of_mem _ (List.mem_flatMap.2 ⟨i+j,?_,hx⟩)
     simp only [List.mem_range] at hj ⊢
     omega
theorem Zkc {l:List Tok} (h:ZaD l<=1048576):l.length<=1048576:=by unfold ZaD at h;omega
theorem Zkd {l:List Tok} (h:ZaD l<=1048576):∀ k,(hk:k<l.length)->l[k].hidden.length<=2000000:=λ k hk=>by
 have h1:=ZeN ZaQ l k hk
 unfold ZaD at h
 have h2:ZaQ l[k]=l[k].text.size+(l[k].hidden.length+(l[k].hidden.map (·.size)).sum):=rfl
 omega
end Go.Proofs.YtipfpppcbmpjiaaGreat
