/- Texts that the proof of E stands on, in one file. -/
import Derived.Test.YtiaiggjfepoahaaGreatZE6
import Derived.Lib.Bytealg
import Derived.Laws.AppendOwnNone
import Derived.Orders
import Derived.Lib.AppendStr
import Derived.Laws.IdiomStrings
set_option linter.unusedVariables false
set_option maxHeartbeats 16000000
set_option maxRecDepth 100000
set_option linter.unusedSimpArgs false
/- Names in order: bytes alone. -/
namespace Go.Proofs.YtiaiggjfepoahaaGreat
open Go.RowKit
theorem Zeb:∀ x y z:List UInt8,Op.bytesLess x y=true->Op.bytesLess y z=true->Op.bytesLess x z=true
 | _,[],_,h,_=>by simp [Op.bytesLess] at h
 | _,_::_,[],_,h=>by simp [Op.bytesLess] at h
 | [],_::_,_::_,_,_=>by simp [Op.bytesLess]
 |
  a::x,b::y,c::z,h1,h2=>by
  have ih:=Zeb x y z
  simp only [Op.bytesLess,Bool.or_eq_true,decide_eq_true_eq,Bool.and_eq_true,beq_iff_eq] at h1 h2 ⊢
  rcases h1 with h1 | ⟨rfl,h1⟩
  ·rcases h2 with h2 | ⟨rfl,h2⟩
   ·exact .inl (UInt8.lt_trans h1 h2)
   ·exact .inl h1
  ·rcases h2 with h2 | ⟨rfl,h2⟩
   ·exact .inl h2
   ·exact .inr ⟨rfl,ih h1 h2⟩
theorem Zcu {a b c:ByteArray} (h1:sLess a b=true) (h2:sLess b c=true):sLess a c=true:=Zeb _ _ _ h1 h2
theorem ZdV:∀ x:List UInt8,Op.bytesLess x x=false
 | []=>rfl
 | a::x=>by simp [Op.bytesLess,ZdV x,UInt8.lt_irrefl]
theorem ZcQ (a:ByteArray):sLess a a=false:=ZdV _
theorem Zcq {a b:ByteArray} (h:(a.toList==b.toList)=true):a=b:=by
 by_cases e:a=b
 ·exact e
 ·exact absurd h (by rw [Zbb e];simp)
theorem ZjR:∀ x y:List UInt8,decide (Lib.compareBytes x y<0)=Op.bytesLess x y
 | [],[]=>by simp [Lib.compareBytes,Op.bytesLess]
 | [],_::_=>by simp [Lib.compareBytes,Op.bytesLess]
 | _::_,[]=>by simp [Lib.compareBytes,Op.bytesLess]
 |
  a::x,b::y=>by
  have ih:=ZjR x y
  unfold Lib.compareBytes Op.bytesLess
  by_cases h1:a<b
  ·simp [h1]
  ·by_cases h2:b<a
   ·have h3:(a==b)=false:=by
     simp only [beq_eq_false_iff_ne,ne_eq]
     intro e;subst e;exact absurd h2 h1
    simp [h1,h2,h3]
   ·have h3:a=b:=UInt8.le_antisymm (UInt8.not_lt.1 h2) (UInt8.not_lt.1 h1)
    subst h3
    simp [h1,ih]
theorem ZjS:∀ x y:List UInt8,decide (Lib.compareBytes x y=0)=(x==y)
 | [],[]=>by simp [Lib.compareBytes]
 | [],_::_=>by simp [Lib.compareBytes]
 | _::_,[]=>by simp [Lib.compareBytes]
 |
  a::x,b::y=>by
  have ih:=ZjS x y
  unfold Lib.compareBytes
  by_cases h1:a<b
  ·have h3:¬ a=b:=by intro e;subst e;exact absurd h1 (UInt8.lt_irrefl _)
   simp [h1,h3]
  ·by_cases h2:b<a
   ·have h3:¬ a=b:=by intro e;subst e;exact absurd h2 h1
    simp [h1,h2,h3]
   ·have h3:a=b:=UInt8.le_antisymm (UInt8.not_lt.1 h2) (UInt8.not_lt.1 h1)
    subst h3
    simp [h1,ih]
theorem Zim {l:List DMacro} (h:tabOk l=true):∀ d i:Nat,(hj:i+d+1<l.length)->sLess (l[i]'(by omega)).name (l[i+d+1]'hj).name=true
 |
  0,i,hj=>by
  have:=(Ze0 h).2 (i+1) (by omega)
  unfold tabAt at this
  rw [dif_pos (by omega)] at this
  simpa using (Bool.and_eq_true_iff.1 this).2
 |
  d+1,i,hj=>by
  have h1:=Zim h d i (by omega)
  have h2:=Zim h 0 (i+d+1) (by omega)
  exact Zcu h1 (by simpa [Nat.add_assoc] using h2)
theorem ZjT {l:List DMacro} (h:tabOk l=true) {i j:Nat} (hij:i<j) (hj:j<l.length):sLess (l[i]'(by omega)).name l[j].name=true:=by
 have:=Zim h (j-i-1) i (by omega)
 simpa [show i+(j-i-1)+1=j by omega] using this
def lowFrom (l:List DMacro) (nm:ByteArray) (k:Nat):Nat:=if h:k<l.length then (if sLess l[k].name nm=true then lowFrom l nm (k+1) else k) else k
termination_by l.length-k
def lowAt (l:List DMacro) (nm:ByteArray):Nat:=lowFrom l nm 0
theorem ZjU {l:List DMacro} {nm:ByteArray} {k:Nat} (h:k<l.length) (h1:sLess l[k].name nm=true):lowFrom l nm k=lowFrom l nm (k+1):=by rw [lowFrom,dif_pos h,if_pos h1]
theorem ZgZ {l:List DMacro} {nm:ByteArray} {k:Nat} (h:k<l.length) (h1:sLess l[k].name nm=false):lowFrom l nm k=k:=by rw [lowFrom,dif_pos h,if_neg (by simp [h1])]
theorem Zlb {l:List DMacro} {nm:ByteArray} {k:Nat} (h:l.length<=k):lowFrom l nm k=k:=by rw [lowFrom,dif_neg (by omega)]
theorem ZlK (l:List DMacro) (nm:ByteArray) (k:Nat) (hk:k<=l.length):lowFrom l nm k<=l.length:=by
 induction k using lowFrom.induct (l:=l) (nm:=nm) with
 | case1 k h h1 ih=>rw [ZjU h h1];exact ih (by omega)
 | case2 k h h1=>rw [ZgZ h (by simpa using h1)];omega
 | case3 k h=>rw [Zlb (by omega)];omega
theorem low_le (l:List DMacro) (nm:ByteArray):lowAt l nm<=l.length:=ZlK l nm 0 (by omega)
theorem ZlL (l:List DMacro) (nm:ByteArray) (k:Nat):∀ j,(hj:j<l.length)->k<=j->j<lowFrom l nm k->sLess l[j].name nm=true:=by
 induction k using lowFrom.induct (l:=l) (nm:=nm) with
 |
  case1 k h h1 ih =>
  intro j hj hk hl
  rw [ZjU h h1] at hl
  by_cases e:j=k
  ·subst e;exact h1
  ·exact ih j hj (by omega) hl
 | case2 k h h1=>intro j hj hk hl;rw [ZgZ h (by simpa using h1)] at hl;omega
 | case3 k h=>intro j hj hk hl;omega
theorem ZlM (l:List DMacro) (nm:ByteArray) (k:Nat):∀ h:lowFrom l nm k<l.length,sLess l[lowFrom l nm k].name nm=false:=by
 induction k using lowFrom.induct (l:=l) (nm:=nm) with
 | case1 k h h1 ih=>rw [ZjU h h1];exact ih
 | case2 k h h1=>rw [ZgZ h (by simpa using h1)];intro _;simpa using h1
 | case3 k h=>rw [Zlb (by omega)];intro h2;omega
theorem Zin {l:List DMacro} (h:tabOk l=true) (nm:ByteArray) {j:Nat} (hj:j<l.length):sLess l[j].name nm=decide (j<lowAt l nm):=by
 by_cases hl:j<lowAt l nm
 ·rw [decide_eq_true hl]
  exact ZlL l nm 0 j hj (by omega) hl
 ·rw [decide_eq_false hl]
  have hlow:lowAt l nm<l.length:=by omega
  have h1:=ZlM l nm 0 hlow
  by_cases e:lowAt l nm=j
  ·subst e;exact h1
  ·have h2:=ZjT h (show lowAt l nm<j by omega) hj
   cases h3:sLess l[j].name nm
   ·rfl
   ·exact absurd (Zcu h2 h3) (by rw [show sLess (l[lowAt l nm]'hlow).name nm=false from h1];simp)
def plFrom (l:List DMacro) (nm:ByteArray) (k:Nat):Int:=if h:k<l.length then (if (l[k].name.toList==nm.toList)=true then (k:Int) else plFrom l nm (k+1)) else -1
termination_by l.length-k
def place (l:List DMacro) (nm:ByteArray):Int:=plFrom l nm 0
theorem ZhI {l:List DMacro} {nm:ByteArray} {k:Nat} (h:l.length<=k):plFrom l nm k=-1:=by rw [plFrom,dif_neg (by omega)]
theorem ZjV {l:List DMacro} {nm:ByteArray} {k:Nat} (h:k<l.length) (h1:(l[k].name.toList==nm.toList)=true):plFrom l nm k=k:=by rw [plFrom,dif_pos h,if_pos h1]
theorem Zgb {l:List DMacro} {nm:ByteArray} {k:Nat} (h:k<l.length) (h1:(l[k].name.toList==nm.toList)=false):plFrom l nm k=plFrom l nm (k+1):=by rw [plFrom,dif_pos h,if_neg (by simp [h1])]
theorem pl_low {l:List DMacro} (h:tabOk l=true) (nm:ByteArray) (k:Nat) (hk:k<=lowAt l nm) :
  plFrom l nm k=if hl:lowAt l nm<l.length then (if (l[lowAt l nm].name.toList==nm.toList)=true then (lowAt l nm:Int) else -1) else -1:=by
 induction k using plFrom.induct (l:=l) (nm:=nm) with
 |
  case1 k hkl h1 =>
  have hs:sLess l[k].name nm=false:=by rw [Zcq h1];exact ZcQ _
  rw [Zin h nm hkl,decide_eq_false_iff_not] at hs
  obtain rfl:k=lowAt l nm:=by omega
  rw [ZjV hkl h1,dif_pos hkl,if_pos h1]
 |
  case2 k hkl h1 ih =>
  rw [Zgb hkl (by simpa using h1)]
  by_cases e:k=lowAt l nm
  ·subst e
   rw [dif_pos hkl,if_neg h1]
   -- behind it all names are greater
   have:∀ k',lowAt l nm<k'->plFrom l nm k'=-1:=by
    intro k' hk'
    induction k' using plFrom.induct (l:=l) (nm:=nm) with
    |
     case1 k' hkl' h1' =>
     have h2:=ZjT h hk' hkl'
     rw [Zcq h1',Zin h nm hkl,decide_eq_true_eq] at h2
     omega
    | case2 k' hkl' h1' ih'=>rw [Zgb hkl' (by simpa using h1')];exact ih' (by omega)
    | case3 k' hkl'=>rw [ZhI (by omega)]
   exact this _ (by omega)
  ·exact ih (by omega)
 |
  case3 k hkl =>
  rw [ZhI (by omega)]
  rw [dif_neg (by have:=low_le l nm;omega)]
def isIn (l:List DMacro) (nm:ByteArray):Bool:=if h:lowAt l nm<l.length then l[lowAt l nm].name.toList==nm.toList else false
theorem Zg0 {l:List DMacro} (h:tabOk l=true) (nm:ByteArray):place l nm=if isIn l nm=true then (lowAt l nm:Int) else -1:=by
 unfold place isIn
 rw [pl_low h nm 0 (by omega)]
 by_cases hl:lowAt l nm<l.length
 ·rw [dif_pos hl,dif_pos hl]
 ·rw [dif_neg hl,dif_neg hl];rfl
structure RowE {α:Type} (S:Shape α) (base:Nat) (e:TypeId) (v:Value) (L:List (Elem α)) (w:World):Prop where
 row:w.ownsRow base e S.m v L.length (L.flatMap (·.cells))
 len:∀ x∈L,x.cells.length=S.m
 el:∀ x∈L,S.R w x.cells x.d x.fp
 lo:∀ x∈L,∀ b∈x.fp,base<=b
 ty:∀ x∈L,∀ b∈x.fp,∃ cur t fr,w.heap[b]?=some (.cells cur t fr)/\t≠e
section
variable {α:Type} {S:Shape α} {base:Nat} {e:TypeId} {v v':Value} {L:List (Elem α)} {w w':World}
theorem Za9 {n:Nat} {xs:List Value} {m:Nat} (h:w.ownsRow base e m v n xs) (hb:∀ g,v.ownBlock=some g->w'.heap[g]?=w.heap[g]?):w'.ownsRow base e m v n xs:=by
 refine ⟨h.1,?_⟩
 rcases h.2 with h0 | ⟨g,cap,cur,h1,h2,h3,h4⟩
 ·exact .inl h0
 ·exact .inr ⟨g,cap,cur,h1,h2,(hb g (by rw [h1];rfl)).trans h3,h4⟩
theorem RowE.same (h:RowE S base e v L w) (hb:∀ b,b<w.heap.size->base<=b->w'.heap[b]?=w.heap[b]?):RowE S base e v L w' where
 row:=Za9 h.row λ g hg=>by
  have:=h.row.lt g hg
  exact hb g this.2 this.1
 len:=h.len
 el:=λ x hx=>S.frame (λ b hb'=>hb b (S.lt (h.el x hx) b hb') (h.lo x hx b hb')) (h.el x hx)
 lo:=h.lo
 ty:=λ x hx b hb'=>by
  obtain⟨cur,t,fr,h1,h2⟩:=h.ty x hx b hb'
  exact⟨cur,t,fr,(hb b (S.lt (h.el x hx) b hb') (h.lo x hx b hb')).trans h1,h2⟩
theorem RowE.below (h:RowE S base e v L w) (hb:Below w.heap.size w w'):RowE S base e v L w':=h.same λ b hb' _=>hb.block b hb'
theorem RowE.nil (S:Shape α) (base:Nat) (e:TypeId) (w:World):RowE S base e (.slice none 0 0) [] w:=⟨World.ownsRow_nil _ _ _ _,by simp,by simp,by simp,by simp⟩
theorem RowE.val (h:RowE S base e v L w):∃ a cap,v=.slice a L.length cap/\L.length<=cap/\cap<=maxLen/\(0<L.length->∃ g,a=some ⟨g,0,none⟩/\base<=g/\g<w.heap.size):=by
 rcases h.row.2 with⟨rfl,h0⟩ | ⟨g,cap,cur,rfl,hb,hg,hn,hc,_⟩
 ·exact⟨none,0,by rw [h0],by omega,by simp,λ h=>by omega⟩
 ·exact⟨_,cap,rfl,hn,hc,λ _=>⟨g,rfl,hb,(Qg hg).1⟩⟩
theorem RowE.mine (h:RowE S base e v L w):∀ b,v.ownBlock=some b->base<=b:=λ b hb=>(h.row.lt b hb).1
theorem RowE.slice (h:RowE S base e v L w):∃ fp,(Zaa S).R w [v] (L.map (·.d)) fp:=by
 obtain⟨fp,h1,_⟩:=Za7 h.row λ x hx=>⟨h.len x hx,h.el x hx⟩
 exact⟨fp,h1⟩
theorem RowE.ap (h:RowE S base e v L w) {x:Elem α} (hx:x∈L) {b:Nat} (hb:b∈x.fp):v.ownBlock≠some b:=by
 intro hv
 obtain⟨cur,t,fr,h1,h2⟩:=h.ty x hx b hb
 rcases h.row.2 with⟨rfl,_⟩ | ⟨g,cap,cur',rfl,_,hg,_⟩
 ·simp [Value.ownBlock] at hv
 ·simp only [Value.ownBlock,Qi] at hv
  subst hv
  rw [h1] at hg
  simp only [Qi,Obj.cells.injEq] at hg
  exact h2 hg.2.1
theorem Zdi {f:Elem α->List Value} {m:Nat}:∀ {L:List (Elem α)} (_:∀ x∈L,(f x).length=m) {k:Nat} (hk:k<L.length) {j:Nat} (_:j<m) (u:Value) (x':Elem α) (_:f x'=(f L[k]).set j u),(L.flatMap f).set (k * m+j) u=(L.set k x').flatMap f
 | [],_,k,hk,_,_,_,_,_=>by simp at hk
 |
  x::L,hL,0,_,j,hj,u,x',hx=>by
  simp only [List.flatMap_cons,List.set_cons_zero,Nat.zero_mul,Nat.zero_add]
  rw [List.set_append_left _ _ (by rw [hL x (by simp)];exact hj),hx];rfl
 |
  x::L,hL,k+1,hk,j,hj,u,x',hx=>by
  have hl:=hL x (by simp)
  have e:(k+1) * m+j=m+(k * m+j):=by rw [Nat.succ_mul];omega
  simp only [List.flatMap_cons,List.set_cons_succ]
  rw [List.set_append_right _ _ (by rw [hl,e];omega),hl,e,Nat.add_sub_cancel_left]
  rw [Zdi (λ y hy=>hL y (by simp [hy])) (by simpa using hk) hj u x' (by simpa using hx)]
theorem RowE.set {g n cap:Nat} (h:RowE S base e (.slice (some ⟨g,0,none⟩) n cap) L w) {k:Nat} (hk:k<L.length) {j:Nat} (hj:j<S.m) (u:Value) (x':Elem α) (hx:x'.cells=L[k].cells.set j u)
  (hR:S.R w x'.cells x'.d x'.fp) (hlo:∀ b∈x'.fp,base<=b) (hty:∀ b∈x'.fp,∃ cur t fr,w.heap[b]?=some (.cells cur t fr)/\t≠e) :
  RowE S base e (.slice (some ⟨g,0,none⟩) n cap) (L.set k x') (w.setCell ⟨g,k * S.m+j,none⟩ u):=by
 have hne:∀ b:Nat,(∃ cur t fr,w.heap[b]?=some (.cells cur t fr)/\t≠e)->b≠g:=by
  rintro b ⟨cur,t,fr,h1,h2⟩ rfl
  rcases h.row.2 with⟨h',_⟩ | ⟨g',cap',cur',h',_,hg,_⟩
  ·cases h'
  ·simp only [Value.slice.injEq,Qi,Addr.mk.injEq,and_true] at h'
   obtain⟨rfl,_⟩:=h'
   rw [h1] at hg
   simp only [Qi,Obj.cells.injEq] at hg
   exact h2 hg.2.1
 have hblk:∀ b:Nat,b≠g->(w.setCell ⟨g,k * S.m+j,none⟩ u).heap[b]?=w.heap[b]?:=λ b hb=>Below.heap_setCell _ _ _ _ hb
 have hmem:∀ x∈L.set k x',x=x'\/x∈L:=λ x hx=>by
  rcases List.mem_or_eq_of_mem_set hx with h | h
  ·exact .inr h
  ·exact .inl h
 refine ⟨?_,λ x hx'=>?_,λ x hx'=>?_,λ x hx'=>?_,λ x hx'=>?_⟩
 ·have hn:L.length=n:=by
   rcases h.row.2 with⟨h',_⟩ | ⟨g',cap',cur,h',_⟩
   ·cases h'
   ·simp only [Value.slice.injEq] at h';exact h'.2.1.symm
  have hrow:=h.row
  rw [hn] at hrow
  have:=(hrow.stored (k * S.m+j) u).1
  rw [Zdi h.len hk hj u x' hx] at this
  rw [List.length_set,hn]
  exact this
 ·rcases hmem x hx' with rfl | hx'
  ·rw [hx,List.length_set];exact h.len _ (List.getElem_mem hk)
  ·exact h.len x hx'
 ·rcases hmem x hx' with rfl | hx'
  ·exact S.frame (λ b hb=>hblk b (hne b (hty b hb))) hR
  ·exact S.frame (λ b hb=>hblk b (hne b (h.ty x hx' b hb))) (h.el x hx')
 ·rcases hmem x hx' with rfl | hx'
  ·exact hlo
  ·exact h.lo x hx'
 ·intro b hb
  rcases hmem x hx' with rfl | hx'
  ·obtain⟨cur,t,fr,h1,h2⟩:=hty b hb
   exact⟨cur,t,fr,(hblk b (hne b ⟨cur,t,fr,h1,h2⟩)).trans h1,h2⟩
  ·obtain⟨cur,t,fr,h1,h2⟩:=h.ty x hx' b hb
   exact⟨cur,t,fr,(hblk b (hne b ⟨cur,t,fr,h1,h2⟩)).trans h1,h2⟩
theorem RowE.appended (h:RowE S base e v L w) {X:List (Elem α)} (hrow:w'.ownsRow base e S.m v' (L++X).length ((L++X).flatMap (·.cells))) (hg:w.grownBy w' v.ownBlock)
  (hlen:∀ x∈X,x.cells.length=S.m) (hR:∀ x∈X,S.R w x.cells x.d x.fp) (hlo:∀ x∈X,∀ b∈x.fp,base<=b) (hty:∀ x∈X,∀ b∈x.fp,∃ cur t fr,w.heap[b]?=some (.cells cur t fr)/\t≠e) :
  RowE S base e v' (L++X) w':=by
 have hne:∀ b:Nat,(∃ cur t fr,w.heap[b]?=some (.cells cur t fr)/\t≠e)->w'.heap[b]?=w.heap[b]?:=by
  rintro b ⟨cur,t,fr,h1,h2⟩
  refine hg.block b (Qg h1).1 λ hv=>?_
  rcases h.row.2 with⟨rfl,_⟩ | ⟨g',cap',cur',rfl,_,hg',_⟩
  ·simp [Value.ownBlock] at hv
  ·simp only [Value.ownBlock,Qi] at hv
   subst hv
   rw [h1] at hg'
   simp only [Qi,Obj.cells.injEq] at hg'
   exact h2 hg'.2.1
 refine ⟨hrow,λ x hx=>?_,λ x hx=>?_,λ x hx=>?_,λ x hx b hb=>?_⟩ <;> rcases Qa hx with hx | hx
 ·exact h.len x hx
 ·exact hlen x hx
 ·exact S.frame (λ b hb=>hne b (h.ty x hx b hb)) (h.el x hx)
 ·exact S.frame (λ b hb=>hne b (hty x hx b hb)) (hR x hx)
 ·exact h.lo x hx
 ·exact hlo x hx
 ·obtain⟨cur,t,fr,h1,h2⟩:=h.ty x hx b hb
  exact⟨cur,t,fr,(hne b ⟨cur,t,fr,h1,h2⟩).trans h1,h2⟩
 ·obtain⟨cur,t,fr,h1,h2⟩:=hty x hx b hb
  exact⟨cur,t,fr,(hne b ⟨cur,t,fr,h1,h2⟩).trans h1,h2⟩
end
theorem ZeD {α:Type} {S:Shape α} {P:Program} {t e:TypeId} {z:Value} {bytes:Nat} (ti:TI P t e z S.m bytes) (hzs:z.cells.size=S.m) (h0:0<S.m) (w:World) {L X:List (Elem α)} {ops:Array Oper} {rest:List Oper} {o:Oper} {a:Act} {Q:Exit->Act->World->Prop}
  (hg:o.guard=none) (s y:Operand) (ho:o.op=.call { callee:=.builtin .append,args:=#[s,y],argTypes:=#[t,t] })
  (base:Nat) (v:Value) (hs:a.eval s=v) (hown:RowE S base e v L w) (g m c:Nat) (hy:a.eval y=.slice (some ⟨g,0,none⟩) m c) (hm:X.length=m)
  (hlen:∀ x∈X,x.cells.length=S.m) (h1:∀ x∈X,∀ u∈x.cells,u.oneCell'=true) (hcell:∀ j u,(X.flatMap (·.cells))[j]?=some u->w.cell? ⟨g,j,none⟩=some u)
  (hR:∀ x∈X,S.R w x.cells x.d x.fp) (hlo:∀ x∈X,∀ b∈x.fp,base<=b) (hty:∀ x∈X,∀ b∈x.fp,∃ cur t fr,w.heap[b]?=some (.cells cur t fr)/\t≠e)
  (h63:L.length+m<=maxLen) (hbytes:(L.length+m) * bytes<=140737488355328) (hbase:base<=w.heap.size)
  (h:∀ v' w',RowE S base e v' (L++X) w'->w.grownBy w' v.ownBlock->wpList P ops Q rest (a.put o.dst v') w'):wpList P ops Q (o::rest) a w:=by
 obtain⟨i,hi,hz0,hz1,hz2⟩:=info_parts ti.2
 subst hm
 refine wpList_append_own _ hg s y t ho base e i z S.m bytes ti.1 hi hz0 hz1 hz2 hzs h0 v L.length _ hs hown.row ⟨g,0,none⟩ X.length c (X.flatMap (·.cells)) hy (ZaT hlen) ?_ ?_ h63 hbytes hbase λ v' w' a b _=>h v' w' ?_ b
 ·intro j u hj
  rw [ZaN,Nat.zero_add]
  exact hcell j u hj
 ·intro u hu
  obtain⟨x,hx,hu⟩:=List.mem_flatMap.1 hu
  exact h1 x hx u hu
 ·refine hown.appended ?_ b hlen hR hlo hty
  rw [List.length_append,List.flatMap_append]
  exact a
section
variable {α:Type} {S:Shape α} {base:Nat} {e:TypeId} {v v':Value} {L:List (Elem α)} {w w':World}
theorem RowE.lit (X:List (Elem α)) (hlen:∀ x∈X,x.cells.length=S.m) (hR:∀ x∈X,S.R w x.cells x.d x.fp) (hlo:∀ x∈X,∀ b∈x.fp,base<=b) (hty:∀ x∈X,∀ b∈x.fp,∃ cur t fr,w.heap[b]?=some (.cells cur t fr)/\t≠e)
  (hb:base<=w.heap.size) (hn:X.length<=1000000):RowE S base e (.slice (some ⟨w.heap.size,0,none⟩) X.length X.length) X (w.alloc (.cells (X.flatMap (·.cells)).toArray e)) where
 row:=World.ownsRow_lit (base:=base) (e:=e) (size:=S.m) w (X.flatMap (·.cells)).toArray X.length hb (by unfold maxLen;omega) (by simpa using ZaT hlen)
 len:=hlen
 el:=λ x hx=>S.below (hR x hx) (Zab _ _)
 lo:=hlo
 ty:=λ x hx b hb'=>by
  obtain⟨cur,t,fr,h1,h2⟩:=hty x hx b hb'
  exact⟨cur,t,fr,((Zab w _).block b (Qg h1).1).trans h1,h2⟩
theorem RowE.read (h:RowE S base e v L w):∃ fp,(Zaa S).R w [v] (L.map (·.d)) fp/\∀ b∈fp,base<=b:=by
 obtain⟨fp,h1,h2,_⟩:=Za7 h.row λ x hx=>⟨h.len x hx,h.el x hx⟩
 refine ⟨fp,h1,λ b hb=>?_⟩
 rcases h2 b hb with h3 | h3
 ·exact h.mine b h3
 ·obtain⟨x,hx,hb'⟩:=List.mem_flatMap.1 h3
  exact h.lo x hx b hb'
end
def At (Ps:List (Value->World->Prop)) (i:Nat) (v:Value) (w:World):Prop:=∀ p,Ps[i]?=some p->p v w
theorem ZkL {n:Nat} {xs:List Value} (h:xs.length=n+1):∃ x t,xs=x::t/\t.length=n:=by
 cases xs with
 | nil=>simp at h
 | cons x t=>exact⟨x,t,rfl,by simpa using h⟩
theorem len1 {xs:List Value} (h:xs.length=1):∃ x0,xs=[x0]:=by
 obtain⟨x,t,rfl,ht⟩:=ZkL (n:=0) h
 exact⟨x,by rw [List.eq_nil_of_length_eq_zero ht]⟩
def jRd (rb p0:Nat) (w0:World) (m:Nat) (w:World):Prop:=(∃ p,p<=p0+m/\Rd w rb p)/\Kept [rb] w0 w
theorem jRd.same {rb p0 m:Nat} {w0 w:World} (h:jRd rb p0 w0 m w):jRd rb p0 w0 (m+1) w:=by
 obtain⟨⟨p,h1,h2⟩,h3⟩:=h
 exact⟨⟨p,by omega,h2⟩,h3⟩
theorem jRd.alloc {rb p0 m:Nat} {w0 w:World} (h:jRd rb p0 w0 m w) (o:Obj):jRd rb p0 w0 (m+1) (w.alloc o):=by
 obtain⟨⟨p,h1,h2⟩,h3⟩:=h
 have hb:=(Below.refl w.heap.size w).alloc (Nat.le_refl _) o
 exact⟨⟨p,by omega,h2.grow hb⟩,h3.trans (Kept.of_below hb)⟩
theorem jRd.lt {rb p0 m:Nat} {w0 w:World} (h:jRd rb p0 w0 m w):rb<w.heap.size:=by
 obtain⟨⟨p,h1,h2⟩,h3⟩:=h
 exact h2.lt
theorem At.mk {Ps:List (Value->World->Prop)} {i:Nat} {p:Value->World->Prop} {v:Value} {w:World} (h:Ps[i]?=some p) (hp:p v w):At Ps i v w:=by
 intro q hq
 rw [h] at hq
 cases hq
 exact hp
theorem jRd.top {rb p0 m B:Nat} {w00 w0 w:World} (h:jRd rb p0 w0 m w) (hb:Below B w00 w0) (hr:B<=rb) (hs:B<=w0.heap.size):Below B w00 w:=ZlD hb h.2 hr hs
def jOwn (rb p0:Nat) (w0:World) (B:Nat) (v:Value) (L:List ByteArray) (k N M:Nat) (m:Nat) (w:World):Prop:=
 (∃ p,p<=p0+m/\Rd w rb p)/\Below w0.heap.size w0 w /\
  (w.ownsRow B 9 1 v L.length (L.map Value.string)\/m=N/\∃ s:ByteArray,s.size<=M/\w.ownsRow B 9 1 v L.length ((L.set k s).map Value.string))
section
variable {rb p0 B k N M m:Nat} {w0 w w':World} {v:Value} {L:List ByteArray}
theorem jOwn.row (h:jOwn rb p0 w0 B v L k N M m w) (hm:m<N):w.ownsRow B 9 1 v L.length (L.map Value.string):=by
 rcases h.2.2 with h | ⟨h,_⟩
 ·exact h
 ·omega
theorem jOwn.same (h:jOwn rb p0 w0 B v L k N M m w) (hm:m<N):jOwn rb p0 w0 B v L k N M (m+1) w:=by
 obtain⟨p,h1,h2⟩:=h.1
 exact⟨⟨p,by omega,h2⟩,h.2.1,.inl (h.row hm)⟩
theorem jOwn.alloc (h:jOwn rb p0 w0 B v L k N M m w) (hm:m<N) (o:Obj):jOwn rb p0 w0 B v L k N M (m+1) (w.alloc o):=by
 obtain⟨p,h1,h2⟩:=h.1
 have hb:=(Below.refl w.heap.size w).alloc (Nat.le_refl _) o
 exact⟨⟨p,by omega,h2.grow hb⟩,h.2.1.alloc h.2.1.size o,.inl ((h.row hm).alloc o)⟩
theorem Rd.kept {rb p:Nat} {fp:List Nat} {w w':World} (h:Rd w rb p) (hk:Kept fp w w') (hf:∀ b∈fp,rb<b):Rd w' rb p:=by
 have hlt:=h.lt
 obtain⟨⟨a,l,cap,fq,h1,h2,h3,h4⟩,h5⟩:=h
 refine ⟨⟨a,l,cap,fq,(hk.block rb hlt (λ hx=>by have:=hf rb hx;omega)).trans h1,(Zaa sByte).kept h2 (λ b hb hx=>by have:=hf b hx;have:=h3 b hb;omega) hk,h3,h4⟩,h5⟩
theorem jOwn.store {g cap n:Nat} {s:ByteArray} (h:jOwn rb p0 w0 B (.slice (some ⟨g,0,none⟩) n cap) L k N M m w) (hm:m<N) (hN:m+1=N) (hs:s.size<=M) (hrb:rb<B) (hg:B<=g) (hw0:w0.heap.size<=B) :
  jOwn rb p0 w0 B (.slice (some ⟨g,0,none⟩) n cap) L k N M (m+1) (w.setCell ⟨g,k,none⟩ (.string s)):=by
 obtain⟨p,h1,h2⟩:=h.1
 have hrow:=h.row hm
 have hn:L.length=n:=by
  rcases hrow.2 with⟨h',_⟩ | ⟨g',cap',cur,h',_⟩
  ·cases h'
  ·simp only [Value.slice.injEq] at h';exact h'.2.1.symm
 subst hn
 have hk:Kept [g] w (w.setCell ⟨g,k,none⟩ (.string s)):=(Kept.refl _ _).setCell (by simp) _
 refine ⟨⟨p,by omega,h2.kept hk (λ b hb=>by have e:b=g:=(by simpa using hb);omega)⟩,h.2.1.trans (hk.below (λ b hb=>by have e:b=g:=(by simpa using hb);omega) h.2.1.size),.inr ⟨hN,s,hs,?_⟩⟩
 have:=(hrow.stored k (.string s)).1
 rw [List.map_set]
 exact this
end
theorem ti_bytes:TI Tryz.prog 22 5 (.int .u8 0) 1 1:=⟨by kernel_rfl,by kernel_rfl⟩
def Bytes (base:Nat) (v:Value) (s:ByteArray) (w:World):Prop:=w.ownsRow base 5 1 v s.size (Lib.strCells s)
theorem ZhJ (a b:ByteArray):Lib.strCells (a++b)=Lib.strCells a++Lib.strCells b:=by
 simp [Lib.strCells,ByteArray.data_append]
theorem Bytes.none (base:Nat) (w:World):Bytes base (.slice Option.none 0 0) ⟨#[]⟩ w:=World.ownsRow_nil _ _ _ _
theorem ZbT {w0:World} {ops:Array Oper} {rest:List Oper} {o:Oper} {a:Act} {Q:Exit->Act->World->Prop} (hg:o.guard=Option.none) (s y:Operand)
  (ho:o.op=.call { callee:=.builtin .append,args:=#[s,y],argTypes:=#[22,22] })
  (base:Nat) (v:Value) (x b:ByteArray) (c:Int) (hs:a.eval s=v) (hown:Bytes base v x w0) (hy:a.eval y=.slice (some ⟨w0.heap.size,0,Option.none⟩) 1 1) (hb:Lib.strCells b=[.int .u8 c]) (h63:x.size<=1000000) (hbase:base<=w0.heap.size)
  (h:∀ v' w',Bytes base v' (x++b) w'->w0.grownBy w' v.ownBlock->wpList Tryz.prog ops Q rest (a.put o.dst v') w'):wpList Tryz.prog ops Q (o::rest) a (w0.alloc (.cells #[.int .u8 c] 5)):=by
 have hb1:b.size=1:=by have:=congrArg List.length hb;rwa [Lib.strCells_length] at this
 refine Zdt ti_bytes rfl w0 (.int .u8 c) rfl hg s y ho base v x.size (Lib.strCells x) hs hown hy (by unfold maxLen;omega) (by omega) hbase λ v' w' h1 h2=>h v' w' ?_ h2
 unfold Bytes
 rw [ZhJ,ByteArray.size_append,hb,hb1]
 exact h1
theorem ZkM (s:ByteArray) (k:Nat) (h:k<s.size):Lib.strCells (s.extract k (k+1))=[.int .u8 (s[k].toNat:Int)]:=by
 have e:s.data.toList.length=s.size:=Array.length_toList
 unfold Lib.strCells
 rw [ByteArray.data_extract,Array.toList_extract,List.extract_eq_take_drop,List.drop_eq_getElem_cons (by omega),show k+1-k=1 from by omega]
 simp [ByteArray.getElem_eq_getElem_data]
theorem Zio {base:Nat} {v:Value} {s:ByteArray} {w:World} (h:Bytes base v s w):(convert 22 9 v).run Tryz.prog w=.ok (.string s) w:=by
 rcases h.2 with⟨rfl,h0⟩ | ⟨g,cap,cur,rfl,hb,hg,hnc,hcm,hcs,htake⟩
 ·rw [run_convert_bytes_string _ _ _ 5 _ 0 0 Tryz.underlying22 Tryz.underlying5 Tryz.underlying9]
  have:s=⟨#[]⟩:=by apply Go.WideShapes.bytes_inj;rw [← List.length_eq_zero_iff,Array.length_toList];exact h0
  subst this
  simp [Conv.bytesToString,loadCells]
  rfl
 ·have hl:s.data.toList.length=s.size:=Array.length_toList
  have:=run_convert_bytes_back (P:=Tryz.prog) w 22 9 5 ⟨g,0,Option.none⟩ cap s.data.toList Tryz.underlying22 Tryz.underlying5 Tryz.underlying9 (λ j hj=>by
   have h1:=h.cellAt j (by omega)
   have h2:(Lib.strCells s)[j]?=some (.int .u8 (s.data.toList[j].toNat:Int)):=by simp [Lib.strCells,List.getElem?_eq_getElem hj]
   rw [Addr.add_lit,Nat.zero_add]
   exact h1.trans h2)
  rw [hl] at this
  simpa using this
end Go.Proofs.YtiaiggjfepoahaaGreat
