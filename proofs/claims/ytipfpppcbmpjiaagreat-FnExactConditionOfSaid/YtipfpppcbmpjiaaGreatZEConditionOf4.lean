/- Texts that the proof of EConditionOf stands on, in one file. -/
import Derived.Test.YtipfpppcbmpjiaaGreatZEConditionOf3
import Derived.Deep.RegionHeld3
import Derived.Deep.QuietTactic
import Derived.BigQuiet
import Derived.Outline
import Derived.StillTailTactics
set_option linter.unusedVariables false
set_option maxHeartbeats 16000000
set_option maxRecDepth 100000
set_option linter.unusedSimpArgs false
/- A row of structs that a call makes and fills, element by element. Over any program. -/
namespace Go.Proofs.YtipfpppcbmpjiaaGreat
open Go.RowKit
theorem Zb2 (w:World) (c0 c1:Array Value) (t0 t1:TypeId) :
  ((w.alloc (.cells c0 t0)).alloc (.cells c1 t1)).heap[w.heap.size]?=some (.cells c0 t0 (0,0)) /\
  ((w.alloc (.cells c0 t0)).alloc (.cells c1 t1)).heap[w.heap.size+1]?=some (.cells c1 t1 (0,0)):=by
 refine ⟨?_,?_⟩
 ·show ((w.heap.push _).push _)[_]?=_
  rw [Array.getElem?_push,if_neg (by simp),Array.getElem?_push,if_pos rfl]
 ·show ((w.heap.push _).push _)[_]?=_
  rw [Array.getElem?_push,if_pos (by simp)]
def Zdt (w:World) (b:Nat):Nat->List Value->World
 | _,[]=>w
 | o,c::cs=>Zdt (w.setCell ⟨b,o,none⟩ c) b (o+1) cs
def Zbr:List Value->Nat->List Value->List Value
 | xs,_,[]=>xs
 | xs,o,c::cs=>Zbr (xs.set o c) (o+1) cs
theorem Zbw:∀ (cs A Z R:List Value),Z.length=cs.length->Zbr (A++(Z++R)) A.length cs=A++(cs++R)
 |
  [],A,Z,R,h=>by
  have:Z=[]:=by simpa using h
  subst this;simp [Zbr]
 | c::cs,A,[],R,h=>by simp at h
 |
  c::cs,A,z::Z,R,h=>by
  unfold Zbr
  have e:(A++(z::Z++R)).set A.length c=(A++[c])++(Z++R):=by simp
  rw [e]
  have e2:A.length+1=(A++[c]).length:=by simp
  rw [e2,Zbw cs (A++[c]) Z R (by simpa using h)]
  simp
theorem ZbK {base e size n cap g:Nat}:∀ (cs:List Value) (w:World) (xs:List Value) (o:Nat),w.ownsRow base e size (.slice (some ⟨g,0,none⟩) n cap) n xs ->
  (Zdt w g o cs).ownsRow base e size (.slice (some ⟨g,0,none⟩) n cap) n (Zbr xs o cs)
 | [],_,_,_,h=>h
 | c::cs,w,xs,o,h=>ZbK cs _ _ (o+1) (h.stored o c).1
theorem ZdX {B g:Nat} {a:World} (hg:B<=g):∀ (cs:List Value) (w:World) (o:Nat),Below B a w->Below B a (Zdt w g o cs)
 | [],_,_,h=>h
 | c::cs,w,o,h=>ZdX hg cs _ (o+1) (h.setCell (p:=⟨g,o,none⟩) hg c)
theorem Zbx {g:Nat}:∀ (cs:List Value) (w:World) (o:Nat),Kept [g] w (Zdt w g o cs)
 | [],w,_=>Kept.refl _ w
 | c::cs,w,o=>((Kept.refl [g] w).setCell (p:=⟨g,o,none⟩) (by simp) c).trans (Zbx cs _ (o+1))
structure Filling {α:Type} (S:Shape α) (g:Nat) (e:TypeId) (l:List α) (k:Nat) (w:World) (L:List (Elem α)) (R:List Value):Prop where
 row:w.ownsRow g e S.m (.slice (some ⟨g,0,none⟩) l.length l.length) l.length (L.flatMap (·.cells)++R)
 dat:L.map (·.d)=l.take k
 len:∀ x∈L,x.cells.length=S.m
 el:∀ x∈L,S.R w x.cells x.d x.fp
 own:Own w (g+1) (L.flatMap (·.fp))
section
variable {α:Type} {S:Shape α} {g e:Nat} {l:List α} {k:Nat} {w w':World} {L:List (Elem α)} {R:List Value}
theorem Filling.start {xs:List Value} (h:w.ownsRow g e S.m (.slice (some ⟨g,0,none⟩) l.length l.length) l.length xs):Filling S g e l 0 w [] xs:=
 ⟨by simpa using h,by simp,by simp,by simp,Own.nil _ _⟩
theorem Filling.count (h:Filling S g e l k w L R) (hk:k<=l.length):L.length=k:=by
 have:=congrArg List.length h.dat
 simpa [hk] using this
theorem Filling.cells (h:Filling S g e l k w L R) (hk:k<=l.length):(L.flatMap (·.cells)).length=k * S.m:=by rw [ZaU h.len,h.count hk]
theorem Filling.rest (h:Filling S g e l k w L R) (hk:k<=l.length):R.length=(l.length-k) * S.m:=by
 have h1:=h.row.1
 rw [List.length_append,h.cells hk] at h1
 have:(l.length-k) * S.m=l.length * S.m-k * S.m:=Nat.sub_mul _ _ _
 omega
theorem Filling.lt (h:Filling S g e l k w L R):g<w.heap.size:=(h.row.lt g rfl).2
theorem Filling.below (h:Filling S g e l k w L R) (hb:Below w.heap.size w w'):Filling S g e l k w' L R where
 row:=by
  refine ⟨h.row.1,?_⟩
  rcases h.row.2 with h0 | ⟨g',cap,cur,h1,h2,h3,h4⟩
  ·exact .inl h0
  ·exact .inr ⟨g',cap,cur,h1,h2,(hb.block g' (Qg h3).1).trans h3,h4⟩
 dat:=h.dat
 len:=h.len
 el:=λ x hx=>S.below (h.el x hx) hb
 own:=h.own.grow hb
theorem Filling.cell (h:Filling S g e l k w L R) (hk:k<l.length) {j:Nat} (hj:j<S.m):∃ u,w.cell? ⟨g,k * S.m+j,none⟩=some u:=by
 have h1:(k+1) * S.m<=l.length * S.m:=Nat.mul_le_mul_right _ hk
 rw [Nat.succ_mul] at h1
 rw [h.row.cellAt (k * S.m+j) (by omega),List.getElem?_append_right (by rw [h.cells (by omega)];omega),h.cells (by omega)]
 have h2:=h.rest (by omega)
 have h3:(l.length-k) * S.m=l.length * S.m-k * S.m:=Nat.sub_mul _ _ _
 exact⟨R[k * S.m+j-k * S.m]'(by omega),List.getElem?_eq_getElem _⟩
theorem Filling.frozen (h:Filling S g e l k w L R) (o:Nat):w.frozen? ⟨g,o,none⟩=false:=h.row.frozenAt o
theorem Filling.next {cs:List Value} {fp:List Nat} {w0:World} (h0:Filling S g e l k w0 L R) (hk:k<l.length) (hb:Below w0.heap.size w0 w) (hlen:cs.length=S.m) (hR:S.R w cs l[k] fp) (ho:Own w w0.heap.size fp) :
  ∃ R',Filling S g e l (k+1) (Zdt w g (k * S.m) cs) (L++[⟨cs,l[k],fp⟩]) R':=by
 have h:=h0.below hb
 have hg0:=h0.lt
 have hap:∀ x∈L,∀ b∈x.fp,b∈L.flatMap (·.fp):=λ x hx b hb'=>List.mem_flatMap.2 ⟨x,hx,hb'⟩
 have hn:∀ b∈L.flatMap (·.fp),b∉[g]:=λ b hb'=>by have:=(h.own.2 b hb').1;simp;omega
 have hn2:∀ b∈fp,b∉[g]:=λ b hb'=>by have:=(ho.2 b hb').1;simp;omega
 have hK:=Zbx (g:=g) cs w (k * S.m)
 have hr:=h.rest (by omega)
 have hsp:(l.length-k) * S.m=S.m+(l.length-(k+1)) * S.m:=by rw [show l.length-k=(l.length-(k+1))+1 by omega,Nat.succ_mul];omega
 refine ⟨R.drop S.m,⟨?_,?_,λ x hx=>?_,λ x hx=>?_,?_⟩⟩
 ·have:=ZbK cs w _ (k * S.m) h.row
  have e1:L.flatMap (·.cells)++R=L.flatMap (·.cells)++(R.take S.m++R.drop S.m):=by rw [List.take_append_drop]
  rw [e1,← h.cells (by omega),Zbw cs _ (R.take S.m) (R.drop S.m) (by rw [List.length_take,hlen];omega)] at this
  rw [List.flatMap_append,List.flatMap_cons,List.flatMap_nil,List.append_nil,List.append_assoc,← h.cells (by omega)]
  exact this
 ·rw [List.map_append,h.dat,List.take_succ_eq_append_getElem hk];rfl
 ·rcases Qa hx with hx | hx
  ·exact h.len x hx
  ·obtain rfl:=Qm hx;exact hlen
 ·rcases Qa hx with hx | hx
  ·exact S.kept (h.el x hx) (λ b hb'=>hn b (hap x hx b hb')) hK
  ·obtain rfl:=Qm hx
   exact S.kept hR hn2 hK
 ·rw [List.flatMap_append,List.flatMap_cons,List.flatMap_nil,List.append_nil]
  refine Own.app (h.own.kept hn hK) ((Own.lower ho (by omega)).kept hn2 hK) λ b hb1 hb2=>?_
  have h1:=(ho.2 b hb2).1
  have h2:=h0.own.lt b hb1
  omega
theorem Filling.done (h:Filling S g e l k w L R) (hk:l.length=k):∃ fp,(Zaa S).R w [.slice (some ⟨g,0,none⟩) l.length l.length] l fp/\Own w g fp:=by
 have hc:=h.count (by omega)
 have hr:R=[]:=by
  have:=h.rest (by omega)
  rw [hk,Nat.sub_self,Nat.zero_mul] at this
  exact List.length_eq_zero_iff.1 this
 have hd:=h.dat
 rw [List.take_of_length_le (by omega)] at hd
 have hrow:=h.row
 rw [hr,List.append_nil] at hrow
 have hL:L.length=l.length:=by omega
 rw [← hL] at hrow
 obtain⟨fp,h1,h2,h3⟩:=Za7 hrow (λ x hx=>⟨h.len x hx,h.el x hx⟩)
 rw [hd,hL] at h1
 exact⟨fp,h1,h3 (Own.lower h.own (by omega)) (λ g' hg' hx=>by
  simp only [Value.ownBlock,Qi] at hg'
  have:=(h.own.2 g' hx).1
  omega)⟩
end
theorem ZfU {α:Type} (f:α->Nat) (l:List α) (k:Nat) (h:k<l.length):((l.take (k+1)).map f).sum=((l.take k).map f).sum+f l[k]:=by
 rw [List.take_succ_eq_append_getElem h];simp only [List.map_append,List.sum_append,List.map_cons,List.map_nil,List.sum_cons,List.sum_nil,Nat.add_zero]
theorem Zik {α:Type} (f:α->Nat) (l:List α) (k:Nat):((l.take k).map f).sum<=(l.map f).sum:=by
 have:=congrArg (λ l:List α=>(l.map f).sum) (List.take_append_drop k l)
 simp only [List.map_append,List.sum_append] at this
 omega
theorem ZeN {α:Type} (f:α->Nat) (l:List α) (k:Nat) (h:k<l.length):f l[k]<=(l.map f).sum:=by
 have h1:=ZfU f l k h
 have h2:=Zik f l (k+1)
 omega
def MadeC {α:Type} (S:Shape α) (d:α) (w:World) (e:Ending) (w':World):Prop:=
 ∃ cs fp,e=.returned (.agg cs.toArray)/\S.R w' cs d fp/\Own w' w.heap.size fp/\Below w.heap.size w w'
theorem Zcy (w:World) (c0 c1 c2:Array Value) (t0 t1 t2:TypeId) :
  (((w.alloc (.cells c0 t0)).alloc (.cells c1 t1)).alloc (.cells c2 t2)).heap[w.heap.size]?=some (.cells c0 t0 (0,0)):=by
 show (((w.heap.push _).push _).push _)[_]?=_
 rw [Array.getElem?_push,if_neg (by simp;omega),Array.getElem?_push,if_neg (by simp),Array.getElem?_push,if_pos rfl]
theorem ZjW (w:World) (p:Addr) (v:Value):(w.setCell p v).heap.size=w.heap.size:=by simp [World.setCell]
theorem ZjX (cs1 cs2:List Value) (x:Tok) (fp1 fp2:List Nat) (w:World) (H1:sTok.R w cs1 x fp1) (H2:sTok.R w cs2 x fp2) :
  Calls Tryz.prog 28 #[.agg cs1.toArray,.agg cs2.toArray] w λ e w'=>e=.returned (.bool true)/\Below w.heap.size w w':=by
 obtain⟨h1,rfl,_,_,K1⟩:=H1
 obtain⟨h2,rfl,_,_,K2⟩:=H2
 have b0:=Zab w (.cells #[.int .i64 x.kind,.string x.text,.bool x.spaced,h1] 32)
 have b1:=b0.trans ((Zab (w.alloc (.cells #[.int .i64 x.kind,.string x.text,.bool x.spaced,h1] 32)) (.cells #[.int .i64 x.kind,.string x.text,.bool x.spaced,h2] 32)).mono b0.size)
 have HC:Hid (∀ W,Below w.heap.size w W->Calls Tryz.prog 52 #[h1,h2] W λ e w'=>e=.returned (.bool true)/\Below W.heap.size W w'):=λ W hb=>ZeI h1 h2 x.hidden fp1 fp2 W ((Zaa sStr).below K1 hb) ((Zaa sStr).below K2 hb)
 have e1:(x.kind != x.kind)=false:=by simp
 have e2:=Zbm (rfl:x.text=x.text)
 have e3:(x.spaced != x.spaced)=false:=by simp
 go_enter Tryz.func28,Tryz.ntmps28
 go_wp2_with (go_at_call 52;refine (HC.out _ b1).mono ?_;rintro e w1 ⟨rfl,hb1⟩)
 go_ret
 exact⟨rfl,b1.trans (hb1.mono b1.size)⟩
theorem ZfC (v1 v2:Value) (l:List Tok) (fp1 fp2:List Nat) (w:World) (H1:(Zaa sTok).R w [v1] l fp1) (H2:(Zaa sTok).R w [v2] l fp2) :
  Calls Tryz.prog 14 #[v1,v2] w λ e w'=>e=.returned (.bool true)/\Below w.heap.size w w':=by
 obtain⟨a1,cap1,rfl,hc1,hm1,hrow1⟩:=Zac H1
 obtain⟨a2,cap2,rfl,hc2,hm2,hrow2⟩:=Zac H2
 unfold maxLen at hm1 hm2
 have hnb:((l.length:Int) != (l.length:Int))=false:=by simp
 go_enter Tryz.func14,Tryz.ntmps14
 go_wp2
 go_loopw [5] (λ i wr=>∃ k:Nat,k<=l.length/\i=.int .i64 k/\Below w.heap.size w wr) (λ i _=>l.length-(intOf i).toNat)
 case atStart=>exact⟨0,by omega,rfl,Below.refl _ _⟩
 case round =>
  obtain⟨k,hk,rfl,hb⟩:=hrel
  by_cases hlt:k<l.length
  ·obtain⟨b1,off1,fps1,rfl,hb1,rfl,he1⟩:=hrow1 (by omega)
   obtain⟨b2,off2,fps2,rfl,hb2,rfl,he2⟩:=hrow2 (by omega)
   obtain⟨es1,hE1,hR1⟩:=he1 k hlt
   obtain⟨es2,hE2,hR2⟩:=he2 k hlt
   clear hrow1 hrow2 he1 he2 H1 H2
   have hR1':=hR1
   have hR2':=hR2
   obtain⟨h1,rfl,_,_,K1⟩:=hR1'
   obtain⟨h2,rfl,_,_,K2⟩:=hR2'
   have hE1':=hE1.frame (hb.block b1 hb1)
   have hE2':=hE2.frame (hb.block b2 hb2)
   have HC:Hid (∀ W,Below wr.heap.size wr W->Calls Tryz.prog 28 #[.agg #[.int .i64 l[k].kind,.string l[k].text,.bool l[k].spaced,h1],.agg #[.int .i64 l[k].kind,.string l[k].text,.bool l[k].spaced,h2]] W λ e w'=>e=.returned (.bool true)/\Below W.heap.size W w'):=λ W hW=>ZjX _ _ l[k] _ _ W (sTok.below (sTok.below hR1 hb) hW) (sTok.below (sTok.below hR2 hb) hW)
   have c10:wr.cell? ⟨b1,off1+k * 4,none⟩=some _:=Zam hE1' (by decide) rfl
   have c11:wr.cell? ⟨b1,off1+k * 4+1,none⟩=some _:=Zae (j:=1) hE1' (by decide) rfl
   have c12:wr.cell? ⟨b1,off1+k * 4+2,none⟩=some _:=Zae (j:=2) hE1' (by decide) rfl
   have c13:wr.cell? ⟨b1,off1+k * 4+3,none⟩=some _:=Zae (j:=3) hE1' (by decide) rfl
   have c20:wr.cell? ⟨b2,off2+k * 4,none⟩=some _:=Zam hE2' (by decide) rfl
   have c21:wr.cell? ⟨b2,off2+k * 4+1,none⟩=some _:=Zae (j:=1) hE2' (by decide) rfl
   have c22:wr.cell? ⟨b2,off2+k * 4+2,none⟩=some _:=Zae (j:=2) hE2' (by decide) rfl
   have c23:wr.cell? ⟨b2,off2+k * 4+3,none⟩=some _:=Zae (j:=3) hE2' (by decide) rfl
   go_wp2_with fail
   go_still_tail 8,(by kernel_rfl)
   change wpList _ _ _ _ _ wr.drew
   have hd:Below wr.heap.size wr wr.drew:=Zag (Below.refl _ _) 1
   generalize wr.drew=w2 at *
   go_wp2_with (go_at_call 28;refine (HC.out _ hd).mono ?_;rintro e w3 ⟨rfl,hb3⟩)
   go_roundw
   case rel=>exact⟨k+1,by omega,by go_num,(hb.trans (hd.mono hb.size)).trans (hb3.mono (Nat.le_trans hb.size hd.size))⟩
   case measure=>simp [intOf];omega
  ·go_wp2
   go_ret
   exact⟨rfl,hb⟩
def ZaQ (x:Tok):Nat:=x.text.size+ZaY x.hidden
theorem szToken (cs:List Value) (x:Tok) (fp:List Nat) (w:World) (B:Int) (h0:0<=B) (h1:B<=1048576) (H:sTok.R w cs x fp) :
  Calls Tryz.prog 24 #[.agg cs.toArray,.int .i64 B] w λ e w'=>∃ r:Int,e=.returned (.int .i64 r)/\SzR B r (ZaQ x)/\Below w.heap.size w w':=by
 obtain⟨h,rfl,_,hok,K⟩:=H
 unfold okStr maxLen at hok
 have b0:=Zab w (.cells #[.int .i64 x.kind,.string x.text,.bool x.spaced,h] 54)
 by_cases ht:B<x.text.size
 ·have HN:Hid (SzR B (-1) (ZaQ x)):=SzR.no (by unfold ZaQ;omega)
  go_enter Tryz.func24,Tryz.ntmps24
  go_wp2
  go_ret
  exact⟨-1,rfl,HN.out,b0⟩
 ·have HC:Hid (∀ W,Below w.heap.size w W->Calls Tryz.prog 50 #[h,.int .i64 (B-x.text.size)] W λ e w'=>∃ r:Int,e=.returned (.int .i64 r)/\SzR (B-x.text.size) r (ZaY x.hidden)/\W=w'):=λ W hb=>Zi2 h x.hidden fp W (B-x.text.size) (by omega) (by omega) ((Zaa sStr).below K hb)
  go_enter Tryz.func24,Tryz.ntmps24
  go_wp2_with fail
  refine (HC.out _ b0).mono ?_
  rintro e w1 ⟨r,rfl,hr,rfl⟩
  by_cases hn:r<0
  ·have HN:Hid (SzR B (-1) (ZaQ x)):=by
    refine SzR.no ?_
    unfold SzR at hr;unfold ZaQ;split at hr <;> omega
   go_wp2
   go_ret
   exact⟨-1,rfl,HN.out,b0⟩
  ·have hg:=hr.good hn
   have hl:=hr.le (by omega)
   have HN:Hid (SzR B r (ZaQ x)):=SzR.yes (by unfold ZaQ;omega) (by unfold ZaQ;omega)
   clear hg hr
   go_wp2
   go_ret
   exact⟨r,rfl,HN.out,b0⟩
theorem toToken (cs:List Value) (x:Tok) (fp:List Nat) (w:World) (hW:ZaQ x<=1048576) (H:sTok.R w cs x fp) :
  Calls Tryz.prog 26 #[.agg cs.toArray] w (MadeC sTok x w):=by
 obtain⟨h,rfl,hk,hok,K⟩:=H
 have hW':ZaY x.hidden<=1048576:=by unfold ZaQ at hW;omega
 have HC:Hid (∀ W,Below w.heap.size w W->Calls Tryz.prog 51 #[h] W (Made (Zaa sStr) x.hidden W)):=λ W hb=>Zi3 h x.hidden fp W hW' ((Zaa sStr).below K hb)
 go_enter Tryz.func26,Tryz.ntmps26
 have b3:=ZeL w #[.int .i64 x.kind,.string x.text,.bool x.spaced,h] #[.int .i64 0,.string ⟨#[]⟩,.bool false,.slice none 0 0] #[.int .i64 x.kind,.string x.text,.bool x.spaced,.slice none 0 0] 54 32 32
 obtain⟨g1,g2,g3⟩:=Zcp w #[.int .i64 x.kind,.string x.text,.bool x.spaced,h] #[.int .i64 0,.string ⟨#[]⟩,.bool false,.slice none 0 0] #[.int .i64 x.kind,.string x.text,.bool x.spaced,.slice none 0 0] 54 32 32
 have HG:=Qh (And.intro g1 (And.intro g2 g3))
 clear g1 g2 g3
 go_wp2_with fail
 refine (HC.out _ b3).mono ?_
 rintro e w1 ⟨h1,fp1,rfl,R1,O1,hb1⟩
 have HG1:Hid (w1.heap[w.heap.size+1]?=some (.cells #[.int .i64 0,.string ⟨#[]⟩,.bool false,.slice none 0 0] 32 (0,0))/\w1.heap[w.heap.size+1+1]?=some (.cells #[.int .i64 x.kind,.string x.text,.bool x.spaced,.slice none 0 0] 32 (0,0))):=
  ⟨(hb1.block _ (by rw [HG.out.2.2];omega)).trans HG.out.1,(hb1.block _ (by rw [HG.out.2.2];omega)).trans HG.out.2.1⟩
 have hb:=b3.trans (hb1.mono b3.size)
 have hlo:∀ b∈fp1,w.heap.size+3<=b:=λ b hb=>by have:=(O1.2 b hb).1;rw [HG.out.2.2] at this;omega
 rw [HG.out.2.2] at O1
 clear HG hb1 b3 HC
 obtain⟨a1,cap1,rfl,hq⟩:=Zac R1
 clear hq
 have c10:=Qc 0 HG1.out.1
 have c11:=Qc 1 HG1.out.1
 have c12:=Qc 2 HG1.out.1
 have c13:=Qc 3 HG1.out.1
 have c20:=Qc 0 HG1.out.2
 have c21:=Qc 1 HG1.out.2
 have c22:=Qc 2 HG1.out.2
 have c23:=Qc 3 HG1.out.2
 have f10:=Qf 0 HG1.out.1
 have f11:=Qf 1 HG1.out.1
 have f12:=Qf 2 HG1.out.1
 have f13:=Qf 3 HG1.out.1
 have f23:=Qf 3 HG1.out.2
 have hn1:w.heap.size+1∉fp1:=λ hx=>by have:=hlo _ hx;omega
 have hn2:w.heap.size+1+1∉fp1:=λ hx=>by have:=hlo _ hx;omega
 have HR:=Qh ((Zaa sStr).setB ((Zaa sStr).setB ((Zaa sStr).setB ((Zaa sStr).setB ((Zaa sStr).setB R1 hn2 3 (.slice a1 x.hidden.length cap1)) hn1 0 (.int .i64 x.kind)) hn1 1 (.string x.text)) hn1 2 (.bool x.spaced)) hn1 3 (.slice a1 x.hidden.length cap1))
 have HO:=Qh ((((((O1.lower (by omega:w.heap.size<=w.heap.size+1+1+1)).setCell ⟨w.heap.size+1+1,3,none⟩ (.slice a1 x.hidden.length cap1)).setCell ⟨w.heap.size+1,0,none⟩ (.int .i64 x.kind)).setCell ⟨w.heap.size+1,1,none⟩ (.string x.text)).setCell ⟨w.heap.size+1,2,none⟩ (.bool x.spaced)).setCell ⟨w.heap.size+1,3,none⟩ (.slice a1 x.hidden.length cap1))
 have HB:=Qh (((((hb.setCell (p:=⟨w.heap.size+1+1,3,none⟩) (by simp;omega) (.slice a1 x.hidden.length cap1)).setCell (p:=⟨w.heap.size+1,0,none⟩) (by simp) (.int .i64 x.kind)).setCell (p:=⟨w.heap.size+1,1,none⟩) (by simp) (.string x.text)).setCell (p:=⟨w.heap.size+1,2,none⟩) (by simp) (.bool x.spaced)).setCell (p:=⟨w.heap.size+1,3,none⟩) (by simp) (.slice a1 x.hidden.length cap1))
 have HS:=Qh (Zai (Zai (Zai (Zai (Zaz HG1.out.1 (by omega:w.heap.size+1≠w.heap.size+1+1) 3 (.slice a1 x.hidden.length cap1)) 0 (.int .i64 x.kind)) 1 (.string x.text)) 2 (.bool x.spaced)) 3 (.slice a1 x.hidden.length cap1))
 clear HG1
 go_wp2
 refine bodyPost_ret (results_cell_row rfl _ _ (w.heap.size+1) _ _ _ _ rfl HS.out Tryz.underlying32 rfl (by kernel_rfl)) rfl ?_
 exact⟨[.int .i64 x.kind,.string x.text,.bool x.spaced,.slice a1 x.hidden.length cap1],fp1,rfl,⟨_,rfl,hk,hok,HR.out⟩,HO.out,HB.out⟩
section
variable {H:Type} {enc:TypeId × Value->H} {w:World} {base:Nat} {spare:Nat->Bool} {held:Bool}
theorem ZgO:Opens enc Tryz.prog w base spare held 54 sTok:=
 ZmR Tryz.underlying54 (by kernel_rfl) (by kernel_rfl) (ZmQ Tryz.underlying3) (Zeh Tryz.underlying9) (ZhG Tryz.underlying4) (Zcw Tryz.underlying30 (by kernel_rfl) (by decide) (Zeh Tryz.underlying9))
end
def ZaD (l:List Tok):Nat:=l.length+(l.map ZaQ).sum
theorem ZjY (v:Value) (l:List Tok) (fp:List Nat) (w:World) (B:Int) (h0:0<=B) (h1:B<=1048576) (H:(Zaa sTok).R w [v] l fp) :
  Calls Tryz.prog 10 #[v,.int .i64 B] w λ e w'=>∃ r:Int,e=.returned (.int .i64 r)/\SzR B r (ZaD l)/\Below w.heap.size w w':=by
 obtain⟨a,cap,rfl,hc,hm,hrow⟩:=Zac H
 unfold maxLen at hm
 clear H
 by_cases hl:B<l.length
 ·have HN:Hid (SzR B (-1) (ZaD l)):=SzR.no (by unfold ZaD;omega)
  go_enter Tryz.func10,Tryz.ntmps10
  go_wp2
  go_ret
  exact⟨-1,rfl,HN.out,Below.refl _ _⟩
 ·go_enter Tryz.func10,Tryz.ntmps10
  go_wp2
  go_loopw [1,5] (λ t i wr=>∃ (k:Nat) (r:Int),k<=l.length/\i=.int .i64 k/\t=.int .i64 r/\0<=r/\r<=B/\Hid (r=B-l.length-(((l.take k).map ZaQ).sum:Nat))/\Below w.heap.size w wr) (λ _ i _=>l.length-(intOf i).toNat)
  case atStart=>exact⟨0,_,by omega,rfl,rfl,by omega,by omega,by show _=_;simp,Below.refl _ _⟩
  case round =>
   obtain⟨k,r,hk,rfl,rfl,hr0,hr1,HA,hb⟩:=hrel
   by_cases hlt:k<l.length
   ·obtain⟨b1,off1,fps1,rfl,hb1,-,he1⟩:=hrow (by omega)
    obtain⟨es1,hE1,hR1⟩:=he1 k hlt
    clear hrow he1
    have hR2:=sTok.below hR1 hb
    obtain⟨h1',rfl,_,_,_⟩:=hR1
    have HC:=Qh (szToken _ _ _ wr r hr0 (by omega) hR2)
    clear hR2
    replace hE1:=hE1.frame (hb.block b1 hb1)
    have c10:wr.cell? ⟨b1,off1+k * 4,none⟩=some _:=Zam hE1 (by decide) rfl
    have c11:wr.cell? ⟨b1,off1+k * 4+1,none⟩=some _:=Zae (j:=1) hE1 (by decide) rfl
    have c12:wr.cell? ⟨b1,off1+k * 4+2,none⟩=some _:=Zae (j:=2) hE1 (by decide) rfl
    have c13:wr.cell? ⟨b1,off1+k * 4+3,none⟩=some _:=Zae (j:=3) hE1 (by decide) rfl
    clear hE1
    have HT:=Qh (ZfU ZaQ l k hlt)
    have HT2:=Qh (Zik ZaQ l (k+1))
    go_wp2_with fail
    refine (HC.out).mono ?_
    rintro e w1 ⟨r',rfl,hr',hb2⟩
    clear c10 c11 c12 c13
    by_cases hn:r'<0
    ·have HN:Hid (SzR B (-1) (ZaD l)):=SzR.no (by
      have hx:r<ZaQ l[k]:=by unfold SzR at hr';split at hr' <;> omega
      have:=HT2.out;have:=HT.out;have:=HA.out;unfold ZaD;omega)
     go_wp2
     go_ret
     exact⟨-1,rfl,HN.out,hb.trans (hb2.mono hb.size)⟩
    ·have hg:=hr'.good hn
     have hle:=hr'.le hr0
     have HA':Hid (r'=B-l.length-(((l.take (k+1)).map ZaQ).sum:Nat)):=by
      show _=_
      have:=HT.out;have:=HA.out
      omega
     clear hr' hg
     go_wp2
     go_roundw
     case rel=>exact⟨k+1,_,by omega,by go_num,rfl,by omega,by omega,HA'.out,hb.trans (hb2.mono hb.size)⟩
     case measure=>simp [intOf];omega
   ·have HN:Hid (SzR B r (ZaD l)):=by
     have h:=HA.out
     rw [List.take_of_length_le (by omega)] at h
     exact SzR.yes (by unfold ZaD;omega) (by unfold ZaD;omega)
    go_wp2
    go_ret
    exact⟨r,rfl,HN.out,hb⟩
theorem Ze6 (v:Value) (l:List Tok) (fp:List Nat) (w:World) (hW:ZaD l<=1048576) (H:(Zaa sTok).R w [v] l fp) :
  Calls Tryz.prog 12 #[v] w (Made (Zaa sTok) l w):=by
 have hB:l.length<=1048576:=by unfold ZaD at hW;omega
 have HW:Hid (∀ k,(hk:k<l.length)->ZaQ l[k]<=1048576):=λ k hk=>by have:=ZeN ZaQ l k hk;unfold ZaD at hW;omega
 obtain⟨a,cap,rfl,hc,hm,hrow⟩:=Zac H
 unfold maxLen at hm
 clear H hW
 go_enter Tryz.func12,Tryz.ntmps12
 go_wp2_with (at_make;refine ZcQ ZaG _ rfl _ _ rfl w.heap.size l.length rfl rfl (by omega) (by unfold maxLen;omega) (Nat.le_refl _) ?_;intro w1 hown hgrow)
 have hbel:=(Below.refl w.heap.size w).grown hgrow (Nat.le_refl _) (by simp)
 have HF0:=Filling.start (S:=sTok) (l:=l) hown
 clear hgrow hown
 go_loopw [4] (λ i wr=>∃ (k:Nat) (L:List (Elem Tok)) (R:List Value),k<=l.length/\i=.int .i64 k/\Hid (Filling sTok w.heap.size 32 l k wr L R)/\Below w.heap.size w wr) (λ i _=>l.length-(intOf i).toNat)
 case atStart=>exact⟨0,_,_,by omega,rfl,HF0,hbel⟩
 case round =>
  obtain⟨k,L,R,hk,rfl,HF,hb⟩:=hrel
  clear HF0 hbel
  by_cases hlt:k<l.length
  ·obtain⟨b1,off1,fps1,rfl,hb1,-,he1⟩:=hrow (by omega)
   obtain⟨es1,hE1,hR1⟩:=he1 k hlt
   clear hrow he1
   have hR2:=sTok.below hR1 hb
   obtain⟨h1',rfl,_,_,_⟩:=hR1
   have HC:=Qh (toToken _ _ _ wr (HW.out k hlt) hR2)
   clear hR2
   replace hE1:=hE1.frame (hb.block b1 hb1)
   have c10:wr.cell? ⟨b1,off1+k * 4,none⟩=some _:=Zam hE1 (by decide) rfl
   have c11:wr.cell? ⟨b1,off1+k * 4+1,none⟩=some _:=Zae (j:=1) hE1 (by decide) rfl
   have c12:wr.cell? ⟨b1,off1+k * 4+2,none⟩=some _:=Zae (j:=2) hE1 (by decide) rfl
   have c13:wr.cell? ⟨b1,off1+k * 4+3,none⟩=some _:=Zae (j:=3) hE1 (by decide) rfl
   clear hE1
   go_wp2_with fail
   refine (HC.out).mono ?_
   rintro e w2 ⟨cs,fp2,rfl,hR2,hO2,hb2⟩
   have HN:=Qh (HF.out.next (cs:=cs) hlt hb2 (by obtain⟨_,rfl,_⟩:=hR2;rfl) hR2 hO2)
   obtain⟨h2,rfl,_,_,K2⟩:=hR2
   obtain⟨ah,caph,rfl,-⟩:=Zac K2
   have HF2:=Qh (HF.out.below hb2)
   obtain⟨u0,d0⟩:∃ u,w2.cell? ⟨w.heap.size,k * 4,none⟩=some u:=HF2.out.cell hlt (j:=0) (by decide)
   obtain⟨u1,d1⟩:∃ u,w2.cell? ⟨w.heap.size,k * 4+1,none⟩=some u:=HF2.out.cell hlt (j:=1) (by decide)
   obtain⟨u2,d2⟩:∃ u,w2.cell? ⟨w.heap.size,k * 4+2,none⟩=some u:=HF2.out.cell hlt (j:=2) (by decide)
   obtain⟨u3,d3⟩:∃ u,w2.cell? ⟨w.heap.size,k * 4+3,none⟩=some u:=HF2.out.cell hlt (j:=3) (by decide)
   have f0:=HF2.out.frozen (k * 4)
   have f1:=HF2.out.frozen (k * 4+1)
   have f2:=HF2.out.frozen (k * 4+2)
   have f3:=HF2.out.frozen (k * 4+3)
   clear c10 c11 c12 c13 K2 hO2
   go_wp2
   obtain⟨R',HN⟩:=HN.out
   go_roundw
   case rel=>exact⟨k+1,_,R',by omega,by go_num,HN,ZdX (Nat.le_refl _) [_,_,_,_] _ (k * 4) (hb.trans (hb2.mono hb.size))⟩
   case measure=>simp [intOf];omega
  ·obtain⟨fp',h1,h2⟩:=HF.out.done (by omega)
   go_wp2
   go_ret
   exact⟨_,fp',rfl,h1,h2,hb⟩
theorem Zgp (s:ByteArray) (i j k:Nat) (h:k<(s.extract i j).size):(s.extract i j)[k]=s[i+k]'(by rw [ByteArray.size_extract] at h;omega):=by
 rw [ByteArray.getElem_extract]
def ZjZ (t:Tok):Prop:=∃ h:0<t.text.size,t.kind=cutKind t.text[0]
theorem ZmV (s:ByteArray):∀ (k:Nat) (sp:Bool) (n:Nat) (l:List Tok),toks s k sp n=some l->∀ t∈l,ZjZ t:=by
 intro k sp n
 induction k,sp,n using toks.induct (s:=s) with
 |
  case1 k sp n hk h32 ih =>
  intro l h
  rw [toks,dif_pos hk,if_pos h32] at h
  exact ih l h
 |
  case2 k sp n hk h32 hb =>
  intro l h
  rw [toks,dif_pos hk,if_neg h32,if_pos hb] at h
  exact absurd h (by simp)
 |
  case3 k sp n hk h32 hb ih =>
  intro l h t ht
  rw [toks,dif_pos hk,if_neg h32,if_neg hb] at h
  have hr:=Zbj (s:=s) (k:=k) (by omega)
  rw [Option.map_eq_some_iff] at h
  obtain⟨l',h1,rfl⟩:=h
  rcases List.mem_cons.1 ht with rfl | ht
  ·have hz:0<(s.extract k (Zaw s k).toNat).size:=by rw [ByteArray.size_extract];omega
   refine ⟨hz,?_⟩
   show cutKind s[k]=cutKind (s.extract k (Zaw s k).toNat)[0]
   rw [Zgp];rfl
  ·exact ih l' h1 t ht
 |
  case4 k sp n hk =>
  intro l h
  rw [toks,dif_neg hk] at h
  simp only [Qi] at h
  subst h;simp
theorem ZgP (s:ByteArray):∀ t∈(Zar s).1,ZjZ t:=by
 rcases hr:Zar s with⟨l,ok⟩
 cases ok
 ·obtain rfl:=ZfP hr
  simp
 ·exact ZmV s 0 false 0 l (Zcx hr).1
theorem ZhM {x:ByteArray} {k:Int} (h:Zak x k=true):∃ t,Zar x=([t],true)/\t.kind=k/\t.text=x:=by
 rcases ZcD x k with⟨_,HG⟩ | ⟨l,_,_,HG⟩ | ⟨t',_,_,HG⟩ | ⟨t',_,_,_,HG⟩ | ⟨t',hr,hk,hx,_,_⟩
 ·exact absurd (HG.out.symm.trans h) (by simp)
 ·exact absurd (HG.out.symm.trans h) (by simp)
 ·exact absurd (HG.out.symm.trans h) (by simp)
 ·exact absurd (HG.out.symm.trans h) (by simp)
 ·exact⟨t',hr,hk,hx⟩
theorem ZaP {t:Tok} (h:tokOk t=true):ZjZ t/\t.text.size<=200:=by
 unfold tokOk at h
 rw [Bool.and_eq_true] at h
 obtain⟨u,hr,hk,hx⟩:=ZhM h.1
 have h1:=ZgP t.text u (by rw [hr];simp)
 have h2:=ZgF (Zcx hr).2
 refine ⟨?_,h2⟩
 obtain⟨a,b⟩:=h1
 obtain⟨k,x,s,hd⟩:=t
 subst hx
 exact⟨a,(show k=u.kind from hk.symm).trans b⟩
def readsTwo (a b:ByteArray):Bool:=(Zar (a++b)).2 && decide ((Zar (a++b)).1.map (·.text)=[a,b])
def meets (a b:ByteArray):Bool:=if h:0<a.size/\0<b.size then decide (a[a.size-1].toNat=47) && (decide (b[0].toNat=47) || decide (b[0].toNat=42)) else false
def glued (a b:ByteArray):Bool:=!readsTwo a b || meets a b
theorem Zan {l:List Tok} (h:Zaj l=true):l.length<=60/\∀ k,(hk:k<l.length)->tokOk l[k]=true:=by
 unfold Zaj at h
 rw [Bool.and_eq_true,decide_eq_true_eq,List.all_eq_true] at h
 exact⟨h.1,λ k hk=>h.2 _ (List.getElem_mem hk)⟩
def bAt (s:ByteArray) (j:Nat):Option UInt8:=if h:j<s.size then some s[j] else none
theorem Za2 {s:ByteArray} {j:Nat} (h:j<s.size):bAt s j=some s[j]:=by unfold bAt;rw [dif_pos h]
theorem ZfV {s:ByteArray} {j:Nat} (h:s.size<=j):bAt s j=none:=by unfold bAt;rw [dif_neg (by omega)]
theorem ZbS {s:ByteArray} {j:Nat} {c:UInt8} (h:bAt s j=some c):∃ hj:j<s.size,s[j]=c:=by
 by_cases hj:j<s.size
 ·rw [Za2 hj,Qi] at h;exact⟨hj,h⟩
 ·rw [ZfV (by omega)] at h;exact absurd h (by simp)
theorem bAt_left {s t:ByteArray} {j:Nat} (h:j<s.size):bAt (s++t) j=bAt s j:=by
 rw [Za2 (by rw [ByteArray.size_append];omega),Za2 h,ByteArray.getElem_append_left h]
theorem ZmW {s t:ByteArray} {i j:Nat} (h:i=s.size+j):bAt (s++t) i=bAt t j:=by
 subst h
 by_cases hj:j<t.size
 ·rw [Za2 (by rw [ByteArray.size_append];omega),Za2 hj,ByteArray.getElem_append_right (by omega)]
  congr 2;omega
 ·rw [ZfV (by rw [ByteArray.size_append];omega),ZfV (by omega)]
theorem ZlC {a b:ByteArray} (h:a.size=b.size) (h2:∀ j,j<a.size->bAt a j=bAt b j):a=b:=by
 apply ByteArray.ext
 apply Array.ext (by exact h)
 intro i h1 h3
 have h1':i<a.size:=h1
 have:=h2 i h1'
 rw [Za2 h1',Za2 (h ▸ h1'),Qi] at this
 simpa [ByteArray.getElem_eq_getElem_data] using this
theorem Zgq {s:ByteArray} {i e j:Nat} (he:e<=s.size) (h:j<e-i):bAt (s.extract i e) j=bAt s (i+j):=by
 have hz:(s.extract i e).size=e-i:=by rw [ByteArray.size_extract];omega
 rw [Za2 (by omega),Za2 (by omega),Zgp]
def stopB (c:UInt8):Bool:=!Zal c && decide (c≠61) && decide (c≠38) && decide (c≠124) && decide (c≠35)
theorem Zmc {c:UInt8} (h:stopB c=true):Zal c=false:=by
 unfold stopB at h
 simp only [Bool.and_eq_true] at h
 simpa using h.1.1.1.1
def Ends (s':ByteArray) (k':Nat) (s:ByteArray) (k:Nat):Prop:=bAt s' k'=bAt s k\/∀ c,bAt s' k'=some c->stopB c=true
theorem ZmX {s':ByteArray} {k':Nat} {s:ByteArray} {k:Nat} (h:bAt s' k'=none):Ends s' k' s k:=.inr λ c hc=>by
 rw [h] at hc;exact absurd hc (by simp)
theorem Zi5 {s s':ByteArray}:∀ (d k k':Nat),wEnd s k=k+d->(∀ j,j<d->bAt s' (k'+j)=bAt s (k+j))->Ends s' (k'+d) s (k+d)->wEnd s' k'=k'+d
 |
  0,k,k',h,_,hE=>by
  have hstop:∀ c,bAt s k=some c->Zal c=false:=λ c hc=>by
   obtain⟨hk,rfl⟩:=ZbS hc
   cases hw:Zal s[k]
   ·rfl
   ·rw [Zbq hk hw] at h
    have:=(Zey s (k+1)).1
    omega
  by_cases hk':k'<s'.size
  ·rcases hE with h1 | h1
   ·rw [Nat.add_zero,Nat.add_zero,Za2 hk'] at h1
    exact ZbG hk' (hstop _ h1.symm)
   ·exact ZbG hk' (Zmc (h1 _ (Za2 hk')))
  ·exact ZcC (by omega)
 |
  d+1,k,k',h,hb,hE=>by
  have hk:k<s.size:=by
   apply Nat.lt_of_not_le;intro hn
   rw [ZcC hn] at h;omega
  have hw:Zal s[k]=true:=by
   cases hw:Zal s[k]
   ·rw [ZbG hk hw] at h;omega
   ·rfl
  rw [Zbq hk hw] at h
  have h0:=hb 0 (by omega)
  rw [Nat.add_zero,Nat.add_zero,Za2 hk] at h0
  obtain⟨hk',he⟩:=ZbS h0
  rw [Zbq hk' (by rw [he];exact hw)]
  have e1:k'+(d+1)=k'+1+d:=by omega
  have e2:k+(d+1)=k+1+d:=by omega
  rw [e1]
  refine Zi5 (s:=s) (s':=s') d (k+1) (k'+1) (by omega) (λ j hj=>?_) (by rw [← e1,← e2];exact hE)
  have:=hb (j+1) (by omega)
  rwa [show k'+(j+1)=k'+1+j by omega,show k+(j+1)=k+1+j by omega] at this
theorem Zk5 {s s':ByteArray} (d:Nat):∀ (k k':Nat),tClose s k=some (k+d)->(∀ j,j<d->bAt s' (k'+j)=bAt s (k+j))->tClose s' k'=some (k'+d):=by
 induction d using Nat.strongRecOn with
 |
  ind d ih =>
  intro k k' h hb
  have hs:=Za1 h
  have hk:k<s.size:=by omega
  have h0:=hb 0 (by omega)
  rw [Nat.add_zero,Nat.add_zero,Za2 hk] at h0
  obtain⟨hk',he⟩:=ZbS h0
  by_cases h34:s[k].toNat=34
  ·rw [Za6 hk h34,Qi] at h
   rw [Za6 hk' (by rw [he];exact h34)]
   congr 1;omega
  ·by_cases h92:s[k].toNat=92
   ·rw [Zbv hk h92] at h
    have hs2:=Za1 h
    rw [Zbv hk' (by rw [he];exact h92)]
    have:=ih (d-2) (by omega) (k+2) (k'+2) (by rw [h];congr 1;omega) (λ j hj=>by
     have:=hb (j+2) (by omega)
     rwa [show k'+(j+2)=k'+2+j by omega,show k+(j+2)=k+2+j by omega] at this)
    rw [this];congr 1;omega
   ·rw [Zbi hk h34 h92] at h
    have hs2:=Za1 h
    rw [Zbi hk' (by rw [he];exact h34) (by rw [he];exact h92)]
    have:=ih (d-1) (by omega) (k+1) (k'+1) (by rw [h];congr 1;omega) (λ j hj=>by
     have:=hb (j+1) (by omega)
     rwa [show k'+(j+1)=k'+1+j by omega,show k+(j+1)=k+1+j by omega] at this)
    rw [this];congr 1;omega
theorem Zil (s:ByteArray) (k:Nat) (a b:UInt8):two s k a b=(decide (bAt s k=some a) && decide (bAt s (k+1)=some b)):=by
 have hd:∀ j,s.data.toList[j]?=bAt s j:=λ j=>by
  by_cases hj:j<s.size
  ·rw [Za2 hj,List.getElem?_eq_getElem (by simpa using hj)];simp [ByteArray.getElem_eq_getElem_data]
  ·rw [ZfV (by omega),List.getElem?_eq_none (by simpa using hj)]
 have hx:∀ L:List UInt8,[a,b].isPrefixOf L=(decide (L[0]?=some a) && decide (L[1]?=some b)):=λ L=>by
  match L with
  | []=>simp [List.isPrefixOf]
  | [x]=>simp [List.isPrefixOf]
  |
   x::y::L =>
   have e:∀ u v:UInt8,(u==v)=decide (v=u):=λ u v=>by
    by_cases h:v=u
    ·subst h;simp
    ·have h':¬ u=v:=λ e=>h e.symm
     simp [h,h']
   simp [List.isPrefixOf,e]
 unfold two
 rw [hx,List.getElem?_drop,List.getElem?_drop,hd,hd,Nat.add_zero]
theorem ZhN {s s':ByteArray} {k k':Nat} (h0:bAt s' k'=bAt s k) (h1:bAt s' (k'+1)=bAt s (k+1)):twoAt s' k'=twoAt s k:=by
 unfold twoAt;simp only [Zil,h0,h1]
theorem twoAt_no {s:ByteArray} {k:Nat} (h:∀ c,bAt s (k+1)=some c->stopB c=true):twoAt s k=false:=by
 unfold twoAt;simp only [Zil]
 cases hb:bAt s (k+1) with
 | none=>simp
 |
  some c =>
  have:=h c hb
  unfold stopB at this
  simp only [Bool.and_eq_true,decide_eq_true_eq] at this
  obtain⟨⟨⟨⟨_,h1⟩,h2⟩,h3⟩,h4⟩:=this
  simp [h1,h2,h3,h4]
theorem ZmY {s s':ByteArray} {k k' d:Nat} (h:mLen s k=d) (h0:d≠0) (hb:∀ j,j<d->bAt s' (k'+j)=bAt s (k+j)) (hE:Ends s' (k'+d) s (k+d)):mLen s' k'=d:=by
 have b0:=hb 0 (by omega)
 rw [Nat.add_zero,Nat.add_zero] at b0
 cases ht:twoAt s k
 ·have hk:k<s.size:=by
   apply Nat.lt_of_not_le;intro hn
   unfold mLen at h;rw [if_neg (by simp [ht]),dif_neg (by omega)] at h;omega
  unfold mLen at h
  rw [if_neg (by simp [ht]),dif_pos hk] at h
  have hm:s[k]∈marks1:=by
   apply Classical.byContradiction;intro hn
   rw [if_neg hn] at h;omega
  rw [if_pos hm] at h
  subst h
  have ht':twoAt s' k'=false:=by
   rcases hE with h1 | h1
   ·rw [ZhN b0 h1,ht]
   ·exact twoAt_no h1
  rw [Za2 hk] at b0
  obtain⟨hk',he⟩:=ZbS b0
  unfold mLen
  rw [if_neg (by simp [ht']),dif_pos hk',if_pos (by rw [he];exact hm)]
 ·unfold mLen at h
  rw [if_pos ht] at h
  subst h
  have b1:=hb 1 (by omega)
  unfold mLen
  rw [if_pos (by rw [ZhN b0 b1];exact ht)]
theorem cut_same {s s':ByteArray} {k k' d:Nat} (h:Zaw s k=(k+d:Nat)) (hb:∀ j,j<d->bAt s' (k'+j)=bAt s (k+j)) (hE:Ends s' (k'+d) s (k+d)):Zaw s' k'=(k'+d:Nat):=by
 have hr:=Zbj (s:=s) (k:=k) (by omega)
 have hk:k<s.size:=hr.2.2
 have hd0:0<d:=by omega
 have b0:=hb 0 (by omega)
 rw [Nat.add_zero,Nat.add_zero,Za2 hk] at b0
 obtain⟨hk',he⟩:=ZbS b0
 cases hw:Zal s[k]
 ·by_cases hq:s[k].toNat=34
  ·rw [ZbQ hk hw hq] at h
   cases hc:tClose s (k+1) with
   | none=>rw [hc] at h;simp only at h;omega
   |
    some e =>
    rw [hc] at h
    replace h:(e:Int)=(k+d:Nat):=h
    have:=Zk5 (s:=s) (s':=s') (d-1) (k+1) (k'+1) (by rw [hc];congr 1;omega) (λ j hj=>by
     have:=hb (j+1) (by omega)
     rwa [show k'+(j+1)=k'+1+j by omega,show k+(j+1)=k+1+j by omega] at this)
    rw [ZbQ hk' (by rw [he];exact hw) (by rw [he];exact hq),this]
    simp only;omega
  ·rw [ZbR hk hw hq] at h
   split at h
   ·omega
   ·rename_i h0
    have:=ZmY (s:=s) (s':=s') (k:=k) (k':=k') (d:=d) (by omega) (by omega) hb hE
    rw [ZbR hk' (by rw [he];exact hw) (by rw [he];exact hq),this,if_neg (by omega)]
 ·rw [ZbP hk hw] at h
  split at h
  ·omega
  ·rename_i h0
   have:=Zi5 (s:=s) (s':=s') d k k' (by omega) hb hE
   rw [ZbP hk' (by rw [he];exact hw),this,if_neg (by omega)]
theorem ZmZ {z:ByteArray} {t:Tok} {ts:List Tok} (h:toks z 0 false 0=some (t::ts)) (h0:0<z.size) (h32:¬ z[0].toNat=32):Zaw z 0=(t.text.size:Nat):=by
 rw [toks,dif_pos h0,if_neg h32] at h
 split at h
 ·simp at h
 ·rename_i hb
  rw [Option.map_eq_some_iff] at h
  obtain⟨l',_,h2⟩:=h
  simp only [List.cons.injEq] at h2
  have hr:=Zbj (s:=z) (k:=0) (by omega)
  rw [← h2.1]
  show _=((z.extract 0 (Zaw z 0).toNat).size:Int)
  rw [ByteArray.size_extract];omega
theorem ZfW {t:Tok} (h:tokOk t=true):∃ h0:0<t.text.size,t.text[0].toNat≠32/\Zaw t.text 0=(t.text.size:Nat)/\ZaL t.text=true:=by
 unfold tokOk at h
 rw [Bool.and_eq_true] at h
 obtain⟨u,hr,_,hx⟩:=ZhM h.1
 obtain⟨h1,_⟩:=ZgP t.text u (by rw [hr];simp)
 obtain⟨h2,h3⟩:=Zcx hr
 have h0:0<t.text.size:=by rw [← hx];exact h1
 have h32:¬ t.text[0].toNat=32:=by
  intro h32
  rw [toks,dif_pos h0,if_pos h32] at h2
  have:=ZjV t.text 1 true 0 _ h2 (by omega) u (by simp)
  rw [hx] at this
  omega
 refine ⟨h0,h32,?_,h3⟩
 have:=ZmZ h2 h0 h32
 rw [hx] at this
 exact this
def AllOk (s:ByteArray):Prop:=∀ j c,bAt s j=some c->Zdp c=true
theorem AllOk.app {a b:ByteArray} (ha:AllOk a) (hb:AllOk b):AllOk (a++b):=λ j c h=>by
 by_cases hj:j<a.size
 ·rw [bAt_left hj] at h;exact ha j c h
 ·rw [ZmW (j:=j-a.size) (by omega)] at h;exact hb _ c h
theorem AllOk.of {s:ByteArray} (h:ZaL s=true):AllOk s:=λ j c hc=>by
 obtain⟨hj,rfl⟩:=ZbS hc
 unfold ZaL at h
 rw [Bool.and_eq_true,List.all_eq_true] at h
 exact h.2 _ (by simp [ByteArray.getElem_eq_getElem_data])
theorem AllOk.line {s:ByteArray} (h:AllOk s) (hs:s.size<=200):ZaL s=true:=by
 rw [ZeZ (k:=s.size) (λ j hj _=>h j _ (Za2 hj)) (Nat.le_refl _)]
 exact decide_eq_true hs
theorem ZlD {s:ByteArray} (hs:ZaL s=true) {k e:Nat} (hk:k<s.size) (h32:¬ s[k].toNat=32) (hc:Zaw s k=(e:Nat)) (sp:Bool):tokOk ⟨cutKind s[k],s.extract k e,sp,[]⟩=true:=by
 have hr:=Zbj (s:=s) (k:=k) (by omega)
 have hz:(s.extract k e).size=e-k:=by rw [ByteArray.size_extract];omega
 have hb:∀ j,j<e-k->bAt (s.extract k e) (0+j)=bAt s (k+j):=λ j hj=>by rw [Nat.zero_add];exact Zgq (by omega) hj
 have hcx:=cut_same (s':=s.extract k e) (k':=0) (d:=e-k) (by rw [hc];omega) hb (ZmX (ZfV (by omega)))
 have h0:0<(s.extract k e).size:=by omega
 have hf:(s.extract k e)[0]=s[k]:=Zgp s k e 0 h0
 have hl:ZaL (s.extract k e)=true:=by
  refine AllOk.line (λ j c hj=>?_) (by have:=ZgF hs;omega)
  obtain⟨h1,_⟩:=ZbS hj
  rw [Zgq (by omega) (by omega)] at hj
  exact AllOk.of hs _ c hj
 have ht:toks (s.extract k e) 0 false 0=some [⟨cutKind s[k],s.extract k e,false,[]⟩]:=by
  have hzz:((s.extract k e).extract 0 (e-k)).size=(s.extract k e).size:=by rw [ByteArray.size_extract];omega
  have hx:(s.extract k e).extract 0 (e-k)=s.extract k e:=ZlC hzz λ j hj=>by
   rw [Zgq (by omega) (by omega),Nat.zero_add]
  rw [toks,dif_pos h0,if_neg (by rw [hf];exact h32),hcx,if_neg (by omega),Nat.zero_add,Int.toNat_natCast,Nat.max_eq_right (by omega),toks,dif_neg (by omega),hf,hx]
  rfl
 have hr:=ZeA hl ht
 unfold tokOk
 rw [Bool.and_eq_true]
 refine ⟨?_,by show hidOk []=true;decide⟩
 show Zak (s.extract k e) (cutKind s[k])=true
 simp [Zak,hr]
end Go.Proofs.YtipfpppcbmpjiaaGreat
