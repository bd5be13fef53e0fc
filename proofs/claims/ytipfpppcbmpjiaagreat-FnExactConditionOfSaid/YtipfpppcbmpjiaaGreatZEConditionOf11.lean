/- Texts that the proof of EConditionOf stands on, in one file. -/
import Derived.Test.YtipfpppcbmpjiaaGreatZEConditionOf10
import Derived.Deep.RegionHeld3
set_option linter.unusedVariables false
set_option maxHeartbeats 16000000
set_option maxRecDepth 100000
set_option linter.unusedSimpArgs false
/- A table's copy, as the call's own memory (spec). -/
namespace Go.Proofs.YtipfpppcbmpjiaaGreat
open Go.RowKit
theorem ti_mac:TI Tryz.prog 23 56 (.agg #[.string ⟨#[]⟩,.bool false,.slice none 0 0,.slice none 0 0]) 4 72:=⟨by kernel_rfl,by kernel_rfl⟩
theorem Zix {w:World} {ops:Array Oper} {rest:List Oper} {o:Oper} {a:Act} {Q:Exit->Act->World->Prop} (hg:o.guard=none) (s y:Operand)
  (ho:o.op=.call { callee:=.builtin .append,args:=#[s,y],argTypes:=#[23,23] })
  (base:Nat) (v:Value) (L:List (Elem DMacro)) (hs:a.eval s=v) (hown:RowE sMacro base 56 v L w) (nm:ByteArray) (f:Bool) (a2 a3:Option Addr) (n2 c2 n3 c3:Nat) (d:DMacro) (fp:List Nat)
  (hy:a.eval y=.slice (some ⟨w.heap.size,0,none⟩) 1 1) (hR:sMacro.R w [.string nm,.bool f,.slice a2 n2 c2,.slice a3 n3 c3] d fp) (hlo:∀ b∈fp,base<=b) (hty:NoMac w fp)
  (h63:L.length<=1500000) (hbase:base<=w.heap.size)
  (h:∀ v' w',RowE sMacro base 56 v' (L++[⟨[.string nm,.bool f,.slice a2 n2 c2,.slice a3 n3 c3],d,fp⟩]) w'->w.grownBy w' v.ownBlock->wpList Tryz.prog ops Q rest (a.put o.dst v') w') :
  wpList Tryz.prog ops Q (o::rest) a (w.alloc (.cells #[.string nm,.bool f,.slice a2 n2 c2,.slice a3 n3 c3] 56)):=by
 have hb:=Zab w (.cells #[.string nm,.bool f,.slice a2 n2 c2,.slice a3 n3 c3] 56)
 refine ZeQ (S:=sMacro) ti_mac rfl (by decide) _ (X:=[⟨[.string nm,.bool f,.slice a2 n2 c2,.slice a3 n3 c3],d,fp⟩]) hg s y ho base v hs (hown.below hb) w.heap.size 1 1 hy rfl ?_ ?_ ?_ ?_ ?_ ?_ (by unfold maxLen;omega) (by omega) (by simp;omega) λ v' w' a b=>h v' w' a (Zb7 (World.grownBy_alloc _ _ _) b)
 ·intro x hx;obtain rfl:=Qm hx;rfl
 ·intro x hx;obtain rfl:=Qm hx;simp [Value.oneCell']
 ·intro j u hj
  rw [World.cell?_alloc_at _ _ _ _ rfl]
  simpa using hj
 ·intro x hx;obtain rfl:=Qm hx;exact sMacro.below hR hb
 ·intro x hx;obtain rfl:=Qm hx;exact hlo
 ·intro x hx b' hb'
  obtain rfl:=Qm hx
  obtain⟨cur,t,fr,h1,h2⟩:=hty b' hb'
  exact⟨cur,t,fr,(hb.block b' (Qg h1).1).trans h1,h2⟩
def MacSm (x:DMacro):Prop:=x.params.length<=2000000/\x.body.length<=1048576/\∀ k,(hk:k<x.body.length)->x.body[k].hidden.length<=2000000
def OwnTab (l:List DMacro) (w:World) (e:Ending) (w':World):Prop:=∃ v fp,e=.returned v/\(Zaa sMacro).R w' [v] l fp/\(∀ b∈fp,w.heap.size<=b)/\Below w.heap.size w w'
theorem Zc1 (v:Value) (l:List DMacro) (fp:List Nat) (w:World) (hl:l.length<=1048576) (hx:∀ k,(hk:k<l.length)->MacSm l[k]) (H:(Zaa sMacro).R w [v] l fp) :
  Calls Tryz.prog 41 #[v] w (OwnTab l w):=by
 obtain⟨a,cap,rfl,hc,hm,hrow⟩:=Zac H
 unfold maxLen at hm
 clear H
 have HX:=Qh hx
 clear hx
 have hlit:Hid (RowE sMacro w.heap.size 56 (.slice (some ⟨w.heap.size,0,none⟩) 0 0) [] (w.alloc (.cells #[] 56))):=RowE.lit [] (by simp) (by simp) (by simp) (by simp) (Nat.le_refl _) (by simp)
 have hba:=Zab w (.cells #[] 56)
 go_enter Tryz.func41,Tryz.ntmps41
 go_wp2
 go_loopw [3,4] (λ o i wr=>∃ (k:Nat) (L:List (Elem DMacro)),k<=l.length/\i=.int .i64 k/\Hid (RowE sMacro w.heap.size 56 o L wr)/\Hid (L.map (·.d)=l.take k)/\Below w.heap.size w wr) (λ _ i _=>l.length-(intOf i).toNat)
 case atStart=>exact⟨0,[],by omega,rfl,hlit,rfl,hba⟩
 case round =>
  clear hlit hba
  obtain⟨k,L,hk,rfl,HE,HD,hb⟩:=hrel
  by_cases hlt:k<l.length
  ·obtain⟨b1,off1,fps1,rfl,hb1,-,he1⟩:=hrow (by omega)
   obtain⟨es1,hE1,hR1⟩:=he1 k hlt
   clear hrow he1
   have HC:=Qh (Zeo _ _ _ wr (HX.out k hlt).1 (HX.out k hlt).2.1 (HX.out k hlt).2.2 (sMacro.below hR1 hb))
   obtain⟨h2,h3,p2,p3,rfl,_,_,_,_⟩:=hR1
   replace hE1:=hE1.frame (hb.block b1 hb1)
   have c10:wr.cell? ⟨b1,off1+k * 4,none⟩=some _:=Zam hE1 (by decide) rfl
   have c11:wr.cell? ⟨b1,off1+k * 4+1,none⟩=some _:=Zae (j:=1) hE1 (by decide) rfl
   have c12:wr.cell? ⟨b1,off1+k * 4+2,none⟩=some _:=Zae (j:=2) hE1 (by decide) rfl
   have c13:wr.cell? ⟨b1,off1+k * 4+3,none⟩=some _:=Zae (j:=3) hE1 (by decide) rfl
   clear hE1
   have HLl:Hid (L.length=k):=by have:=congrArg List.length HD.out;simp at this;show _=_;omega
   go_wp2_with fail
   refine HC.out.mono ?_
   rintro e w2 ⟨a2,a3,c2,c3,fp2,rfl,hR2,hlo2,hty2,hb2⟩
   obtain⟨ar,capr,rfl,-⟩:=HE.out.val
   have hE2:=HE.out.below hb2
   have hbw:=hb.trans (hb2.mono hb.size)
   have hlo3:∀ b∈fp2,w.heap.size<=b:=λ b hx=>Nat.le_trans hb.size (hlo2 b hx)
   clear c10 c11 c12 c13 HC HE
   go_wp2_with (at_builtin;refine Zix rfl (.tmp 12) (.tmp 18) rfl w.heap.size (.slice ar L.length capr) L rfl hE2 l[k].name l[k].function a2 a3 l[k].params.length c2 l[k].body.length c3 l[k] fp2 rfl hR2 hlo3 hty2 (by have:=HLl.out;omega) hbw.size ?_;intro v3 w3 hE3 hg3)
   have hb3:Below w.heap.size w w3:=hbw.grown hg3 hbw.size (λ b hb=>(hE2.row.lt b hb).1)
   have HE3:=Qh hE3
   have HD3:Hid ((L++[(⟨[.string l[k].name,.bool l[k].function,.slice a2 l[k].params.length c2,.slice a3 l[k].body.length c3],l[k],fp2⟩:Elem DMacro)]).map (·.d)=l.take (k+1)):=by
    show _=_
    rw [List.map_append,HD.out,List.take_succ_eq_append_getElem hlt];rfl
   clear hE2 hE3 hg3 hR2 hty2 hlo2 hlo3 hb2
   go_roundw
   case rel=>exact⟨k+1,_,by omega,by go_num,HE3,HD3,hb3⟩
   case measure=>simp [intOf];omega
  ·obtain⟨fpr,hr,hlo⟩:=HE.out.read
   have hd:=HD.out
   rw [List.take_of_length_le (by omega)] at hd
   rw [hd] at hr
   have HR:=Qh hr
   have HLO:=Qh hlo
   clear hr hd HE HD hlo
   go_wp2
   go_ret
   exact⟨_,fpr,rfl,HR.out,HLO.out,hb⟩
def set4 (w:World) (g:Nat) (v0 v1 v2 v3:Value):World:=(((w.setCell ⟨g,0,none⟩ v0).setCell ⟨g,1,none⟩ v1).setCell ⟨g,2,none⟩ v2).setCell ⟨g,3,none⟩ v3
section
variable {P:Program} {ops:Array Oper} {Q:Exit->Act->World->Prop} {md:Region.Mode} {S:World->Prop}
theorem ZhS (i d:Nat) {oi:Oper} {v:Value} {fuel:Nat} {listed:Array Bool} {a:Act} {w:World} (hi:ops[i]?=some oi) (hd:oi.dst=some d)
  (hs:Region.noSelect ops=true) (hf:Region.free md ops listed i=true) (hr:(Region.ready md ops listed).contains i=true)
  (hQ:∀ c a w,Q (.panic c) (a.put (some d) v) w->Q (.panic c) a w) (hw:Region.wanted oi (yielded ops a.tmps)=true) (hS:S w)
  (hy:∀ w,S w->(execOp a.eval oi).run P w=.ok (.value v) w)
  (h:wpAnyH P md ops Q S fuel (listed.setIfInBounds i true) (a.put (some d) v) w):wpAnyH P md ops Q S (fuel+1) listed a w:=
 wpAnyH_take hi hs hf hr (by rw [hd];exact hQ) (.inl ⟨hw,hy⟩) hS (by rw [hd];exact h)
end
theorem ZaH {w:World} {g:Nat} {z0 z1 z2 z3:Value} {ty:TypeId} (h:w.heap[g]?=some (.cells #[z0,z1,z2,z3] ty (0,0))) (v0 v1 v2 v3:Value) :
  (set4 w g v0 v1 v2 v3).heap[g]?=some (.cells #[v0,v1,v2,v3] ty (0,0)):=Zai (Zai (Zai (Zai h 0 _) 1 _) 2 _) 3 _
theorem Zdb {w:World} {g b:Nat} (h:b≠g) (v0 v1 v2 v3:Value):(set4 w g v0 v1 v2 v3).heap[b]?=w.heap[b]?:=by
 unfold set4
 rw [Below.heap_setCell _ _ _ _ h,Below.heap_setCell _ _ _ _ h,Below.heap_setCell _ _ _ _ h,Below.heap_setCell _ _ _ _ h]
theorem ZbM (w:World) (g:Nat) (v0 v1 v2 v3:Value):(set4 w g v0 v1 v2 v3).heap.size=w.heap.size:=by
 unfold set4
 simp
theorem Zav {B:Nat} {w0 w:World} (hB:Below B w0 w) {g:Nat} (hg:B<=g) (v0 v1 v2 v3:Value):Below B w0 (set4 w g v0 v1 v2 v3):=
 ((((hB).setCell (p:=⟨g,0,none⟩) hg v0).setCell (p:=⟨g,1,none⟩) hg v1).setCell (p:=⟨g,2,none⟩) hg v2).setCell (p:=⟨g,3,none⟩) hg v3
theorem Shape.set4R {α:Type} (S:Shape α) {w:World} {g:Nat} {cs:List Value} {d:α} {fp:List Nat} (h:S.R w cs d fp) (hn:g∉fp) (v0 v1 v2 v3:Value):S.R (set4 w g v0 v1 v2 v3) cs d fp:=
 S.frame (λ b hb=>Zdb (λ e:b=g=>hn (by rw [← e];exact hb)) _ _ _ _) h
theorem Zna {w:World} {g b:Nat} (h:b≠g) (j:Nat) (v0 v1 v2 v3:Value):(set4 w g v0 v1 v2 v3).cell? ⟨b,j,none⟩=w.cell? ⟨b,j,none⟩:=
 World.cell?_of_block (Zdb h v0 v1 v2 v3)
theorem ZcW {w:World} {g b:Nat} (h:b≠g) (j:Nat) (v0 v1 v2 v3:Value):((((w.setCell ⟨g,0,none⟩ v0).setCell ⟨g,1,none⟩ v1).setCell ⟨g,2,none⟩ v2).setCell ⟨g,3,none⟩ v3).cell? ⟨b,j,none⟩=w.cell? ⟨b,j,none⟩:=Zna h j v0 v1 v2 v3
theorem Own.set4 {w:World} {lo g:Nat} {fp:List Nat} (h:Own w lo fp) (v0 v1 v2 v3:Value):Own (set4 w g v0 v1 v2 v3) lo fp:=
 (((h.setCell ⟨g,0,none⟩ v0).setCell ⟨g,1,none⟩ v1).setCell ⟨g,2,none⟩ v2).setCell ⟨g,3,none⟩ v3
theorem Zfd {α:Type} {S:Shape α} {w0 w:World} {g:Nat} {z0 z1 z2 z3:Value} {T:TypeId} {cs:List Value} {d:α} {fp:List Nat} (HX:w.heap[g]?=some (.cells #[z0,z1,z2,z3] T (0,0))) (hg:w0.heap.size<=g)
  (R:S.R w cs d fp) (O:Own w w0.heap.size fp) (hn:g∉fp) (hb:Below w0.heap.size w0 w) (v0 v1 v2 v3:Value) :
  (set4 w g v0 v1 v2 v3).heap[g]?=some (.cells #[v0,v1,v2,v3] T (0,0))/\w0.heap.size<=g/\g<(set4 w g v0 v1 v2 v3).heap.size/\S.R (set4 w g v0 v1 v2 v3) cs d fp/\Own (set4 w g v0 v1 v2 v3) w0.heap.size fp/\Below w0.heap.size w0 (set4 w g v0 v1 v2 v3):=
 ⟨ZaH HX _ _ _ _,hg,by rw [ZbM];exact(Qg HX).1,S.set4R R hn _ _ _ _,O.set4 _ _ _ _,Zav hb hg _ _ _ _⟩
section
variable {α:Type} {S:Shape α} {w w7:World} {g2 g3:Nat} {T:TypeId} {z0 z1 z2 z3 y0 y1 y2 y3:Value} {cs cs':List Value} {d d':α} {fp fp':List Nat}
end
def bs (s:ByteArray):List UInt8:=s.data.toList
theorem Zdv (s:ByteArray):(bs s).length=s.size:=rfl
theorem ZbW (a b:ByteArray):bs (a++b)=bs a++bs b:=by simp [bs]
theorem bs_ext {a b:ByteArray} (h:bs a=bs b):a=b:=ByteArray.ext (Array.ext' h)
theorem Zkh {s:ByteArray} {k:Nat} (h:k<s.size):(bs s)[k]'(by rw [Zdv];exact h)=s[k]:=by simp [bs,ByteArray.getElem_eq_getElem_data]
theorem bs_at {s:ByteArray} {k:Nat} {c:UInt8} {r:List UInt8} (h:(bs s).drop k=c::r):∃ hk:k<s.size,s[k]=c/\(bs s).drop (k+1)=r:=by
 have hk:k<s.size:=by
  apply Nat.lt_of_not_le;intro hn
  rw [List.drop_eq_nil_of_le (by rw [Zdv];exact hn)] at h
  exact absurd h (by simp)
 rw [List.drop_eq_getElem_cons (by rw [Zdv];exact hk),List.cons.injEq,Zkh hk] at h
 exact⟨hk,h⟩
theorem Zd5 {s:ByteArray} {k:Nat} (h:k<s.size):s.extract k (k+1)=⟨#[s[k]]⟩:=by
 have hz:(s.extract k (k+1)).size=1:=by rw [ByteArray.size_extract];omega
 refine ZlC (by rw [hz];rfl) λ j hj=>?_
 obtain rfl:j=0:=by omega
 rw [Zgq (by omega) (by omega),Nat.add_zero,Za2 h];rfl
inductive Esc:List UInt8->List UInt8->Prop
 | nil:Esc [] []
 | back (c:UInt8) {a b:List UInt8}:Esc a b->Esc (92::c::a) (c::b)
 | byte {c:UInt8} {a b:List UInt8}:c.toNat≠34->c.toNat≠92->Esc a b->Esc (c::a) (c::b)
theorem Esc.app {a b c d:List UInt8} (h:Esc a b) (h2:Esc c d):Esc (a++c) (b++d):=by
 induction h with
 | nil=>exact h2
 | back c _ ih=>exact .back c ih
 | byte h1 h3 _ ih=>exact .byte h1 h3 ih
theorem Esc.plain {a:List UInt8} (h:∀ c∈a,c.toNat≠34/\c.toNat≠92):Esc a a:=by
 induction a with
 | nil=>exact .nil
 | cons c a ih=>exact .byte (h c (by simp)).1 (h c (by simp)).2 (ih λ d hd=>h d (by simp [hd]))
def outTo (s:ByteArray) (k:Nat):ByteArray:=
 if h:k+1<s.size then (if s[k].toNat=92 then s.extract (k+1) (k+2)++outTo s (k+2) else s.extract k (k+1)++outTo s (k+1)) else ⟨#[]⟩
termination_by s.size-k
theorem Zmq {s:ByteArray} {k:Nat} (h:k+1<s.size) (hc:s[k].toNat=92):outTo s k=s.extract (k+1) (k+2)++outTo s (k+2):=by rw [outTo,dif_pos h,if_pos hc]
theorem ZhT {s:ByteArray} {k:Nat} (h:k+1<s.size) (hc:¬ s[k].toNat=92):outTo s k=s.extract k (k+1)++outTo s (k+1):=by rw [outTo,dif_pos h,if_neg hc]
theorem Zje {s:ByteArray} {k:Nat} (h:s.size<=k+1):outTo s k=⟨#[]⟩:=by rw [outTo,dif_neg (by omega)]
theorem esc_scan {a b:List UInt8} (h:Esc a b):∀ {s:ByteArray} {k:Nat},(bs s).drop k=a++[34]->tClose s k=some s.size/\bs (outTo s k)=b:=by
 induction h with
 |
  nil =>
  intro s k hd
  obtain⟨hk,hc,hr⟩:=bs_at hd
  have hz:s.size<=k+1:=by rw [List.drop_eq_nil_iff,Zdv] at hr;exact hr
  refine ⟨?_,by rw [Zje hz];rfl⟩
  rw [Za6 hk (by rw [hc];rfl)];congr 1;omega
 |
  @back c a b _ ih =>
  intro s k hd
  obtain⟨hk,hc,hr⟩:=bs_at hd
  obtain⟨hk1,hc1,hr1⟩:=bs_at hr
  obtain⟨i1,i2⟩:=ih hr1
  refine ⟨?_,?_⟩
  ·rw [Zbv hk (by rw [hc];rfl)];exact i1
  ·rw [Zmq hk1 (by rw [hc];rfl),ZbW,i2,Zd5 hk1,hc1];rfl
 |
  @byte c a b h1 h2 _ ih =>
  intro s k hd
  obtain⟨hk,hc,hr⟩:=bs_at hd
  obtain⟨i1,i2⟩:=ih hr
  have hk1:k+1<s.size:=by
   have:=congrArg List.length hr
   rw [List.length_drop,Zdv] at this
   simp at this;omega
  refine ⟨?_,?_⟩
  ·rw [Zbi hk (by rw [hc];exact h1) (by rw [hc];exact h2)];exact i1
  ·rw [ZhT hk1 (by rw [hc];exact h2),ZbW,i2,Zd5 hk,hc];rfl
def isQ (c:UInt8):Bool:=decide (c.toNat=34) || decide (c.toNat=92)
def escTo (s:ByteArray):Nat->ByteArray
 | 0=>⟨#[]⟩
 | k+1=>if h:k<s.size then (if isQ s[k]=true then escTo s k++⟨#[92]⟩ else escTo s k)++s.extract k (k+1) else escTo s k
theorem Zdc {s:ByteArray} {k:Nat} (h:k<s.size) (hc:isQ s[k]=true):escTo s (k+1)=escTo s k++⟨#[92]⟩++s.extract k (k+1):=by rw [escTo,dif_pos h,if_pos hc]
theorem ZeT {s:ByteArray} {k:Nat} (h:k<s.size) (hc:isQ s[k]=false):escTo s (k+1)=escTo s k++s.extract k (k+1):=by rw [escTo,dif_pos h,if_neg (by simp [hc])]
theorem Zjf (s:ByteArray):∀ k,k<=s.size->Esc (bs (escTo s k)) ((bs s).take k)
 | 0,_=>by rw [List.take_zero];exact .nil
 |
  k+1,hk=>by
  have ih:=Zjf s k (by omega)
  have hk':k<s.size:=by omega
  rw [List.take_succ_eq_append_getElem (by rw [Zdv];exact hk'),Zkh hk']
  cases hc:isQ s[k]
  ·rw [ZeT hk' hc,ZbW,Zd5 hk']
   unfold isQ at hc
   simp only [Bool.or_eq_false_iff,decide_eq_false_iff_not] at hc
   exact ih.app (.byte hc.1 hc.2 .nil)
  ·rw [Zdc hk' hc,ZbW,ZbW,Zd5 hk',List.append_assoc]
   exact ih.app (.back _ .nil)
theorem ZcX (s:ByteArray):∀ k,(escTo s k).size<=2 * k
 | 0=>by show (0:Nat)<=_;omega
 |
  k+1=>by
  have ih:=ZcX s k
  by_cases hk:k<s.size
  ·have h1:(⟨#[92]⟩:ByteArray).size=1:=rfl
   cases hc:isQ s[k]
   ·rw [ZeT hk hc,ByteArray.size_append,ByteArray.size_extract];omega
   ·rw [Zdc hk hc,ByteArray.size_append,ByteArray.size_append,ByteArray.size_extract];omega
  ·rw [escTo,dif_neg hk];omega
theorem Zf2 {c:UInt8} (h:Zdp c=true):AllOk ⟨#[c]⟩:=λ j d hd=>by
 obtain⟨hj,rfl⟩:=ZbS hd
 obtain rfl:j=0:=by have:j<1:=hj;omega
 exact h
theorem Zki {s:ByteArray} (h:AllOk s):∀ k,k<=s.size->AllOk (escTo s k)
 | 0,_=>λ j c hc=>by obtain⟨hj,_⟩:=ZbS hc;exact absurd hj (by show ¬ j<0;omega)
 |
  k+1,hk=>by
  have ih:=Zki h k (by omega)
  have hk':k<s.size:=by omega
  have hx:AllOk (s.extract k (k+1)):=by rw [Zd5 hk'];exact Zf2 (h k _ (Za2 hk'))
  cases hc:isQ s[k]
  ·rw [ZeT hk' hc];exact ih.app hx
  ·rw [Zdc hk' hc];exact(ih.app (Zf2 (by decide))).app hx
def bit (t:Tok):ByteArray:=if t.kind=3 then escTo t.text t.text.size else t.text
def ZaA (l:List Tok):Nat->ByteArray
 | 0=>⟨#[]⟩
 | k+1=>if h:k<l.length then (if 0<k/\l[k].spaced=true then ZaA l k++⟨#[32]⟩ else ZaA l k)++bit l[k] else ZaA l k
def rawTo (l:List Tok):Nat->ByteArray
 | 0=>⟨#[]⟩
 | k+1=>if h:k<l.length then (if 0<k/\l[k].spaced=true then rawTo l k++⟨#[32]⟩ else rawTo l k)++l[k].text else rawTo l k
theorem ZcJ {l:List Tok} {k:Nat} (hk:k<l.length) (h0:0<k) (h:l[k].spaced=true):ZaA l (k+1)=ZaA l k++⟨#[32]⟩++bit l[k]:=by rw [ZaA,dif_pos hk,if_pos ⟨h0,h⟩]
theorem ZbY {l:List Tok} {k:Nat} (hk:k<l.length) (h:¬ (0<k/\l[k].spaced=true)):ZaA l (k+1)=ZaA l k++bit l[k]:=by rw [ZaA,dif_pos hk,if_neg h]
theorem rawTo_sp {l:List Tok} {k:Nat} (hk:k<l.length) (h0:0<k) (h:l[k].spaced=true):rawTo l (k+1)=rawTo l k++⟨#[32]⟩++l[k].text:=by rw [rawTo,dif_pos hk,if_pos ⟨h0,h⟩]
theorem rawTo_no {l:List Tok} {k:Nat} (hk:k<l.length) (h:¬ (0<k/\l[k].spaced=true)):rawTo l (k+1)=rawTo l k++l[k].text:=by rw [rawTo,dif_pos hk,if_neg h]
theorem Zmr {s:ByteArray} (d:Nat):∀ k,wEnd s k=k+d->∀ j,(h:j<s.size)->k<=j->j<k+d->Zal s[j]=true:=by
 induction d with
 | zero=>intro k _ j _ h1 h2;omega
 |
  succ d ih =>
  intro k h j hj h1 h2
  have hk:k<s.size:=by omega
  have hw:Zal s[k]=true:=by
   cases hw:Zal s[k]
   ·rw [ZbG hk hw] at h;omega
   ·rfl
  by_cases e:j=k
  ·subst e;exact hw
  ·rw [Zbq hk hw] at h
   exact ih (k+1) (by omega) j hj (by omega) (by omega)
theorem Zms {c:UInt8} (h:Zal c=true):c.toNat≠34/\c.toNat≠92:=by rw [Ze0] at h;omega
theorem Zlc {c:UInt8} (h:c∈marks1):c.toNat≠34/\c.toNat≠92:=by
 have:∀ d∈marks1,d.toNat≠34/\d.toNat≠92:=by decide
 exact this c h
theorem Znb {s:ByteArray} {k:Nat} (h:twoAt s k=true):∀ j,(hj:j<s.size)->k<=j->j<k+2->s[j].toNat≠34/\s[j].toNat≠92:=by
 intro j hj h1 h2
 unfold twoAt at h
 simp only [Zil,Bool.or_eq_true,Bool.and_eq_true,decide_eq_true_eq] at h
 by_cases e:j=k
 ·subst e
  rw [Za2 hj] at h
  simp only [Qi] at h
  rcases h with(((((h | h) | h) | h) | h) | h) | h <;> (rw [h.1];decide)
 ·obtain rfl:j=k+1:=by omega
  rw [Za2 hj] at h
  simp only [Qi] at h
  rcases h with(((((h | h) | h) | h) | h) | h) | h <;> (rw [h.2];decide)
theorem Znc {t:Tok} (h:tokOk t=true) (h3:t.kind≠3):∀ c∈bs t.text,c.toNat≠34/\c.toNat≠92:=by
 obtain⟨h0,_,hc,_⟩:=ZfW h
 obtain⟨⟨_,hk⟩,_⟩:=ZaP h
 intro c hm
 obtain⟨j,hj,rfl⟩:=List.getElem_of_mem hm
 rw [Zdv] at hj
 rw [Zkh hj]
 cases hw:Zal t.text[0]
 ·by_cases hq:t.text[0].toNat=34
  ·refine absurd ?_ h3
   rw [hk]
   unfold Zal at hw
   rw [Bool.or_eq_false_iff] at hw
   unfold cutKind
   rw [hw.1,hw.2,if_neg (by simp),if_neg (by simp),if_pos hq]
  ·rw [ZbR h0 hw hq] at hc
   split at hc
   ·omega
   ·rename_i hm0
    have hms:mLen t.text 0=t.text.size:=by omega
    unfold mLen at hms
    split at hms
    ·rename_i ht
     exact Znb ht j hj (by omega) (by omega)
    ·skip
     split at hms
     ·rename_i hin
      obtain rfl:j=0:=by omega
      exact Zlc hin
     ·omega
 ·rw [ZbP h0 hw] at hc
  split at hc
  ·omega
  ·exact Zms (Zmr (t.text.size) 0 (by omega) j hj (by omega) (by omega))
theorem tok_esc {t:Tok} (h:tokOk t=true):Esc (bs (bit t)) (bs t.text):=by
 unfold bit
 split
 ·have:=Zjf t.text t.text.size (Nat.le_refl _)
  rwa [List.take_of_length_le (by rw [Zdv];exact Nat.le_refl _)] at this
 ·rename_i h3;exact .plain (Znc h h3)
theorem Znd:Esc (bs ⟨#[32]⟩) (bs ⟨#[32]⟩):=.plain (by
                                intro c hc;have:c=32:=by simpa [bs] using hc
                                subst this;decide)
theorem Zkj {l:List Tok} (h:Zaj l=true):∀ k,k<=l.length->Esc (bs (ZaA l k)) (bs (rawTo l k))
 | 0,_=>.nil
 |
  k+1,hk=>by
  have ih:=Zkj h k (by omega)
  have hk':k<l.length:=by omega
  have ht:=tok_esc ((Zan h).2 k hk')
  by_cases hs:0<k/\l[k].spaced=true
  ·rw [ZcJ hk' hs.1 hs.2,rawTo_sp hk' hs.1 hs.2,ZbW,ZbW,ZbW,ZbW]
   exact(ih.app Znd).app ht
  ·rw [ZbY hk' hs,rawTo_no hk' hs,ZbW,ZbW]
   exact ih.app ht
theorem Zkk (t:Tok):(bit t).size<=2 * t.text.size:=by
 unfold bit;split
 ·exact ZcX _ _
 ·omega
theorem Zdo {l:List Tok} (h:Zaj l=true):∀ k,k<=l.length->(ZaA l k).size<=401 * k
 | 0,_=>by show (0:Nat)<=_;omega
 |
  k+1,hk=>by
  have ih:=Zdo h k (by omega)
  have hk':k<l.length:=by omega
  have h2:=(ZaP ((Zan h).2 k hk')).2
  have h3:=Zkk l[k]
  have h1:(⟨#[32]⟩:ByteArray).size=1:=rfl
  by_cases hs:0<k/\l[k].spaced=true
  ·rw [ZcJ hk' hs.1 hs.2,ByteArray.size_append,ByteArray.size_append];omega
  ·rw [ZbY hk' hs,ByteArray.size_append];omega
theorem bit_ok {t:Tok} (h:tokOk t=true):AllOk (bit t):=by
 have hx:=AllOk.of (ZfW h).2.2.2
 unfold bit;split
 ·exact Zki hx _ (Nat.le_refl _)
 ·exact hx
theorem ZlM {l:List Tok} (h:Zaj l=true):∀ k,k<=l.length->AllOk (ZaA l k)
 | 0,_=>λ j c hc=>by obtain⟨hj,_⟩:=ZbS hc;exact absurd hj (by show ¬ j<0;omega)
 |
  k+1,hk=>by
  have ih:=ZlM h k (by omega)
  have hk':k<l.length:=by omega
  have hx:=bit_ok ((Zan h).2 k hk')
  by_cases hs:0<k/\l[k].spaced=true
  ·rw [ZcJ hk' hs.1 hs.2];exact(ih.app (Zf2 (by decide))).app hx
  ·rw [ZbY hk' hs];exact ih.app hx
def quoted (x:ByteArray):ByteArray:=⟨#[34]⟩++x++⟨#[34]⟩
theorem ZeE (x:ByteArray):(quoted x).size=x.size+2:=by
 have h1:(⟨#[34]⟩:ByteArray).size=1:=rfl
 unfold quoted;rw [ByteArray.size_append,ByteArray.size_append];omega
theorem Zne (x:ByteArray):bs (quoted x)=34::(bs x++[34]):=by unfold quoted;rw [ZbW,ZbW];rfl
def zTok:Tok:=⟨0,⟨#[]⟩,false,[]⟩
def ZaT (l:List Tok):Tok × Bool:=if Zaj l=true then (if 200<(quoted (ZaA l l.length)).size then (zTok,false) else (⟨3,quoted (ZaA l l.length),false,[]⟩,true)) else (zTok,false)
theorem Zjg {l:List Tok} (h:Zaj l=false):ZaT l=(zTok,false):=by unfold ZaT;rw [if_neg (by simp [h])]
theorem ZgT {l:List Tok} {k:Nat} (h:Zaj l=true) (hk:l.length=k) (h2:200<(quoted (ZaA l k)).size):ZaT l=(zTok,false):=by unfold ZaT;rw [if_pos h,hk,if_pos h2]
theorem ZhU {l:List Tok} {k:Nat} (h:Zaj l=true) (hk:l.length=k) (h2:¬ 200<(quoted (ZaA l k)).size):ZaT l=(⟨3,quoted (ZaA l k),false,[]⟩,true):=by unfold ZaT;rw [if_pos h,hk,if_neg h2]
def Zhg (t:Tok):ByteArray × Bool:=if tokOk t=true/\t.kind=3 then (outTo t.text 1,true) else (⟨#[]⟩,false)
theorem Zkl {t:Tok} (h:tokOk t=true) (h3:t.kind=3):Zhg t=(outTo t.text 1,true):=by unfold Zhg;rw [if_pos ⟨h,h3⟩]
theorem Zld {l:List Tok} {t:Tok} (h:ZaT l=(t,true)):Zaj l=true/\(quoted (ZaA l l.length)).size<=200/\t=⟨3,quoted (ZaA l l.length),false,[]⟩:=by
 unfold ZaT at h
 split at h
 ·rename_i hv
  split at h
  ·simp at h
  ·simp at h;exact⟨hv,by omega,h.symm⟩
 ·simp at h
theorem txt_back {l:List Tok} {t:Tok} (h:ZaT l=(t,true)):tokOk t=true/\Zhg t=(rawTo l l.length,true):=by
 obtain⟨hv,hz,rfl⟩:=Zld h
 have hE:=Zkj hv l.length (Nat.le_refl _)
 generalize hJ:ZaA l l.length=J at hE hz
 have hb:=Zne J
 obtain⟨hc,ho⟩:=esc_scan hE (s:=quoted J) (k:=1) (by rw [hb];rfl)
 have h0:0<(quoted J).size:=by rw [ZeE];omega
 obtain⟨_,hq,_⟩:=bs_at (s:=quoted J) (k:=0) hb
 have hw:Zal (quoted J)[0]=false:=by rw [hq];decide
 have hq':(quoted J)[0].toNat=34:=by rw [hq];rfl
 have hcut:Zaw (quoted J) 0=((quoted J).size:Nat):=by rw [ZbQ h0 hw hq',hc]
 have hl:ZaL (quoted J)=true:=by
  refine AllOk.line ?_ hz
  unfold quoted
  exact((Zf2 (by decide)).app (by rw [← hJ];exact ZlM hv _ (Nat.le_refl _))).app (Zf2 (by decide))
 have ht:=ZlD hl h0 (by omega) hcut false
 have hx:(quoted J).extract 0 (quoted J).size=quoted J:=ByteArray.extract_zero_size
 have hk:cutKind (quoted J)[0]=3:=by rw [hq];decide
 rw [hx,hk] at ht
 refine ⟨ht,?_⟩
 rw [Zkl ht rfl]
 congr 1
 exact bs_ext ho
/-! ### Lists of names -/
def Up (l:List ByteArray):Prop:=l.Pairwise λ a b=>sLess a b=true
theorem Zdw {l:List ByteArray} (h:hidOk l=true):l.length<=60/\∀ i,i<l.length->ZaV l i=true:=by
 unfold hidOk at h
 rw [Bool.and_eq_true,decide_eq_true_eq,List.all_eq_true] at h
 exact⟨h.1,λ i hi=>h.2 i (by simpa using hi)⟩
theorem Zkm {l:List ByteArray} (h:hidOk l=true) {i:Nat} (hi:i+1<l.length):sLess (l[i]'(by omega)) l[i+1]=true:=by
 have:=(Zdw h).2 (i+1) hi
 unfold ZaV at this
 rw [dif_pos hi,Bool.and_eq_true,Bool.or_eq_true,decide_eq_true_eq] at this
 rcases this.2 with h0 | h0
 ·omega
 ·exact h0
theorem ZlN {l:List ByteArray} (h:hidOk l=true):∀ d i:Nat,(hj:i+d+1<l.length)->sLess (l[i]'(by omega)) (l[i+d+1]'hj)=true
 | 0,i,hj=>Zkm h hj
 | d+1,i,hj=>ZcA (ZlN h d i (by omega)) (Zkm h hj)
theorem Zch {l:List ByteArray} (h:hidOk l=true):l.length<=60/\(∀ x∈l,Zak x 1=true)/\Up l:=by
 refine ⟨(Zdw h).1,λ x hx=>?_,?_⟩
 ·obtain⟨i,hi,rfl⟩:=List.getElem_of_mem hx
  have:=(Zdw h).2 i hi
  unfold ZaV at this
  rw [dif_pos hi,Bool.and_eq_true] at this
  exact this.1
 ·unfold Up
  rw [List.pairwise_iff_getElem]
  intro i j hi hj hij
  have:=ZlN h (j-i-1) i (by omega)
  have e:i+(j-i-1)+1=j:=by omega
  simpa only [e] using this
theorem asc_hid {l:List ByteArray} (h1:l.length<=60) (h2:∀ x∈l,Zak x 1=true) (h3:Up l):hidOk l=true:=by
 refine ZfQ (k:=l.length) (λ j hj=>?_) (Nat.le_refl _) h1
 unfold ZaV
 rw [dif_pos hj,h2 _ (List.getElem_mem hj),Bool.true_and,Bool.or_eq_true,decide_eq_true_eq]
 by_cases h0:j=0
 ·exact .inl h0
 ·unfold Up at h3
  rw [List.pairwise_iff_getElem] at h3
  exact .inr (h3 (j-1) j (by omega) hj (by omega))
theorem Zmt {l:List ByteArray} (h:hidOk l=true) (p:ByteArray->Bool):hidOk (l.filter p)=true:=by
 obtain⟨h1,h2,h3⟩:=Zch h
 exact asc_hid (Nat.le_trans (List.length_filter_le _ _) h1) (λ x hx=>h2 x (List.mem_filter.1 hx).1) (List.Pairwise.filter _ h3)
def hasN (l:List ByteArray) (s:ByteArray):Bool:=l.any λ x=>x.toList==s.toList
theorem Zkn {l:List ByteArray} {s:ByteArray} {k:Nat} (hk:k<l.length) (h:(l[k].toList==s.toList)=true):hasN l s=true:=by
 unfold hasN;rw [List.any_eq_true];exact⟨_,List.getElem_mem hk,h⟩
theorem ZlO {l:List ByteArray} {s:ByteArray} (h:∀ j,(hj:j<l.length)->(l[j].toList==s.toList)=false):hasN l s=false:=by
 unfold hasN;rw [List.any_eq_false]
 intro x hx
 obtain⟨j,hj,rfl⟩:=List.getElem_of_mem hx
 rw [h j hj];simp
def both (a b:List ByteArray):List ByteArray:=a.filter (hasN b)
theorem Zko {a b:List ByteArray} {k:Nat} (hk:k<a.length) (h:hasN b a[k]=true):both (a.take (k+1)) b=both (a.take k) b++[a[k]]:=by
 unfold both
 rw [List.take_succ_eq_append_getElem hk,List.filter_append,List.filter_cons_of_pos h];rfl
theorem ZlP {a b:List ByteArray} {k:Nat} (hk:k<a.length) (h:hasN b a[k]=false):both (a.take (k+1)) b=both (a.take k) b:=by
 unfold both
 rw [List.take_succ_eq_append_getElem hk,List.filter_append,List.filter_cons_of_neg (by simp [h])];simp
theorem Zkp {a b:List ByteArray} {k:Nat} (hk:a.length<=k):both (a.take k) b=both a b:=by rw [List.take_of_length_le hk]
theorem Zfe (a b:List ByteArray):(both a b).length<=a.length:=List.length_filter_le _ _
def ins:List ByteArray->ByteArray->List ByteArray
 | [],n=>[n]
 | x::r,n=>if sLess x n=true then x::ins r n else if (x.toList==n.toList)=true then x::r else n::x::r
theorem Zff (n:ByteArray):∀ l,(ins l n).length<=l.length+1
 | []=>by simp [ins]
 |
  x::r=>by
  unfold ins
  have:=Zff n r
  split
  ·simp;omega
  ·split <;> simp
theorem ZhV (n:ByteArray):∀ (l:List ByteArray) (k:Nat),k<=l.length->(∀ j,(hj:j<l.length)->j<k->sLess l[j] n=true)->(∀ h:k<l.length,sLess l[k] n=false/\(l[k].toList==n.toList)=false)->ins l n=l.take k++n::l.drop k
 | [],k,hk,_,_=>by simp [ins]
 |
  x::r,0,_,_,h=>by
  obtain⟨h1,h2⟩:=h (by simp)
  simp only [List.getElem_cons_zero] at h1 h2
  rw [ins,if_neg (by simp [h1]),if_neg (by simp [h2])];rfl
 |
  x::r,k+1,hk,ha,h=>by
  have h0:=ha 0 (by simp) (by omega)
  simp only [List.getElem_cons_zero] at h0
  rw [ins,if_pos h0,ZhV n r k (by simpa using hk) (λ j hj hjk=>by have:=ha (j+1) (by simpa using hj) (by omega);simpa using this) (λ hh=>by have:=h (by simpa using hh);simpa using this)]
  rfl
theorem Zkq (n:ByteArray):∀ (l:List ByteArray) (k:Nat),(hk:k<l.length)->(∀ j,(hj:j<l.length)->j<k->sLess l[j] n=true)->(l[k].toList==n.toList)=true->ins l n=l
 |
  x::r,0,_,_,h=>by
  simp only [List.getElem_cons_zero] at h
  have e:=Zcs h
  rw [ins,if_neg (by rw [e,ZcU];simp),if_pos h]
 |
  x::r,k+1,hk,ha,h=>by
  have h0:=ha 0 (by simp) (by omega)
  simp only [List.getElem_cons_zero] at h0
  rw [ins,if_pos h0,Zkq n r k (by simpa using hk) (λ j hj hjk=>by have:=ha (j+1) (by simpa using hj) (by omega);simpa using this) (by simpa using h)]
/-! ### Pasting -/
theorem Zmu (s:ByteArray) (k:Nat):∀ j,(h:j<s.size)->k<=j->j<wEnd s k->Zal s[j]=true:=by
 induction k using wEnd.induct (s:=s) with
 |
  case1 k h hc ih =>
  intro j hj hkj hje
  rw [Zbq h hc] at hje
  by_cases e:j=k
  ·subst e;exact hc
  ·exact ih j hj (by omega) hje
 | case2 k h hc=>intro j hj hkj hje;rw [ZbG h (by simpa using hc)] at hje;omega
 | case3 k h=>intro j hj hkj hje;rw [ZcC (by omega)] at hje;omega
theorem Zle:∀ c∈marks1,c.toNat≠32:=by decide
theorem Znf {s:ByteArray} {k:Nat} {a b:UInt8} (h:two s k a b=true):s[k+1]'(ZdS h)=b:=by
 have hr:=ZdS h
 unfold two at h
 rw [List.isPrefixOf_iff_prefix] at h
 obtain⟨t,ht⟩:=h
 have h1:(s.data.toList.drop k)[1]?=some b:=by rw [← ht];rfl
 rw [List.getElem?_drop] at h1
 have h2:s.data.toList[k+1]?=some s[k+1]:=by
  rw [List.getElem?_eq_getElem (by simpa using hr)];simp [ByteArray.getElem_eq_getElem_data]
 rw [h2] at h1
 simpa using h1
theorem Zmv {s:ByteArray} {k:Nat} (h:twoAt s k=true):∃ hk:k+1<s.size,s[k+1].toNat≠32:=by
 have hk:=Ze2 h
 refine ⟨hk,?_⟩
 unfold twoAt at h
 simp only [Bool.or_eq_true] at h
 rcases h with(((((h | h) | h) | h) | h) | h) | h <;> (rw [Znf h];decide)
theorem Zmw {s:ByteArray} {k:Nat} (hk:k<s.size) (h:Zaw s k=s.size):(s[s.size-1]'(by omega)).toNat≠32:=by
 cases hw:Zal s[k]
 ·by_cases hq:s[k].toNat=34
  ·rw [ZbQ hk hw hq] at h
   cases hc:tClose s (k+1) with
   | none=>rw [hc] at h;simp only at h;omega
   |
    some e =>
    rw [hc] at h
    simp only at h
    obtain⟨_,_,_,h1,h2⟩:=Za1 hc
    have e1:e=s.size:=by omega
    subst e1
    omega
  ·rw [ZbR hk hw hq] at h
   split at h
   ·omega
   ·rename_i h0
    cases ht:twoAt s k
    ·by_cases hm:s[k]∈marks1
     ·rw [Zg6 ht hk hm] at h
      have e:k=s.size-1:=by omega
      subst e
      exact Zle _ hm
     ·exact absurd (ZfO ht hk hm) h0
    ·obtain⟨h1,h2⟩:=Zmv ht
     have e2:mLen s k=2:=by unfold mLen;rw [if_pos ht]
     rw [e2] at h
     have e:k+1=s.size-1:=by omega
     intro hh
     apply h2
     have:s[k+1]=s[s.size-1]'(by omega):=by congr 1
     rw [this];exact hh
 ·rw [ZbP hk hw] at h
  split at h
  ·omega
  ·have:=Zmu s k (s.size-1) (by omega) (by omega) (by omega)
   rw [Ze0] at this
   omega
theorem Zng (s:ByteArray):∀ (k:Nat) (sp:Bool) (n:Nat),toks s k sp n=some []->∀ j,(h:j<s.size)->k<=j->s[j].toNat=32:=by
 intro k sp n
 induction k,sp,n using toks.induct (s:=s) with
 |
  case1 k sp n hk h32 ih =>
  intro h j hj hkj
  rw [toks,dif_pos hk,if_pos h32] at h
  by_cases e:j=k
  ·subst e;exact h32
  ·exact ih h j hj (by omega)
 |
  case2 k sp n hk h32 hb =>
  intro h
  rw [toks,dif_pos hk,if_neg h32,if_pos hb] at h
  exact absurd h (by simp)
 |
  case3 k sp n hk h32 hb ih =>
  intro h
  rw [toks,dif_pos hk,if_neg h32,if_neg hb,Option.map_eq_some_iff] at h
  obtain⟨l',_,h2⟩:=h
  exact absurd h2 (by simp)
 | case4 k sp n hk=>intro h j hj hkj;omega
theorem Znh {s:ByteArray} {t:Tok} (h:Zar s=([t],true)) (h0:0<s.size) (hf:¬ s[0].toNat=32) (hl:¬ (s[s.size-1]'(by omega)).toNat=32):t=⟨cutKind s[0],s,false,[]⟩/\tokOk t=true:=by
 obtain⟨h1,h2⟩:=Zcx h
 rw [toks,dif_pos h0,if_neg hf] at h1
 split at h1
 ·exact absurd h1 (by simp)
 ·rename_i hb
  rw [Option.map_eq_some_iff] at h1
  obtain⟨l',h3,h4⟩:=h1
  simp only [List.cons.injEq] at h4
  obtain⟨h4,rfl⟩:=h4
  have hr:=Zbj (s:=s) (k:=0) (by omega)
  have hc:Zaw s 0=(s.size:Nat):=by
   by_cases e:Zaw s 0=(s.size:Nat)
   ·exact e
   ·exact absurd (Zng s _ _ _ h3 (s.size-1) (by omega) (by omega)) hl
  have hv:=ZlD h2 h0 hf hc false
  have hx:s.extract 0 s.size=s:=ByteArray.extract_zero_size
  have hx2:s.extract 0 (Zaw s 0).toNat=s:=by rw [hc];exact hx
  rw [hx] at hv
  rw [hx2] at h4
  subst h4
  exact⟨rfl,hv⟩
theorem Zkr {t:Tok} (h:tokOk t=true):∃ h0:0<t.text.size,t.text[0].toNat≠32/\(t.text[t.text.size-1]'(by omega)).toNat≠32/\t.kind=cutKind t.text[0]:=by
 obtain⟨h0,h1,h2,_⟩:=ZfW h
 obtain⟨⟨_,hk⟩,_⟩:=ZaP h
 exact⟨h0,h1,Zmw h0 h2,hk⟩
def Zaq (a b:Tok):Tok × Bool:=
 if tokOk a=true/\tokOk b=true then
  (
  match Zar (a.text++b.text) with
  | ([t],true)=>(⟨t.kind,t.text,a.spaced,both a.hidden b.hidden⟩,true)
  | _=>(zTok,false))
 else (zTok,false)
theorem Zjh {a b:Tok} (h:tokOk a=false):Zaq a b=(zTok,false):=by unfold Zaq;rw [if_neg (by simp [h])]
theorem Zji {a b:Tok} (h:tokOk b=false):Zaq a b=(zTok,false):=by unfold Zaq;rw [if_neg (by simp [h])]
theorem Zjj {a b:Tok} {l:List Tok} (h:Zar (a.text++b.text)=(l,false)):Zaq a b=(zTok,false):=by
 unfold Zaq;rw [h];split
 ·split
  ·rename_i e;simp at e
  ·rfl
 ·rfl
theorem Zjk {a b:Tok} {l:List Tok} {o:Bool} (h:Zar (a.text++b.text)=(l,o)) (hl:l.length≠1):Zaq a b=(zTok,false):=by
 unfold Zaq;rw [h];split
 ·split
  ·rename_i e;simp only [Prod.mk.injEq] at e;rw [e.1] at hl;exact absurd rfl hl
  ·rfl
 ·rfl
theorem Zjl {a b t:Tok} (ha:tokOk a=true) (hb:tokOk b=true) (h:Zar (a.text++b.text)=([t],true)):Zaq a b=(⟨t.kind,t.text,a.spaced,both a.hidden b.hidden⟩,true):=by
 unfold Zaq;rw [if_pos ⟨ha,hb⟩,h]
theorem ZhW {a b u:Tok} (h:Zaq a b=(u,true)):tokOk a=true/\tokOk b=true/\∃ t,Zar (a.text++b.text)=([t],true)/\u=⟨t.kind,t.text,a.spaced,both a.hidden b.hidden⟩:=by
 unfold Zaq at h
 split at h
 ·rename_i hv
  split at h
  ·rename_i t e;simp only [Prod.mk.injEq,and_true] at h;exact⟨hv.1,hv.2,t,e,h.symm⟩
  ·simp at h
 ·simp at h
theorem Zlf {a b u:Tok} (h:Zaq a b=(u,false)):u=zTok:=by
 unfold Zaq at h
 split at h
 ·split at h
  ·simp at h
  ·simp only [Prod.mk.injEq,and_true] at h;exact h.symm
 ·simp only [Prod.mk.injEq,and_true] at h;exact h.symm
theorem Zni {a b:Tok} (ha:tokOk a=true) (hb:tokOk b=true):∃ h0:0<(a.text++b.text).size,(a.text++b.text)[0].toNat≠32/\((a.text++b.text)[(a.text++b.text).size-1]'(by omega)).toNat≠32/\a.kind=cutKind (a.text++b.text)[0]:=by
 obtain⟨a0,a1,_,ak⟩:=Zkr ha
 obtain⟨b0,_,b2,_⟩:=Zkr hb
 have hz:(a.text++b.text).size=a.text.size+b.text.size:=ByteArray.size_append
 have h0:0<(a.text++b.text).size:=by omega
 have e0:(a.text++b.text)[0]=a.text[0]:=ByteArray.getElem_append_left a0
 have e1:(a.text++b.text)[(a.text++b.text).size-1]'(by omega)=b.text[b.text.size-1]'(by omega):=by
  rw [ByteArray.getElem_append_right (by omega)]
  congr 1;omega
 exact⟨h0,by rw [e0];exact a1,by rw [e1];exact b2,by rw [e0];exact ak⟩
theorem Zfg {a b u:Tok} (h:Zaq a b=(u,true)):tokOk u=true/\u.text=a.text++b.text/\u.kind=a.kind/\u.spaced=a.spaced/\u.hidden=both a.hidden b.hidden/\u.hidden.length<=a.hidden.length:=by
 obtain⟨ha,hb,t,ht,rfl⟩:=ZhW h
 obtain⟨h0,h1,h2,hk⟩:=Zni ha hb
 obtain⟨rfl,hv⟩:=Znh ht h0 h1 h2
 refine ⟨?_,rfl,hk.symm,rfl,rfl,Zfe _ _⟩
 unfold tokOk at hv ha ⊢
 rw [Bool.and_eq_true] at hv ha ⊢
 exact⟨hv.1,Zmt ha.2 _⟩
/-! ### Hiding -/
def spc (b:Bool):List Tok->List Tok
 | []=>[]
 | t::r=>⟨t.kind,t.text,b,t.hidden⟩::r
theorem Ziy (b:Bool) (l:List Tok):(spc b l).length=l.length:=by cases l <;> rfl
def isM (t:Tok) (s:List UInt8):Bool:=decide (t.kind=4) && (t.text.toList==s)
def argAt (a:List (List Tok)) (n:Int):List Tok:=a.getD n.toNat []
theorem Zdd {a:List (List Tok)} {n:Int} {k:Nat} (h:n=k) (hk:k<a.length):argAt a n=a[k]:=by
 unfold argAt
 subst h
 simp [List.getD_eq_getElem?_getD,List.getElem?_eq_getElem hk]
def glueL (m:DMacro) (k:Nat):Bool:=if h:0<k/\k-1<m.body.length then isM m.body[k-1] [35,35] else false
def glueR (m:DMacro) (k:Nat):Bool:=if h:k+1<m.body.length then isM m.body[k+1] [35,35] else false
def ZaC (m:DMacro) (raw ready:List (List Tok)) (k:Nat):List Tok × Nat × Bool:=
 if h:k<m.body.length then
  (if m.function=true/\isM m.body[k] [35]=true then
   (if h2:k+1<m.body.length then
    ([⟨(ZaT (argAt raw (parOf m.params m.body[k+1]))).1.kind,(ZaT (argAt raw (parOf m.params m.body[k+1]))).1.text,m.body[k].spaced,(ZaT (argAt raw (parOf m.params m.body[k+1]))).1.hidden⟩],k+2,(ZaT (argAt raw (parOf m.params m.body[k+1]))).2)
   else ([],k+2,false))
  else if parOf m.params m.body[k]<0 then ([m.body[k]],k+1,true)
  else if (glueL m k || glueR m k)=true then (spc m.body[k].spaced (argAt raw (parOf m.params m.body[k])),k+1,true)
  else (spc m.body[k].spaced (argAt ready (parOf m.params m.body[k])),k+1,true))
 else ([],k+1,true)
section
variable {m:DMacro} {raw ready:List (List Tok)} {k:Nat}
theorem Zf3 (hk:k+1<m.body.length) (h1:m.function=true) (h2:isM (m.body[k]'(by omega)) [35]=true) {u:Tok} {o:Bool} (h:ZaT (argAt raw (parOf m.params m.body[k+1]))=(u,o)) :
  ZaC m raw ready k=([⟨u.kind,u.text,(m.body[k]'(by omega)).spaced,u.hidden⟩],k+2,o):=by
 unfold ZaC;rw [dif_pos (by omega),if_pos ⟨h1,h2⟩,dif_pos hk,h]
theorem Zf4 (hk:k<m.body.length) (h1:¬ (m.function=true/\isM m.body[k] [35]=true)) (h2:parOf m.params m.body[k]<0):ZaC m raw ready k=([m.body[k]],k+1,true):=by
 unfold ZaC;rw [dif_pos hk,if_neg h1,if_pos h2]
theorem Zhh (hk:k<m.body.length) (h1:¬ (m.function=true/\isM m.body[k] [35]=true)) (h2:¬ parOf m.params m.body[k]<0) (h3:(glueL m k || glueR m k)=true):ZaC m raw ready k=(spc m.body[k].spaced (argAt raw (parOf m.params m.body[k])),k+1,true):=by
 unfold ZaC;rw [dif_pos hk,if_neg h1,if_neg h2,if_pos h3]
theorem Zfh (hk:k<m.body.length) (h1:¬ (m.function=true/\isM m.body[k] [35]=true)) (h2:¬ parOf m.params m.body[k]<0) (h3:(glueL m k || glueR m k)=false):ZaC m raw ready k=(spc m.body[k].spaced (argAt ready (parOf m.params m.body[k])),k+1,true):=by
 unfold ZaC;rw [dif_pos hk,if_neg h1,if_neg h2,if_neg (by simp [h3])]
theorem Zep (m:DMacro) (raw ready:List (List Tok)) (k:Nat):k<(ZaC m raw ready k).2.1:=by
 unfold ZaC
 split
 ·split
  ·split <;> (show k<k+2;omega)
  ·split
   ·show k<k+1;omega
   ·split <;> (show k<k+1;omega)
 ·show k<k+1;omega
end
def subGo (m:DMacro) (raw ready:List (List Tok)) (k:Nat) (out:List Tok) (emp paste:Bool):List Tok × Bool:=
 if h:k<m.body.length then
  (
  if isM m.body[k] [35,35]=true/\paste=false then subGo m raw ready (k+1) out emp true
  else if (ZaC m raw ready k).2.2=false then ([],false)
  else if paste=true/\emp=false/\0<(ZaC m raw ready k).1.length then
   (if (Zaq (out.getLastD zTok) ((ZaC m raw ready k).1.headD zTok)).2=true then
    subGo m raw ready (ZaC m raw ready k).2.1 (out.dropLast++(Zaq (out.getLastD zTok) ((ZaC m raw ready k).1.headD zTok)).1::(ZaC m raw ready k).1.tail) emp false
    else ([],false))
  else subGo m raw ready (ZaC m raw ready k).2.1 (out++(ZaC m raw ready k).1) (decide ((ZaC m raw ready k).1.length=0) && (emp || !paste)) false)
 else (out,true)
termination_by m.body.length-k
decreasing_by
 all_goals first | omega | (refine Nat.sub_lt_sub_left h ?_;exact Zep _ _ _ _)
section
variable {m:DMacro} {raw ready:List (List Tok)} {k:Nat} {out part:List Tok} {emp paste:Bool} {nx:Nat} {ok:Bool}
theorem ZdN (h:m.body.length<=k):subGo m raw ready k out emp paste=(out,true):=by rw [subGo,dif_neg (by omega)]
theorem Zfi (hk:k<m.body.length) (h1:isM m.body[k] [35,35]=true):subGo m raw ready k out emp false=subGo m raw ready (k+1) out emp true:=by
 rw [subGo,dif_pos hk,if_pos ⟨h1,rfl⟩]
theorem ZeU (hk:k<m.body.length) (h1:¬ (isM m.body[k] [35,35]=true/\paste=false)) (hp:ZaC m raw ready k=(part,nx,false)):subGo m raw ready k out emp paste=([],false):=by
 rw [subGo,dif_pos hk,if_neg h1,if_pos (by rw [hp])]
theorem ZhX (hk:k<m.body.length) (h1:¬ (isM m.body[k] [35,35]=true/\paste=false)) (hp:ZaC m raw ready k=(part,nx,true)) (h2:paste=true/\emp=false/\0<part.length) {x:Tok} (h3:Zaq (out.getLastD zTok) (part.headD zTok)=(x,false)):subGo m raw ready k out emp paste=([],false):=by
 rw [subGo,dif_pos hk,if_neg h1,if_neg (by rw [hp];simp),if_pos (by rw [hp];exact h2),hp]
 simp only [h3]
 rw [if_neg (by simp)]
theorem Zgu (hk:k<m.body.length) (h1:¬ (isM m.body[k] [35,35]=true/\paste=false)) (hp:ZaC m raw ready k=(part,nx,true)) (h2:paste=true/\emp=false/\0<part.length) {x:Tok} (h3:Zaq (out.getLastD zTok) (part.headD zTok)=(x,true)) :
  subGo m raw ready k out emp paste=subGo m raw ready nx (out.dropLast++x::part.tail) emp false:=by
 rw [subGo,dif_pos hk,if_neg h1,if_neg (by rw [hp];simp),if_pos (by rw [hp];exact h2),hp]
 simp only [h3,if_true]
theorem ZdO (hk:k<m.body.length) (h1:¬ (isM m.body[k] [35,35]=true/\paste=false)) (hp:ZaC m raw ready k=(part,nx,true)) (h2:¬ (paste=true/\emp=false/\0<part.length)) :
  subGo m raw ready k out emp paste=subGo m raw ready nx (out++part) (decide (part.length=0) && (emp || !paste)) false:=by
 rw [subGo,dif_pos hk,if_neg h1,if_neg (by rw [hp];simp),if_neg (by rw [hp];exact h2),hp]
end
def Zas (m:DMacro) (a:List (List Tok)):Bool:=decide (a.length=m.params.length) && a.all Zaj
def Zap (m:DMacro) (raw ready:List (List Tok)):List Tok × Bool:=
 if macOk m=true/\Zas m raw=true/\Zas m ready=true then
  (if (subGo m raw ready 0 [] true false).2=false\/240<(subGo m raw ready 0 [] true false).1.length then ([],false) else subGo m raw ready 0 [] true false)
 else ([],false)
theorem ZbN {m:DMacro} {raw ready:List (List Tok)} (h:¬ (macOk m=true/\Zas m raw=true/\Zas m ready=true)):Zap m raw ready=([],false):=by unfold Zap;rw [if_neg h]
theorem Zeq {m:DMacro} {raw ready:List (List Tok)} {l:List Tok} (h:subGo m raw ready 0 [] true false=(l,false)):Zap m raw ready=([],false):=by
 unfold Zap;split
 ·rw [if_pos (by rw [h];exact .inl rfl)]
 ·rfl
theorem ZgU {m:DMacro} {raw ready:List (List Tok)} {l:List Tok} {o:Bool} (h:subGo m raw ready 0 [] true false=(l,o)) (hl:240<l.length):Zap m raw ready=([],false):=by
 unfold Zap;split
 ·rw [if_pos (by rw [h];exact .inr hl)]
 ·rfl
theorem ZhY {m:DMacro} {raw ready:List (List Tok)} {l:List Tok} (h0:macOk m=true/\Zas m raw=true/\Zas m ready=true) (h:subGo m raw ready 0 [] true false=(l,true)) (hl:¬ 240<l.length):Zap m raw ready=(l,true):=by
 unfold Zap;rw [if_pos h0,if_neg (by rw [h];simpa using hl),h]
theorem Zbn (b:Nat):∀ (vs:List Value) (w:World) (o:Nat),Zdt w b o vs=w.setCells b o vs
 | [],_,_=>rfl
 | v::vs,w,o=>Zbn b vs _ (o+1)
theorem Znj {base e g n cap size:Nat} {xs:List Value} {w:World} (h:w.ownsRow base e size (.slice (some ⟨g,0,none⟩) n cap) n xs) (hn:n+1<=cap) :
  ∃ Z,Z.length=size/\w.ownsRow base e size (.slice (some ⟨g,0,none⟩) (n+1) cap) (n+1) (xs++Z):=by
 rcases h.2 with⟨h',_⟩ | ⟨g',cap',cur,h',q2,q3,q4,q5,q6,q7⟩
 ·cases h'
 ·simp only [Value.slice.injEq,Qi,Addr.mk.injEq,and_true,true_and] at h'
  obtain⟨rfl,rfl⟩:=h'
  have hsz:(n+1) * size<=cap * size:=Nat.mul_le_mul_right _ hn
  have hsn:(n+1) * size=n * size+size:=Nat.succ_mul _ _
  refine ⟨(cur.toList.drop (n * size)).take size,?_,?_,.inr ⟨g,cap,cur,rfl,q2,q3,hn,q5,q6,?_⟩⟩
  ·rw [List.length_take,List.length_drop,Array.length_toList,q6];omega
  ·rw [List.length_append,h.1,List.length_take,List.length_drop,Array.length_toList,q6];omega
  ·rw [hsn,List.take_add,q7]
theorem Zlg {A D X Z:List Value} (hz:Z.length=X.length) (hy:(A++D++Z).length=A.length+X.length+D.length):Zbr (Zbr (A++D++Z) (A.length+X.length) D) A.length X=A++(X++D):=by
 have h1:A++D++Z=A++((D++Z).take X.length++(D++Z).drop X.length):=by rw [List.take_append_drop,List.append_assoc]
 have ht:((D++Z).take X.length).length=X.length:=by rw [List.length_take,List.length_append];omega
 have hd:((D++Z).drop X.length).length=D.length:=by rw [List.length_drop,List.length_append];omega
 have h2:A++D++Z=(A++(D++Z).take X.length)++((D++Z).drop X.length++[]):=by rw [h1,List.append_nil,List.append_assoc]
 have h3:(A++(D++Z).take X.length).length=A.length+X.length:=by rw [List.length_append,ht]
 rw [h2,← h3,Zbw _ _ _ _ hd,List.append_nil,List.append_assoc]
 exact Zbw X A _ D ht
theorem Zlh {A X D Z1 Z2:List Value} (h1:Z1.length=X.length) (h2:Z2.length=D.length):Zbr (Zbr (A++(Z1++Z2)) A.length X) (A.length+X.length) D=A++(X++D):=by
 rw [Zbw X A Z1 Z2 h1,← List.append_assoc,← List.length_append]
 have:=Zbw D (A++X) Z2 [] h2
 rw [List.append_nil,List.append_nil] at this
 rw [this,List.append_assoc]
theorem Zhi {P:Program} (w:World) (base:Nat) (t ty e:TypeId) (i:TypeInfo) (z:Value) (size bytes:Nat) (ht:P.underlying t=some (.slice e)) (hi:P.info? e=some i) (hz:i.zero=some z)
  (hsize:i.size=size) (hby:i.bytes=bytes) (hzs:z.cells.size=size) (hsz:0<size)
  (v:Value) (n:Nat) (xs:List Value) (hown:w.ownsRow base e size v n xs)
  (a:Addr) (m c:Nat) (news:List Value) (hl:news.length=m * size) (hnews:∀ j u,news[j]?=some u->w.cell? (a.add j)=some u) (h1:∀ u∈news,u.oneCell'=true)
  (h63:n+m<=maxLen) (hbytes:(n+m) * bytes<=140737488355328) (hbase:base<=w.heap.size) :
  ∃ v' w',(Builtin.append_ #[t,t] ty #[v,.slice (some a) m c]).run P w=.ok v' w'/\w'.ownsRow base e size v' (n+m) (xs++news)/\w.grownBy w' v.ownBlock/\(v'.ownBlock=v.ownBlock\/v'.ownBlock=some w.heap.size):=by
 obtain⟨v',w',hr,h2,h3,h4⟩:=Go.run_append_own (P:=P) w base t ty e i z size bytes ht hi hz hsize hby hzs hsz v n xs hown a m c news hl hnews h1 h63 hbytes hbase
 refine ⟨v',w',hr,h2,h3,?_⟩
 have hsmall:n+m<=9223372036854775807:=by simp only [maxLen] at h63;omega
 subst hsize
 subst hby
 rcases hown.2 with⟨rfl,rfl⟩ | ⟨g,cap,cur,rfl,hbg,hg,hnc,hcm,hcs,htake⟩
 ·have hx:xs=[]:=List.eq_nil_of_length_eq_zero (by simpa using hown.1)
  subst hx
  by_cases hm:m=0
  ·exact .inl (by rw [h4.2 ⟨rfl,hm⟩])
  ·have hr2:=_root_.Go.run_append_nil (P:=P) w t ty e i z ht hi hz a m c news hl hnews (by omega) (by omega) (by have hb:=hbytes;simp only [Nat.zero_add] at hb;omega)
   rw [hr2] at hr
   obtain⟨rfl,_⟩:=Result.ok.inj hr
   exact .inr rfl
 ·by_cases hroom:n+m<=cap
  ·have hfit:n * i.size+news.length<=cur.size:=by rw [hl,hcs,← Nat.add_mul];exact Nat.mul_le_mul_right _ hroom
   have hr2:=Go.run_append_room (P:=P) w t ty e i ht hi g n cap cur hg a m c news hl hnews h1 hroom hfit
   rw [hr2] at hr
   obtain⟨rfl,_⟩:=Result.ok.inj hr
   exact .inl rfl
  ·have holds:∀ j u,xs[j]?=some u->w.cell? ((⟨g,0,none⟩:Addr).add j)=some u:=hown.cells (g:=g) rfl
   have hr2:=_root_.Go.run_append_grow (P:=P) w t ty e i z ht hi hz ⟨g,0,none⟩ n cap xs hown.1 holds a m c news hl hnews (by omega) (by omega) (growslice_fits (by omega) hbytes)
   rw [hr2] at hr
   obtain⟨rfl,_⟩:=Result.ok.inj hr
   exact .inr rfl
structure RowN {α:Type} (S:Shape α) (base:Nat) (e:TypeId) (v:Value) (L:List (Elem α)) (w:World):Prop where
 row:w.ownsRow base e S.m v L.length (L.flatMap (·.cells))
 len:∀ x∈L,x.cells.length=S.m
 el:∀ x∈L,S.R w x.cells x.d x.fp
 ap:∀ x∈L,∀ b∈x.fp,v.ownBlock≠some b
section
variable {α:Type} {S:Shape α} {base:Nat} {e:TypeId} {v v':Value} {L:List (Elem α)} {w w':World}
theorem RowN.nil (S:Shape α) (base:Nat) (e:TypeId) (w:World):RowN S base e (.slice none 0 0) [] w:=⟨World.ownsRow_nil _ _ _ _,by simp,by simp,by simp⟩
theorem RowN.lit0 (S:Shape α) (e:TypeId) (w:World) {base:Nat} (hb:base<=w.heap.size):RowN S base e (.slice (some ⟨w.heap.size,0,none⟩) 0 0) [] (w.alloc (.cells #[] e)) where
 row:=World.ownsRow_lit (base:=base) (e:=e) (size:=S.m) w #[] 0 hb (by unfold maxLen;omega) (by simp)
 len:=by simp
 el:=by simp
 ap:=by simp
theorem RowN.lit1 {x:Elem α} {base:Nat} (hb:base<=w.heap.size) (hl:x.cells.length=S.m) (hR:S.R w x.cells x.d x.fp):RowN S base e (.slice (some ⟨w.heap.size,0,none⟩) 1 1) [x] (w.alloc (.cells x.cells.toArray e)) where
 row:=by
  have:=World.ownsRow_lit (base:=base) (e:=e) (size:=S.m) w x.cells.toArray 1 hb (by unfold maxLen;omega) (by simpa using hl)
  simpa using this
 len:=λ y hy=>by obtain rfl:=Qm hy;exact hl
 el:=λ y hy=>by obtain rfl:=Qm hy;exact S.below hR (Zab w _)
 ap:=λ y hy b hb' h=>by
  obtain rfl:=Qm hy
  have:=S.lt hR b hb'
  simp only [Value.ownBlock,Qi] at h
  omega
theorem RowN.same (h:RowN S base e v L w) (hv:∀ g,v.ownBlock=some g->w'.heap[g]?=w.heap[g]?) (hb:∀ x∈L,∀ b∈x.fp,w'.heap[b]?=w.heap[b]?):RowN S base e v L w' where
 row:=Zbb h.row hv
 len:=h.len
 el:=λ x hx=>S.frame (λ b hb'=>hb x hx b hb') (h.el x hx)
 ap:=h.ap
theorem RowN.below (h:RowN S base e v L w) (hb:Below w.heap.size w w'):RowN S base e v L w':=
 h.same (λ g hg=>hb.block g (h.row.lt g hg).2) (λ x hx b hb'=>hb.block b (S.lt (h.el x hx) b hb'))
theorem RowN.kept {K:List Nat} (h:RowN S base e v L w) (hk:Kept K w w') (hv:∀ g,v.ownBlock=some g->g∉K) (hb:∀ x∈L,∀ b∈x.fp,b∉K):RowN S base e v L w':=
 h.same (λ g hg=>hk.block g (h.row.lt g hg).2 (hv g hg)) (λ x hx b hb'=>hk.block b (S.lt (h.el x hx) b hb') (hb x hx b hb'))
theorem RowN.lower {base':Nat} (h:RowN S base e v L w) (hl:base'<=base):RowN S base' e v L w where
 row:=⟨h.row.1,by
  rcases h.row.2 with h0 | ⟨g,cap,cur,h1,h2,h3⟩
  ·exact .inl h0
  ·exact .inr ⟨g,cap,cur,h1,Nat.le_trans hl h2,h3⟩⟩
 len:=h.len
 el:=h.el
 ap:=h.ap
theorem RowN.val (h:RowN S base e v L w):∃ a cap,v=.slice a L.length cap/\L.length<=cap/\cap<=maxLen/\(0<L.length->∃ g,a=some ⟨g,0,none⟩/\base<=g/\g<w.heap.size):=by
 rcases h.row.2 with⟨rfl,h0⟩ | ⟨g,cap,cur,rfl,hb,hg,hn,hc,_⟩
 ·exact⟨none,0,by rw [h0],by omega,by simp,λ h=>by omega⟩
 ·exact⟨_,cap,rfl,hn,hc,λ _=>⟨g,rfl,hb,(Qg hg).1⟩⟩
theorem RowN.mine (h:RowN S base e v L w):∀ b,v.ownBlock=some b->base<=b/\b<w.heap.size:=λ b hb=>h.row.lt b hb
theorem RowN.read (h:RowN S base e v L w):∃ fp,(Zaa S).R w [v] (L.map (·.d)) fp/\(∀ b∈fp,v.ownBlock=some b\/∃ x∈L,b∈x.fp)/\(Own w base (L.flatMap (·.fp))->Own w base fp):=by
 obtain⟨fp,h1,h2,h3⟩:=Za7 h.row λ x hx=>⟨h.len x hx,h.el x hx⟩
 refine ⟨fp,h1,λ b hb=>?_,λ ho=>h3 ho λ g hg hm=>?_⟩
 ·rcases h2 b hb with h | h
  ·exact .inl h
  ·obtain⟨x,hx,hb'⟩:=List.mem_flatMap.1 h
   exact .inr ⟨x,hx,hb'⟩
 ·obtain⟨x,hx,hb'⟩:=List.mem_flatMap.1 hm
  exact h.ap x hx g hb' hg
theorem RowN.len_eq {g n cap:Nat} (h:RowN S base e (.slice (some ⟨g,0,none⟩) n cap) L w):L.length=n:=by
 rcases h.row.2 with⟨h',_⟩ | ⟨g',cap',cur,h',_⟩
 ·cases h'
 ·simp only [Value.slice.injEq] at h';exact h'.2.1.symm
theorem RowN.frozen {g n cap:Nat} (h:RowN S base e (.slice (some ⟨g,0,none⟩) n cap) L w) (o:Nat):w.frozen? ⟨g,o,none⟩=false:=by
 rcases h.row.2 with⟨h',_⟩ | ⟨g',cap',cur,h',_,hg,_⟩
 ·cases h'
 ·simp only [Value.slice.injEq,Qi,Addr.mk.injEq,and_true] at h'
  obtain⟨rfl,_⟩:=h'
  exact frozen_of_row w g o cur e hg
theorem RowN.cellAt {g n cap:Nat} (h:RowN S base e (.slice (some ⟨g,0,none⟩) n cap) L w) {k:Nat} (hk:k<L.length) {j:Nat} (hj:j<S.m) {u:Value} (hu:L[k].cells[j]?=some u):w.cell? ⟨g,k * S.m+j,none⟩=some u:=by
 have hn:L.length=n:=h.len_eq
 subst hn
 rw [h.row.cellAt (k * S.m+j) (by have:(k+1) * S.m<=L.length * S.m:=Nat.mul_le_mul_right _ hk;rw [Nat.succ_mul] at this;omega)]
 exact(ZdG (f:=Elem.cells) h.len hk hj).trans hu
theorem RowN.set {g n cap:Nat} (h:RowN S base e (.slice (some ⟨g,0,none⟩) n cap) L w) {k:Nat} (hk:k<L.length) {j:Nat} (hj:j<S.m) (u:Value) (x':Elem α) (hx:x'.cells=L[k].cells.set j u)
  (hR:S.R w x'.cells x'.d x'.fp) (hap:g∉x'.fp):RowN S base e (.slice (some ⟨g,0,none⟩) n cap) (L.set k x') (w.setCell ⟨g,k * S.m+j,none⟩ u):=by
 have hn:L.length=n:=h.len_eq
 have hfar:∀ b,b≠g->(w.setCell ⟨g,k * S.m+j,none⟩ u).heap[b]?=w.heap[b]?:=λ b hb=>Below.heap_setCell _ _ _ _ hb
 have hmem:∀ x∈L.set k x',x=x'\/x∈L:=λ x hx=>by
  rcases List.mem_or_eq_of_mem_set hx with h | h
  ·exact .inr h
  ·exact .inl h
 have hne:∀ x∈L.set k x',∀ b∈x.fp,b≠g:=λ x hx' b hb e=>by
  subst e
  rcases hmem x hx' with rfl | hx'
  ·exact hap hb
  ·exact h.ap x hx' b hb rfl
 refine ⟨?_,λ x hx'=>?_,λ x hx'=>S.frame (λ b hb=>hfar b (hne x hx' b hb)) ?_,λ x hx' b hb hv=>?_⟩
 ·have hrow:=h.row
  rw [hn] at hrow
  have:=(hrow.stored (k * S.m+j) u).1
  rw [Zdn h.len hk hj u x' hx] at this
  rw [List.length_set,hn]
  exact this
 ·rcases hmem x hx' with rfl | hx'
  ·rw [hx,List.length_set];exact h.len _ (List.getElem_mem hk)
  ·exact h.len x hx'
 ·rcases hmem x hx' with rfl | hx'
  ·exact hR
  ·exact h.el x hx'
 ·simp only [Value.ownBlock,Qi] at hv
  exact hne x hx' b hb hv.symm
theorem RowN.put {g n cap:Nat} (h:RowN S base e (.slice (some ⟨g,0,none⟩) n cap) L w) {k:Nat} (hk:k<L.length) (x':Elem α) (hl:x'.cells.length=S.m) (hR:S.R w x'.cells x'.d x'.fp) (hap:g∉x'.fp) :
  RowN S base e (.slice (some ⟨g,0,none⟩) n cap) (L.set k x') (Zdt w g (k * S.m) x'.cells):=by
 have hn:L.length=n:=h.len_eq
 have hK:=Zbx (g:=g) x'.cells w (k * S.m)
 have hmem:∀ x∈L.set k x',x=x'\/x∈L:=λ x hx=>by
  rcases List.mem_or_eq_of_mem_set hx with h | h
  ·exact .inr h
  ·exact .inl h
 have hne:∀ x∈L.set k x',∀ b∈x.fp,b≠g:=λ x hx' b hb e=>by
  subst e
  rcases hmem x hx' with rfl | hx'
  ·exact hap hb
  ·exact h.ap x hx' b hb rfl
 have hel:∀ x∈L.set k x',x.cells.length=S.m/\S.R w x.cells x.d x.fp:=λ x hx'=>by
  rcases hmem x hx' with rfl | hx'
  ·exact⟨hl,hR⟩
  ·exact⟨h.len x hx',h.el x hx'⟩
 refine ⟨?_,λ x hx'=>(hel x hx').1,λ x hx'=>S.frame (λ b hb=>hK.block b (S.lt (hel x hx').2 b hb) (by simp;exact hne x hx' b hb)) (hel x hx').2,λ x hx' b hb hv=>?_⟩
 ·have hrow:=h.row
  rw [hn] at hrow
  have r1:=ZbK x'.cells w _ (k * S.m) hrow
  have hsplit:L.flatMap (·.cells)=(L.take k).flatMap (·.cells)++(L[k].cells++(L.drop (k+1)).flatMap (·.cells)):=by
   have e0:L=L.take k++(L[k]::L.drop (k+1)):=by rw [← List.drop_eq_getElem_cons hk,List.take_append_drop]
   conv=>lhs;rw [e0]
   rw [List.flatMap_append,List.flatMap_cons]
  have hsplit2:(L.set k x').flatMap (·.cells)=(L.take k).flatMap (·.cells)++(x'.cells++(L.drop (k+1)).flatMap (·.cells)):=by
   rw [List.set_eq_take_append_cons_drop,if_pos hk,List.flatMap_append,List.flatMap_cons]
  have hA:((L.take k).flatMap (·.cells)).length=k * S.m:=by rw [ZaU (f:=Elem.cells) (m:=S.m) (λ y hy=>h.len y (List.mem_of_mem_take hy)),List.length_take];congr 1;omega
  have e1:=Zbw x'.cells ((L.take k).flatMap (·.cells)) L[k].cells ((L.drop (k+1)).flatMap (·.cells)) (by rw [hl];exact h.len _ (List.getElem_mem hk))
  rw [hA,← hsplit,← hsplit2] at e1
  rw [e1] at r1
  rw [List.length_set,hn]
  exact r1
 ·simp only [Value.ownBlock,Qi] at hv
  exact hne x hx' b hb hv.symm
theorem RowN.appended (h:RowN S base e v L w) {X:List (Elem α)} (hrow:w'.ownsRow base e S.m v' (L++X).length ((L++X).flatMap (·.cells))) (hg:w.grownBy w' v.ownBlock) (hp:v'.ownBlock=v.ownBlock\/v'.ownBlock=some w.heap.size)
  (hX:∀ x∈X,x.cells.length=S.m/\S.R w x.cells x.d x.fp/\∀ b∈x.fp,v.ownBlock≠some b):RowN S base e v' (L++X) w':=by
 have hall:∀ x∈L++X,x.cells.length=S.m/\S.R w x.cells x.d x.fp/\∀ b∈x.fp,v.ownBlock≠some b:=λ x hx=>by
  rcases Qa hx with hx | hx
  ·exact⟨h.len x hx,h.el x hx,h.ap x hx⟩
  ·exact hX x hx
 refine ⟨hrow,λ x hx=>(hall x hx).1,λ x hx=>?_,λ x hx b hb=>?_⟩
 ·exact S.frame (λ b hb=>hg.block b (S.lt (hall x hx).2.1 b hb) λ hv=>(hall x hx).2.2 b hb hv.symm) (hall x hx).2.1
 ·rcases hp with hp | hp
  ·rw [hp];exact(hall x hx).2.2 b hb
  ·rw [hp]
   intro h2
   simp only [Qi] at h2
   have:=S.lt (hall x hx).2.1 b hb
   omega
end
theorem Zbz {α:Type} {S:Shape α} {P:Program} {t e:TypeId} {z:Value} {bytes:Nat} (ti:TI P t e z S.m bytes) (hzs:z.cells.size=S.m) (h0:0<S.m) (w:World) {L X:List (Elem α)} {o:Oper} {a:Act} {K:Act->World->Prop} {Q:Exit->Act->World->Prop}
  (s y:Operand) (ho:o.op=.call { callee:=.builtin .append,args:=#[s,y],argTypes:=#[t,t] })
  (base:Nat) (v:Value) (hs:a.eval s=v) (hown:RowN S base e v L w) (ad:Addr) (m c:Nat) (hy:a.eval y=.slice (some ad) m c) (hm:X.length=m)
  (hX:∀ x∈X,x.cells.length=S.m/\S.R w x.cells x.d x.fp/\∀ b∈x.fp,v.ownBlock≠some b) (h1:∀ x∈X,∀ u∈x.cells,u.oneCell'=true) (hcell:∀ j u,(X.flatMap (·.cells))[j]?=some u->w.cell? (ad.add j)=some u)
  (h63:L.length+m<=maxLen) (hbytes:(L.length+m) * bytes<=140737488355328) (hbase:base<=w.heap.size)
  (h:∀ v' w',RowN S base e v' (L++X) w'->w.grownBy w' v.ownBlock->(v'.ownBlock=v.ownBlock\/v'.ownBlock=some w.heap.size)->K (a.put o.dst v') w'):o.wp P a w K Q:=by
 obtain⟨i,hi,hz0,hz1,hz2⟩:=info_parts ti.2
 subst hm
 obtain⟨v',w',hr,r1,r2,r3⟩:=Zhi (P:=P) w base t o.type e i z S.m bytes ti.1 hi hz0 hz1 hz2 hzs h0 v L.length _ hown.row ad X.length c (X.flatMap (·.cells)) (ZaU (f:=Elem.cells) λ x hx=>(hX x hx).1) hcell
  (λ u hu=>by obtain⟨x,hx,hu⟩:=List.mem_flatMap.1 hu;exact h1 x hx u hu) h63 hbytes hbase
 unfold Oper.wp execOp
 simp only [ho,resolve,invoke,builtin,Sem.run_bind,Sem.run_pure,Result.andThen_ok,List.map_toArray,List.map_cons,List.map_nil,hs,hy,hr]
 refine h v' w' (hown.appended ?_ r2 r3 hX) r2 r3
 rw [List.length_append,List.flatMap_append]
 exact r1
theorem ZaE {α:Type} {S:Shape α} {P:Program} {t e:TypeId} {z:Value} {bytes:Nat} (ti:TI P t e z S.m bytes) (hzs:z.cells.size=S.m) (h0:0<S.m) (w:World) {L X:List (Elem α)} {ops:Array Oper} {rest:List Oper} {o:Oper} {a:Act} {Q:Exit->Act->World->Prop}
  (hg:o.guard=none) (s y:Operand) (ho:o.op=.call { callee:=.builtin .append,args:=#[s,y],argTypes:=#[t,t] })
  (base:Nat) (v:Value) (hs:a.eval s=v) (hown:RowN S base e v L w) (ad:Addr) (m c:Nat) (hy:a.eval y=.slice (some ad) m c) (hm:X.length=m)
  (hX:∀ x∈X,x.cells.length=S.m/\S.R w x.cells x.d x.fp/\∀ b∈x.fp,v.ownBlock≠some b) (h1:∀ x∈X,∀ u∈x.cells,u.oneCell'=true) (hcell:∀ j u,(X.flatMap (·.cells))[j]?=some u->w.cell? (ad.add j)=some u)
  (h63:L.length+m<=maxLen) (hbytes:(L.length+m) * bytes<=140737488355328) (hbase:base<=w.heap.size)
  (h:∀ v' w',RowN S base e v' (L++X) w'->w.grownBy w' v.ownBlock->(v'.ownBlock=v.ownBlock\/v'.ownBlock=some w.heap.size)->wpList P ops Q rest (a.put o.dst v') w'):wpList P ops Q (o::rest) a w:=
 wpList_plain hg λ _ hK=>Zbz ti hzs h0 w s y ho base v hs hown ad m c hy hm hX h1 hcell h63 hbytes hbase λ v' w' h2 h3 h4=>hK _ _ (h v' w' h2 h3 h4)
theorem Zer {P:Program} {w:World} (base:Nat) (t ty e:TypeId) (i:TypeInfo) (size c:Nat) (ht:P.underlying t=some (.slice e)) (hi:P.info? e=some i)
  (v:Value) (n:Nat) (xs:List Value) (hown:w.ownsRow base e size v n xs):(Builtin.append_ #[t,t] ty #[v,.slice none 0 c]).run P w=.ok v w:=by
 rcases hown.2 with⟨rfl,rfl⟩ | ⟨g,cap,cur,rfl,_,_,hnc,_⟩
 ·simp [Builtin.append_,run_underlying ht,sizeOf,typeInfo,hi,Builtin.lenOf,Builtin.firstCells]
 ·simp [Builtin.append_,run_underlying ht,sizeOf,typeInfo,hi,Builtin.lenOf,Builtin.firstCells,hnc,storeCells]
theorem elems_in {α:Type} {S:Shape α} {w:World} {u:Value} {M:List α} {fp:List Nat} (H:(Zaa S).R w [u] M fp) :
  ∃ (X:List (Elem α)) (a:Option Addr) (cap:Nat),X.map (·.d)=M/\X.length=M.length/\u=.slice a M.length cap/\M.length<=maxLen/\(∀ x∈X,x.cells.length=S.m/\S.R w x.cells x.d x.fp/\∀ b∈x.fp,b∈fp) /\
   (0<M.length->∃ b off,a=some ⟨b,off,none⟩/\b<w.heap.size/\∀ k,(hk:k<X.length)->ElemAt w b off S.m k X[k].cells):=by
 obtain⟨a,cap,rfl,hc,hm,hrow⟩:=Zac H
 by_cases h0:0<M.length
 ·obtain⟨b,off,fps,rfl,hb,hfp,he⟩:=hrow h0
  have key:∀ k:Fin M.length,∃ x:Elem α,x.d=M[k.1]/\x.fp=fps k.1/\ElemAt w b off S.m k.1 x.cells/\S.R w x.cells x.d x.fp:=λ k=>by
   obtain⟨es,hE,hR⟩:=he k.1 k.2
   exact⟨⟨es,M[k.1],fps k.1⟩,rfl,rfl,hE,hR⟩
  let X:List (Elem α):=List.ofFn λ k:Fin M.length=>(key k).choose
  have hXl:X.length=M.length:=by simp [X]
  have hX:∀ k,(hk:k<X.length)->∃ hk':k<M.length,X[k]=(key ⟨k,hk'⟩).choose:=λ k hk=>⟨by omega,by simp [X]⟩
  refine ⟨X,_,cap,?_,hXl,rfl,by omega,λ x hx=>?_,λ _=>⟨b,off,rfl,hb,λ k hk=>?_⟩⟩
  ·apply List.ext_getElem
   ·simp [hXl]
   ·intro k h1 h2
    rw [List.getElem_map]
    obtain⟨hk',e⟩:=hX k (by simpa using h1)
    rw [e]
    exact(key ⟨k,hk'⟩).choose_spec.1
  ·obtain⟨k,hk,rfl⟩:=List.getElem_of_mem hx
   obtain⟨hk',e⟩:=hX k hk
   obtain⟨s1,s2,s3,s4⟩:=(key ⟨k,hk'⟩).choose_spec
   rw [e]
   refine ⟨s3.1,s4,λ c hc=>?_⟩
   rw [s2] at hc
   rw [hfp]
   exact List.mem_cons_of_mem _ (List.mem_flatMap.2 ⟨k,List.mem_range.2 hk',hc⟩)
  ·obtain⟨hk',e⟩:=hX k hk
   rw [e]
   exact(key ⟨k,hk'⟩).choose_spec.2.2.1
 ·have hM:M=[]:=List.length_eq_zero_iff.1 (by omega)
  subst hM
  exact⟨[],a,cap,rfl,rfl,rfl,by unfold maxLen;simp,by simp,λ h=>absurd h (by simp)⟩
theorem Zd6 {α:Type} {S:Shape α} {P:Program} {t e:TypeId} {z:Value} {bytes:Nat} (ti:TI P t e z S.m bytes) (hzs:z.cells.size=S.m) (h0:0<S.m) (hone:∀ w cs x fp,S.R w cs x fp->∀ u∈cs,u.oneCell'=true) (w:World) {L:List (Elem α)} {o:Oper} {a:Act} {K:Act->World->Prop} {Q:Exit->Act->World->Prop}
  (s y:Operand) (ho:o.op=.call { callee:=.builtin .append,args:=#[s,y],argTypes:=#[t,t] })
  (base:Nat) (v u:Value) (M:List α) (fp:List Nat) (hs:a.eval s=v) (hown:RowN S base e v L w) (hy:a.eval y=u) (HM:(Zaa S).R w [u] M fp) (hfp:∀ b∈fp,v.ownBlock≠some b)
  (h63:L.length+M.length<=maxLen) (hbytes:(L.length+M.length) * bytes<=140737488355328) (hbase:base<=w.heap.size)
  (h:∀ v' X w',X.map (·.d)=M->(∀ x∈X,∀ b∈x.fp,b∈fp)->RowN S base e v' (L++X) w'->w.grownBy w' v.ownBlock->(v'.ownBlock=v.ownBlock\/v'.ownBlock=some w.heap.size)->K (a.put o.dst v') w'):o.wp P a w K Q:=by
 obtain⟨X,ad,cap,hXM,hXl,rfl,hmm,hX,hat⟩:=elems_in HM
 rw [← hXl] at h63 hbytes
 have hX2:∀ x∈X,x.cells.length=S.m/\S.R w x.cells x.d x.fp/\∀ b∈x.fp,v.ownBlock≠some b:=λ x hx=>⟨(hX x hx).1,(hX x hx).2.1,λ c hc=>hfp c ((hX x hx).2.2 c hc)⟩
 by_cases hM:0<M.length
 ·obtain⟨b,off,rfl,hb,hE⟩:=hat hM
  refine Zbz ti hzs h0 w (X:=X) s y ho base v hs hown ⟨b,off,none⟩ M.length cap hy hXl hX2 (λ x hx=>hone _ _ _ _ (hX x hx).2.1) ?_ (by rw [← hXl];exact h63) (by rw [← hXl];exact hbytes) hbase λ v' w' r1 r2 r3=>h v' X w' hXM (λ x hx=>(hX x hx).2.2) r1 r2 r3
  intro j u hj
  have hjl:j<X.length * S.m:=by
   have:=(List.getElem?_eq_some_iff.1 hj).1
   rwa [ZaU (f:=Elem.cells) λ x hx=>(hX x hx).1] at this
  have hk:j / S.m<X.length:=Nat.div_lt_of_lt_mul (by rw [Nat.mul_comm];exact hjl)
  have hr:j % S.m<S.m:=Nat.mod_lt _ h0
  have hj2:j / S.m * S.m+j % S.m=j:=Nat.div_add_mod' _ _
  rw [← hj2,ZdG (f:=Elem.cells) (λ x hx=>(hX x hx).1) hk hr] at hj
  have:=(hE (j / S.m) hk).2 (j % S.m) hr
  rw [Nat.add_assoc,hj2] at this
  rw [Addr.add_lit,this]
  exact hj
 ·have hX0:X=[]:=List.length_eq_zero_iff.1 (by omega)
  have hM0:M.length=0:=by omega
  subst hX0
  obtain⟨i,hi,hz0,hz1,hz2⟩:=info_parts ti.2
  have hdone:K (a.put o.dst v) w:=h v [] w (by simpa using hXM) (by simp) (by simpa using hown) ⟨rfl,rfl,rfl,Nat.le_refl _,λ _ _ _=>rfl⟩ (.inl rfl)
  rw [hM0] at hy
  cases ad with
  |
   none =>
   have hrun:=Zer (P:=P) (w:=w) base _ o.type _ i S.m cap ti.1 hi v L.length _ hown.row
   unfold Oper.wp
   simp [execOp,ho,resolve,invoke,builtin,hs,hy,hrun,Result.andThen]
   exact hdone
  |
   some ad =>
   exact Zbz ti hzs h0 w (X:=[]) s y ho base v hs hown ad 0 cap hy rfl (by simp) (by simp) (by simp) (by simpa using h63) (by simpa using hbytes) hbase λ v' w' r1 r2 r3=>h v' [] w' (by simpa using hXM) (by simp) r1 r2 r3
theorem Zbh {α:Type} {S:Shape α} {P:Program} {t e:TypeId} {z:Value} {bytes:Nat} (ti:TI P t e z S.m bytes) (hzs:z.cells.size=S.m) (h0:0<S.m) (hone:∀ w cs x fp,S.R w cs x fp->∀ u∈cs,u.oneCell'=true) (w:World) {L:List (Elem α)} {ops:Array Oper} {rest:List Oper} {o:Oper} {a:Act} {Q:Exit->Act->World->Prop}
  (hg:o.guard=none) (s y:Operand) (ho:o.op=.call { callee:=.builtin .append,args:=#[s,y],argTypes:=#[t,t] })
  (base:Nat) (v u:Value) (M:List α) (fp:List Nat) (hs:a.eval s=v) (hown:RowN S base e v L w) (hy:a.eval y=u) (HM:(Zaa S).R w [u] M fp) (hfp:∀ b∈fp,v.ownBlock≠some b)
  (h63:L.length+M.length<=maxLen) (hbytes:(L.length+M.length) * bytes<=140737488355328) (hbase:base<=w.heap.size)
  (h:∀ v' X w',X.map (·.d)=M->(∀ x∈X,∀ b∈x.fp,b∈fp)->RowN S base e v' (L++X) w'->w.grownBy w' v.ownBlock->(v'.ownBlock=v.ownBlock\/v'.ownBlock=some w.heap.size)->wpList P ops Q rest (a.put o.dst v') w'):wpList P ops Q (o::rest) a w:=
 wpList_plain hg λ _ hK=>Zd6 ti hzs h0 hone w s y ho base v u M fp hs hown hy HM hfp h63 hbytes hbase λ v' X w' q1 q2 h2 h3 h4=>hK _ _ (h v' X w' q1 q2 h2 h3 h4)
def OutAt (s:ByteArray) (k:Nat) (out:ByteArray):Prop:=out++outTo s k=outTo s 1/\tClose s k=some s.size/\1<=k/\out.size<=k
theorem OutAt.byte {s:ByteArray} {k:Nat} {out:ByteArray} (h:OutAt s k out) (hk:k+1<s.size) (hc:¬ s[k].toNat=92):OutAt s (k+1) (out++s.extract k (k+1)):=by
 obtain⟨h1,h2,h3,h4⟩:=h
 by_cases hq:s[k].toNat=34
 ·rw [Za6 (by omega) hq,Qi] at h2;omega
 rw [Zbi (by omega) hq hc] at h2
 refine ⟨?_,h2,by omega,by rw [ByteArray.size_append,ByteArray.size_extract];omega⟩
 rw [← h1,ZhT hk hc,ByteArray.append_assoc]
theorem OutAt.done {s:ByteArray} {k:Nat} {out:ByteArray} (h:OutAt s k out) (hk:s.size<=k+1):out=outTo s 1:=by
 rw [← h.1,Zje hk];exact ByteArray.append_empty.symm
end Go.Proofs.YtipfpppcbmpjiaaGreat
