/- Texts that the proof of P stands on, in one file. -/
import Derived.IntWalk
import Derived.Outline
import Derived.Laws.BitsAllLaws
import Derived.Deep.QuietTactic
import Derived.BigQuiet
import Derived.Laws.Concat
import Derived.Test.YtiaiggjfepoahaaGreatZP5
set_option linter.unusedVariables false
set_option maxHeartbeats 16000000
set_option maxRecDepth 100000
set_option linter.unusedSimpArgs false
/- The drawing of inputs: the reader. -/
namespace Go.Proofs.YtiaiggjfepoahaaGreat
open Go.RowKit
structure Rd (w:World) (rb:Nat) (p:Nat):Prop where
 mk ::
 ex:∃ (a:Option Addr) (l:List UInt8) (cap:Nat) (fp:List Nat),w.heap[rb]?=some (.cells #[.slice a l.length cap,.int .i64 p] 81 (0,0))/\(Zaa sByte).R w [.slice a l.length cap] l fp/\Under rb fp/\l.length<=2000
 hp:p<=1000000
theorem Rd.step {w:World} {rb p:Nat} (H:Rd w rb p) (hp:p<1000000):Rd (w.setCell ⟨rb,1,none⟩ (.int .i64 ((p:Int)+1))) rb (p+1)/\Kept [rb] w (w.setCell ⟨rb,1,none⟩ (.int .i64 ((p:Int)+1))):=by
 obtain⟨⟨a,l,cap,fp,hb,hr,hu,hl⟩,hp'⟩:=H
 have hk:Kept [rb] w (w.setCell ⟨rb,1,none⟩ (.int .i64 ((p:Int)+1))):=(Kept.refl _ _).setCell (by simp) _
 refine ⟨⟨⟨a,l,cap,fp,?_,(Zaa sByte).kept hr (λ b hb'=>by have:=hu b hb';simp;omega) hk,hu,hl⟩,by omega⟩,hk⟩
 simp [World.setCell,Array.getElem?_modify,hb]
def Picked (rb p:Nat) (n:Int) (w:World) (e:Ending) (w':World):Prop:=
 ∃ r:Int,e=.returned (.int .i64 r)/\0<=r/\(r<n\/n<1/\r=0)/\Rd w' rb (p+1)/\Kept [rb] w w'
theorem Picked.of {rb p:Nat} {n r:Int} {w:World} (H:Rd w rb p) (hp:p<1000000) (h0:0<=r) (h1:r<n\/n<1/\r=0) (m:Nat) :
  Picked rb p n w (.returned (.int .i64 r)) ((w.setCell ⟨rb,1,none⟩ (.int .i64 ((p:Int)+1))).drewN m):=
 ⟨r,rfl,h0,h1,⟨(H.step hp).1.ex,(H.step hp).1.hp⟩,(H.step hp).2.drewN m⟩
theorem ZiA (a b:Nat) (ha:a<4611686018427387904) (hb:b<4611686018427387904):0<=bits .xor .i64 (a:Int) (b:Int):=by
 have hx:a ^^^ b<2 ^ 62:=Nat.xor_lt_two_pow (by omega) (by omega)
 have h1:(BitVec.ofInt 64 (a:Int)).toNat=a:=by
  rw [BitVec.ofInt_natCast,BitVec.toNat_ofNat];exact Nat.mod_eq_of_lt (by omega)
 have h2:(BitVec.ofInt 64 (b:Int)).toNat=b:=by
  rw [BitVec.ofInt_natCast,BitVec.toNat_ofNat];exact Nat.mod_eq_of_lt (by omega)
 show 0<=IntKind.i64.wrap ((BitVec.ofInt 64 (a:Int) ^^^ BitVec.ofInt 64 (b:Int)).toNat:Int)
 rw [BitVec.toNat_xor,h1,h2,IntWalk.i64_in _ (by omega)]
 omega
theorem xor_pick {X:Int} (h:0<=X/\X<=1000000000):0<=bits .xor .i64 X (X / 64):=by
 obtain⟨x,rfl⟩:=Int.eq_ofNat_of_zero_le h.1
 have:=ZiA x (x / 64) (by omega) (by omega)
 simpa using this
theorem Znn (b:UInt8):0<=wrap64 (b.toNat:Int)/\wrap64 (b.toNat:Int)<=255:=by
 have:=b.toNat_lt
 rw [show wrap64 (b.toNat:Int)=(b.toNat:Int) from by unfold wrap64;omega]
 omega
theorem Zkk {x n:Int} (h:0<=x) (hn:1<=n):0<=x.tmod n/\x.tmod n<n:=by
 rw [Int.tmod_eq_emod_of_nonneg h]
 exact⟨Int.emod_nonneg _ (by omega),Int.emod_lt_of_pos _ (by omega)⟩
theorem pick (rb p:Nat) (n:Int) (w:World) (H:Rd w rb p) (hp:p<1000000) (hn:n<=1000000) (hn0:-1000000<=n) :
  Calls Tryz.prog 48 #[.pointer (some ⟨rb,0,none⟩),.int .i64 n] w (Picked rb p n w):=by
 have HP:=λ (r:Int) h0 h1 m=>Picked.of (n:=n) (r:=r) H hp h0 h1 m
 have HH:=Qh HP;clear HP
 obtain⟨⟨a,l,cap,fp,hb,hr,hu,hl⟩,_⟩:=H
 have h0:w.cell? ⟨rb,0,none⟩=some (.slice a l.length cap):=by simp [World.cell?,hb]
 have h1:w.cell? ⟨rb,1,none⟩=some (.int .i64 p):=by simp [World.cell?,hb]
 have hf:w.frozen? ⟨rb,1,none⟩=false:=by simp [World.frozen?,hb]
 clear hb
 obtain⟨_,_,hv,_,_,hcell,_⟩:=Zjc hr
 simp only [Value.slice.injEq] at hv
 obtain⟨rfl,_,rfl⟩:=hv
 clear hr
 by_cases hn1:n<1
 ·go_enter Tryz.func48,Tryz.ntmps48
  go_wp2
  go_ret
  exact HH.out 0 (by omega) (.inr ⟨hn1,rfl⟩) 0
 by_cases hl0:l.length=0
 ·have hl1:((l.length:Int)==0)=true:=by simp [hl0]
  go_enter Tryz.func48,Tryz.ntmps48
  go_wp2
  go_ret
  exact HH.out 0 (by omega) (.inl (by omega)) 0
 obtain⟨b,off,rfl,hbw,hbf,hc⟩:=hcell (by omega)
 clear hcell
 have hlt:=hu b hbf
 have hne:¬ rb=b:=by omega
 have hl1:((l.length:Int)==0)=false:=beq_eq_false_iff_ne.2 (by omega)
 by_cases hk:p<l.length
 ·have hcp:=hc p hk
  simp only [ZlU] at hcp
  have HZ:=Qh (Zkk (Znn l[p]).1 (show 1<=n by omega))
  clear hc
  go_enter Tryz.func48,Tryz.ntmps48
  go_wp2
  go_ret
  exact HH.out _ HZ.out.1 (.inl HZ.out.2) 0
 ·obtain⟨i1,hi1⟩:∃ i,i=p % l.length:=⟨_,rfl⟩
  obtain⟨m3,hm3⟩:∃ m,m=p * 7+3:=⟨_,rfl⟩
  obtain⟨i2,hi2⟩:∃ i,i=m3 % l.length:=⟨_,rfl⟩
  obtain⟨q1,hq1⟩:∃ q,q=p / l.length:=⟨_,rfl⟩
  have hi1l:i1<l.length:=by rw [hi1];exact Nat.mod_lt _ (by omega)
  have hi2l:i2<l.length:=by rw [hi2];exact Nat.mod_lt _ (by omega)
  have hq1l:q1<=p:=by rw [hq1];exact Nat.div_le_self _ _
  obtain⟨c1,hd1,hd2,hc1⟩:∃ c:Int,0<=c/\c<=255/\w.cell? ⟨b,off+i1,none⟩=some (.int .u8 c):=⟨_,by omega,by have:=l[i1].toNat_lt;omega,hc i1 hi1l⟩
  obtain⟨c2,hd3,hd4,hc2⟩:∃ c:Int,0<=c/\c<=255/\w.cell? ⟨b,off+i2,none⟩=some (.int .u8 c):=⟨_,by omega,by have:=l[i2].toNat_lt;omega,hc i2 hi2l⟩
  have e1:IntKind.i64.wrap ((p:Int).tmod (l.length:Int))=(i1:Int):=by
   rw [Int.tmod_eq_emod_of_nonneg (by omega),← Int.natCast_emod,← hi1];exact IntWalk.i64_in _ (by omega)
  have e3:IntKind.i64.wrap ((p:Int) * 7)=(p:Int) * 7:=IntWalk.i64_in _ (by omega)
  have e4:IntKind.i64.wrap ((p:Int) * 7+3)=(m3:Int):=by rw [IntWalk.i64_in _ (by omega)];omega
  have e5:IntKind.i64.wrap ((m3:Int).tmod (l.length:Int))=(i2:Int):=by
   rw [Int.tmod_eq_emod_of_nonneg (by omega),← Int.natCast_emod,← hi2];exact IntWalk.i64_in _ (by omega)
  have e6:IntKind.i64.wrap c1=c1:=IntWalk.i64_in _ (by omega)
  have e7:IntKind.i64.wrap c2=c2:=IntWalk.i64_in _ (by omega)
  have e8:IntKind.i64.wrap (c1 * 131)=c1 * 131:=IntWalk.i64_in _ (by omega)
  have e9:IntKind.i64.wrap (c2 * 1117)=c2 * 1117:=IntWalk.i64_in _ (by omega)
  have e10:IntKind.i64.wrap (c1 * 131+c2 * 1117)=c1 * 131+c2 * 1117:=IntWalk.i64_in _ (by omega)
  have e11:IntKind.i64.wrap ((p:Int) * 29)=(p:Int) * 29:=IntWalk.i64_in _ (by omega)
  have e12:IntKind.i64.wrap (c1 * 131+c2 * 1117+(p:Int) * 29)=c1 * 131+c2 * 1117+(p:Int) * 29:=IntWalk.i64_in _ (by omega)
  have e13:IntKind.i64.wrap ((p:Int).tdiv (l.length:Int))=(q1:Int):=by
   rw [Int.tdiv_eq_ediv_of_nonneg (by omega),← Int.natCast_ediv,← hq1];exact IntWalk.i64_in _ (by omega)
  have e14:IntKind.i64.wrap ((q1:Int) * 53)=(q1:Int) * 53:=IntWalk.i64_in _ (by omega)
  obtain⟨X,hX⟩:∃ X:Int,X=c1 * 131+c2 * 1117+(p:Int) * 29+(q1:Int) * 53:=⟨_,rfl⟩
  have hX0:0<=X/\X<=1000000000:=by omega
  have e15:IntKind.i64.wrap (c1 * 131+c2 * 1117+(p:Int) * 29+(q1:Int) * 53)=X:=by rw [← hX];exact IntWalk.i64_in _ (by omega)
  have f1:(p:Int) % (l.length:Int)=(i1:Int):=by rw [hi1,Int.natCast_emod]
  have f2:((p:Int) * 7+3) % (l.length:Int)=(i2:Int):=by rw [hi2,hm3,Int.natCast_emod];rfl
  have f3:(m3:Int) % (l.length:Int)=(i2:Int):=by rw [hi2,Int.natCast_emod]
  have f4:(p:Int) / (l.length:Int)=(q1:Int):=by rw [hq1,Int.natCast_ediv]
  have f5:=hX.symm
  have HX:=Qh hX0
  clear hX0 hX hi1 hm3 hi2 hq1 hc
  go_enter Tryz.func48,Tryz.ntmps48
  go_wp2
  go_quiet (fail)
  clear f1 f2 f3 f4 f5 e1 e3 e4 e5 e6 e7 e8 e9 e10 e11 e12 e13 e14 e15
  have hX0:=HX.out
  go_wp2
  go_ret
  have hr:=Zkk (xor_pick HX.out) (show 1<=n by omega)
  exact HH.out _ hr.1 (.inl hr.2) _
def Odd (rb p:Nat) (w:World) (e:Ending) (w':World):Prop:=∃ b:Bool,∃ q:Nat,e=.returned (.bool b)/\p<=q/\q<=p+1/\Rd w' rb q/\Kept [rb] w w'
theorem odd (rb p:Nat) (n:Int) (w:World) (H:Rd w rb p) (hp:p<1000000) (hn:n<=1000000) (hn0:0<=n) :
  Calls Tryz.prog 51 #[.pointer (some ⟨rb,0,none⟩),.int .i64 n] w (Odd rb p w):=by
 by_cases h0:0<n
 ·go_enter Tryz.func51,Tryz.ntmps51
  go_wp2_with (go_at_call 48;refine (pick _ _ _ _ H hp hn (by omega)).mono ?_;rintro e w' ⟨r,rfl,hr0,hr1,hr2,hr3⟩)
  go_ret
  exact⟨_,p+1,rfl,by omega,by omega,hr2,hr3⟩
 ·have e0:n=0:=by omega
  subst e0
  go_enter Tryz.func51,Tryz.ntmps51
  go_wp2
  go_ret
  exact⟨_,p,rfl,by omega,by omega,H,Kept.refl _ _⟩
theorem Rd.grow {w w':World} {rb p:Nat} (H:Rd w rb p) (hb:Below w.heap.size w w'):Rd w' rb p:=by
 obtain⟨⟨a,l,cap,fp,h1,h2,h3,h4⟩,h5⟩:=H
 exact⟨⟨a,l,cap,fp,(hb.block rb (Qg h1).1).trans h1,(Zaa sByte).below h2 hb,h3,h4⟩,h5⟩
theorem Rd.lt {w:World} {rb p:Nat} (H:Rd w rb p):rb<w.heap.size:=by
 obtain⟨⟨a,l,cap,fp,h1,h2,h3,h4⟩,h5⟩:=H
 exact(Qg h1).1
theorem Zfn {B rb:Nat} {w0 w w':World} (hb:Below B w0 w) (hk:Kept [rb] w w') (hr:B<=rb) (hs:B<=w.heap.size):Below B w0 w':=
 hb.trans (hk.below (λ b hb=>by
  obtain rfl:b=rb:=by simpa using hb
  exact hr) hs)
theorem lit_get (L:List ByteArray) (r:Int) (h0:0<=r) (h1:r<L.length):∃ s,s∈L/\∀ A:Array Value,A=(L.map Value.string).toArray->A[r.toNat]?=some (.string s):=by
 have h:r.toNat<L.length:=by omega
 refine ⟨L[r.toNat],List.getElem_mem h,?_⟩
 rintro A rfl
 simp [List.getElem?_eq_getElem h]
theorem Kept.cell {fp:List Nat} {w w':World} (hk:Kept fp w w') {p:Addr} (h1:p.block<w.heap.size) (h2:p.block∉fp):w'.cell? p=w.cell? p:=
 World.cell?_of_block (hk.block p.block h1 h2)
theorem Zfo (L:List ByteArray) (M:Nat) (hM:∀ s∈L,s.size<=M) {rb:Nat} {wr w2:World} {r:Int} (h0:0<=r) (h1:r<L.length) (hr:rb<wr.heap.size) (hK:Kept [rb] (wr.alloc (.cells (L.map Value.string).toArray 9)) w2) :
  ∃ s:ByteArray,s.size<=M/\w2.cell? ⟨wr.heap.size,r.toNat,none⟩=some (.string s):=by
 obtain⟨s,hs,hl⟩:=lit_get L r h0 h1
 refine ⟨s,hM s hs,?_⟩
 rw [hK.cell (p:=⟨wr.heap.size,r.toNat,none⟩) (by simp) (by simp;omega),World.cell?_alloc_at _ _ _ _ rfl]
 exact hl _ rfl
def Opened (B:Nat) (w0:World) (e:Ending) (w':World):Prop:=∃ rb,e=.returned (.pointer (some ⟨rb,0,none⟩))/\B<=rb/\Rd w' rb 0/\Below B w0 w'
theorem Zbv {α:Type} {S:Shape α} {w:World} {a:Option Addr} {cap:Nat} {l:List α} {fp:List Nat} (n:Nat) (hn:n<=l.length) (H:(Zaa S).R w [.slice a l.length cap] l fp) :
  ∃ fp',(Zaa S).R w [.slice a n cap] (l.take n) fp'/\∀ b∈fp',b∈fp:=by
 obtain⟨a',cap',hv,hc,hm,h⟩:=H
 simp only [List.cons.injEq,Value.slice.injEq,and_true,true_and] at hv
 obtain⟨rfl,rfl⟩:=hv
 have hl:(l.take n).length=n:=by simp;omega
 by_cases h0:n=0
 ·subst h0
  exact⟨[],⟨a,cap,by simp,by simp,hm,.inl ⟨by simp,rfl⟩⟩,by simp⟩
 ·rcases h with⟨rfl,_⟩ | ⟨_,b,off,fps,ha,rfl,hb,he⟩
  ·simp at hn;omega
  ·refine ⟨b::(List.range n).flatMap fps,⟨a,cap,by rw [hl],by omega,hm,.inr ⟨by omega,b,off,fps,ha,by rw [hl],hb,λ i hi=>?_⟩⟩,?_⟩
   ·rw [hl] at hi
    obtain⟨es,h1,h2⟩:=he i (by omega)
    exact⟨es,h1,by rw [List.getElem_take];exact h2⟩
   ·intro x hx
    rcases List.mem_cons.1 hx with rfl | hx
    ·simp
    ·obtain⟨i,hi,hx⟩:=List.mem_flatMap.1 hx
     refine List.mem_cons_of_mem _ (List.mem_flatMap.2 ⟨i,?_,hx⟩)
     simp only [List.mem_range] at hi ⊢
     omega
theorem Opened.of {v:Value} {l:List UInt8} {a:Option Addr} {cap:Nat} {fp:List Nat} {w:World} (hv:v=.slice a l.length cap) (H:(Zaa sByte).R w [v] l fp) (hl:l.length<=2000) :
  Opened w.heap.size w (.returned (.pointer (some ⟨w.heap.size,0,none⟩))) (w.alloc (.cells #[v,.int .i64 0] 81)):=by
 subst hv
 have hb:Below w.heap.size w (w.alloc (.cells #[.slice a l.length cap,.int .i64 0] 81)):=(Below.refl _ _).alloc (Nat.le_refl _) _
 refine ⟨w.heap.size,rfl,Nat.le_refl _,⟨⟨a,l,cap,fp,?_,(Zaa sByte).below H hb,(Zaa sByte).lt H,hl⟩,by omega⟩,hb⟩
 show (w.heap.push _)[w.heap.size]?=_
 simp
theorem l20Open (v:Value) (l:List UInt8) (fp:List Nat) (w:World) (H:(Zaa sByte).R w [v] l fp) :
  Calls Tryz.prog 24 #[v] w (Opened w.heap.size w):=by
 obtain⟨a,cap,hv,hc,hm,h⟩:=H
 obtain rfl:v=.slice a l.length cap:=by simpa using hv
 unfold maxLen at hm
 by_cases hl:2000<l.length
 ·obtain⟨fp',h',_⟩:=Zbv (S:=sByte) 2000 (by omega) ⟨a,cap,rfl,hc,hm,h⟩
  have HO:=Qh (λ v hv (h:(Zaa sByte).R w [v] (l.take 2000) fp')=>Opened.of (v:=v) (a:=a) (cap:=cap) hv h (by simp;omega))
  go_enter Tryz.func24,Tryz.ntmps24
  go_wp2
  go_ret
  exact HO.out _ (by rw [List.length_take,Nat.min_eq_left (by omega)]) h'
 ·have HO:=Qh (Opened.of (v:=.slice a l.length cap) rfl ⟨a,cap,rfl,hc,hm,h⟩ (by omega))
  go_enter Tryz.func24,Tryz.ntmps24
  go_wp2
  go_ret
  exact HO.out
def idxTx (ps:List ByteArray) (x:ByteArray) (k:Nat):Int:=if h:k<ps.length then (if x=ps[k] then (k:Int) else idxTx ps x (k+1)) else -1
termination_by ps.length-k
theorem ZiB {ps:List ByteArray} {x:ByteArray} {k:Nat} (h:ps.length<=k):idxTx ps x k=-1:=by rw [idxTx,dif_neg (by omega)]
theorem ZiC {ps:List ByteArray} {x:ByteArray} {k:Nat} (h:k<ps.length) (h1:x=ps[k]):idxTx ps x k=k:=by rw [idxTx,dif_pos h,if_pos h1]
theorem Zhc {ps:List ByteArray} {x:ByteArray} {k:Nat} (h:k<ps.length) (h1:x≠ps[k]):idxTx ps x k=idxTx ps x (k+1):=by rw [idxTx,dif_pos h,if_neg h1]
theorem idx_has (ps:List ByteArray) (x:ByteArray) (k:Nat):decide (0<=idxTx ps x k)=hasTx (ps.drop k) x:=by
 induction k using idxTx.induct (ps:=ps) (x:=x) with
 |
  case1 k h hc =>
  rw [ZiC h hc,List.drop_eq_getElem_cons h]
  unfold hasTx
  rw [List.any_cons,decide_eq_true hc.symm,Bool.true_or,decide_eq_true (by omega)]
 |
  case2 k h hc ih =>
  have hc':¬ ps[k]=x:=λ e=>hc e.symm
  rw [Zhc h hc,ih,List.drop_eq_getElem_cons h]
  unfold hasTx
  rw [List.any_cons,decide_eq_false hc',Bool.false_or]
 | case3 k h=>rw [ZiB (by omega),List.drop_eq_nil_iff.2 (by omega)];rfl
theorem idx_has0 (ps:List ByteArray) (x:ByteArray):decide (0<=idxTx ps x 0)=hasTx ps x:=idx_has ps x 0
theorem Zf8 (v:Value) (l:List ByteArray) (fp:List Nat) (x:ByteArray) (w:World) (H:(Zaa sStr).R w [v] l fp) :
  Calls Tryz.prog 123 #[v,.string x] w λ e w'=>e=.returned (.int .i64 (idxTx l x 0))/\w'=w:=by
 obtain⟨a,cap,rfl,hc,hm,hcell,hsz⟩:=Zaf H
 unfold maxLen at hm
 clear H
 go_enter Tryz.func123,Tryz.ntmps123
 go_wp2
 go_loopw [8] (λ i wr=>∃ k:Nat,k<=l.length/\i=.int .i64 k/\Hid (idxTx l x 0=idxTx l x k)/\wr=w) (λ i _=>l.length-(intOf i).toNat)
 case atStart=>exact⟨0,by omega,rfl,rfl,rfl⟩
 case round =>
  obtain⟨k,hk,rfl,HP,rfl⟩:=hrel
  by_cases hlt:k<l.length
  ·obtain⟨b,off,rfl,hbl,_,hc2⟩:=hcell (by omega)
   have hck:=hc2 k hlt
   clear hcell hc2
   by_cases e:x=l[k]
   ·have g:=ZaP e
    have HF:=Qh (ZiC hlt e)
    clear e
    go_wp2
    go_ret
    exact⟨Za3 (by rw [HP.out,HF.out]),by first | rfl | trivial⟩
   ·have g:(x.toList==l[k].toList)=false:=ZaU e
    have HF:=Qh (Zhc hlt e)
    clear e
    go_wp2
    go_roundw
    case rel=>exact⟨k+1,by omega,by go_num,by show _=_;rw [HP.out,HF.out],by first | rfl | trivial⟩
    case measure=>simp [intOf];omega
  ·have HF:=Qh (ZiB (x:=x) (by omega:l.length<=k))
   go_wp2
   go_ret
   exact⟨Za3 (by rw [HP.out,HF.out]),by first | rfl | trivial⟩
theorem Zei (v:Value) (l:List ByteArray) (fp:List Nat) (x:ByteArray) (w:World) (H:(Zaa sStr).R w [v] l fp) :
  Calls Tryz.prog 110 #[v,.string x] w λ e w'=>e=.returned (.bool (hasTx l x))/\w'=w:=by
 have HC:=Qh (Zf8 v l fp x w H)
 have HF:=Qh (idx_has0 l x)
 clear H
 go_enter Tryz.func110,Tryz.ntmps110
 go_wp2_with (go_at_call 123;refine HC.out.mono ?_;rintro e w' ⟨rfl,rfl⟩)
 go_ret
 exact⟨Zad HF.out,by first | rfl | trivial⟩
theorem par_take {ps:List ByteArray} {k:Nat} (hk:k<ps.length):parOk ps k=(Zak ps[k] 1 && !hasTx (ps.take k) ps[k]):=by
 unfold parOk
 rw [dif_pos hk]
 congr 1
 cases h:hasTx (ps.take k) ps[k]
 ·rw [Bool.not_false,List.all_eq_true]
  intro j hj
  have hj':j<k:=by simpa using hj
  rw [List.getElem?_eq_getElem (by omega),Bool.not_eq_true',decide_eq_false_iff_not]
  intro e
  have:hasTx (ps.take k) ps[k]=true:=hasTx_iff.2 (by rw [← Option.some.inj e];exact List.mem_take_iff_getElem.2 ⟨j,by omega,rfl⟩)
  rw [h] at this
  exact absurd this (by simp)
 ·rw [Bool.not_true,List.all_eq_false]
  obtain⟨j,hj,he⟩:=List.mem_take_iff_getElem.1 (hasTx_iff.1 h)
  exact⟨j,by simp;omega,by rw [List.getElem?_eq_getElem (by omega),he];simp⟩
theorem Zlx {ps:List ByteArray} (h:4<ps.length):Zcr ps=false:=by unfold Zcr;rw [decide_eq_false (by omega)];rfl
theorem Zjn {ps:List ByteArray} {k:Nat} (hk:k<ps.length) (h:parOk ps k=false):Zcr ps=false:=by unfold Zcr;rw [Zdp hk h,Bool.and_false]
theorem ZmG {ps:List ByteArray} (hl:ps.length<=4) (h:ParUpto ps ps.length):Zcr ps=true:=by unfold Zcr;rw [Zcq h,decide_eq_true hl];rfl
theorem Zhd (v:Value) (l:List ByteArray) (fp:List Nat) (w:World) (H:(Zaa sStr).R w [v] l fp) :
  Calls Tryz.prog 106 #[v] w (Says (Zcr l) w):=by
 have H':=H
 obtain⟨a,cap,rfl,hc,hm,hcell,hsz⟩:=Zaf H
 unfold maxLen at hm
 clear H
 by_cases hl:4<l.length
 ·have HF:=Qh (Zlx hl)
  go_enter Tryz.func106,Tryz.ntmps106
  go_wp2
  go_ret
  exact⟨Zad HF.out.symm,Below.refl _ _⟩
 go_enter Tryz.func106,Tryz.ntmps106
 go_wp2
 go_loopw [10] (λ i wr=>∃ k:Nat,k<=l.length/\i=.int .i64 k/\ParUpto l k/\Below w.heap.size w wr) (λ i _=>l.length-(intOf i).toNat)
 case atStart=>exact⟨0,by omega,rfl,ParUpto.zero _,Below.refl _ _⟩
 case round =>
  obtain⟨k,hk,rfl,hall,hb⟩:=hrel
  by_cases hlt:k<l.length
  ·obtain⟨b,off,rfl,hbl,_,hc2⟩:=hcell (by omega)
   have hck:=(hb.cell (p:=⟨b,off+k,none⟩) hbl).trans (hc2 k hlt)
   have HC:=Qh (λ W=>Zcj l[k] 1 W (hsz k hlt))
   obtain⟨fpt,HT,-⟩:=Zbv k hk H'
   have HD:=Qh (λ W (hW:Below wr.heap.size wr W)=>Zei _ _ _ l[k] W ((Zaa sStr).below ((Zaa sStr).below HT hb) hW))
   have hpk:=par_take hlt
   clear hcell hc2 HT H'
   cases h1:Zak l[k] 1
   ·rw [h1] at HC hpk
    have HF:=Qh (Zjn hlt (hpk.trans rfl))
    clear h1 hpk hall HD
    go_wp2_with (go_at_call 104;refine (HC.out _).mono ?_;rintro e w1 ⟨rfl,hb1⟩)
    go_ret
    exact⟨Zad HF.out.symm,hb.trans (hb1.mono hb.size)⟩
   ·rw [h1] at HC hpk
    clear h1
    go_wp2_with fail
    refine (HC.out _).mono ?_
    rintro e w1 ⟨rfl,hb1⟩
    go_wp2_with fail
    refine (HD.out _ hb1).mono ?_
    rintro e w2 ⟨rfl,rfl⟩
    have hbq:=hb.trans (hb1.mono hb.size)
    cases h2:hasTx (l.take k) l[k]
    ·rw [h2] at hpk
     have HN:=Qh (hall.succ (hpk.trans rfl))
     clear h2 hpk hall hck HD HC hb1
     go_wp2
     go_roundw
     case rel=>exact⟨k+1,by omega,by go_num,HN.out,hbq⟩
     case measure=>simp [intOf];omega
    ·rw [h2] at hpk
     have HF:=Qh (Zjn hlt (hpk.trans rfl))
     clear h2 hpk hall hck HD HC hb1
     go_wp2
     go_ret
     exact⟨Zad HF.out.symm,hbq⟩
  ·have HF:=Qh (ZmG (by omega) (λ j hj=>hall j (by omega)))
   clear hall
   go_wp2
   go_ret
   exact⟨Zad HF.out.symm,hb⟩
theorem ZmH {b:List Tok} (h:20<b.length):ZaR b=false:=by unfold ZaR;rw [decide_eq_false (by omega)];rfl
theorem ZmI {b:List Tok} (h:Zaj b=false):ZaR b=false:=by unfold ZaR;rw [h];simp
theorem Zej {b:List Tok} {k:Nat} (hk:k<b.length) (h:bodI b k=false):ZaR b=false:=by unfold ZaR;rw [Zdp hk h,Bool.and_false]
theorem Zno {b:List Tok} (h1:b.length<=20) (h2:Zaj b=true) (h3:BodUpto (bodI b) b.length):ZaR b=true:=by unfold ZaR;rw [Zcq h3,decide_eq_true h1,h2];rfl
theorem ZiD (v:Value) (l:List Tok) (fp:List Nat) (w:World) (H:(Zaa sTok).R w [v] l fp) :
  Calls Tryz.prog 105 #[v] w (Says (ZaR l) w):=by
 have HV:=Qh (ZbD v l fp w H)
 obtain⟨a,cap,rfl,hc,hm,hrow⟩:=Zac H
 unfold maxLen at hm
 clear H
 by_cases hl:20<l.length
 ·have HF:=Qh (ZmH hl)
  go_enter Tryz.func105,Tryz.ntmps105
  go_wp2
  go_ret
  exact⟨Zad HF.out.symm,Below.refl _ _⟩
 cases hv:Zaj l
 ·rw [hv] at HV
  have HF:=Qh (ZmI hv)
  clear hv
  go_enter Tryz.func105,Tryz.ntmps105
  go_wp2_with (go_at_call 41;refine HV.out.mono ?_;rintro e w1 ⟨rfl,hb1⟩)
  go_ret
  exact⟨Zad HF.out.symm,hb1⟩
 rw [hv] at HV
 have HTV:=Qh hv
 clear hv
 go_enter Tryz.func105,Tryz.ntmps105
 go_wp2_with (go_at_call 41;refine HV.out.mono ?_;rintro e w1 ⟨rfl,hb1⟩)
 go_loopw [15] (λ i wr=>∃ k:Nat,k<=l.length/\i=.int .i64 k/\BodUpto (bodI l) k/\Below w.heap.size w wr) (λ i _=>l.length-(intOf i).toNat)
 case atStart=>exact⟨0,by omega,rfl,BodUpto.zero _,hb1⟩
 case round =>
  clear hb1
  obtain⟨k,hk,rfl,hall,hb⟩:=hrel
  by_cases hlt:k<l.length
  ·obtain⟨b1,off1,fps1,rfl,hb1',-,he1⟩:=hrow (by omega)
   obtain⟨es1,hE1,hR1⟩:=he1 k hlt
   obtain⟨hh,rfl,-,-,K1⟩:=hR1
   obtain⟨ah,caph,rfl,-⟩:=Zac K1
   replace hE1:=hE1.frame (hb.block b1 hb1')
   have c10:wr.cell? ⟨b1,off1+k * 4,none⟩=some _:=Zao hE1 (by decide) rfl
   have c11:wr.cell? ⟨b1,off1+k * 4+1,none⟩=some _:=Zae (j:=1) hE1 (by decide) rfl
   have c12:wr.cell? ⟨b1,off1+k * 4+2,none⟩=some _:=Zae (j:=2) hE1 (by decide) rfl
   have c13:wr.cell? ⟨b1,off1+k * 4+3,none⟩=some _:=Zae (j:=3) hE1 (by decide) rfl
   have hbx:Below wr.heap.size wr (wr.alloc (.cells #[.int .i64 l[k].kind,.string l[k].text,.bool l[k].spaced,.slice ah l[k].hidden.length caph] 57)):=Zab _ _
   have HT:=Qh (heap_alloc_new wr (.cells #[.int .i64 l[k].kind,.string l[k].text,.bool l[k].spaced,.slice ah l[k].hidden.length caph] 57))
   have hbq:=hb.trans (hbx.mono hb.size)
   clear K1 hE1
   have g00:((k:Int)==0)=decide (k=0):=by rw [Bool.eq_iff_iff];simp
   have g01:((k:Int)==(l.length:Int)-1)=decide (k+1=l.length):=by rw [Bool.eq_iff_iff];simp;omega
   rcases Zf6 hlt with⟨e1,HI⟩ | ⟨e1,e2,e3,HI⟩ | ⟨e1,e2,e3,e4,HI⟩ | ⟨e1,e2,e3,e4,HI⟩ | ⟨e1,e2,e4,e5,HI⟩ | ⟨e1,e2,e4,e5,e6,HI⟩ | ⟨e1,e2,e4,e5,e6,HI⟩ | ⟨e1,e2,e4,HI⟩
   ·have HF:=Qh (Zej hlt HI.out)
    have f0:(0:Int)<(l[k].hidden.length:Int):=by omega
    have f01:0<l[k].hidden.length:=by omega
    have f02:decide ((0:Int)<(l[k].hidden.length:Int))=true:=decide_eq_true f0
    clear e1
    clear hall
    go_wp2
    go_ret
    exact⟨Zad HF.out.symm,hb.trans ((Zab wr _).mono hb.size)⟩
   ·have HF:=Qh (Zej hlt HI.out)
    have f0:¬ (0:Int)<(l[k].hidden.length:Int):=by omega
    have f01:¬ 0<l[k].hidden.length:=by omega
    rw [decide_eq_true e2] at g00
    rw [e3] at c12
    clear e1 e2 e3
    clear hall
    go_wp2
    go_ret
    exact⟨Zad HF.out.symm,hb.trans ((Zab wr _).mono hb.size)⟩
   ·have HF:=Qh (Zej hlt HI.out)
    have f0:¬ (0:Int)<(l[k].hidden.length:Int):=by omega
    have f01:¬ 0<l[k].hidden.length:=by omega
    rw [decide_eq_true e2] at g00
    rw [e3] at c12
    have f4:=txt_t (l:=[35,35]) e4
    clear e4
    clear e1 e2 e3
    clear hall
    go_wp2
    go_ret
    exact⟨Zad HF.out.symm,hb.trans ((Zab wr _).mono hb.size)⟩
   ·have HN:=Qh (hall.succ HI.out)
    have f0:¬ (0:Int)<(l[k].hidden.length:Int):=by omega
    have f01:¬ 0<l[k].hidden.length:=by omega
    rw [decide_eq_true e2] at g00
    rw [e3] at c12
    have f4:=txt_f (l:=[35,35]) e4
    clear e4
    clear e1 e2 e3
    clear hall
    go_wp2
    go_roundw
    case rel=>first | exact⟨k+1,by omega,by go_num,HN.out,hb.trans ((Zab wr _).mono hb.size)⟩ | ((repeat apply Exists.intro);exact⟨⟨k+1,by omega,by go_num,HN.out,hb.trans ((Zab wr _).mono hb.size)⟩,rfl⟩)
    case measure=>simp [intOf];omega
   ·have HF:=Qh (Zej hlt HI.out)
    have f0:¬ (0:Int)<(l[k].hidden.length:Int):=by omega
    have f01:¬ 0<l[k].hidden.length:=by omega
    rw [decide_eq_false e2] at g00
    have f4:=txt_t (l:=[35,35]) e4
    clear e4
    rw [decide_eq_true e5] at g01
    clear e1 e2 e5
    clear hall
    go_wp2
    go_ret
    exact⟨Zad HF.out.symm,hb.trans ((Zab wr _).mono hb.size)⟩
   ·have HF:=Qh (Zej hlt HI.out)
    have f0:¬ (0:Int)<(l[k].hidden.length:Int):=by omega
    have f01:¬ 0<l[k].hidden.length:=by omega
    rw [decide_eq_false e2] at g00
    have f4:=txt_t (l:=[35,35]) e4
    clear e4
    rw [decide_eq_false e5] at g01
    obtain⟨es2,hE2,hR2⟩:=he1 (k-1) (by omega)
    obtain⟨h9,rfl,-,-,-⟩:=hR2
    replace hE2:=hE2.frame (hbq.block b1 hb1')
    have c21:(wr.alloc (.cells #[.int .i64 l[k].kind,.string l[k].text,.bool l[k].spaced,.slice ah l[k].hidden.length caph] 57)).cell? ⟨b1,off1+(k-1) * 4+1,none⟩=some _:=Zae (j:=1) hE2 (by decide) rfl
    have h6:((k:Int)-1).toNat=k-1:=by omega
    have hwl:IntKind.i64.wrap ((k:Int)-1)=(k:Int)-1:=IntWalk.i64_in _ (by omega)
    have hi1:(0:Int)<=(k:Int)-1:=by omega
    have hi2:(k:Int)-1<(l.length:Int):=by omega
    clear hE2
    have f6:=txt_t (l:=[35,35]) e6
    clear e1 e2 e5 e6
    clear hall
    go_wp2
    go_ret
    exact⟨Zad HF.out.symm,hb.trans ((Zab wr _).mono hb.size)⟩
   ·have HN:=Qh (hall.succ HI.out)
    have f0:¬ (0:Int)<(l[k].hidden.length:Int):=by omega
    have f01:¬ 0<l[k].hidden.length:=by omega
    rw [decide_eq_false e2] at g00
    have f4:=txt_t (l:=[35,35]) e4
    clear e4
    rw [decide_eq_false e5] at g01
    obtain⟨es2,hE2,hR2⟩:=he1 (k-1) (by omega)
    obtain⟨h9,rfl,-,-,-⟩:=hR2
    replace hE2:=hE2.frame (hbq.block b1 hb1')
    have c21:(wr.alloc (.cells #[.int .i64 l[k].kind,.string l[k].text,.bool l[k].spaced,.slice ah l[k].hidden.length caph] 57)).cell? ⟨b1,off1+(k-1) * 4+1,none⟩=some _:=Zae (j:=1) hE2 (by decide) rfl
    have h6:((k:Int)-1).toNat=k-1:=by omega
    have hwl:IntKind.i64.wrap ((k:Int)-1)=(k:Int)-1:=IntWalk.i64_in _ (by omega)
    have hi1:(0:Int)<=(k:Int)-1:=by omega
    have hi2:(k:Int)-1<(l.length:Int):=by omega
    clear hE2
    have f6:=txt_f (l:=[35,35]) e6
    clear e1 e2 e5 e6
    clear hall
    go_wp2
    go_roundw
    case rel=>first | exact⟨k+1,by omega,by go_num,HN.out,hb.trans ((Zab wr _).mono hb.size)⟩ | ((repeat apply Exists.intro);exact⟨⟨k+1,by omega,by go_num,HN.out,hb.trans ((Zab wr _).mono hb.size)⟩,rfl⟩)
    case measure=>simp [intOf];omega
   ·have HN:=Qh (hall.succ HI.out)
    have f0:¬ (0:Int)<(l[k].hidden.length:Int):=by omega
    have f01:¬ 0<l[k].hidden.length:=by omega
    rw [decide_eq_false e2] at g00
    have f4:=txt_f (l:=[35,35]) e4
    clear e4
    clear e1 e2
    clear hall
    go_wp2
    go_roundw
    case rel=>first | exact⟨k+1,by omega,by go_num,HN.out,hb.trans ((Zab wr _).mono hb.size)⟩ | ((repeat apply Exists.intro);exact⟨⟨k+1,by omega,by go_num,HN.out,hb.trans ((Zab wr _).mono hb.size)⟩,rfl⟩)
    case measure=>simp [intOf];omega
  ·have HF:=Qh (Zno (by omega) HTV.out (λ j hj=>hall j (by omega)))
   clear hall
   go_wp2
   go_ret
   exact⟨Zad HF.out.symm,hb⟩
/-! ### Number signs -/
theorem Zly {m:DMacro} {k:Nat} (hk:k<m.body.length) (h:m.body[k].text≠hash1):signI m k=true:=by unfold signI;rw [dif_pos hk,decide_eq_false h];rfl
theorem ZmJ {m:DMacro} {k:Nat} (hk:k<m.body.length) (h:m.body[k].text=hash1) (hl:k+1=m.body.length):signI m k=false:=by unfold signI;rw [dif_pos hk,decide_eq_true h,dif_neg (by omega)];rfl
theorem signI_in {m:DMacro} {k:Nat} (hk:k+1<m.body.length) (h:(m.body[k]'(by omega)).text=hash1):signI m k=hasTx m.params m.body[k+1].text:=by unfold signI;rw [dif_pos (by omega),decide_eq_true h,dif_pos hk];simp
theorem Zkl {m:DMacro} {k:Nat} (hk:k<m.body.length) (h:signI m k=false):Zd1 m=false:=Zdp hk h
theorem Znp {m:DMacro} (h:BodUpto (signI m) m.body.length):Zd1 m=true:=Zcq h
theorem ZfQ (m:DMacro) (h2 h3:Value) (fp2 fp3:List Nat) (w:World) (K2:(Zaa sStr).R w [h2] m.params fp2) (K3:(Zaa sTok).R w [h3] m.body fp3) (hl:m.body.length<=1000) :
  Calls Tryz.prog 107 #[.agg #[.string m.name,.bool m.function,h2,h3]] w (Says (Zd1 m) w):=by
 obtain⟨a2,cap2,rfl,-⟩:=Zaf K2
 obtain⟨a3,cap3,rfl,hc3,hm3,hrow⟩:=Zac K3
 unfold maxLen at hm3
 clear K3
 have hb0:=Zab w (.cells #[.string m.name,.bool m.function,.slice a2 m.params.length cap2,.slice a3 m.body.length cap3] 70)
 have HX:=Qh (heap_alloc_new w (.cells #[.string m.name,.bool m.function,.slice a2 m.params.length cap2,.slice a3 m.body.length cap3] 70))
 go_enter Tryz.func107,Tryz.ntmps107
 go_wp2
 generalize (w.alloc (.cells #[.string m.name,.bool m.function,.slice a2 m.params.length cap2,.slice a3 m.body.length cap3] 70))=W1 at *
 go_loopw [8] (λ i wr=>∃ k:Nat,k<=m.body.length/\i=.int .i64 k/\BodUpto (signI m) k/\Below W1.heap.size W1 wr) (λ i _=>m.body.length-(intOf i).toNat)
 case atStart=>exact⟨0,by omega,rfl,BodUpto.zero _,Below.refl _ _⟩
 case round =>
  obtain⟨k,hk,rfl,hall,hb⟩:=hrel
  have hbw:=hb0.trans (hb.mono hb0.size)
  by_cases hlt:k<m.body.length
  ·obtain⟨b1,off1,fps1,rfl,hb1',-,he1⟩:=hrow (by omega)
   obtain⟨es1,hE1,hR1⟩:=he1 k hlt
   obtain⟨hh,rfl,-,-,K1⟩:=hR1
   obtain⟨ah,caph,rfl,-⟩:=Zac K1
   replace hE1:=hE1.frame (hbw.block b1 hb1')
   have c10:wr.cell? ⟨b1,off1+k * 4,none⟩=some _:=Zao hE1 (by decide) rfl
   have c11:wr.cell? ⟨b1,off1+k * 4+1,none⟩=some _:=Zae (j:=1) hE1 (by decide) rfl
   have c12:wr.cell? ⟨b1,off1+k * 4+2,none⟩=some _:=Zae (j:=2) hE1 (by decide) rfl
   have c13:wr.cell? ⟨b1,off1+k * 4+3,none⟩=some _:=Zae (j:=3) hE1 (by decide) rfl
   have hbx:Below wr.heap.size wr (wr.alloc (.cells #[.int .i64 m.body[k].kind,.string m.body[k].text,.bool m.body[k].spaced,.slice ah m.body[k].hidden.length caph] 57)):=Zab _ _
   have HT:=Qh (heap_alloc_new wr (.cells #[.int .i64 m.body[k].kind,.string m.body[k].text,.bool m.body[k].spaced,.slice ah m.body[k].hidden.length caph] 57))
   have hbq:=hb.trans (hbx.mono hb.size)
   have hbw2:=hbw.trans (hbx.mono hbw.size)
   have HX2:=Qh ((hbq.block _ (Qg HX.out).1).trans HX.out)
   have HC:=Qh (λ x W (hW:Below (wr.alloc (.cells #[.int .i64 m.body[k].kind,.string m.body[k].text,.bool m.body[k].spaced,.slice ah m.body[k].hidden.length caph] 57)).heap.size (wr.alloc (.cells #[.int .i64 m.body[k].kind,.string m.body[k].text,.bool m.body[k].spaced,.slice ah m.body[k].hidden.length caph] 57)) W)=>Zei _ _ _ x W ((Zaa sStr).below ((Zaa sStr).below K2 hbw2) hW))
   clear K1 hE1 hbx
   by_cases e7:m.body[k].text=hash1
   ·have f7:=txt_t (l:=[35]) e7
    have E7:=Qh e7
    clear e7
    go_wp2
    generalize wr.alloc (.cells #[.int .i64 m.body[k].kind,.string m.body[k].text,.bool m.body[k].spaced,.slice ah m.body[k].hidden.length caph] 57)=W2 at *
    have p1:=Qc 1 HT.out
    clear c10 c11 c12 c13
    have q2:=Qc 2 HX2.out
    have q3:=Qc 3 HX2.out
    have g01:((k:Int)==(m.body.length:Int)-1)=decide (k+1=m.body.length):=by rw [Bool.eq_iff_iff];simp;omega
    have hwm:IntKind.i64.wrap ((m.body.length:Int)-1)=(m.body.length:Int)-1:=IntWalk.i64_in _ (by omega)
    by_cases e8:k+1=m.body.length
    ·have HF:=Qh (Zkl hlt (ZmJ hlt E7.out e8))
     rw [decide_eq_true e8] at g01
     clear e8 hall
     go_quiet (fail)
     go_wp2
     go_ret
     exact⟨Zad HF.out.symm,Zag hbw2 _⟩
    ·have hk1:k+1<m.body.length:=by omega
     obtain⟨es3,hE3,hR3⟩:=he1 (k+1) hk1
     obtain⟨h9,rfl,-,-,-⟩:=hR3
     replace hE3:=hE3.frame (hbw2.block b1 hb1')
     have c31:W2.cell? ⟨b1,off1+(k+1) * 4+1,none⟩=some _:=Zae (j:=1) hE3 (by decide) rfl
     have h6:((k:Int)+1).toNat=k+1:=by omega
     have hwl:IntKind.i64.wrap ((k:Int)+1)=(k:Int)+1:=IntWalk.i64_in _ (by omega)
     have hi1:(0:Int)<=(k:Int)+1:=by omega
     have hi2:(k:Int)+1<(m.body.length:Int):=by omega
     have hs:=signI_in hk1 E7.out
     rw [decide_eq_false e8] at g01
     clear hE3 e8 he1 hrow
     go_still_tail 16,(by kernel_rfl)
     change wpList _ _ _ _ _ W2.drew
     have hd:Below W2.heap.size W2 W2.drew:=Zag (Below.refl _ _) 1
     generalize W2.drew=w3 at *
     have hbw3:=hbw2.trans (hd.mono hbw2.size)
     have hbq3:=hbq.trans (hd.mono hbq.size)
     cases e9:hasTx m.params m.body[k+1].text
     ·rw [e9] at hs
      have HF:=Qh (Zkl hlt hs)
      clear hall hs
      go_wp2_with (go_at_call 110;refine (HC.out _ _ hd).mono ?_;rintro e w4 ⟨rfl,rfl⟩;rw [e9];clear e9)
      go_ret
      exact⟨Zad HF.out.symm,hbw3⟩
     ·rw [e9] at hs
      have HN:=Qh (hall.succ hs)
      clear hall hs
      go_wp2_with (go_at_call 110;refine (HC.out _ _ hd).mono ?_;rintro e w4 ⟨rfl,rfl⟩;rw [e9];clear e9)
      go_roundw
      case rel=>first | exact⟨k+1,by omega,by go_num,HN.out,hbq3⟩ | ((repeat apply Exists.intro);exact⟨⟨k+1,by omega,by go_num,HN.out,hbq3⟩,rfl⟩)
      case measure=>simp [intOf];omega
   ·have f7:=txt_f (l:=[35]) e7
    have HN:=Qh (hall.succ (Zly hlt e7))
    clear e7 hall
    go_wp2
    go_roundw
    case rel=>first | exact⟨k+1,by omega,by go_num,HN.out,hbq⟩ | ((repeat apply Exists.intro);exact⟨⟨k+1,by omega,by go_num,HN.out,hbq⟩,rfl⟩)
    case measure=>simp [intOf];omega
  ·have HF:=Qh (Znp (λ j hj=>hall j (by omega)))
   clear hall
   go_wp2
   go_ret
   exact⟨Zad HF.out.symm,hbw⟩
theorem Zck (cs:List Value) (m:DMacro) (fp:List Nat) (w:World) (H:sMacro.R w cs m fp):Calls Tryz.prog 68 #[.agg cs.toArray] w (Says (macOk m) w):=by
 obtain⟨h2,h3,fp2,fp3,rfl,k0,K2,K3,rfl⟩:=H
 cases hf:m.function
 ·have:=Zf7 m h2 h3 fp2 fp3 w k0 K2 K3 hf
  rw [hf] at this
  exact this
 ·have:=ZfP m h2 h3 fp2 fp3 w k0 K2 K3 hf
  rw [hf] at this
  exact this
theorem mi_name {m:DMacro} (h:Zak m.name 1=false):macOk m=false:=by rw [Zfm,h];rfl
theorem mi_def {m:DMacro} (h:m.name=Za2):macOk m=false:=by rw [Zfm,decide_eq_true h];simp
theorem mi_no {m:DMacro} (h1:Zak m.name 1=true) (h2:m.name≠Za2) (hf:m.function=false):macOk m=(decide (m.params.length=0) && ZaR m.body):=by rw [Zfm,h1,decide_eq_false h2,hf];rfl
theorem mi_yes {m:DMacro} (h1:Zak m.name 1=true) (h2:m.name≠Za2) (hf:m.function=true):macOk m=(Zcr m.params && ZaR m.body && Zd1 m):=by rw [Zfm,h1,decide_eq_false h2,hf];rfl
theorem mi_big {m:DMacro} (h:ZaR m.body=true):m.body.length<=20:=by unfold ZaR at h;rw [Bool.and_eq_true,Bool.and_eq_true] at h;simpa using h.1.1
theorem Zc2 (cs:List Value) (m:DMacro) (fp:List Nat) (w:World) (H:sMacro.R w cs m fp):Calls Tryz.prog 77 #[.agg cs.toArray] w (Says (macOk m) w):=by
 obtain⟨h2,h3,fp2,fp3,rfl,k0,K2,K3,rfl⟩:=H
 obtain⟨a2,cap2,rfl,-⟩:=Zaf K2
 obtain⟨a3,cap3,rfl,-⟩:=Zac K3
 have HN:=Qh (λ W=>Zcj m.name 1 W k0)
 have HP:=Qh (λ W (hW:Below w.heap.size w W)=>Zhd _ _ _ W ((Zaa sStr).below K2 hW))
 have HB:=Qh (λ W (hW:Below w.heap.size w W)=>ZiD _ _ _ W ((Zaa sTok).below K3 hW))
 have HS:=Qh (λ W (hl:m.body.length<=1000) (hW:Below w.heap.size w W)=>ZfQ m _ _ _ _ W ((Zaa sStr).below K2 hW) ((Zaa sTok).below K3 hW) hl)
 have hb0:=Zab w (.cells #[.string m.name,.bool m.function,.slice a2 m.params.length cap2,.slice a3 m.body.length cap3] 70)
 have HX:=Qh (heap_alloc_new w (.cells #[.string m.name,.bool m.function,.slice a2 m.params.length cap2,.slice a3 m.body.length cap3] 70))
 clear K2 K3
 cases h1:Zak m.name 1
 ·rw [h1] at HN
  have HF:=Qh (mi_name h1)
  clear h1
  go_enter Tryz.func77,Tryz.ntmps77
  go_wp2_with (go_at_call 104;refine (HN.out _).mono ?_;rintro e w1 ⟨rfl,hb1⟩)
  go_ret
  exact⟨Zad HF.out.symm,hb0.trans (hb1.mono hb0.size)⟩
 rw [h1] at HN
 go_enter Tryz.func77,Tryz.ntmps77
 go_wp2_with fail
 refine (HN.out _).mono ?_
 rintro e w1 ⟨rfl,hb1⟩
 have hB1:=hb0.trans (hb1.mono hb0.size)
 replace HX:=Qh ((hb1.block _ (Qg HX.out).1).trans HX.out)
 have q0:=Qc 0 HX.out
 by_cases hd:m.name=Za2
 ·have e2:=txt_t (l:=[100,101,102,105,110,101,100]) hd
  have HF:=Qh (mi_def hd)
  clear h1 hd
  go_wp2
  go_ret
  exact⟨Zad HF.out.symm,hB1⟩
 have e2:=txt_f (l:=[100,101,102,105,110,101,100]) hd
 have q1:=Qc 1 HX.out
 have q2:=Qc 2 HX.out
 have q3:=Qc 3 HX.out
 cases hf:m.function
 ·have HM:=Qh (mi_no h1 hd hf)
  rw [hf] at q1
  clear h1 hd hf
  by_cases hz:m.params.length=0
  ·have hz1:((m.params.length:Int)==0)=true:=by rw [hz];rfl
   rw [decide_eq_true hz,Bool.true_and] at HM
   clear hz
   go_wp2_with fail
   refine (HB.out _ hB1).mono ?_
   rintro e w2 ⟨rfl,hb2⟩
   go_wp2
   go_ret
   exact⟨Zad HM.out.symm,hB1.trans (hb2.mono hB1.size)⟩
  ·have hz1:((m.params.length:Int)==0)=false:=by simp;intro h;exact hz (by simp [h])
   rw [decide_eq_false hz,Bool.false_and] at HM
   clear hz
   go_wp2
   go_ret
   exact⟨Zad HM.out.symm,hB1⟩
 ·have HM:=Qh (mi_yes h1 hd hf)
  have HF:=Qh hf
  rw [hf] at q1
  clear h1 hd hf
  go_wp2_with fail
  refine (HP.out _ hB1).mono ?_
  rintro e w2 ⟨rfl,hb2⟩
  have hB2:=hB1.trans (hb2.mono hB1.size)
  cases hp:Zcr m.params
  ·rw [hp,Bool.false_and,Bool.false_and] at HM
   clear hp q0 q1 q2 q3
   go_wp2
   go_ret
   exact⟨Zad HM.out.symm,hB2⟩
  ·rw [hp,Bool.true_and] at HM
   replace HX:=Qh ((hb2.block _ (Qg HX.out).1).trans HX.out)
   clear hp q0 q1 q2 q3
   have q3:=Qc 3 HX.out
   go_wp2_with fail
   refine (HB.out _ hB2).mono ?_
   rintro e w3 ⟨rfl,hb3⟩
   have hB3:=hB2.trans (hb3.mono hB2.size)
   cases hb:ZaR m.body
   ·rw [hb,Bool.false_and] at HM
    clear hb q3
    go_wp2
    go_ret
    exact⟨Zad HM.out.symm,hB3⟩
   ·have hl:=mi_big hb
    rw [hb,Bool.true_and] at HM
    replace HX:=Qh ((hb3.block _ (Qg HX.out).1).trans HX.out)
    clear hb q3
    have q0:=Qc 0 HX.out
    have q1:=Qc 1 HX.out
    have q2:=Qc 2 HX.out
    have q3:=Qc 3 HX.out
    have HS':=Qh (λ W hW=>HS.out W (by omega) hW)
    clear hl
    go_wp2_with fail
    refine (HS'.out _ hB3).mono ?_
    rintro e w4 ⟨rfl,hb4⟩
    go_wp2
    go_ret
    exact⟨Zad HM.out.symm,hB3.trans (hb4.mono hB3.size)⟩
section
variable {P:Program} {ops:Array Oper} {Q:Exit->Act->World->Prop} {md:Region.Mode} {S:World->Prop}
theorem takeH (i d:Nat) {oi:Oper} {v:Value} {fuel:Nat} {listed:Array Bool} {a:Act} {w:World} (hi:ops[i]?=some oi) (hd:oi.dst=some d)
  (hs:Region.noSelect ops=true) (hf:Region.free md ops listed i=true) (hr:(Region.ready md ops listed).contains i=true)
  (hQ:∀ c a w,Q (.panic c) (a.put (some d) v) w->Q (.panic c) a w) (hw:Region.wanted oi (yielded ops a.tmps)=true) (hS:S w)
  (hy:∀ w,S w->(execOp a.eval oi).run P w=.ok (.value v) w)
  (h:wpAnyH P md ops Q S fuel (listed.setIfInBounds i true) (a.put (some d) v) w):wpAnyH P md ops Q S (fuel+1) listed a w:=
 wpAnyH_take hi hs hf hr (by rw [hd];exact hQ) (.inl ⟨hw,hy⟩) hS (by rw [hd];exact h)
theorem skipH (i d:Nat) {oi:Oper} {fuel:Nat} {listed:Array Bool} {a:Act} {w:World} (hi:ops[i]?=some oi) (hd:oi.dst=some d)
  (hs:Region.noSelect ops=true) (hf:Region.free md ops listed i=true) (hr:(Region.ready md ops listed).contains i=true)
  (hQ:∀ c a w,Q (.panic c) (a.put (some d) undef) w->Q (.panic c) a w) (hw:Region.wanted oi (yielded ops a.tmps)=false) (hS:S w)
  (h:wpAnyH P md ops Q S fuel (listed.setIfInBounds i true) (a.put (some d) undef) w):wpAnyH P md ops Q S (fuel+1) listed a w:=
 wpAnyH_take hi hs hf hr (by rw [hd];exact hQ) (.inr ⟨hw,rfl⟩) hS (by rw [hd];exact h)
end
def tabAt (l:List DMacro) (k:Nat):Bool:=if h:k<l.length then macOk l[k] && (decide (k=0) || sLess (l[k-1]'(by omega)).name l[k].name) else true
def tabOk (l:List DMacro):Bool:=decide (l.length<=10) && (List.range l.length).all (tabAt l)
def TabUpto (l:List DMacro) (k:Nat):Prop:=∀ j,j<k->tabAt l j=true
theorem TabUpto.zero (l:List DMacro):TabUpto l 0:=λ j h=>absurd h (by omega)
theorem TabUpto.succ {l:List DMacro} {k:Nat} (h:TabUpto l k) (hk:tabAt l k=true):TabUpto l (k+1):=λ j hj=>by
 by_cases e:j=k
 ·subst e;exact hk
 ·exact h j (by omega)
theorem ZmK {l:List DMacro} (h:10<l.length):tabOk l=false:=by unfold tabOk;rw [decide_eq_false (by omega)];rfl
theorem Zfp {l:List DMacro} {k:Nat} (hk:k<l.length) (h:tabAt l k=false):tabOk l=false:=by
 unfold tabOk
 rw [Bool.and_eq_false_iff]
 exact .inr (List.all_eq_false.2 ⟨k,List.mem_range.2 hk,by simp [h]⟩)
theorem Znq {l:List DMacro} (h:TabUpto l l.length) (hl:l.length<=10):tabOk l=true:=by
 unfold tabOk
 rw [decide_eq_true hl,Bool.true_and,List.all_eq_true]
 exact λ k hk=>h k (List.mem_range.1 hk)
theorem ZmL {l:List DMacro} (h:TabUpto l l.length):tabOk l=decide (l.length<=10):=by
 unfold tabOk
 rw [show (List.range l.length).all (tabAt l)=true from List.all_eq_true.2 λ k hk=>h k (List.mem_range.1 hk),Bool.and_true]
theorem Zek {l:List DMacro} (h:tabOk l=true):l.length<=10/\∀ k,k<l.length->tabAt l k=true:=by
 unfold tabOk at h
 rw [Bool.and_eq_true,decide_eq_true_eq,List.all_eq_true] at h
 exact⟨h.1,λ k hk=>h.2 k (List.mem_range.2 hk)⟩
theorem Zjo {l:List DMacro} {k:Nat} (hk:k<l.length) (h:macOk l[k]=false):tabAt l k=false:=by unfold tabAt;rw [dif_pos hk,h];rfl
theorem ZgS {l:List DMacro} (hk:0<l.length) (h:macOk l[0]=true):tabAt l 0=true:=by unfold tabAt;rw [dif_pos hk,h];rfl
theorem ZhV {l:List DMacro} {k:Nat} (hk:k<l.length) (h0:0<k) (h:sLess (l[k-1]'(by omega)).name l[k].name=false):tabAt l k=false:=by
 unfold tabAt;rw [dif_pos hk,h,decide_eq_false (by omega),Bool.or_false,Bool.and_false]
theorem ZgT {l:List DMacro} {k:Nat} (hk:k<l.length) (h:macOk l[k]=true) (h2:sLess (l[k-1]'(by omega)).name l[k].name=true):tabAt l k=true:=by
 unfold tabAt;rw [dif_pos hk,h,h2,Bool.or_true];rfl
theorem ZhW (v:Value) (l:List DMacro) (fp:List Nat) (w:World) (H:(Zaa sMacro).R w [v] l fp) :
  Calls Tryz.prog 40 #[v] w (Says (tabOk l) w):=by
 obtain⟨a,cap,rfl,hc,hm,hrow⟩:=Zac H
 unfold maxLen at hm
 clear H
 by_cases hl:10<l.length
 ·have HF:=Qh (ZmK hl)
  have hl':(10:Int)<(l.length:Int):=by omega
  go_enter Tryz.func40,Tryz.ntmps40
  go_wp2
  go_ret
  exact⟨Zad HF.out.symm,Below.refl _ _⟩
 ·have hl':¬ (10:Int)<(l.length:Int):=by omega
  go_enter Tryz.func40,Tryz.ntmps40
  go_wp2
  go_loopw [10] (λ i wr=>∃ k:Nat,k<=l.length/\i=.int .i64 k/\Hid (TabUpto l k)/\Below w.heap.size w wr) (λ i _=>l.length-(intOf i).toNat)
  case atStart=>exact⟨0,by omega,rfl,TabUpto.zero _,Below.refl _ _⟩
  case round =>
   obtain⟨k,hk,rfl,hall,hb⟩:=hrel
   by_cases hlt:k<l.length
   ·obtain⟨b1,off1,fps1,rfl,hb1,-,he1⟩:=hrow (by omega)
    obtain⟨es,hE,hR⟩:=he1 k hlt
    have hR':=hR
    obtain⟨h2,h3,p2,p3,rfl,-,K2,K3,-⟩:=hR
    obtain⟨a2,ca2,rfl,-⟩:=Zaf K2
    obtain⟨a3,ca3,rfl,-⟩:=Zac K3
    clear K2 K3
    replace hE:=hE.frame (hb.block b1 hb1)
    have hbr:b1<wr.heap.size:=Nat.lt_of_lt_of_le hb1 hb.size
    have c10:wr.cell? ⟨b1,off1+k * 4,none⟩=some _:=Zao hE (by decide) rfl
    have c11:wr.cell? ⟨b1,off1+k * 4+1,none⟩=some _:=Zae (j:=1) hE (by decide) rfl
    have c12:wr.cell? ⟨b1,off1+k * 4+2,none⟩=some _:=Zae (j:=2) hE (by decide) rfl
    have c13:wr.cell? ⟨b1,off1+k * 4+3,none⟩=some _:=Zae (j:=3) hE (by decide) rfl
    have hx1:=Zab wr (.cells #[.string l[k].name,.bool l[k].function,.slice a2 l[k].params.length ca2,.slice a3 l[k].body.length ca3] 70)
    have HX:=Qh (heap_alloc_new wr (.cells #[.string l[k].name,.bool l[k].function,.slice a2 l[k].params.length ca2,.slice a3 l[k].body.length ca3] 70))
    have HC:=Qh (Zc2 _ l[k] _ (wr.alloc (.cells #[.string l[k].name,.bool l[k].function,.slice a2 l[k].params.length ca2,.slice a3 l[k].body.length ca3] 70)) (sMacro.below (sMacro.below hR' hb) hx1))
    have hbw:=hb.trans (hx1.mono hb.size)
    have hsz:(wr.alloc (.cells #[.string l[k].name,.bool l[k].function,.slice a2 l[k].params.length ca2,.slice a3 l[k].body.length ca3] 70)).heap.size=wr.heap.size+1:=Array.size_push _
    have HS:=Qh hsz
    clear hR' hE hsz
    cases hv:macOk l[k]
    ·rw [hv] at HC
     have HF:=Qh (Zfp hlt (Zjo hlt hv))
     clear hv hall he1 hrow hx1
     go_wp2_with (go_at_call 77;refine HC.out.mono ?_;rintro e w1 ⟨rfl,hb2⟩)
     go_ret
     exact⟨Zad HF.out.symm,hbw.trans (hb2.mono hbw.size)⟩
    rw [hv] at HC
    by_cases h0:k=0
    ·have h0':decide ((0:Int)<(k:Int))=false:=by simp;omega
     have HN:Hid (TabUpto l (k+1)):=by
      show TabUpto l (k+1)
      subst h0
      exact hall.out.succ (ZgS hlt hv)
     have h00:¬ (0:Int)<(k:Int):=by omega
     have h01:decide (0<k)=false:=by simp;omega
     clear h0 hv hall he1 hrow hx1
     go_wp2_with (go_at_call 77;refine HC.out.mono ?_;rintro e w1 ⟨rfl,hb2⟩;have hbx:=hbw.trans (hb2.mono hbw.size))
     go_quiet (fail)
     go_wp2
     go_roundw
     case rel=>exact⟨k+1,by omega,by go_num,HN,Zag hbx _⟩
     case measure=>simp [intOf];omega
    ·obtain⟨esp,hEp,hRp⟩:=he1 (k-1) (by omega)
     obtain⟨g2,g3,r2,r3,rfl,-,-,-,-⟩:=hRp
     replace hEp:=hEp.frame (hb.block b1 hb1)
     have cp0:wr.cell? ⟨b1,off1+(k-1) * 4,none⟩=some (.string (l[k-1]'(by omega)).name):=Zao hEp (by decide) rfl
     have h6:((k:Int)-1).toNat=k-1:=by omega
     have hwm:IntKind.i64.wrap ((k:Int)-1)=(k:Int)-1:=IntWalk.i64_in _ (by omega)
     have h0':(0:Int)<(k:Int):=by omega
     have h0'':decide ((0:Int)<(k:Int))=true:=by simpa using h0'
     have h0n:decide (0<k)=true:=by simp;omega
     have hi1:(0:Int)<=(k:Int)-1:=by omega
     have hi2:(k:Int)-1<(l.length:Int):=by omega
     have hi3:(1:Int)<=(k:Int):=by omega
     clear hEp
     have hcp:(wr.alloc (.cells #[.string l[k].name,.bool l[k].function,.slice a2 l[k].params.length ca2,.slice a3 l[k].body.length ca3] 70)).cell? ⟨b1,off1+(k-1) * 4,none⟩=some (.string (l[k-1]'(by omega)).name):=(hx1.cell (p:=⟨b1,off1+(k-1) * 4,none⟩) hbr).trans cp0
     have hbr2:b1<(wr.alloc (.cells #[.string l[k].name,.bool l[k].function,.slice a2 l[k].params.length ca2,.slice a3 l[k].body.length ca3] 70)).heap.size:=by rw [HS.out];omega
     have hxx:wr.heap.size<(wr.alloc (.cells #[.string l[k].name,.bool l[k].function,.slice a2 l[k].params.length ca2,.slice a3 l[k].body.length ca3] 70)).heap.size:=by rw [HS.out];omega
     cases hs:sLess (l[k-1]'(by omega)).name l[k].name
     ·have HF:=Qh (Zfp hlt (ZhV hlt (by omega) hs))
      have h2':Op.bytesLess (l[k-1]'(by omega)).name.toList l[k].name.toList=false:=hs
      clear h0 hv hs hall he1 hrow hx1 cp0
      go_wp2_with (go_at_call 77;refine HC.out.mono ?_;rintro e w1 ⟨rfl,hb2⟩;have hbx:=hbw.trans (hb2.mono hbw.size);have hq:=(hb2.cell (p:=⟨b1,off1+(k-1) * 4,none⟩) hbr2).trans hcp;have hp0:=Qc 0 ((hb2.block _ hxx).trans HX.out))
      go_quiet (fail)
      go_wp2
      go_ret
      exact⟨Zad HF.out.symm,Zag hbx _⟩
     ·have HN:Hid (TabUpto l (k+1)):=hall.out.succ (ZgT hlt hv hs)
      have h2':Op.bytesLess (l[k-1]'(by omega)).name.toList l[k].name.toList=true:=hs
      clear h0 hv hs hall he1 hrow hx1 cp0
      go_wp2_with (go_at_call 77;refine HC.out.mono ?_;rintro e w1 ⟨rfl,hb2⟩;have hbx:=hbw.trans (hb2.mono hbw.size);have hq:=(hb2.cell (p:=⟨b1,off1+(k-1) * 4,none⟩) hbr2).trans hcp;have hp0:=Qc 0 ((hb2.block _ hxx).trans HX.out))
      go_quiet (fail)
      go_wp2
      go_roundw
      case rel=>exact⟨k+1,by omega,by go_num,HN,Zag hbx _⟩
      case measure=>simp [intOf];omega
   ·have HF:=Qh (Znq (l:=l) (by
                         have:k=l.length:=by omega
                         subst this;exact hall.out) (by omega))
    go_wp2
    go_ret
    exact⟨Zad HF.out.symm,hb⟩
theorem ZeA (v:Value) (l:List DMacro) (fp:List Nat) (w:World) (H:(Zaa sMacro).R w [v] l fp) :
  Calls Tryz.prog 35 #[v] w (Says (tabOk l) w):=by
 obtain⟨a,cap,rfl,hc,hm,hrow⟩:=Zac H
 unfold maxLen at hm
 clear H
 go_enter Tryz.func35,Tryz.ntmps35
 go_wp2
 go_loopw [3] (λ i wr=>∃ k:Nat,k<=l.length/\i=.int .i64 k/\Hid (TabUpto l k)/\Below w.heap.size w wr) (λ i _=>l.length-(intOf i).toNat)
 case atStart=>exact⟨0,by omega,rfl,TabUpto.zero _,Below.refl _ _⟩
 case round =>
  obtain⟨k,hk,rfl,hall,hb⟩:=hrel
  by_cases hlt:k<l.length
  ·obtain⟨b1,off1,fps1,rfl,hb1,-,he1⟩:=hrow (by omega)
   obtain⟨es,hE,hR⟩:=he1 k hlt
   have hR':=hR
   obtain⟨h2,h3,p2,p3,rfl,-,K2,K3,-⟩:=hR
   obtain⟨a2,ca2,rfl,-⟩:=Zaf K2
   obtain⟨a3,ca3,rfl,-⟩:=Zac K3
   clear K2 K3
   replace hE:=hE.frame (hb.block b1 hb1)
   have hbr:b1<wr.heap.size:=Nat.lt_of_lt_of_le hb1 hb.size
   have c10:wr.cell? ⟨b1,off1+k * 4,none⟩=some _:=Zao hE (by decide) rfl
   have c11:wr.cell? ⟨b1,off1+k * 4+1,none⟩=some _:=Zae (j:=1) hE (by decide) rfl
   have c12:wr.cell? ⟨b1,off1+k * 4+2,none⟩=some _:=Zae (j:=2) hE (by decide) rfl
   have c13:wr.cell? ⟨b1,off1+k * 4+3,none⟩=some _:=Zae (j:=3) hE (by decide) rfl
   have HC:=Qh (λ W (hW:Below wr.heap.size wr W)=>Zck [.string l[k].name,.bool l[k].function,.slice a2 l[k].params.length ca2,.slice a3 l[k].body.length ca3] l[k] _ W (sMacro.below (sMacro.below hR' hb) hW))
   clear hR' hE
   cases hv:macOk l[k]
   ·rw [hv] at HC
    have HF:=Qh (Zfp hlt (Zjo hlt hv))
    clear hv hall he1 hrow
    go_wp2_with fail
    refine wp_region_noPanic ?_
    refine wp_region_held_drew (S:=(λ w'=>w'.cell? ⟨b1,off1+k * 4,none⟩=some (.string l[k].name)/\w'.cell? ⟨b1,off1+k * 4+1,none⟩=some (.bool l[k].function)/\w'.cell? ⟨b1,off1+k * 4+2,none⟩=some (.slice a2 l[k].params.length ca2)/\w'.cell? ⟨b1,off1+k * 4+3,none⟩=some (.slice a3 l[k].body.length ca3))) (by kernel_rfl) (by exact⟨c10,c11,c12,c13⟩) (λ hHeld=>?_)
    refine Qt 0 10 rfl rfl ?_
    try simp only [Qp]
    refine Qt 1 11 rfl rfl ?_
    try simp only [Qp]
    refine Qt 2 12 rfl rfl ?_
    try simp only [Qp]
    refine Qt 3 13 rfl rfl ?_
    try simp only [Qp]
    refine Qr 4 rfl (λ K hK=>?_)
    go_simp
    refine (HC.out _ (Zag (Below.refl _ _) 1)).mono ?_
    rintro e w2 ⟨rfl,b30⟩
    refine hK.out _ _ (by exact⟨(b30.cell (by simp;omega)).trans c10,(b30.cell (by simp;omega)).trans c11,(b30.cell (by simp;omega)).trans c12,(b30.cell (by simp;omega)).trans c13⟩) (λ hHeld=>?_)
    clear hK K
    try simp only [Qp]
    refine Qt 5 15 rfl rfl ?_
    try simp only [Qp]
    refine Qt 6 16 rfl rfl ?_
    try simp only [Qp]
    refine Qs 7 17 rfl rfl ?_
    try simp only [Qp]
    refine Qs 8 18 rfl rfl ?_
    try simp only [Qp]
    refine Qs 9 19 rfl rfl ?_
    try simp only [Qp]
    refine Qs 10 20 rfl rfl ?_
    try simp only [Qp]
    refine Qs 11 21 rfl rfl ?_
    try simp only [Qp]
    refine Qs 12 22 rfl rfl ?_
    try simp only [Qp]
    refine Qs 13 23 rfl rfl ?_
    try simp only [Qp]
    refine Qs 14 24 rfl rfl ?_
    try simp only [Qp]
    refine Qs 15 25 rfl rfl ?_
    try simp only [Qp]
    refine Qs 16 26 rfl rfl ?_
    try simp only [Qp]
    refine Qs 17 27 rfl rfl ?_
    try simp only [Qp]
    refine Qs 18 28 rfl rfl ?_
    try simp only [Qp]
    refine Qs 19 29 rfl rfl ?_
    try simp only [Qp]
    refine Qs 20 30 rfl rfl ?_
    try simp only [Qp]
    refine Qs 21 31 rfl rfl ?_
    try simp only [Qp]
    refine Qs 22 32 rfl rfl ?_
    try simp only [Qp]
    refine Qt 23 33 rfl rfl ?_
    try simp only [Qp]
    refine wpAnyH_done (by kernel_rfl) ?_ _
    refine NoPanic.normal ?_
    have hbx:=hb.drew.trans (b30.mono hb.size)
    go_wp2
    go_ret
    exact⟨Zad HF.out.symm,hbx⟩
   rw [hv] at HC
   by_cases h0:k=0
   ·have h0':decide ((0:Int)<(k:Int))=false:=by simp;omega
    have HN:Hid (TabUpto l (k+1)):=by
     show TabUpto l (k+1)
     subst h0
     exact hall.out.succ (ZgS hlt hv)
    have h00:¬ (0:Int)<(k:Int):=by omega
    have h01:decide (0<k)=false:=by simp;omega
    clear h0 hv hall he1 hrow
    go_wp2_with fail
    refine wp_region_noPanic ?_
    refine wp_region_held_drew (S:=(λ w'=>w'.cell? ⟨b1,off1+k * 4,none⟩=some (.string l[k].name)/\w'.cell? ⟨b1,off1+k * 4+1,none⟩=some (.bool l[k].function)/\w'.cell? ⟨b1,off1+k * 4+2,none⟩=some (.slice a2 l[k].params.length ca2)/\w'.cell? ⟨b1,off1+k * 4+3,none⟩=some (.slice a3 l[k].body.length ca3))) (by kernel_rfl) (by exact⟨c10,c11,c12,c13⟩) (λ hHeld=>?_)
    refine Qt 0 10 rfl rfl ?_
    try simp only [Qp]
    refine Qt 1 11 rfl rfl ?_
    try simp only [Qp]
    refine Qt 2 12 rfl rfl ?_
    try simp only [Qp]
    refine Qt 3 13 rfl rfl ?_
    try simp only [Qp]
    refine Qr 4 rfl (λ K hK=>?_)
    go_simp
    refine (HC.out _ (Zag (Below.refl _ _) 1)).mono ?_
    rintro e w2 ⟨rfl,b30⟩
    refine hK.out _ _ (by exact⟨(b30.cell (by simp;omega)).trans c10,(b30.cell (by simp;omega)).trans c11,(b30.cell (by simp;omega)).trans c12,(b30.cell (by simp;omega)).trans c13⟩) (λ hHeld=>?_)
    clear hK K
    try simp only [Qp]
    refine Qt 5 15 rfl rfl ?_
    try simp only [Qp]
    refine Qt 6 16 rfl rfl ?_
    try simp only [Qp]
    refine Qt 7 17 rfl rfl ?_
    try simp only [Qp]
    refine Qt 8 18 rfl rfl ?_
    try simp only [Qp]
    refine Qt 9 19 rfl rfl ?_
    try simp only [Qp]
    refine Qs 10 20 rfl rfl ?_
    try simp only [Qp]
    refine Qs 11 21 rfl rfl ?_
    try simp only [Qp]
    refine Qs 12 22 rfl rfl ?_
    try simp only [Qp]
    refine Qs 13 23 rfl rfl ?_
    try simp only [Qp]
    refine Qs 14 24 rfl rfl ?_
    try simp only [Qp]
    refine Qs 15 25 rfl rfl ?_
    try simp only [Qp]
    refine Qs 16 26 rfl rfl ?_
    try simp only [Qp]
    refine Qs 17 27 rfl rfl ?_
    try simp only [Qp]
    refine Qs 18 28 rfl rfl ?_
    try simp only [Qp]
    refine Qs 19 29 rfl rfl ?_
    try simp only [Qp]
    refine Qs 20 30 rfl rfl ?_
    try simp only [Qp]
    refine Qs 21 31 rfl rfl ?_
    try simp only [Qp]
    refine Qt 22 32 rfl rfl ?_
    try simp only [Qp]
    refine Qt 23 33 rfl rfl ?_
    try simp only [Qp]
    refine wpAnyH_done (by kernel_rfl) ?_ _
    refine NoPanic.normal ?_
    have hbx:=hb.drew.trans (b30.mono hb.size)
    go_wp2
    go_roundw
    case rel=>exact⟨k+1,by omega,by go_num,HN,hbx⟩
    case measure=>simp [intOf];omega
   ·obtain⟨esp,hEp,hRp⟩:=he1 (k-1) (by omega)
    obtain⟨g2,g3,r2,r3,rfl,-,-,-,-⟩:=hRp
    replace hEp:=hEp.frame (hb.block b1 hb1)
    have cp0:wr.cell? ⟨b1,off1+(k-1) * 4,none⟩=some (.string (l[k-1]'(by omega)).name):=Zao hEp (by decide) rfl
    have h6:((k:Int)-1).toNat=k-1:=by omega
    have hwm:IntKind.i64.wrap ((k:Int)-1)=(k:Int)-1:=IntWalk.i64_in _ (by omega)
    have h0':(0:Int)<(k:Int):=by omega
    have h0'':decide ((0:Int)<(k:Int))=true:=by simpa using h0'
    have h0n:decide (0<k)=true:=by simp;omega
    have hi1:(0:Int)<=(k:Int)-1:=by omega
    have hi2:(k:Int)-1<(l.length:Int):=by omega
    have hi3:(1:Int)<=(k:Int):=by omega
    clear hEp
    rcases ZhN (a:=(l[k-1]'(by omega)).name) (b:=l[k].name) with⟨hw,hw1,hw2⟩ | ⟨hw,hw1⟩ | ⟨hw,hw1,hw2⟩
    ·have HN:Hid (TabUpto l (k+1)):=hall.out.succ (ZgT hlt hv hw)
     clear h0 hv hw hall he1 hrow
     go_wp2_with fail
     refine wp_region_noPanic ?_
     refine wp_region_held_drew (S:=(λ w'=>w'.cell? ⟨b1,off1+k * 4,none⟩=some (.string l[k].name)/\w'.cell? ⟨b1,off1+k * 4+1,none⟩=some (.bool l[k].function)/\w'.cell? ⟨b1,off1+k * 4+2,none⟩=some (.slice a2 l[k].params.length ca2)/\w'.cell? ⟨b1,off1+k * 4+3,none⟩=some (.slice a3 l[k].body.length ca3)/\w'.cell? ⟨b1,off1+(k-1) * 4,none⟩=some (.string (l[k-1]'(by omega)).name))) (by kernel_rfl) (by exact⟨c10,c11,c12,c13,cp0⟩) (λ hHeld=>?_)
     refine Qt 0 10 rfl rfl ?_
     try simp only [Qp]
     refine Qt 1 11 rfl rfl ?_
     try simp only [Qp]
     refine Qt 2 12 rfl rfl ?_
     try simp only [Qp]
     refine Qt 3 13 rfl rfl ?_
     try simp only [Qp]
     refine Qr 4 rfl (λ K hK=>?_)
     go_simp
     refine (HC.out _ (Zag (Below.refl _ _) 1)).mono ?_
     rintro e w2 ⟨rfl,b30⟩
     refine hK.out _ _ (by exact⟨(b30.cell (by simp;omega)).trans c10,(b30.cell (by simp;omega)).trans c11,(b30.cell (by simp;omega)).trans c12,(b30.cell (by simp;omega)).trans c13,(b30.cell (by simp;omega)).trans cp0⟩) (λ hHeld=>?_)
     clear hK K
     try simp only [Qp]
     refine Qt 5 15 rfl rfl ?_
     try simp only [Qp]
     refine Qt 6 16 rfl rfl ?_
     try simp only [Qp]
     refine Qt 7 17 rfl rfl ?_
     try simp only [Qp]
     refine Qt 8 18 rfl rfl ?_
     try simp only [Qp]
     refine Qt 9 19 rfl rfl ?_
     try simp only [Qp]
     refine Qt 10 20 rfl rfl ?_
     try simp only [Qp]
     refine Qt 11 21 rfl rfl ?_
     try simp only [Qp]
     refine Qt 12 22 rfl rfl ?_
     try simp only [Qp]
     refine Qt 13 23 rfl rfl ?_
     try simp only [Qp]
     refine Qt 14 24 rfl rfl ?_
     try simp only [Qp]
     refine Qt 15 25 rfl rfl ?_
     try simp only [Qp]
     refine Qt 16 26 rfl rfl ?_
     try simp only [Qp]
     refine Qt 17 27 rfl rfl ?_
     try simp only [Qp]
     refine Qt 18 28 rfl rfl ?_
     try simp only [Qp]
     refine Qt 19 29 rfl rfl ?_
     try simp only [Qp]
     refine Qt 20 30 rfl rfl ?_
     try simp only [Qp]
     refine Qt 21 31 rfl rfl ?_
     try simp only [Qp]
     refine Qt 22 32 rfl rfl ?_
     try simp only [Qp]
     refine Qt 23 33 rfl rfl ?_
     try simp only [Qp]
     refine wpAnyH_done (by kernel_rfl) ?_ _
     refine NoPanic.normal ?_
     have hbx:=hb.drew.trans (b30.mono hb.size)
     go_wp2
     go_roundw
     case rel=>exact⟨k+1,by omega,by go_num,HN,hbx⟩
     case measure=>simp [intOf];omega
    all_goals
     have HF:=Qh (Zfp hlt (ZhV hlt (by omega) hw))
     clear h0 hv hw hall he1 hrow
     go_wp2_with fail
     refine wp_region_noPanic ?_
     refine wp_region_held_drew (S:=(λ w'=>w'.cell? ⟨b1,off1+k * 4,none⟩=some (.string l[k].name)/\w'.cell? ⟨b1,off1+k * 4+1,none⟩=some (.bool l[k].function)/\w'.cell? ⟨b1,off1+k * 4+2,none⟩=some (.slice a2 l[k].params.length ca2)/\w'.cell? ⟨b1,off1+k * 4+3,none⟩=some (.slice a3 l[k].body.length ca3)/\w'.cell? ⟨b1,off1+(k-1) * 4,none⟩=some (.string (l[k-1]'(by omega)).name))) (by kernel_rfl) (by exact⟨c10,c11,c12,c13,cp0⟩) (λ hHeld=>?_)
     refine Qt 0 10 rfl rfl ?_
     try simp only [Qp]
     refine Qt 1 11 rfl rfl ?_
     try simp only [Qp]
     refine Qt 2 12 rfl rfl ?_
     try simp only [Qp]
     refine Qt 3 13 rfl rfl ?_
     try simp only [Qp]
     refine Qr 4 rfl (λ K hK=>?_)
     go_simp
     refine (HC.out _ (Zag (Below.refl _ _) 1)).mono ?_
     rintro e w2 ⟨rfl,b30⟩
     refine hK.out _ _ (by exact⟨(b30.cell (by simp;omega)).trans c10,(b30.cell (by simp;omega)).trans c11,(b30.cell (by simp;omega)).trans c12,(b30.cell (by simp;omega)).trans c13,(b30.cell (by simp;omega)).trans cp0⟩) (λ hHeld=>?_)
     clear hK K
     try simp only [Qp]
     refine Qt 5 15 rfl rfl ?_
     try simp only [Qp]
     refine Qt 6 16 rfl rfl ?_
     try simp only [Qp]
     refine Qt 7 17 rfl rfl ?_
     try simp only [Qp]
     refine Qt 8 18 rfl rfl ?_
     try simp only [Qp]
     refine Qt 9 19 rfl rfl ?_
     try simp only [Qp]
     refine Qt 10 20 rfl rfl ?_
     try simp only [Qp]
     refine Qt 11 21 rfl rfl ?_
     try simp only [Qp]
     refine Qt 12 22 rfl rfl ?_
     try simp only [Qp]
     refine Qt 13 23 rfl rfl ?_
     try simp only [Qp]
     refine Qt 14 24 rfl rfl ?_
     try simp only [Qp]
     refine Qt 15 25 rfl rfl ?_
     try simp only [Qp]
     refine Qt 16 26 rfl rfl ?_
     try simp only [Qp]
     refine Qt 17 27 rfl rfl ?_
     try simp only [Qp]
     refine Qt 18 28 rfl rfl ?_
     try simp only [Qp]
     refine Qt 19 29 rfl rfl ?_
     try simp only [Qp]
     refine Qt 20 30 rfl rfl ?_
     try simp only [Qp]
     refine Qt 21 31 rfl rfl ?_
     try simp only [Qp]
     refine Qt 22 32 rfl rfl ?_
     try simp only [Qp]
     refine Qt 23 33 rfl rfl ?_
     try simp only [Qp]
     refine wpAnyH_done (by kernel_rfl) ?_ _
     refine NoPanic.normal ?_
     have hbx:=hb.drew.trans (b30.mono hb.size)
     go_wp2
     go_ret
     exact⟨Zad HF.out.symm,hbx⟩
  ·have HF:=Qh (ZmL (l:=l) (by
                         have:k=l.length:=by omega
                         subst this;exact hall.out))
   by_cases hl:l.length<=10
   ·rw [decide_eq_true hl] at HF
    have hl':(l.length:Int)<=10:=by omega
    go_wp2
    go_ret
    exact⟨Zad HF.out.symm,hb⟩
   ·rw [decide_eq_false hl] at HF
    have hl':¬ (l.length:Int)<=10:=by omega
    go_wp2
    go_ret
    exact⟨Zad HF.out.symm,hb⟩
end Go.Proofs.YtiaiggjfepoahaaGreat
