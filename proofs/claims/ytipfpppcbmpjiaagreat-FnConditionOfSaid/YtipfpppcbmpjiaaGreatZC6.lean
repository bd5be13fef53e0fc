/- Lemmas. -/
import Derived.Laws.BitsAllLaws
import Derived.Test.YtipfpppcbmpjiaaGreatZC5
set_option linter.unusedVariables false
set_option maxHeartbeats 16000000
set_option maxRecDepth 100000
set_option linter.unusedSimpArgs false
namespace Go.Proofs.YtipfpppcbmpjiaaGreat
open Go.RowKit
structure Rd (w:World)(rb:Nat)(p:Nat):Prop where
 mk ::
 ex:∃(a:Option Addr) (l:List UInt8) (cap:Nat) (fp:List Nat),w.heap[rb]?=some (.cells #[.slice a l.length cap,.int .i64 p] 92 (0,0))/\(Zaa Zdi).R w [.slice a l.length cap] l fp/\Under rb fp/\l.length<=2000
 hp:p<=1000000
variable {w:World}{rb p:Nat}
theorem Rd.step (H:Rd w rb p)(hp:p<1000000):Rd (w.setCell ⟨rb,1,none⟩ (.int .i64 ((p:Int)+1))) rb (p+1)/\Kept [rb] w (w.setCell ⟨rb,1,none⟩ (.int .i64 ((p:Int)+1))):=by
 obtain⟨⟨a,l,cap,fp,hb,hr,hu,hl⟩,hp'⟩:=H;have hk:Kept [rb] w (w.setCell ⟨rb,1,none⟩ (.int .i64 ((p:Int)+1))):=(Kept.refl _ _).setCell (by simp) _;refine⟨⟨⟨a,l,cap,fp,?_,(Zaa Zdi).kept hr (λb aE=>by have:=hu b aE;simp;omega) hk,hu,hl⟩,by omega⟩,hk⟩;simp[World.setCell,Array.getElem?_modify,hb]
def Picked (rb p:Nat)(n:Int)(w:World)(e:Ending)(w':World):Prop:=
 ∃r:Int,e=.returned (.int .i64 r)/\0<=r/\(r<n\/n<1/\r=0)/\Rd w' rb (p+1)/\Kept [rb] w w'
theorem Picked.of {n r:Int}(H:Rd w rb p)(hp:p<1000000)(h0:0<=r)(h1:r<n\/n<1/\r=0)(m:Nat):
  Picked rb p n w (.returned (.int .i64 r)) ((w.setCell ⟨rb,1,none⟩ (.int .i64 ((p:Int)+1))).drewN m):=
 ⟨r,rfl,h0,h1,⟨(H.step hp).1.ex,(H.step hp).1.hp⟩,(H.step hp).2.drewN m⟩
theorem ZkZ (a b:Nat)(ha:a<4611686018427387904)(hb:b<4611686018427387904):0<=bits .xor .i64 (a:Int) (b:Int):=by
 have hx:a ^^^ b<2 ^ 62:=Nat.xor_lt_two_pow (by omega) (by omega);have h1:(BitVec.ofInt 64 (a:Int)).toNat=a:=by
  rw[BitVec.ofInt_natCast,BitVec.toNat_ofNat];exact Nat.mod_eq_of_lt (by omega)
 have h2:(BitVec.ofInt 64 (b:Int)).toNat=b:=by
  rw[BitVec.ofInt_natCast,BitVec.toNat_ofNat];exact Nat.mod_eq_of_lt (by omega)
 show 0<=IntKind.i64.wrap ((BitVec.ofInt 64 (a:Int) ^^^ BitVec.ofInt 64 (b:Int)).toNat:Int);rw[BitVec.toNat_xor,h1,h2,QF _ (by omega)];omega
theorem xor_pick {X:Int}(h:0<=X/\X<=1000000000):0<=bits .xor .i64 X (X / 64):=by
 obtain⟨x,rfl⟩:=Int.eq_ofNat_of_zero_le h.1;have:=ZkZ x (x / 64) (by omega) (by omega);simpa using this
theorem Zqi (b:UInt8):0<=wrap64 (b.toNat:Int)/\wrap64 (b.toNat:Int)<=255:=by
 have:=b.toNat_lt;rw[show wrap64 (b.toNat:Int)=(b.toNat:Int) from by unfold wrap64;omega];omega
theorem ZmS {x n:Int}(h:0<=x)(hn:1<=n):0<=x.tmod n/\x.tmod n<n:=by
 rw[Int.tmod_eq_emod_of_nonneg h];exact⟨Int.emod_nonneg _ (by omega),Int.emod_lt_of_pos _ (by omega)⟩
theorem ZdO (rb p:Nat)(n:Int)(w:World)(H:Rd w rb p)(hp:p<1000000)(hn:n<=1000000)(ke:-1000000<=n):
  Calls Tryz.prog 53 #[.pointer (some ⟨rb,0,none⟩),.int .i64 n] w (Picked rb p n w):=by
 have HP:=λ(r:Int) h0 h1 m=>Picked.of (n:=n) (r:=r) H hp h0 h1 m;have HH:=Qh HP;clear HP;obtain⟨⟨a,l,cap,fp,hb,hr,hu,hl⟩,_⟩:=H;have h0:w.cell? ⟨rb,0,none⟩=some (.slice a l.length cap):=by simp[World.cell?,hb]
 have h1:w.cell? ⟨rb,1,none⟩=some (.int .i64 p):=by simp[World.cell?,hb]
 have hf:w.frozen? ⟨rb,1,none⟩=false:=by simp[World.frozen?,hb]
 clear hb;obtain⟨_,_,hv,_,_,aJ,_⟩:=ZlJ hr;simp only[QT]at hv;obtain⟨rfl,_,rfl⟩:=hv;clear hr;by_cases d4:n<1
 ·go_enter Tryz.func53,Tryz.ntmps53;go_wp2;go_ret;exact HH.out 0 (by omega) (.inr ⟨d4,rfl⟩) 0
 by_cases ur:l.length=0
 ·have kG:((l.length:Int)==0)=true:=by simp[ur]
  go_enter Tryz.func53,Tryz.ntmps53;go_wp2;go_ret;exact HH.out 0 (by omega) (.inl (by omega)) 0
 obtain⟨b,off,rfl,aD,kf,hc⟩:=aJ (by omega);clear aJ;have af:=hu b kf;have cD:¬rb=b:=by omega
 have kG:((l.length:Int)==0)=false:=beq_eq_false_iff_ne.2 (by omega);by_cases hk:p<l.length
 ·have qc:=hc p hk;simp only[ZoI]at qc;have HZ:=Qh (ZmS (Zqi l[p]).1 (show 1<=n by omega));clear hc;go_enter Tryz.func53,Tryz.ntmps53;go_wp2;go_ret;exact HH.out _ HZ.out.1 (.inl HZ.out.2) 0
 ·obtain⟨i1,jJ⟩:∃i,i=p % l.length:=⟨_,rfl⟩;obtain⟨m3,jK⟩:∃m,m=p*7+3:=⟨_,rfl⟩;obtain⟨i2,kc⟩:∃i,i=m3 % l.length:=⟨_,rfl⟩;obtain⟨q1,si⟩:∃q,q=p / l.length:=⟨_,rfl⟩;have hi1l:i1<l.length:=by rw[jJ];exact Nat.mod_lt _ (by omega)
  have hi2l:i2<l.length:=by rw[kc];exact Nat.mod_lt _ (by omega)
  have hq1l:q1<=p:=by rw[si];exact Nat.div_le_self _ _
  obtain⟨c1,ta,jD,fJ⟩:∃c:Int,0<=c/\c<=255/\w.cell? ⟨b,off+i1,none⟩=some (.int .u8 c):=⟨_,by omega,by have:=l[i1].toNat_lt;omega,hc i1 hi1l⟩;obtain⟨c2,hd3,hd4,dA⟩:∃c:Int,0<=c/\c<=255/\w.cell? ⟨b,off+i2,none⟩=some (.int .u8 c):=⟨_,by omega,by have:=l[i2].toNat_lt;omega,hc i2 hi2l⟩;have e1:IntKind.i64.wrap ((p:Int).tmod (l.length:Int))=(i1:Int):=by
   rw[Int.tmod_eq_emod_of_nonneg (by omega),←Int.natCast_emod,←jJ];exact QF _ (by omega)
  have e3:IntKind.i64.wrap ((p:Int)*7)=(p:Int)*7:=QF _ (by omega);have e4:IntKind.i64.wrap ((p:Int)*7+3)=(m3:Int):=by rw[QF _ (by omega)];omega
  have e5:IntKind.i64.wrap ((m3:Int).tmod (l.length:Int))=(i2:Int):=by
   rw[Int.tmod_eq_emod_of_nonneg (by omega),←Int.natCast_emod,←kc];exact QF _ (by omega)
  have e6:IntKind.i64.wrap c1=c1:=QF _ (by omega);have e7:IntKind.i64.wrap c2=c2:=QF _ (by omega);have e8:IntKind.i64.wrap (c1*131)=c1*131:=QF _ (by omega);have e9:IntKind.i64.wrap (c2*1117)=c2*1117:=QF _ (by omega);have e10:IntKind.i64.wrap (c1*131+c2*1117)=c1*131+c2*1117:=QF _ (by omega);have e11:IntKind.i64.wrap ((p:Int)*29)=(p:Int)*29:=QF _ (by omega);have e12:IntKind.i64.wrap (c1*131+c2*1117+(p:Int)*29)=c1*131+c2*1117+(p:Int)*29:=QF _ (by omega);have e13:IntKind.i64.wrap ((p:Int).tdiv (l.length:Int))=(q1:Int):=by
   rw[Int.tdiv_eq_ediv_of_nonneg (by omega),←Int.natCast_ediv,←si];exact QF _ (by omega)
  have e14:IntKind.i64.wrap ((q1:Int)*53)=(q1:Int)*53:=QF _ (by omega);obtain⟨X,hX⟩:∃X:Int,X=c1*131+c2*1117+(p:Int)*29+(q1:Int)*53:=⟨_,rfl⟩;have qg:0<=X/\X<=1000000000:=by omega
  have e15:IntKind.i64.wrap (c1*131+c2*1117+(p:Int)*29+(q1:Int)*53)=X:=by rw[←hX];exact QF _ (by omega)
  have f1:(p:Int) % (l.length:Int)=(i1:Int):=by rw[jJ,Int.natCast_emod]
  have f2:((p:Int)*7+3) % (l.length:Int)=(i2:Int):=by rw[kc,jK,Int.natCast_emod];rfl
  have f3:(m3:Int) % (l.length:Int)=(i2:Int):=by rw[kc,Int.natCast_emod]
  have f4:(p:Int) / (l.length:Int)=(q1:Int):=by rw[si,Int.natCast_ediv]
  have f5:=hX.symm;have HX:=Qh qg;clear qg hX jJ jK kc si hc;go_enter Tryz.func53,Tryz.ntmps53;go_wp2
  go_quiet (fail)
  clear f1 f2 f3 f4 f5 e1 e3 e4 e5 e6 e7 e8 e9 e10 e11 e12 e13 e14 e15;have qg:=HX.out;go_wp2;go_ret;have hr:=ZmS (xor_pick HX.out) (show 1<=n by omega);exact HH.out _ hr.1 (.inl hr.2) _
def Odd (rb p:Nat)(w:World)(e:Ending)(w':World):Prop:=∃b:Bool,∃q:Nat,e=.returned (.bool b)/\p<=q/\q<=p+1/\Rd w' rb q/\Kept [rb] w w'
theorem odd (rb p:Nat)(n:Int)(w:World)(H:Rd w rb p)(hp:p<1000000)(hn:n<=1000000)(ke:0<=n):
  Calls Tryz.prog 31 #[.pointer (some ⟨rb,0,none⟩),.int .i64 n] w (Odd rb p w):=by
 by_cases h0:0<n
 ·go_enter Tryz.func31,Tryz.ntmps31;go_wp2_with (go_at_call 53;refine(ZdO _ _ _ _ H hp hn (by omega)).mono ?_;rintro e w'⟨r,rfl,wl,wm,jE,tc⟩)
  go_ret;exact⟨_,p+1,rfl,by omega,by omega,jE,tc⟩
 ·have e0:n=0:=by omega
  subst e0;go_enter Tryz.func31,Tryz.ntmps31;go_wp2;go_ret;exact⟨_,p,rfl,by omega,by omega,H,Kept.refl _ _⟩
theorem Rd.grow {w w':World}(H:Rd w rb p)(hb:Below w.heap.size w w'):Rd w' rb p:=by
 obtain⟨⟨a,l,cap,fp,h1,h2,h3,h4⟩,h5⟩:=H;exact⟨⟨a,l,cap,fp,(hb.block rb (Qg h1).1).trans h1,(Zaa Zdi).below h2 hb,h3,h4⟩,h5⟩
theorem Rd.lt (H:Rd w rb p):rb<w.heap.size:=by
 obtain⟨⟨a,l,cap,fp,h1,h2,h3,h4⟩,h5⟩:=H;exact(Qg h1).1
theorem ZeR {B rb:Nat}{w0 w w':World}(hb:Below B w0 w)(hk:Kept [rb] w w')(hr:B<=rb)(hs:B<=w.heap.size):Below B w0 w':=
 hb.trans (hk.below (λb hb=>by
  obtain rfl:b=rb:=by simpa using hb
  exact hr) hs)
theorem lit_get (L:List ByteArray)(r:Int)(h0:0<=r)(h1:r<L.length):∃s,s∈L/\∀A:Array Value,A=(L.map Value.string).toArray->A[r.toNat]?=some (.string s):=by
 have h:r.toNat<L.length:=by omega
 refine⟨L[r.toNat],QE h,?_⟩;rintro A rfl;simp[QJ h]
variable {fp:List Nat}
theorem Kept.cell {w w':World}(hk:Kept fp w w'){p:Addr}(h1:p.block<w.heap.size)(h2:p.block∉fp):w'.cell? p=w.cell? p:=
 Qu (hk.block p.block h1 h2)
theorem Zht (L:List ByteArray)(M:Nat)(hM:∀s∈L,s.size<=M){rb:Nat}{wr w2:World}{r:Int}(h0:0<=r)(h1:r<L.length)(hr:rb<wr.heap.size)(hK:Kept [rb] (wr.alloc (.cells (L.map Value.string).toArray 9)) w2):
  ∃s:ByteArray,s.size<=M/\w2.cell? ⟨wr.heap.size,r.toNat,none⟩=some (.string s):=by
 obtain⟨s,hs,hl⟩:=lit_get L r h0 h1;refine⟨s,hM s hs,?_⟩;rw[hK.cell (p:=⟨wr.heap.size,r.toNat,none⟩) (by simp) (by simp;omega),Qy _ _ _ _ rfl];exact hl _ rfl
def Opened (B:Nat)(w0:World)(e:Ending)(w':World):Prop:=∃rb,e=.returned (.pointer (some ⟨rb,0,none⟩))/\B<=rb/\Rd w' rb 0/\Below B w0 w'
theorem Zcp {α:Type}{S:Shape α}{a:Option Addr}{cap:Nat}{l:List α}(n:Nat)(hn:n<=l.length)(H:(Zaa S).R w [.slice a l.length cap] l fp):
  ∃fp',(Zaa S).R w [.slice a n cap] (l.take n) fp'/\∀b∈fp',b∈fp:=by
 obtain⟨a',dF,hv,hc,hm,h⟩:=H;simp only[JH,QT,and_true,true_and]at hv;obtain⟨rfl,rfl⟩:=hv;have hl:(l.take n).length=n:=by simp;omega
 by_cases h0:n=0
 ·subst h0;exact⟨[],⟨a,cap,by simp,by simp,hm,.inl ⟨by simp,rfl⟩⟩,by simp⟩
 ·rcases h with⟨rfl,_⟩ | ⟨_,b,off,bA,ha,rfl,hb,he⟩
  ·simp at hn;omega
  ·refine⟨b::(List.range n).flatMap bA,⟨a,cap,by rw[hl],by omega,hm,.inr ⟨by omega,b,off,bA,ha,by rw[hl],hb,λi hi=>?_⟩⟩,?_⟩
   ·rw[hl]at hi;obtain⟨es,h1,h2⟩:=he i (by omega);exact⟨es,h1,by rw[List.getElem_take];exact h2⟩
   ·intro x hx;rcases Q7.1 hx with rfl | hx
    ·simp
    ·obtain⟨i,hi,hx⟩:=QO.1 hx;refine List.mem_cons_of_mem _ (QO.2 ⟨i,?_,hx⟩);simp only[List.mem_range]at hi ⊢;omega
theorem Opened.of {v:Value}{l:List UInt8}{a:Option Addr}{cap:Nat}(hv:v=.slice a l.length cap)(H:(Zaa Zdi).R w [v] l fp)(hl:l.length<=2000):
  Opened w.heap.size w (.returned (.pointer (some ⟨w.heap.size,0,none⟩))) (w.alloc (.cells #[v,.int .i64 0] 92)):=by
 subst hv;have hb:Below w.heap.size w (w.alloc (.cells #[.slice a l.length cap,.int .i64 0] 92)):=(QD _ _).alloc (QA _) _;refine⟨w.heap.size,rfl,QA _,⟨⟨a,l,cap,fp,?_,(Zaa Zdi).below H hb,(Zaa Zdi).lt H,hl⟩,by omega⟩,hb⟩;show(w.heap.push _)[w.heap.size]?=_;simp
theorem l20Open (v:Value)(l:List UInt8)(fp:List Nat)(w:World)(H:(Zaa Zdi).R w [v] l fp):
  Calls Tryz.prog 29 #[v] w (Opened w.heap.size w):=by
 obtain⟨a,cap,hv,hc,hm,h⟩:=H;obtain rfl:v=.slice a l.length cap:=by simpa using hv
 unfold maxLen at hm;by_cases hl:2000<l.length
 ·obtain⟨fp',h',_⟩:=Zcp (S:=Zdi) 2000 (by omega) ⟨a,cap,rfl,hc,hm,h⟩;have HO:=Qh (λv hv (h:(Zaa Zdi).R w [v] (l.take 2000) fp')=>Opened.of (v:=v) (a:=a) (cap:=cap) hv h (by simp;omega));go_enter Tryz.func29,Tryz.ntmps29;go_wp2;go_ret;exact HO.out _ (by rw[Qd,Nat.min_eq_left (by omega)]) h'
 ·have HO:=Qh (Opened.of (v:=.slice a l.length cap) rfl ⟨a,cap,rfl,hc,hm,h⟩ (by omega));go_enter Tryz.func29,Tryz.ntmps29;go_wp2;go_ret;exact HO.out
def idxTx (ps:List ByteArray)(x:ByteArray)(k:Nat):Int:=if h:k<ps.length then (if x=ps[k] then (k:Int) else idxTx ps x (k+1)) else -1
termination_by ps.length-k
variable {k:Nat}{ps:List ByteArray}{x:ByteArray}
theorem Zk0 (h:ps.length<=k):idxTx ps x k=-1:=by rw[idxTx,dif_neg (by omega)]
theorem Zk1 (h:k<ps.length)(h1:x=ps[k]):idxTx ps x k=k:=by rw[idxTx,dif_pos h,if_pos h1]
theorem Zjw (h:k<ps.length)(h1:x≠ps[k]):idxTx ps x k=idxTx ps x (k+1):=by rw[idxTx,dif_pos h,if_neg h1]
theorem idx_has (ps:List ByteArray)(x:ByteArray)(k:Nat):decide (0<=idxTx ps x k)=Zb8 (ps.drop k) x:=by
 induction k using idxTx.induct (ps:=ps) (x:=x) with
 |
  case1 k h hc =>
  rw[Zk1 h hc,Qj h];unfold Zb8;rw[List.any_cons,JR hc.symm,Bool.true_or,JR (by omega)]
 |
  case2 k h hc ih =>
  have hc':¬ps[k]=x:=λe=>hc e.symm;rw[Zjw h hc,ih,Qj h];unfold Zb8;rw[List.any_cons,JQ hc',Bool.false_or]
 | case3 k h=>rw[Zk0 (by omega),List.drop_eq_nil_iff.2 (by omega)];rfl
theorem idx_has0 (ps:List ByteArray)(x:ByteArray):decide (0<=idxTx ps x 0)=Zb8 ps x:=idx_has ps x 0
theorem Zik (v:Value)(l:List ByteArray)(fp:List Nat)(x:ByteArray)(w:World)(H:(Zaa sStr).R w [v] l fp):
  Calls Tryz.prog 116 #[v,.string x] w λe w'=>e=.returned (.int .i64 (idxTx l x 0))/\w'=w:=by
 obtain⟨a,cap,rfl,hc,hm,aJ,cC⟩:=Zaf H;unfold maxLen at hm;clear H;go_enter Tryz.func116,Tryz.ntmps116;go_wp2;go_loopw [8] (λi wr=>∃k:Nat,k<=l.length/\i=.int .i64 k/\Hid (idxTx l x 0=idxTx l x k)/\wr=w) (λi _=>l.length-(intOf i).toNat)
 case atStart=>exact⟨0,by omega,rfl,rfl,rfl⟩
 case round =>
  obtain⟨k,hk,rfl,HP,rfl⟩:=hrel;by_cases af:k<l.length
  ·obtain⟨b,off,rfl,bK,_,dA⟩:=aJ (by omega);have kF:=dA k af;clear aJ dA;by_cases e:x=l[k]
   ·have g:=Zca e;have HF:=Qh (Zk1 af e);clear e;go_wp2;go_ret;exact⟨ZbE (by rw[HP.out,HF.out]),by first | rfl | trivial⟩
   ·have g:(x.toList==l[k].toList)=false:=Zcb e;have HF:=Qh (Zjw af e);clear e;go_wp2;go_roundw;case rel=>exact⟨k+1,by omega,by go_num,by show _=_;rw[HP.out,HF.out],by first | rfl | trivial⟩
    case measure=>simp[intOf];omega
  ·have HF:=Qh (Zk0 (x:=x) (by omega:l.length<=k));go_wp2;go_ret;exact⟨ZbE (by rw[HP.out,HF.out]),by first | rfl | trivial⟩
theorem Zgj (v:Value)(l:List ByteArray)(fp:List Nat)(x:ByteArray)(w:World)(H:(Zaa sStr).R w [v] l fp):
  Calls Tryz.prog 87 #[v,.string x] w λe w'=>e=.returned (.bool (Zb8 l x))/\w'=w:=by
 have HC:=Qh (Zik v l fp x w H);have HF:=Qh (idx_has0 l x);clear H;go_enter Tryz.func87,Tryz.ntmps87;go_wp2_with (go_at_call 116;refine HC.out.mono ?_;rintro e w'⟨rfl,rfl⟩)
 go_ret;exact⟨Zad HF.out,by first | rfl | trivial⟩
theorem par_take (hk:k<ps.length):ZcP ps k=(Zap ps[k] 1 && !Zb8 (ps.take k) ps[k]):=by
 unfold ZcP;rw[dif_pos hk];congr 1
 cases h:Zb8 (ps.take k) ps[k]
 ·rw[Bool.not_false,Qk];intro j hj;have le:j<k:=by simpa using hj
  rw[QJ (by omega),Bool.not_eq_true',decide_eq_false_iff_not];intro e;have:Zb8 (ps.take k) ps[k]=true:=hasTx_iff.2 (by rw[←JL e];exact List.mem_take_iff_getElem.2 ⟨j,by omega,rfl⟩);rw[h]at this;exact absurd this (by simp)
 ·rw[Bool.not_true,List.all_eq_false];obtain⟨j,hj,he⟩:=List.mem_take_iff_getElem.1 (hasTx_iff.1 h);exact⟨j,by simp;omega,by rw[QJ (by omega),he];simp⟩
theorem Zoe (h:4<ps.length):ZdN ps=false:=by unfold ZdN;rw[JQ (by omega)];rfl
theorem ZlR (hk:k<ps.length)(h:ZcP ps k=false):ZdN ps=false:=by unfold ZdN;rw[Zfe hk h,JB]
theorem Zpw (hl:ps.length<=4)(h:ParUpto ps ps.length):ZdN ps=true:=by unfold ZdN;rw[ZdM h,JR hl];rfl
theorem Zjx (v:Value)(l:List ByteArray)(fp:List Nat)(w:World)(H:(Zaa sStr).R w [v] l fp):
  Calls Tryz.prog 81 #[v] w (Zbu (ZdN l) w):=by
 have H':=H;obtain⟨a,cap,rfl,hc,hm,aJ,cC⟩:=Zaf H;unfold maxLen at hm;clear H;by_cases hl:4<l.length
 ·have HF:=Qh (Zoe hl);go_enter Tryz.func81,Tryz.ntmps81;go_wp2;go_ret;exact⟨Zad HF.out.symm,QD _ _⟩
 go_enter Tryz.func81,Tryz.ntmps81;go_wp2;go_loopw [10] (λi wr=>∃k:Nat,k<=l.length/\i=.int .i64 k/\ParUpto l k/\Below w.heap.size w wr) (λi _=>l.length-(intOf i).toNat)
 case atStart=>exact⟨0,by omega,rfl,ParUpto.zero _,QD _ _⟩
 case round =>
  obtain⟨k,hk,rfl,az,hb⟩:=hrel;by_cases af:k<l.length
  ·obtain⟨b,off,rfl,bK,_,dA⟩:=aJ (by omega);have kF:=(hb.cell (p:=⟨b,off+k,none⟩) bK).trans (dA k af);have HC:=Qh (λW=>ZdE l[k] 1 W (cC k af));obtain⟨yy,HT,-⟩:=Zcp k hk H';have HD:=Qh (λW (hW:Below wr.heap.size wr W)=>Zgj _ _ _ l[k] W ((Zaa sStr).below ((Zaa sStr).below HT hb) hW));have sj:=par_take af;clear aJ dA HT H';cases h1:Zap l[k] 1
   ·rw[h1]at HC sj;have HF:=Qh (ZlR af (sj.trans rfl));clear h1 sj az HD;go_wp2_with (go_at_call 79;refine(HC.out _).mono ?_;rintro e w1⟨rfl,aG⟩)
    go_ret;exact⟨Zad HF.out.symm,hb.trans (aG.mono hb.size)⟩
   ·rw[h1]at HC sj;clear h1;go_wp2_with fail
    refine(HC.out _).mono ?_;rintro e w1⟨rfl,aG⟩;go_wp2_with fail
    refine(HD.out _ aG).mono ?_;rintro e w2⟨rfl,rfl⟩;have cc:=hb.trans (aG.mono hb.size);cases h2:Zb8 (l.take k) l[k]
    ·rw[h2]at sj;have HN:=Qh (az.succ (sj.trans rfl));clear h2 sj az kF HD HC aG;go_wp2;go_roundw;case rel=>exact⟨k+1,by omega,by go_num,HN.out,cc⟩
     case measure=>simp[intOf];omega
    ·rw[h2]at sj;have HF:=Qh (ZlR af (sj.trans rfl));clear h2 sj az kF HD HC aG;go_wp2;go_ret;exact⟨Zad HF.out.symm,cc⟩
  ·have HF:=Qh (Zpw (by omega) (λj hj=>az j (by omega)));clear az;go_wp2;go_ret;exact⟨Zad HF.out.symm,hb⟩
variable {b:List Tok}
theorem Zpx (h:20<b.length):Zbr b=false:=by unfold Zbr;rw[JQ (by omega)];rfl
theorem Zpy (h:Zam b=false):Zbr b=false:=by unfold Zbr;rw[h];simp
theorem Zgk (hk:k<b.length)(h:ZdL b k=false):Zbr b=false:=by unfold Zbr;rw[Zfe hk h,JB]
theorem Zqj (h1:b.length<=20)(h2:Zam b=true)(h3:BodUpto (ZdL b) b.length):Zbr b=true:=by unfold Zbr;rw[ZdM h3,JR h1,h2];rfl
theorem Zk2 (v:Value)(l:List Tok)(fp:List Nat)(w:World)(H:(Zaa sTok).R w [v] l fp):
  Calls Tryz.prog 80 #[v] w (Zbu (Zbr l) w):=by
 have HV:=Qh (ZbZ v l fp w H);obtain⟨a,cap,rfl,hc,hm,ai⟩:=Zac H;unfold maxLen at hm;clear H;by_cases hl:20<l.length
 ·have HF:=Qh (Zpx hl);go_enter Tryz.func80,Tryz.ntmps80;go_wp2;go_ret;exact⟨Zad HF.out.symm,QD _ _⟩
 cases hv:Zam l
 ·rw[hv]at HV;have HF:=Qh (Zpy hv);clear hv;go_enter Tryz.func80,Tryz.ntmps80;go_wp2_with (go_at_call 35;refine HV.out.mono ?_;rintro e w1⟨rfl,aG⟩)
  go_ret;exact⟨Zad HF.out.symm,aG⟩
 rw[hv]at HV;have HTV:=Qh hv;clear hv;go_enter Tryz.func80,Tryz.ntmps80;go_wp2_with (go_at_call 35;refine HV.out.mono ?_;rintro e w1⟨rfl,aG⟩)
 go_loopw [15] (λi wr=>∃k:Nat,k<=l.length/\i=.int .i64 k/\BodUpto (ZdL l) k/\Below w.heap.size w wr) (λi _=>l.length-(intOf i).toNat)
 case atStart=>exact⟨0,by omega,rfl,BodUpto.zero _,aG⟩
 case round =>
  clear aG;obtain⟨k,hk,rfl,az,hb⟩:=hrel;by_cases af:k<l.length
  ·obtain⟨b1,ae,dt,rfl,du,-,bj⟩:=ai (by omega);obtain⟨lA,bf,bR⟩:=bj k af;obtain⟨hh,rfl,-,-,K1⟩:=bR;obtain⟨ah,bV,rfl,-⟩:=Zac K1;replace bf:=bf.frame (hb.block b1 du);have dg:wr.cell? ⟨b1,ae+k*4,none⟩=some _:=ZaB bf (by decide) rfl;have dL:wr.cell? ⟨b1,ae+k*4+1,none⟩=some _:=Zae (j:=1) bf (by decide) rfl;have dh:wr.cell? ⟨b1,ae+k*4+2,none⟩=some _:=Zae (j:=2) bf (by decide) rfl;have ew:wr.cell? ⟨b1,ae+k*4+3,none⟩=some _:=Zae (j:=3) bf (by decide) rfl;have bW:Below wr.heap.size wr (wr.alloc (.cells #[.int .i64 l[k].kind,.string l[k].text,.bool l[k].spaced,.slice ah l[k].hidden.length bV] 32)):=Zab _ _;have HT:=Qh (JS wr (.cells #[.int .i64 l[k].kind,.string l[k].text,.bool l[k].spaced,.slice ah l[k].hidden.length bV] 32));have cc:=hb.trans (bW.mono hb.size);clear K1 bf;have iN:((k:Int)==0)=decide (k=0):=(by rw[Bool.eq_iff_iff];simp);have mB:((k:Int)==(l.length:Int)-1)=decide (k+1=l.length):=(by rw[Bool.eq_iff_iff];simp;omega);rcases Zii af with⟨e1,HI⟩ | ⟨e1,e2,e3,HI⟩ | ⟨e1,e2,e3,e4,HI⟩ | ⟨e1,e2,e3,e4,HI⟩ | ⟨e1,e2,e4,e5,HI⟩ | ⟨e1,e2,e4,e5,e6,HI⟩ | ⟨e1,e2,e4,e5,e6,HI⟩ | ⟨e1,e2,e4,HI⟩
   ·have HF:=Qh (Zgk af HI.out);have f0:(0:Int)<(l[k].hidden.length:Int):=(by omega);have iO:0<l[k].hidden.length:=(by omega);have f02:decide ((0:Int)<(l[k].hidden.length:Int))=true:=JR f0;clear e1;clear az;go_wp2;go_ret;exact⟨Zad HF.out.symm,hb.trans ((Zab wr _).mono hb.size)⟩
   ·have HF:=Qh (Zgk af HI.out);have f0:¬(0:Int)<(l[k].hidden.length:Int):=(by omega);have iO:¬0<l[k].hidden.length:=(by omega);rw[JR e2]at iN;rw[e3]at dh;clear e1 e2 e3;clear az;go_wp2;go_ret;exact⟨Zad HF.out.symm,hb.trans ((Zab wr _).mono hb.size)⟩
   ·have HF:=Qh (Zgk af HI.out);have f0:¬(0:Int)<(l[k].hidden.length:Int):=(by omega);have iO:¬0<l[k].hidden.length:=(by omega);rw[JR e2]at iN;rw[e3]at dh;have f4:=ZbH (l:=[35,35]) e4;clear e4;clear e1 e2 e3;clear az;go_wp2;go_ret;exact⟨Zad HF.out.symm,hb.trans ((Zab wr _).mono hb.size)⟩
   ·have HN:=Qh (az.succ HI.out);have f0:¬(0:Int)<(l[k].hidden.length:Int):=(by omega);have iO:¬0<l[k].hidden.length:=(by omega);rw[JR e2]at iN;rw[e3]at dh;have f4:=ZbI (l:=[35,35]) e4;clear e4;clear e1 e2 e3;clear az;go_wp2;go_roundw;case rel=>first | exact⟨k+1,by omega,by go_num,HN.out,hb.trans ((Zab wr _).mono hb.size)⟩ | ((repeat apply Exists.intro);exact⟨⟨k+1,by omega,by go_num,HN.out,hb.trans ((Zab wr _).mono hb.size)⟩,rfl⟩)
    case measure=>simp[intOf];omega
   ·have HF:=Qh (Zgk af HI.out);have f0:¬(0:Int)<(l[k].hidden.length:Int):=(by omega);have iO:¬0<l[k].hidden.length:=(by omega);rw[JQ e2]at iN;have f4:=ZbH (l:=[35,35]) e4;clear e4;rw[JR e5]at mB;clear e1 e2 e5;clear az;go_wp2;go_ret;exact⟨Zad HF.out.symm,hb.trans ((Zab wr _).mono hb.size)⟩
   ·have HF:=Qh (Zgk af HI.out);have f0:¬(0:Int)<(l[k].hidden.length:Int):=(by omega);have iO:¬0<l[k].hidden.length:=(by omega);rw[JQ e2]at iN;have f4:=ZbH (l:=[35,35]) e4;clear e4;rw[JQ e5]at mB;obtain⟨up,cQ,bN⟩:=bj (k-1) (by omega);obtain⟨h9,rfl,-,-,-⟩:=bN;replace cQ:=cQ.frame (cc.block b1 du);have uq:(wr.alloc (.cells #[.int .i64 l[k].kind,.string l[k].text,.bool l[k].spaced,.slice ah l[k].hidden.length bV] 32)).cell? ⟨b1,ae+(k-1)*4+1,none⟩=some _:=Zae (j:=1) cQ (by decide) rfl;have h6:((k:Int)-1).toNat=k-1:=(by omega);have sZ:IntKind.i64.wrap ((k:Int)-1)=(k:Int)-1:=QF _ (by omega);have jJ:(0:Int)<=(k:Int)-1:=(by omega);have kc:(k:Int)-1<(l.length:Int):=(by omega);clear cQ;have f6:=ZbH (l:=[35,35]) e6;clear e1 e2 e5 e6;clear az;go_wp2;go_ret;exact⟨Zad HF.out.symm,hb.trans ((Zab wr _).mono hb.size)⟩
   ·have HN:=Qh (az.succ HI.out);have f0:¬(0:Int)<(l[k].hidden.length:Int):=(by omega);have iO:¬0<l[k].hidden.length:=(by omega);rw[JQ e2]at iN;have f4:=ZbH (l:=[35,35]) e4;clear e4;rw[JQ e5]at mB;obtain⟨up,cQ,bN⟩:=bj (k-1) (by omega);obtain⟨h9,rfl,-,-,-⟩:=bN;replace cQ:=cQ.frame (cc.block b1 du);have uq:(wr.alloc (.cells #[.int .i64 l[k].kind,.string l[k].text,.bool l[k].spaced,.slice ah l[k].hidden.length bV] 32)).cell? ⟨b1,ae+(k-1)*4+1,none⟩=some _:=Zae (j:=1) cQ (by decide) rfl;have h6:((k:Int)-1).toNat=k-1:=(by omega);have sZ:IntKind.i64.wrap ((k:Int)-1)=(k:Int)-1:=QF _ (by omega);have jJ:(0:Int)<=(k:Int)-1:=(by omega);have kc:(k:Int)-1<(l.length:Int):=(by omega);clear cQ;have f6:=ZbI (l:=[35,35]) e6;clear e1 e2 e5 e6;clear az;go_wp2;go_roundw;case rel=>first | exact⟨k+1,by omega,by go_num,HN.out,hb.trans ((Zab wr _).mono hb.size)⟩ | ((repeat apply Exists.intro);exact⟨⟨k+1,by omega,by go_num,HN.out,hb.trans ((Zab wr _).mono hb.size)⟩,rfl⟩)
    case measure=>simp[intOf];omega
   ·have HN:=Qh (az.succ HI.out);have f0:¬(0:Int)<(l[k].hidden.length:Int):=(by omega);have iO:¬0<l[k].hidden.length:=(by omega);rw[JQ e2]at iN;have f4:=ZbI (l:=[35,35]) e4;clear e4;clear e1 e2;clear az;go_wp2;go_roundw;case rel=>first | exact⟨k+1,by omega,by go_num,HN.out,hb.trans ((Zab wr _).mono hb.size)⟩ | ((repeat apply Exists.intro);exact⟨⟨k+1,by omega,by go_num,HN.out,hb.trans ((Zab wr _).mono hb.size)⟩,rfl⟩)
    case measure=>simp[intOf];omega
  ·have HF:=Qh (Zqj (by omega) HTV.out (λj hj=>az j (by omega)));clear az;go_wp2;go_ret;exact⟨Zad HF.out.symm,hb⟩
variable {m:DMacro}
theorem Zof (hk:k<m.body.length)(h:m.body[k].text≠ZdF):Zd5 m k=true:=by unfold Zd5;rw[dif_pos hk,JQ h];rfl
theorem Zpz (hk:k<m.body.length)(h:m.body[k].text=ZdF)(hl:k+1=m.body.length):Zd5 m k=false:=by unfold Zd5;rw[dif_pos hk,JR h,dif_neg (by omega)];rfl
theorem signI_in (hk:k+1<m.body.length)(h:(m.body[k]'(by omega)).text=ZdF):Zd5 m k=Zb8 m.params m.body[k+1].text:=by unfold Zd5;rw[dif_pos (by omega),JR h,dif_pos hk];simp
theorem ZmT (hk:k<m.body.length)(h:Zd5 m k=false):Zf2 m=false:=Zfe hk h
theorem Zqk (h:BodUpto (Zd5 m) m.body.length):Zf2 m=true:=ZdM h
theorem Zh4 (m:DMacro)(h2 h3:Value)(bv dI:List Nat)(w:World)(K2:(Zaa sStr).R w [h2] m.params bv)(K3:(Zaa sTok).R w [h3] m.body dI)(hl:m.body.length<=1000):
  Calls Tryz.prog 82 #[.agg #[.string m.name,.bool m.function,h2,h3]] w (Zbu (Zf2 m) w):=by
 obtain⟨a2,fK,rfl,-⟩:=Zaf K2;obtain⟨a3,gi,rfl,wj,jK,ai⟩:=Zac K3;unfold maxLen at jK;clear K3;have bD:=Zab w (.cells #[.string m.name,.bool m.function,.slice a2 m.params.length fK,.slice a3 m.body.length gi] 56);have HX:=Qh (JS w (.cells #[.string m.name,.bool m.function,.slice a2 m.params.length fK,.slice a3 m.body.length gi] 56));go_enter Tryz.func82,Tryz.ntmps82;go_wp2;generalize (w.alloc (.cells #[.string m.name,.bool m.function,.slice a2 m.params.length fK,.slice a3 m.body.length gi] 56))=W1 at *;go_loopw [8] (λi wr=>∃k:Nat,k<=m.body.length/\i=.int .i64 k/\BodUpto (Zd5 m) k/\Below W1.heap.size W1 wr) (λi _=>m.body.length-(intOf i).toNat)
 case atStart=>exact⟨0,by omega,rfl,BodUpto.zero _,QD _ _⟩
 case round =>
  obtain⟨k,hk,rfl,az,hb⟩:=hrel;have aD:=bD.trans (hb.mono bD.size);by_cases af:k<m.body.length
  ·obtain⟨b1,ae,dt,rfl,du,-,bj⟩:=ai (by omega);obtain⟨lA,bf,bR⟩:=bj k af;obtain⟨hh,rfl,-,-,K1⟩:=bR;obtain⟨ah,bV,rfl,-⟩:=Zac K1;replace bf:=bf.frame (aD.block b1 du);have dg:wr.cell? ⟨b1,ae+k*4,none⟩=some _:=ZaB bf (by decide) rfl;have dL:wr.cell? ⟨b1,ae+k*4+1,none⟩=some _:=Zae (j:=1) bf (by decide) rfl;have dh:wr.cell? ⟨b1,ae+k*4+2,none⟩=some _:=Zae (j:=2) bf (by decide) rfl;have ew:wr.cell? ⟨b1,ae+k*4+3,none⟩=some _:=Zae (j:=3) bf (by decide) rfl;have bW:Below wr.heap.size wr (wr.alloc (.cells #[.int .i64 m.body[k].kind,.string m.body[k].text,.bool m.body[k].spaced,.slice ah m.body[k].hidden.length bV] 32)):=Zab _ _;have HT:=Qh (JS wr (.cells #[.int .i64 m.body[k].kind,.string m.body[k].text,.bool m.body[k].spaced,.slice ah m.body[k].hidden.length bV] 32));have cc:=hb.trans (bW.mono hb.size);have bX:=aD.trans (bW.mono aD.size);have cJ:=Qh ((cc.block _ (Qg HX.out).1).trans HX.out);have HC:=Qh (λx W (hW:Below (wr.alloc (.cells #[.int .i64 m.body[k].kind,.string m.body[k].text,.bool m.body[k].spaced,.slice ah m.body[k].hidden.length bV] 32)).heap.size (wr.alloc (.cells #[.int .i64 m.body[k].kind,.string m.body[k].text,.bool m.body[k].spaced,.slice ah m.body[k].hidden.length bV] 32)) W)=>Zgj _ _ _ x W ((Zaa sStr).below ((Zaa sStr).below K2 bX) hW));clear K1 bf bW;by_cases e7:m.body[k].text=ZdF
   ·have f7:=ZbH (l:=[35]) e7;have E7:=Qh e7;clear e7;go_wp2;generalize wr.alloc (.cells #[.int .i64 m.body[k].kind,.string m.body[k].text,.bool m.body[k].spaced,.slice ah m.body[k].hidden.length bV] 32)=W2 at *;have p1:=Qc 1 HT.out;clear dg dL dh ew;have q2:=Qc 2 cJ.out;have q3:=Qc 3 cJ.out;have mB:((k:Int)==(m.body.length:Int)-1)=decide (k+1=m.body.length):=(by rw[Bool.eq_iff_iff];simp;omega);have hwm:IntKind.i64.wrap ((m.body.length:Int)-1)=(m.body.length:Int)-1:=QF _ (by omega);by_cases e8:k+1=m.body.length
    ·have HF:=Qh (ZmT af (Zpz af E7.out e8));rw[JR e8]at mB;clear e8 az
     go_quiet (fail)
     go_wp2;go_ret;exact⟨Zad HF.out.symm,Zah bX _⟩
    ·have bG:k+1<m.body.length:=(by omega);obtain⟨es3,fy,gj⟩:=bj (k+1) bG;obtain⟨h9,rfl,-,-,-⟩:=gj;replace fy:=fy.frame (bX.block b1 du);have c31:W2.cell? ⟨b1,ae+(k+1)*4+1,none⟩=some _:=Zae (j:=1) fy (by decide) rfl;have h6:((k:Int)+1).toNat=k+1:=(by omega);have sZ:IntKind.i64.wrap ((k:Int)+1)=(k:Int)+1:=QF _ (by omega);have jJ:(0:Int)<=(k:Int)+1:=(by omega);have kc:(k:Int)+1<(m.body.length:Int):=(by omega);have hs:=signI_in bG E7.out;rw[JQ e8]at mB;clear fy e8 bj ai
     go_still_tail 16,(by kernel_rfl)
     change wpList _ _ _ _ _ W2.drew;have hd:Below W2.heap.size W2 W2.drew:=Zah (QD _ _) 1;generalize W2.drew=w3 at *;have eF:=bX.trans (hd.mono bX.size);have zD:=cc.trans (hd.mono cc.size);cases e9:Zb8 m.params m.body[k+1].text
     ·rw[e9]at hs;have HF:=Qh (ZmT af hs);clear az hs;go_wp2_with (go_at_call 87;refine(HC.out _ _ hd).mono ?_;rintro e w4⟨rfl,rfl⟩;rw[e9];clear e9)
      go_ret;exact⟨Zad HF.out.symm,eF⟩
     ·rw[e9]at hs;have HN:=Qh (az.succ hs);clear az hs;go_wp2_with (go_at_call 87;refine(HC.out _ _ hd).mono ?_;rintro e w4⟨rfl,rfl⟩;rw[e9];clear e9)
      go_roundw;case rel=>first | exact⟨k+1,by omega,by go_num,HN.out,zD⟩ | ((repeat apply Exists.intro);exact⟨⟨k+1,by omega,by go_num,HN.out,zD⟩,rfl⟩)
      case measure=>simp[intOf];omega
   ·have f7:=ZbI (l:=[35]) e7;have HN:=Qh (az.succ (Zof af e7));clear e7 az;go_wp2;go_roundw;case rel=>first | exact⟨k+1,by omega,by go_num,HN.out,cc⟩ | ((repeat apply Exists.intro);exact⟨⟨k+1,by omega,by go_num,HN.out,cc⟩,rfl⟩)
    case measure=>simp[intOf];omega
  ·have HF:=Qh (Zqk (λj hj=>az j (by omega)));clear az;go_wp2;go_ret;exact⟨Zad HF.out.symm,aD⟩
theorem ZdG (cs:List Value)(m:DMacro)(fp:List Nat)(w:World)(H:sMacro.R w cs m fp):Calls Tryz.prog 67 #[.agg cs.toArray] w (Zbu (Zaq m) w):=by
 obtain⟨h2,h3,bv,dI,rfl,k0,K2,K3,rfl⟩:=H;cases hf:m.function
 ·have:=Zij m h2 h3 bv dI w k0 K2 K3 hf;rw[hf]at this;exact this
 ·have:=Zh3 m h2 h3 bv dI w k0 K2 K3 hf;rw[hf]at this;exact this
theorem mi_name (h:Zap m.name 1=false):Zaq m=false:=by rw[Zhs,h];rfl
theorem mi_def (h:m.name=ZbD):Zaq m=false:=by rw[Zhs,JR h];simp
theorem mi_no (h1:Zap m.name 1=true)(h2:m.name≠ZbD)(hf:m.function=false):Zaq m=(decide (m.params.length=0) && Zbr m.body):=by rw[Zhs,h1,JQ h2,hf];rfl
theorem mi_yes (h1:Zap m.name 1=true)(h2:m.name≠ZbD)(hf:m.function=true):Zaq m=(ZdN m.params && Zbr m.body && Zf2 m):=by rw[Zhs,h1,JQ h2,hf];rfl
theorem mi_big (h:Zbr m.body=true):m.body.length<=20:=by unfold Zbr at h;rw[QI,QI]at h;simpa using h.1.1
theorem ZeS (cs:List Value)(m:DMacro)(fp:List Nat)(w:World)(H:sMacro.R w cs m fp):Calls Tryz.prog 58 #[.agg cs.toArray] w (Zbu (Zaq m) w):=by
 obtain⟨h2,h3,bv,dI,rfl,k0,K2,K3,rfl⟩:=H;obtain⟨a2,fK,rfl,-⟩:=Zaf K2;obtain⟨a3,gi,rfl,-⟩:=Zac K3;have HN:=Qh (λW=>ZdE m.name 1 W k0);have HP:=Qh (λW (hW:Below w.heap.size w W)=>Zjx _ _ _ W ((Zaa sStr).below K2 hW));have HB:=Qh (λW (hW:Below w.heap.size w W)=>Zk2 _ _ _ W ((Zaa sTok).below K3 hW));have HS:=Qh (λW (hl:m.body.length<=1000) (hW:Below w.heap.size w W)=>Zh4 m _ _ _ _ W ((Zaa sStr).below K2 hW) ((Zaa sTok).below K3 hW) hl);have bD:=Zab w (.cells #[.string m.name,.bool m.function,.slice a2 m.params.length fK,.slice a3 m.body.length gi] 56);have HX:=Qh (JS w (.cells #[.string m.name,.bool m.function,.slice a2 m.params.length fK,.slice a3 m.body.length gi] 56));clear K2 K3;cases h1:Zap m.name 1
 ·rw[h1]at HN;have HF:=Qh (mi_name h1);clear h1;go_enter Tryz.func58,Tryz.ntmps58;go_wp2_with (go_at_call 79;refine(HN.out _).mono ?_;rintro e w1⟨rfl,aG⟩)
  go_ret;exact⟨Zad HF.out.symm,bD.trans (aG.mono bD.size)⟩
 rw[h1]at HN;go_enter Tryz.func58,Tryz.ntmps58;go_wp2_with fail
 refine(HN.out _).mono ?_;rintro e w1⟨rfl,aG⟩;have cq:=bD.trans (aG.mono bD.size);replace HX:=Qh ((aG.block _ (Qg HX.out).1).trans HX.out);have q0:=Qc 0 HX.out;by_cases hd:m.name=ZbD
 ·have e2:=ZbH (l:=[100,101,102,105,110,101,100]) hd;have HF:=Qh (mi_def hd);clear h1 hd;go_wp2;go_ret;exact⟨Zad HF.out.symm,cq⟩
 have e2:=ZbI (l:=[100,101,102,105,110,101,100]) hd;have q1:=Qc 1 HX.out;have q2:=Qc 2 HX.out;have q3:=Qc 3 HX.out;cases hf:m.function
 ·have HM:=Qh (mi_no h1 hd hf);rw[hf]at q1;clear h1 hd hf;by_cases hz:m.params.length=0
  ·have dQ:((m.params.length:Int)==0)=true:=(by rw[hz];rfl);rw[JR hz,Bool.true_and]at HM;clear hz;go_wp2_with fail
   refine(HB.out _ cq).mono ?_;rintro e w2⟨rfl,aF⟩;go_wp2;go_ret;exact⟨Zad HM.out.symm,cq.trans (aF.mono cq.size)⟩
  ·have dQ:((m.params.length:Int)==0)=false:=(by simp;intro h;exact hz (by simp[h]));rw[JQ hz,Bool.false_and]at HM;clear hz;go_wp2;go_ret;exact⟨Zad HM.out.symm,cq⟩
 ·have HM:=Qh (mi_yes h1 hd hf);have HF:=Qh hf;rw[hf]at q1;clear h1 hd hf;go_wp2_with fail
  refine(HP.out _ cq).mono ?_;rintro e w2⟨rfl,aF⟩;have aY:=cq.trans (aF.mono cq.size);cases hp:ZdN m.params
  ·rw[hp,Bool.false_and,Bool.false_and]at HM;clear hp q0 q1 q2 q3;go_wp2;go_ret;exact⟨Zad HM.out.symm,aY⟩
  ·rw[hp,Bool.true_and]at HM;replace HX:=Qh ((aF.block _ (Qg HX.out).1).trans HX.out);clear hp q0 q1 q2 q3;have q3:=Qc 3 HX.out;go_wp2_with fail
   refine(HB.out _ aY).mono ?_;rintro e w3⟨rfl,aC⟩;have aQ:=aY.trans (aC.mono aY.size);cases hb:Zbr m.body
   ·rw[hb,Bool.false_and]at HM;clear hb q3;go_wp2;go_ret;exact⟨Zad HM.out.symm,aQ⟩
   ·have hl:=mi_big hb;rw[hb,Bool.true_and]at HM;replace HX:=Qh ((aC.block _ (Qg HX.out).1).trans HX.out);clear hb q3;have q0:=Qc 0 HX.out;have q1:=Qc 1 HX.out;have q2:=Qc 2 HX.out;have q3:=Qc 3 HX.out;have HS':=Qh (λW hW=>HS.out W (by omega) hW);clear hl;go_wp2_with fail
    refine(HS'.out _ aQ).mono ?_;rintro e w4⟨rfl,aM⟩;go_wp2;go_ret;exact⟨Zad HM.out.symm,aQ.trans (aM.mono aQ.size)⟩
section
variable {P:Program}{ops:Array Oper}{Q:Exit->Act->World->Prop}{md:Region.Mode}{S:World->Prop}
theorem takeH (i d:Nat){oi:Oper}{v:Value}{cS:Nat}{cO:Array Bool}{a:Act}{w:World}(hi:ops[i]?=some oi)(hd:oi.dst=some d)
  (hs:Region.noSelect ops=true) (hf:Region.free md ops cO i=true) (hr:(Region.ready md ops cO).contains i=true)
  (hQ:∀c a w,Q (.panic c) (a.put (some d) v) w->Q (.panic c) a w) (hw:Region.wanted oi (yielded ops a.tmps)=true) (hS:S w)
  (hy:∀w,S w->(execOp a.eval oi).run P w=.ok (.value v) w)
  (h:wpAnyH P md ops Q S cS (cO.setIfInBounds i true) (a.put (some d) v) w):wpAnyH P md ops Q S (cS+1) cO a w:=
 wpAnyH_take hi hs hf hr (by rw[hd];exact hQ) (.inl ⟨hw,hy⟩) hS (by rw[hd];exact h)
theorem skipH (i d:Nat){oi:Oper}{cS:Nat}{cO:Array Bool}{a:Act}{w:World}(hi:ops[i]?=some oi)(hd:oi.dst=some d)
  (hs:Region.noSelect ops=true) (hf:Region.free md ops cO i=true) (hr:(Region.ready md ops cO).contains i=true)
  (hQ:∀c a w,Q (.panic c) (a.put (some d) undef) w->Q (.panic c) a w) (hw:Region.wanted oi (yielded ops a.tmps)=false) (hS:S w)
  (h:wpAnyH P md ops Q S cS (cO.setIfInBounds i true) (a.put (some d) undef) w):wpAnyH P md ops Q S (cS+1) cO a w:=
 wpAnyH_take hi hs hf hr (by rw[hd];exact hQ) (.inr ⟨hw,rfl⟩) hS (by rw[hd];exact h)
end
def Zc5 (l:List DMacro)(k:Nat):Bool:=if h:k<l.length then Zaq l[k] && (decide (k=0) || ZaF (l[k-1]'(by omega)).name l[k].name) else true
def ZaU (l:List DMacro):Bool:=decide (l.length<=10) && (List.range l.length).all (Zc5 l)
def TabUpto (l:List DMacro)(k:Nat):Prop:=∀j,j<k->Zc5 l j=true
theorem TabUpto.zero (l:List DMacro):TabUpto l 0:=λj h=>absurd h (by omega)
variable {l:List DMacro}{k:Nat}
theorem TabUpto.succ (h:TabUpto l k)(hk:Zc5 l k=true):TabUpto l (k+1):=λj hj=>by
 by_cases e:j=k
 ·subst e;exact hk
 ·exact h j (by omega)
theorem ZpA (h:10<l.length):ZaU l=false:=by unfold ZaU;rw[JQ (by omega)];rfl
theorem Zhu (hk:k<l.length)(h:Zc5 l k=false):ZaU l=false:=by
 unfold ZaU;rw[Bool.and_eq_false_iff];exact .inr (List.all_eq_false.2 ⟨k,List.mem_range.2 hk,by simp[h]⟩)
theorem Zql (h:TabUpto l l.length)(hl:l.length<=10):ZaU l=true:=by
 unfold ZaU;rw[JR hl,Bool.true_and,Qk];exact λk hk=>h k (List.mem_range.1 hk)
theorem ZpB (h:TabUpto l l.length):ZaU l=decide (l.length<=10):=by
 unfold ZaU;rw[show(List.range l.length).all (Zc5 l)=true from Qk.2 λk hk=>h k (List.mem_range.1 hk),Bool.and_true]
theorem Zgl (h:ZaU l=true):l.length<=10/\∀k,k<l.length->Zc5 l k=true:=by
 unfold ZaU at h;rw[QI,JT,Qk]at h;exact⟨h.1,λk hk=>h.2 k (List.mem_range.2 hk)⟩
theorem ZlS (hk:k<l.length)(h:Zaq l[k]=false):Zc5 l k=false:=by unfold Zc5;rw[dif_pos hk,h];rfl
theorem Zje (hk:0<l.length)(h:Zaq l[0]=true):Zc5 l 0=true:=by unfold Zc5;rw[dif_pos hk,h];rfl
theorem Zkh (hk:k<l.length)(h0:0<k)(h:ZaF (l[k-1]'(by omega)).name l[k].name=false):Zc5 l k=false:=by
 unfold Zc5;rw[dif_pos hk,h,JQ (by omega),Bool.or_false,JB]
theorem Zjf (hk:k<l.length)(h:Zaq l[k]=true)(h2:ZaF (l[k-1]'(by omega)).name l[k].name=true):Zc5 l k=true:=by
 unfold Zc5;rw[dif_pos hk,h,h2,Bool.or_true];rfl
theorem ZgE (v:Value)(l:List DMacro)(fp:List Nat)(w:World)(H:(Zaa sMacro).R w [v] l fp):
  Calls Tryz.prog 34 #[v] w (Zbu (ZaU l) w):=by
 obtain⟨a,cap,rfl,hc,hm,ai⟩:=Zac H;unfold maxLen at hm;clear H;by_cases hl:10<l.length
 ·have HF:=Qh (ZpA hl);have un:(10:Int)<(l.length:Int):=by omega
  go_enter Tryz.func34,Tryz.ntmps34;go_wp2;go_ret;exact⟨Zad HF.out.symm,QD _ _⟩
 ·have un:¬(10:Int)<(l.length:Int):=by omega
  go_enter Tryz.func34,Tryz.ntmps34;go_wp2;go_loopw [10] (λi wr=>∃k:Nat,k<=l.length/\i=.int .i64 k/\Hid (TabUpto l k)/\Below w.heap.size w wr) (λi _=>l.length-(intOf i).toNat)
  case atStart=>exact⟨0,by omega,rfl,TabUpto.zero _,QD _ _⟩
  case round =>
   obtain⟨k,hk,rfl,az,hb⟩:=hrel;by_cases af:k<l.length
   ·obtain⟨b1,ae,dt,rfl,aG,-,bj⟩:=ai (by omega);obtain⟨es,hE,hR⟩:=bj k af;have zE:=hR;obtain⟨h2,h3,p2,p3,rfl,-,K2,K3,-⟩:=hR;obtain⟨a2,kH,rfl,-⟩:=Zaf K2;obtain⟨a3,kI,rfl,-⟩:=Zac K3;clear K2 K3;replace hE:=hE.frame (hb.block b1 aG);have eU:b1<wr.heap.size:=QW aG hb.size;have dg:wr.cell? ⟨b1,ae+k*4,none⟩=some _:=ZaB hE (by decide) rfl;have dL:wr.cell? ⟨b1,ae+k*4+1,none⟩=some _:=Zae (j:=1) hE (by decide) rfl;have dh:wr.cell? ⟨b1,ae+k*4+2,none⟩=some _:=Zae (j:=2) hE (by decide) rfl;have ew:wr.cell? ⟨b1,ae+k*4+3,none⟩=some _:=Zae (j:=3) hE (by decide) rfl;have bZ:=Zab wr (.cells #[.string l[k].name,.bool l[k].function,.slice a2 l[k].params.length kH,.slice a3 l[k].body.length kI] 56);have HX:=Qh (JS wr (.cells #[.string l[k].name,.bool l[k].function,.slice a2 l[k].params.length kH,.slice a3 l[k].body.length kI] 56));have HC:=Qh (ZeS _ l[k] _ (wr.alloc (.cells #[.string l[k].name,.bool l[k].function,.slice a2 l[k].params.length kH,.slice a3 l[k].body.length kI] 56)) (sMacro.below (sMacro.below zE hb) bZ));have aD:=hb.trans (bZ.mono hb.size);have cC:(wr.alloc (.cells #[.string l[k].name,.bool l[k].function,.slice a2 l[k].params.length kH,.slice a3 l[k].body.length kI] 56)).heap.size=wr.heap.size+1:=QR _;have HS:=Qh cC;clear zE hE cC;cases hv:Zaq l[k]
    ·rw[hv]at HC;have HF:=Qh (Zhu af (ZlS af hv));clear hv az bj ai bZ;go_wp2_with (go_at_call 58;refine HC.out.mono ?_;rintro e w1⟨rfl,aF⟩)
     go_ret;exact⟨Zad HF.out.symm,aD.trans (aF.mono aD.size)⟩
    rw[hv]at HC;by_cases h0:k=0
    ·have gM:decide ((0:Int)<(k:Int))=false:=(by simp;omega);have HN:Hid (TabUpto l (k+1)):=by
      show TabUpto l (k+1);subst h0;exact az.out.succ (Zje af hv)
     have yw:¬(0:Int)<(k:Int):=(by omega);have yx:decide (0<k)=false:=(by simp;omega);clear h0 hv az bj ai bZ;go_wp2_with (go_at_call 58;refine HC.out.mono ?_;rintro e w1⟨rfl,aF⟩;have bW:=aD.trans (aF.mono aD.size))
     go_quiet (fail)
     go_wp2;go_roundw;case rel=>exact⟨k+1,by omega,by go_num,HN,Zah bW _⟩
     case measure=>simp[intOf];omega
    ·obtain⟨esp,td,hRp⟩:=bj (k-1) (by omega);obtain⟨g2,g3,r2,r3,rfl,-,-,-,-⟩:=hRp;replace td:=td.frame (hb.block b1 aG);have us:wr.cell? ⟨b1,ae+(k-1)*4,none⟩=some (.string (l[k-1]'(by omega)).name):=ZaB td (by decide) rfl;have h6:((k:Int)-1).toNat=k-1:=(by omega);have hwm:IntKind.i64.wrap ((k:Int)-1)=(k:Int)-1:=QF _ (by omega);have gM:(0:Int)<(k:Int):=(by omega);have zz:decide ((0:Int)<(k:Int))=true:=(by simpa using gM);have h0n:decide (0<k)=true:=(by simp;omega);have jJ:(0:Int)<=(k:Int)-1:=(by omega);have kc:(k:Int)-1<(l.length:Int):=(by omega);have hi3:(1:Int)<=(k:Int):=(by omega);clear td;have qc:(wr.alloc (.cells #[.string l[k].name,.bool l[k].function,.slice a2 l[k].params.length kH,.slice a3 l[k].body.length kI] 56)).cell? ⟨b1,ae+(k-1)*4,none⟩=some (.string (l[k-1]'(by omega)).name):=(bZ.cell (p:=⟨b1,ae+(k-1)*4,none⟩) eU).trans us;have zF:b1<(wr.alloc (.cells #[.string l[k].name,.bool l[k].function,.slice a2 l[k].params.length kH,.slice a3 l[k].body.length kI] 56)).heap.size:=(by rw[HS.out];omega);have sk:wr.heap.size<(wr.alloc (.cells #[.string l[k].name,.bool l[k].function,.slice a2 l[k].params.length kH,.slice a3 l[k].body.length kI] 56)).heap.size:=(by rw[HS.out];omega);cases hs:ZaF (l[k-1]'(by omega)).name l[k].name
     ·have HF:=Qh (Zhu af (Zkh af (by omega) hs));have h2':Op.bytesLess (l[k-1]'(by omega)).name.toList l[k].name.toList=false:=hs;clear h0 hv hs az bj ai bZ us;go_wp2_with (go_at_call 58;refine HC.out.mono ?_;rintro e w1⟨rfl,aF⟩;have bW:=aD.trans (aF.mono aD.size);have hq:=(aF.cell (p:=⟨b1,ae+(k-1)*4,none⟩) zF).trans qc;have hp0:=Qc 0 ((aF.block _ sk).trans HX.out))
      go_quiet (fail)
      go_wp2;go_ret;exact⟨Zad HF.out.symm,Zah bW _⟩
     ·have HN:Hid (TabUpto l (k+1)):=az.out.succ (Zjf af hv hs);have h2':Op.bytesLess (l[k-1]'(by omega)).name.toList l[k].name.toList=true:=hs;clear h0 hv hs az bj ai bZ us;go_wp2_with (go_at_call 58;refine HC.out.mono ?_;rintro e w1⟨rfl,aF⟩;have bW:=aD.trans (aF.mono aD.size);have hq:=(aF.cell (p:=⟨b1,ae+(k-1)*4,none⟩) zF).trans qc;have hp0:=Qc 0 ((aF.block _ sk).trans HX.out))
      go_quiet (fail)
      go_wp2;go_roundw;case rel=>exact⟨k+1,by omega,by go_num,HN,Zah bW _⟩
      case measure=>simp[intOf];omega
   ·have HF:=Qh (Zql (l:=l) (by
                         have:k=l.length:=by omega
                         subst this;exact az.out) (by omega))
    go_wp2;go_ret;exact⟨Zad HF.out.symm,hb⟩
theorem ZeT (v:Value)(l:List DMacro)(fp:List Nat)(w:World)(H:(Zaa sMacro).R w [v] l fp):
  Calls Tryz.prog 43 #[v] w (Zbu (ZaU l) w):=by
 obtain⟨a,cap,rfl,hc,hm,ai⟩:=Zac H;unfold maxLen at hm;clear H;go_enter Tryz.func43,Tryz.ntmps43;go_wp2;go_loopw [3] (λi wr=>∃k:Nat,k<=l.length/\i=.int .i64 k/\Hid (TabUpto l k)/\Below w.heap.size w wr) (λi _=>l.length-(intOf i).toNat)
 case atStart=>exact⟨0,by omega,rfl,TabUpto.zero _,QD _ _⟩
 case round =>
  obtain⟨k,hk,rfl,az,hb⟩:=hrel;by_cases af:k<l.length
  ·obtain⟨b1,ae,dt,rfl,aG,-,bj⟩:=ai (by omega);obtain⟨es,hE,hR⟩:=bj k af;have zE:=hR;obtain⟨h2,h3,p2,p3,rfl,-,K2,K3,-⟩:=hR;obtain⟨a2,kH,rfl,-⟩:=Zaf K2;obtain⟨a3,kI,rfl,-⟩:=Zac K3;clear K2 K3;replace hE:=hE.frame (hb.block b1 aG);have eU:b1<wr.heap.size:=QW aG hb.size;have dg:wr.cell? ⟨b1,ae+k*4,none⟩=some _:=ZaB hE (by decide) rfl;have dL:wr.cell? ⟨b1,ae+k*4+1,none⟩=some _:=Zae (j:=1) hE (by decide) rfl;have dh:wr.cell? ⟨b1,ae+k*4+2,none⟩=some _:=Zae (j:=2) hE (by decide) rfl;have ew:wr.cell? ⟨b1,ae+k*4+3,none⟩=some _:=Zae (j:=3) hE (by decide) rfl;have HC:=Qh (λW (hW:Below wr.heap.size wr W)=>ZdG [.string l[k].name,.bool l[k].function,.slice a2 l[k].params.length kH,.slice a3 l[k].body.length kI] l[k] _ W (sMacro.below (sMacro.below zE hb) hW));clear zE hE;cases hv:Zaq l[k]
   ·rw[hv]at HC;have HF:=Qh (Zhu af (ZlS af hv));clear hv az bj ai;go_wp2_with fail
    refine wp_region_noPanic ?_;refine JU (S:=(λw'=>w'.cell? ⟨b1,ae+k*4,none⟩=some (.string l[k].name)/\w'.cell? ⟨b1,ae+k*4+1,none⟩=some (.bool l[k].function)/\w'.cell? ⟨b1,ae+k*4+2,none⟩=some (.slice a2 l[k].params.length kH)/\w'.cell? ⟨b1,ae+k*4+3,none⟩=some (.slice a3 l[k].body.length kI))) (by kernel_rfl) (by exact⟨dg,dL,dh,ew⟩) (λac=>?_);refine Qt 0 10 rfl rfl ?_;try simp only[Qp]
    refine Qt 1 11 rfl rfl ?_;try simp only[Qp]
    refine Qt 2 12 rfl rfl ?_;try simp only[Qp]
    refine Qt 3 13 rfl rfl ?_;try simp only[Qp]
    refine Qr 4 rfl (λK hK=>?_);go_simp;refine(HC.out _ (Zah (QD _ _) 1)).mono ?_;rintro e w2⟨rfl,iv⟩;refine hK.out _ _ (by exact⟨(iv.cell (by simp;omega)).trans dg,(iv.cell (by simp;omega)).trans dL,(iv.cell (by simp;omega)).trans dh,(iv.cell (by simp;omega)).trans ew⟩) (λac=>?_);clear hK K;try simp only[Qp]
    refine Qt 5 15 rfl rfl ?_;try simp only[Qp]
    refine Qt 6 16 rfl rfl ?_;try simp only[Qp]
    refine Qs 7 17 rfl rfl ?_;try simp only[Qp]
    refine Qs 8 18 rfl rfl ?_;try simp only[Qp]
    refine Qs 9 19 rfl rfl ?_;try simp only[Qp]
    refine Qs 10 20 rfl rfl ?_;try simp only[Qp]
    refine Qs 11 21 rfl rfl ?_;try simp only[Qp]
    refine Qs 12 22 rfl rfl ?_;try simp only[Qp]
    refine Qs 13 23 rfl rfl ?_;try simp only[Qp]
    refine Qs 14 24 rfl rfl ?_;try simp only[Qp]
    refine Qs 15 25 rfl rfl ?_;try simp only[Qp]
    refine Qs 16 26 rfl rfl ?_;try simp only[Qp]
    refine Qs 17 27 rfl rfl ?_;try simp only[Qp]
    refine Qs 18 28 rfl rfl ?_;try simp only[Qp]
    refine Qs 19 29 rfl rfl ?_;try simp only[Qp]
    refine Qs 20 30 rfl rfl ?_;try simp only[Qp]
    refine Qs 21 31 rfl rfl ?_;try simp only[Qp]
    refine Qs 22 32 rfl rfl ?_;try simp only[Qp]
    refine Qt 23 33 rfl rfl ?_;try simp only[Qp]
    refine wpAnyH_done (by kernel_rfl) ?_ _;refine QP ?_;have bW:=hb.drew.trans (iv.mono hb.size);go_wp2;go_ret;exact⟨Zad HF.out.symm,bW⟩
   rw[hv]at HC;by_cases h0:k=0
   ·have gM:decide ((0:Int)<(k:Int))=false:=(by simp;omega);have HN:Hid (TabUpto l (k+1)):=by
     show TabUpto l (k+1);subst h0;exact az.out.succ (Zje af hv)
    have yw:¬(0:Int)<(k:Int):=(by omega);have yx:decide (0<k)=false:=(by simp;omega);clear h0 hv az bj ai;go_wp2_with fail
    refine wp_region_noPanic ?_;refine JU (S:=(λw'=>w'.cell? ⟨b1,ae+k*4,none⟩=some (.string l[k].name)/\w'.cell? ⟨b1,ae+k*4+1,none⟩=some (.bool l[k].function)/\w'.cell? ⟨b1,ae+k*4+2,none⟩=some (.slice a2 l[k].params.length kH)/\w'.cell? ⟨b1,ae+k*4+3,none⟩=some (.slice a3 l[k].body.length kI))) (by kernel_rfl) (by exact⟨dg,dL,dh,ew⟩) (λac=>?_);refine Qt 0 10 rfl rfl ?_;try simp only[Qp]
    refine Qt 1 11 rfl rfl ?_;try simp only[Qp]
    refine Qt 2 12 rfl rfl ?_;try simp only[Qp]
    refine Qt 3 13 rfl rfl ?_;try simp only[Qp]
    refine Qr 4 rfl (λK hK=>?_);go_simp;refine(HC.out _ (Zah (QD _ _) 1)).mono ?_;rintro e w2⟨rfl,iv⟩;refine hK.out _ _ (by exact⟨(iv.cell (by simp;omega)).trans dg,(iv.cell (by simp;omega)).trans dL,(iv.cell (by simp;omega)).trans dh,(iv.cell (by simp;omega)).trans ew⟩) (λac=>?_);clear hK K;try simp only[Qp]
    refine Qt 5 15 rfl rfl ?_;try simp only[Qp]
    refine Qt 6 16 rfl rfl ?_;try simp only[Qp]
    refine Qt 7 17 rfl rfl ?_;try simp only[Qp]
    refine Qt 8 18 rfl rfl ?_;try simp only[Qp]
    refine Qt 9 19 rfl rfl ?_;try simp only[Qp]
    refine Qs 10 20 rfl rfl ?_;try simp only[Qp]
    refine Qs 11 21 rfl rfl ?_;try simp only[Qp]
    refine Qs 12 22 rfl rfl ?_;try simp only[Qp]
    refine Qs 13 23 rfl rfl ?_;try simp only[Qp]
    refine Qs 14 24 rfl rfl ?_;try simp only[Qp]
    refine Qs 15 25 rfl rfl ?_;try simp only[Qp]
    refine Qs 16 26 rfl rfl ?_;try simp only[Qp]
    refine Qs 17 27 rfl rfl ?_;try simp only[Qp]
    refine Qs 18 28 rfl rfl ?_;try simp only[Qp]
    refine Qs 19 29 rfl rfl ?_;try simp only[Qp]
    refine Qs 20 30 rfl rfl ?_;try simp only[Qp]
    refine Qs 21 31 rfl rfl ?_;try simp only[Qp]
    refine Qt 22 32 rfl rfl ?_;try simp only[Qp]
    refine Qt 23 33 rfl rfl ?_;try simp only[Qp]
    refine wpAnyH_done (by kernel_rfl) ?_ _;refine QP ?_;have bW:=hb.drew.trans (iv.mono hb.size);go_wp2;go_roundw;case rel=>exact⟨k+1,by omega,by go_num,HN,bW⟩
    case measure=>simp[intOf];omega
   ·obtain⟨esp,td,hRp⟩:=bj (k-1) (by omega);obtain⟨g2,g3,r2,r3,rfl,-,-,-,-⟩:=hRp;replace td:=td.frame (hb.block b1 aG);have us:wr.cell? ⟨b1,ae+(k-1)*4,none⟩=some (.string (l[k-1]'(by omega)).name):=ZaB td (by decide) rfl;have h6:((k:Int)-1).toNat=k-1:=(by omega);have hwm:IntKind.i64.wrap ((k:Int)-1)=(k:Int)-1:=QF _ (by omega);have gM:(0:Int)<(k:Int):=(by omega);have zz:decide ((0:Int)<(k:Int))=true:=(by simpa using gM);have h0n:decide (0<k)=true:=(by simp;omega);have jJ:(0:Int)<=(k:Int)-1:=(by omega);have kc:(k:Int)-1<(l.length:Int):=(by omega);have hi3:(1:Int)<=(k:Int):=(by omega);clear td;rcases Zkb (a:=(l[k-1]'(by omega)).name) (b:=l[k].name) with⟨hw,sX,wg⟩ | ⟨hw,sX⟩ | ⟨hw,sX,wg⟩
    ·have HN:Hid (TabUpto l (k+1)):=az.out.succ (Zjf af hv hw);clear h0 hv hw az bj ai;go_wp2_with fail
     refine wp_region_noPanic ?_;refine JU (S:=(λw'=>w'.cell? ⟨b1,ae+k*4,none⟩=some (.string l[k].name)/\w'.cell? ⟨b1,ae+k*4+1,none⟩=some (.bool l[k].function)/\w'.cell? ⟨b1,ae+k*4+2,none⟩=some (.slice a2 l[k].params.length kH)/\w'.cell? ⟨b1,ae+k*4+3,none⟩=some (.slice a3 l[k].body.length kI)/\w'.cell? ⟨b1,ae+(k-1)*4,none⟩=some (.string (l[k-1]'(by omega)).name))) (by kernel_rfl) (by exact⟨dg,dL,dh,ew,us⟩) (λac=>?_);refine Qt 0 10 rfl rfl ?_;try simp only[Qp]
     refine Qt 1 11 rfl rfl ?_;try simp only[Qp]
     refine Qt 2 12 rfl rfl ?_;try simp only[Qp]
     refine Qt 3 13 rfl rfl ?_;try simp only[Qp]
     refine Qr 4 rfl (λK hK=>?_);go_simp;refine(HC.out _ (Zah (QD _ _) 1)).mono ?_;rintro e w2⟨rfl,iv⟩;refine hK.out _ _ (by exact⟨(iv.cell (by simp;omega)).trans dg,(iv.cell (by simp;omega)).trans dL,(iv.cell (by simp;omega)).trans dh,(iv.cell (by simp;omega)).trans ew,(iv.cell (by simp;omega)).trans us⟩) (λac=>?_);clear hK K;try simp only[Qp]
     refine Qt 5 15 rfl rfl ?_;try simp only[Qp]
     refine Qt 6 16 rfl rfl ?_;try simp only[Qp]
     refine Qt 7 17 rfl rfl ?_;try simp only[Qp]
     refine Qt 8 18 rfl rfl ?_;try simp only[Qp]
     refine Qt 9 19 rfl rfl ?_;try simp only[Qp]
     refine Qt 10 20 rfl rfl ?_;try simp only[Qp]
     refine Qt 11 21 rfl rfl ?_;try simp only[Qp]
     refine Qt 12 22 rfl rfl ?_;try simp only[Qp]
     refine Qt 13 23 rfl rfl ?_;try simp only[Qp]
     refine Qt 14 24 rfl rfl ?_;try simp only[Qp]
     refine Qt 15 25 rfl rfl ?_;try simp only[Qp]
     refine Qt 16 26 rfl rfl ?_;try simp only[Qp]
     refine Qt 17 27 rfl rfl ?_;try simp only[Qp]
     refine Qt 18 28 rfl rfl ?_;try simp only[Qp]
     refine Qt 19 29 rfl rfl ?_;try simp only[Qp]
     refine Qt 20 30 rfl rfl ?_;try simp only[Qp]
     refine Qt 21 31 rfl rfl ?_;try simp only[Qp]
     refine Qt 22 32 rfl rfl ?_;try simp only[Qp]
     refine Qt 23 33 rfl rfl ?_;try simp only[Qp]
     refine wpAnyH_done (by kernel_rfl) ?_ _;refine QP ?_;have bW:=hb.drew.trans (iv.mono hb.size);go_wp2;go_roundw;case rel=>exact⟨k+1,by omega,by go_num,HN,bW⟩
     case measure=>simp[intOf];omega
    all_goals
     have HF:=Qh (Zhu af (Zkh af (by omega) hw));clear h0 hv hw az bj ai;go_wp2_with fail
     refine wp_region_noPanic ?_;refine JU (S:=(λw'=>w'.cell? ⟨b1,ae+k*4,none⟩=some (.string l[k].name)/\w'.cell? ⟨b1,ae+k*4+1,none⟩=some (.bool l[k].function)/\w'.cell? ⟨b1,ae+k*4+2,none⟩=some (.slice a2 l[k].params.length kH)/\w'.cell? ⟨b1,ae+k*4+3,none⟩=some (.slice a3 l[k].body.length kI)/\w'.cell? ⟨b1,ae+(k-1)*4,none⟩=some (.string (l[k-1]'(by omega)).name))) (by kernel_rfl) (by exact⟨dg,dL,dh,ew,us⟩) (λac=>?_);refine Qt 0 10 rfl rfl ?_;try simp only[Qp]
     refine Qt 1 11 rfl rfl ?_;try simp only[Qp]
     refine Qt 2 12 rfl rfl ?_;try simp only[Qp]
     refine Qt 3 13 rfl rfl ?_;try simp only[Qp]
     refine Qr 4 rfl (λK hK=>?_);go_simp;refine(HC.out _ (Zah (QD _ _) 1)).mono ?_;rintro e w2⟨rfl,iv⟩;refine hK.out _ _ (by exact⟨(iv.cell (by simp;omega)).trans dg,(iv.cell (by simp;omega)).trans dL,(iv.cell (by simp;omega)).trans dh,(iv.cell (by simp;omega)).trans ew,(iv.cell (by simp;omega)).trans us⟩) (λac=>?_);clear hK K;try simp only[Qp]
     refine Qt 5 15 rfl rfl ?_;try simp only[Qp]
     refine Qt 6 16 rfl rfl ?_;try simp only[Qp]
     refine Qt 7 17 rfl rfl ?_;try simp only[Qp]
     refine Qt 8 18 rfl rfl ?_;try simp only[Qp]
     refine Qt 9 19 rfl rfl ?_;try simp only[Qp]
     refine Qt 10 20 rfl rfl ?_;try simp only[Qp]
     refine Qt 11 21 rfl rfl ?_;try simp only[Qp]
     refine Qt 12 22 rfl rfl ?_;try simp only[Qp]
     refine Qt 13 23 rfl rfl ?_;try simp only[Qp]
     refine Qt 14 24 rfl rfl ?_;try simp only[Qp]
     refine Qt 15 25 rfl rfl ?_;try simp only[Qp]
     refine Qt 16 26 rfl rfl ?_;try simp only[Qp]
     refine Qt 17 27 rfl rfl ?_;try simp only[Qp]
     refine Qt 18 28 rfl rfl ?_;try simp only[Qp]
     refine Qt 19 29 rfl rfl ?_;try simp only[Qp]
     refine Qt 20 30 rfl rfl ?_;try simp only[Qp]
     refine Qt 21 31 rfl rfl ?_;try simp only[Qp]
     refine Qt 22 32 rfl rfl ?_;try simp only[Qp]
     refine Qt 23 33 rfl rfl ?_;try simp only[Qp]
     refine wpAnyH_done (by kernel_rfl) ?_ _;refine QP ?_;have bW:=hb.drew.trans (iv.mono hb.size);go_wp2;go_ret;exact⟨Zad HF.out.symm,bW⟩
  ·have HF:=Qh (ZpB (l:=l) (by
                         have:k=l.length:=by omega
                         subst this;exact az.out))
   by_cases hl:l.length<=10
   ·rw[JR hl]at HF;have un:(l.length:Int)<=10:=(by omega);go_wp2;go_ret;exact⟨Zad HF.out.symm,hb⟩
   ·rw[JQ hl]at HF;have un:¬(l.length:Int)<=10:=(by omega);go_wp2;go_ret;exact⟨Zad HF.out.symm,hb⟩
end Go.Proofs.YtipfpppcbmpjiaaGreat
