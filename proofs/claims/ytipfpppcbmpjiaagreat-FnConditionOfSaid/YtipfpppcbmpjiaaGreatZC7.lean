/- Lemmas. -/
import Derived.Test.YtipfpppcbmpjiaaGreatZC6
import Derived.Lib.Bytealg
import Derived.Laws.AppendOwnNone
import Derived.Orders
set_option linter.unusedVariables false
set_option maxHeartbeats 16000000
set_option maxRecDepth 100000
set_option linter.unusedSimpArgs false
namespace Go.Proofs.YtipfpppcbmpjiaaGreat
open Go.RowKit
theorem ZgF:∀x y z:List UInt8,Op.bytesLess x y=true->Op.bytesLess y z=true->Op.bytesLess x z=true
 | _,[],_,h,_=>by simp[Op.bytesLess]at h
 | _,_::_,[],_,h=>by simp[Op.bytesLess]at h
 | [],_::_,_::_,_,_=>by simp[Op.bytesLess]
 |
  a::x,b::y,c::z,h1,h2=>by
  have ih:=ZgF x y z;simp only[Op.bytesLess,Q6,JT,QI,beq_iff_eq]at h1 h2 ⊢;rcases h1 with h1 | ⟨rfl,h1⟩
  ·rcases h2 with h2 | ⟨rfl,h2⟩
   ·exact .inl (UInt8.lt_trans h1 h2)
   ·exact .inl h1
  ·rcases h2 with h2 | ⟨rfl,h2⟩
   ·exact .inl h2
   ·exact .inr ⟨rfl,ih h1 h2⟩
theorem Zek {a b c:ByteArray}(h1:ZaF a b=true)(h2:ZaF b c=true):ZaF a c=true:=ZgF _ _ _ h1 h2
theorem Zgm:∀x:List UInt8,Op.bytesLess x x=false
 | []=>rfl
 | a::x=>by simp[Op.bytesLess,Zgm x,UInt8.lt_irrefl]
theorem ZeU (a:ByteArray):ZaF a a=false:=Zgm _
theorem Zd7 {a b:ByteArray}(h:(a.toList==b.toList)=true):a=b:=by
 by_cases e:a=b
 ·exact e
 ·exact absurd h (by rw[Zcb e];simp)
theorem ZmU:∀x y:List UInt8,decide (Lib.compareBytes x y<0)=Op.bytesLess x y
 | [],[]=>by simp[Lib.compareBytes,Op.bytesLess]
 | [],_::_=>by simp[Lib.compareBytes,Op.bytesLess]
 | _::_,[]=>by simp[Lib.compareBytes,Op.bytesLess]
 |
  a::x,b::y=>by
  have ih:=ZmU x y;unfold Lib.compareBytes Op.bytesLess;by_cases h1:a<b
  ·simp[h1]
  ·by_cases h2:b<a
   ·have h3:(a==b)=false:=by
     simp only[beq_eq_false_iff_ne,ne_eq];intro e;subst e;exact absurd h2 h1
    simp[h1,h2,h3]
   ·have h3:a=b:=UInt8.le_antisymm (UInt8.not_lt.1 h2) (UInt8.not_lt.1 h1);subst h3;simp[h1,ih]
theorem ZmV:∀x y:List UInt8,decide (Lib.compareBytes x y=0)=(x==y)
 | [],[]=>by simp[Lib.compareBytes]
 | [],_::_=>by simp[Lib.compareBytes]
 | _::_,[]=>by simp[Lib.compareBytes]
 |
  a::x,b::y=>by
  have ih:=ZmV x y;unfold Lib.compareBytes;by_cases h1:a<b
  ·have h3:¬a=b:=(by intro e;subst e;exact absurd h1 (UInt8.lt_irrefl _));simp[h1,h3]
  ·by_cases h2:b<a
   ·have h3:¬a=b:=(by intro e;subst e;exact absurd h2 h1);simp[h1,h2,h3]
   ·have h3:a=b:=UInt8.le_antisymm (UInt8.not_lt.1 h2) (UInt8.not_lt.1 h1);subst h3;simp[h1,ih]
variable {l:List DMacro}
theorem Zk3 (h:ZaU l=true):∀d i:Nat,(hj:i+d+1<l.length)->ZaF (l[i]'(by omega)).name (l[i+d+1]'hj).name=true
 |
  0,i,hj=>by
  have:=(Zgl h).2 (i+1) (by omega);unfold Zc5 at this;rw[dif_pos (by omega)]at this;simpa using(JK.1 this).2
 |
  d+1,i,hj=>by
  have h1:=Zk3 h d i (by omega);have h2:=Zk3 h 0 (i+d+1) (by omega);exact Zek h1 (by simpa[Nat.add_assoc]using h2)
theorem ZmW (h:ZaU l=true){i j:Nat}(hij:i<j)(hj:j<l.length):ZaF (l[i]'(by omega)).name l[j].name=true:=by
 have:=Zk3 h (j-i-1) i (by omega);simpa[show i+(j-i-1)+1=j by omega]using this
def lowFrom (l:List DMacro)(nm:ByteArray)(k:Nat):Nat:=if h:k<l.length then (if ZaF l[k].name nm=true then lowFrom l nm (k+1) else k) else k
termination_by l.length-k
def lowAt (l:List DMacro)(nm:ByteArray):Nat:=lowFrom l nm 0
variable {nm:ByteArray}{k:Nat}
theorem ZmX (h:k<l.length)(h1:ZaF l[k].name nm=true):lowFrom l nm k=lowFrom l nm (k+1):=by rw[lowFrom,dif_pos h,if_pos h1]
theorem Zjy (h:k<l.length)(h1:ZaF l[k].name nm=false):lowFrom l nm k=k:=by rw[lowFrom,dif_pos h,if_neg (by simp[h1])]
theorem ZoS (h:l.length<=k):lowFrom l nm k=k:=by rw[lowFrom,dif_neg (by omega)]
theorem ZpC (l:List DMacro)(nm:ByteArray)(k:Nat)(hk:k<=l.length):lowFrom l nm k<=l.length:=by
 induction k using lowFrom.induct (l:=l) (nm:=nm) with
 | case1 k h h1 ih=>rw[ZmX h h1];exact ih (by omega)
 | case2 k h h1=>rw[Zjy h (by simpa using h1)];omega
 | case3 k h=>rw[ZoS (by omega)];omega
theorem ZmY (l:List DMacro)(nm:ByteArray):lowAt l nm<=l.length:=ZpC l nm 0 (by omega)
theorem ZpD (l:List DMacro)(nm:ByteArray)(k:Nat):∀j,(hj:j<l.length)->k<=j->j<lowFrom l nm k->ZaF l[j].name nm=true:=by
 induction k using lowFrom.induct (l:=l) (nm:=nm) with
 |
  case1 k h h1 ih =>
  intro j hj hk hl;rw[ZmX h h1]at hl;by_cases e:j=k
  ·subst e;exact h1
  ·exact ih j hj (by omega) hl
 | case2 k h h1=>intro j hj hk hl;rw[Zjy h (by simpa using h1)]at hl;omega
 | case3 k h=>intro j hj hk hl;omega
theorem ZpE (l:List DMacro)(nm:ByteArray)(k:Nat):∀h:lowFrom l nm k<l.length,ZaF l[lowFrom l nm k].name nm=false:=by
 induction k using lowFrom.induct (l:=l) (nm:=nm) with
 | case1 k h h1 ih=>rw[ZmX h h1];exact ih
 | case2 k h h1=>rw[Zjy h (by simpa using h1)];intro _;simpa using h1
 | case3 k h=>rw[ZoS (by omega)];intro h2;omega
theorem ZiP (h:ZaU l=true)(nm:ByteArray){j:Nat}(hj:j<l.length):ZaF l[j].name nm=decide (j<lowAt l nm):=by
 by_cases hl:j<lowAt l nm
 ·rw[JR hl];exact ZpD l nm 0 j hj (by omega) hl
 ·rw[JQ hl];have eG:lowAt l nm<l.length:=by omega
  have h1:=ZpE l nm 0 eG;by_cases e:lowAt l nm=j
  ·subst e;exact h1
  ·have h2:=ZmW h (show lowAt l nm<j by omega) hj;cases h3:ZaF l[j].name nm
   ·rfl
   ·exact absurd (Zek h2 h3) (by rw[show ZaF (l[lowAt l nm]'eG).name nm=false from h1];simp)
def plFrom (l:List DMacro)(nm:ByteArray)(k:Nat):Int:=if h:k<l.length then (if (l[k].name.toList==nm.toList)=true then (k:Int) else plFrom l nm (k+1)) else -1
termination_by l.length-k
def place (l:List DMacro)(nm:ByteArray):Int:=plFrom l nm 0
theorem Zki (h:l.length<=k):plFrom l nm k=-1:=by rw[plFrom,dif_neg (by omega)]
theorem ZmZ (h:k<l.length)(h1:(l[k].name.toList==nm.toList)=true):plFrom l nm k=k:=by rw[plFrom,dif_pos h,if_pos h1]
theorem ZiQ (h:k<l.length)(h1:(l[k].name.toList==nm.toList)=false):plFrom l nm k=plFrom l nm (k+1):=by rw[plFrom,dif_pos h,if_neg (by simp[h1])]
theorem pl_low (h:ZaU l=true)(nm:ByteArray)(k:Nat)(hk:k<=lowAt l nm):
  plFrom l nm k=if hl:lowAt l nm<l.length then (if (l[lowAt l nm].name.toList==nm.toList)=true then (lowAt l nm:Int) else -1) else -1:=by
 induction k using plFrom.induct (l:=l) (nm:=nm) with
 |
  case1 k hkl h1 =>
  have hs:ZaF l[k].name nm=false:=by rw[Zd7 h1];exact ZeU _
  rw[ZiP h nm hkl,decide_eq_false_iff_not]at hs;obtain rfl:k=lowAt l nm:=by omega
  rw[ZmZ hkl h1,dif_pos hkl,if_pos h1]
 |
  case2 k hkl h1 ih =>
  rw[ZiQ hkl (by simpa using h1)];by_cases e:k=lowAt l nm
  ·subst e;rw[dif_pos hkl,if_neg h1];have:∀k',lowAt l nm<k'->plFrom l nm k'=-1:=by
    intro k' hk';induction k' using plFrom.induct (l:=l) (nm:=nm) with
    |
     case1 k' hkl' h1' =>
     have h2:=ZmW h hk' hkl';rw[Zd7 h1',ZiP h nm hkl,JT]at h2;omega
    | case2 k' hkl' h1' ih'=>rw[ZiQ hkl' (by simpa using h1')];exact ih' (by omega)
    | case3 k' hkl'=>rw[Zki (by omega)]
   exact this _ (by omega)
  ·exact ih (by omega)
 |
  case3 k hkl =>
  rw[Zki (by omega)];rw[dif_neg (by have:=ZmY l nm;omega)]
def isIn (l:List DMacro)(nm:ByteArray):Bool:=if h:lowAt l nm<l.length then l[lowAt l nm].name.toList==nm.toList else false
theorem Zgn (h:ZaU l=true)(nm:ByteArray):place l nm=if isIn l nm=true then (lowAt l nm:Int) else -1:=by
 unfold place isIn;rw[pl_low h nm 0 (by omega)];by_cases hl:lowAt l nm<l.length
 ·rw[dif_pos hl,dif_pos hl]
 ·rw[dif_neg hl,dif_neg hl];rfl
def cmpI (a b:ByteArray):Int:=Lib.compareBytes a.data.toList b.data.toList
theorem Zqm (a b:ByteArray):decide (cmpI a b<0)=ZaF a b:=by
 unfold cmpI ZaF;rw[ZmU,QB,QB]
theorem Zqn (a b:ByteArray):decide (cmpI a b=0)=(a.toList==b.toList):=by
 unfold cmpI;rw[ZmV,QB,QB]
theorem ZoT (cs:List Value)(x:DMacro)(nm:ByteArray)(fp:List Nat)(w:World)(H:sMacro.R w cs x fp):
  Calls Tryz.prog 85 #[.agg cs.toArray,.string nm] w λe w'=>e=.returned (.int .i64 (cmpI x.name nm))/\Below w.heap.size w w':=by
 obtain⟨h2,h3,p2,p3,rfl,-,K2,K3,rfl⟩:=H;obtain⟨a2,kH,rfl,-⟩:=Zaf K2;obtain⟨a3,kI,rfl,-⟩:=Zac K3;clear K2 K3;have hb:=Zab w (.cells #[.string x.name,.bool x.function,.slice a2 x.params.length kH,.slice a3 x.body.length kI] 56);go_enter Tryz.func85,Tryz.ntmps85;go_wp2_with (go_at_call 86;refine(Tryz.strings_Compare _ _ _).mono ?_;rintro e w2⟨rfl,rfl⟩)
 go_ret;exact⟨rfl,hb⟩
theorem ZpF (v:Value)(l:List DMacro)(nm:ByteArray)(fp:List Nat)(w:World)(ht:ZaU l=true)(H:(Zaa sMacro).R w [v] l fp):
  Calls Tryz.prog 84 #[v,.string nm,.func (.func 85) #[] #[]] w λe w'=>e=.returned (.tuple #[.int .i64 (lowAt l nm:Nat),.bool (isIn l nm)])/\Below w.heap.size w w':=by
 obtain⟨a,cap,rfl,hc,hm,ai⟩:=Zac H;unfold maxLen at hm;clear H;have hn10:l.length<=10:=(Zgl ht).1;have te:=Qh (ZmY l nm);have kJ:Hid (∀j,(hj:j<l.length)->decide (cmpI l[j].name nm<0)=decide (j<lowAt l nm)):=λj hj=>by rw[Zqm,ZiP ht nm hj]
 have cZ:Hid (∀h:lowAt l nm<l.length,isIn l nm=decide (cmpI l[lowAt l nm].name nm=0)):=λh=>by unfold isIn;rw[dif_pos h,Zqn]
 have m5:Hid (¬lowAt l nm<l.length->isIn l nm=false):=λh=>by unfold isIn;rw[dif_neg h]
 clear ht;go_enter Tryz.func84,Tryz.ntmps84;go_wp2;go_loopw [9,10] (λs9 s10 wr=>∃lo hi:Nat,s9=.int .i64 lo/\s10=.int .i64 hi/\lo<=hi/\hi<=l.length/\Hid (lo<=lowAt l nm/\lowAt l nm<=hi)/\Below w.heap.size w wr) (λs9 s10 _=>(intOf s10).toNat-(intOf s9).toNat)
 case atStart=>exact⟨0,l.length,rfl,rfl,by omega,by omega,⟨by omega,te.out⟩,QD _ _⟩
 case round =>
  obtain⟨lo,hi,rfl,rfl,hlh,bO,HW,hb⟩:=hrel;by_cases af:lo<hi
  ·obtain⟨b1,ae,dt,rfl,aG,-,bj⟩:=ai (by omega);obtain⟨es,hE,hR⟩:=bj ((lo+hi) / 2) (by omega);have HC:=Qh (ZoT _ _ nm _ _ (sMacro.below hR hb));obtain⟨h2,h3,p2,p3,rfl,-,-,-,-⟩:=hR;replace hE:=hE.frame (hb.block b1 aG);have dg:wr.cell? ⟨b1,ae+(lo+hi) / 2*4,none⟩=some _:=ZaB hE (by decide) rfl;have dL:wr.cell? ⟨b1,ae+(lo+hi) / 2*4+1,none⟩=some _:=Zae (j:=1) hE (by decide) rfl;have dh:wr.cell? ⟨b1,ae+(lo+hi) / 2*4+2,none⟩=some _:=Zae (j:=2) hE (by decide) rfl;have ew:wr.cell? ⟨b1,ae+(lo+hi) / 2*4+3,none⟩=some _:=Zae (j:=3) hE (by decide) rfl;clear hE bj ai;by_cases kg:cmpI (l[(lo+hi) / 2]'(by omega)).name nm<0
   ·have HL:Hid ((lo+hi) / 2+1<=lowAt l nm/\lowAt l nm<=hi):=by
     have h1:=kJ.out ((lo+hi) / 2) (by omega);rw[JR kg]at h1;have h2:=JW h1.symm;exact⟨h2,HW.out.2⟩
    go_wp2_with fail
    refine HC.out.mono ?_;rintro e w2⟨rfl,aF⟩;have aE:=hb.trans (aF.mono hb.size);generalize cmpI (l[(lo+hi) / 2]'(by omega)).name nm=c at *;go_wp2;go_roundw;case rel=>exact⟨(lo+hi) / 2+1,hi,by first | rfl | rw[show((lo:Int)+(hi:Int)) / 2+1=(((lo+hi) / 2+1:Nat):Int) by omega],rfl,by omega,bO,HL,aE⟩
    case measure=>simp[intOf];omega
   ·have HL:Hid (lo<=lowAt l nm/\lowAt l nm<=(lo+hi) / 2):=by
     have h1:=kJ.out ((lo+hi) / 2) (by omega);rw[JQ kg]at h1;have h2:=of_decide_eq_false h1.symm;exact⟨HW.out.1,by omega⟩
    go_wp2_with fail
    refine HC.out.mono ?_;rintro e w2⟨rfl,aF⟩;have aE:=hb.trans (aF.mono hb.size);generalize cmpI (l[(lo+hi) / 2]'(by omega)).name nm=c at *;go_wp2;go_roundw;case rel=>exact⟨lo,(lo+hi) / 2,rfl,by first | rfl | rw[show((lo:Int)+(hi:Int)) / 2=(((lo+hi) / 2:Nat):Int) by omega],by omega,by omega,HL,aE⟩
    case measure=>simp[intOf];omega
  ·obtain rfl:hi=lo:=(by omega);have eG:lowAt l nm=hi:=(by have:=HW.out;omega);by_cases hn:hi<l.length
   ·have HD:Hid (isIn l nm=decide (cmpI l[hi].name nm=0)):=by
     subst eG;exact cZ.out hn
    have HA:=Qh eG;clear eG cZ m5 kJ HW te;obtain⟨b1,ae,dt,rfl,aG,-,bj⟩:=ai (by omega);obtain⟨es,hE,hR⟩:=bj (hi) (by omega);have HC:=Qh (ZoT _ _ nm _ _ (sMacro.below hR hb));obtain⟨h2,h3,p2,p3,rfl,-,-,-,-⟩:=hR;replace hE:=hE.frame (hb.block b1 aG);have dg:wr.cell? ⟨b1,ae+hi*4,none⟩=some _:=ZaB hE (by decide) rfl;have dL:wr.cell? ⟨b1,ae+hi*4+1,none⟩=some _:=Zae (j:=1) hE (by decide) rfl;have dh:wr.cell? ⟨b1,ae+hi*4+2,none⟩=some _:=Zae (j:=2) hE (by decide) rfl;have ew:wr.cell? ⟨b1,ae+hi*4+3,none⟩=some _:=Zae (j:=3) hE (by decide) rfl;clear hE bj ai;by_cases kg:cmpI l[hi].name nm=0
    ·have HF:=Qh (HD.out.trans (JR kg));rw[kg]at HC;clear kg HD;go_wp2_with fail
     refine HC.out.mono ?_;rintro e w2⟨rfl,aF⟩;go_wp2;go_ret2;exact⟨by rw[HA.out,HF.out];rfl,hb.trans (aF.mono hb.size)⟩
    ·have HF:=Qh (HD.out.trans (JQ kg));generalize cmpI l[hi].name nm=c at *;have dm:(c==0)=false:=(by simpa using kg);clear HD;go_wp2_with fail
     refine HC.out.mono ?_;rintro e w2⟨rfl,aF⟩;go_wp2;go_ret2;exact⟨by rw[HA.out,HF.out];rfl,hb.trans (aF.mono hb.size)⟩
   ·have HF:=Qh (m5.out (by omega));have HA:=Qh eG;clear eG cZ m5 kJ HW te;go_wp2;go_ret2;exact⟨by rw[HA.out,HF.out];rfl,hb⟩
theorem Zil (v:Value)(l:List DMacro)(nm:ByteArray)(fp:List Nat)(w:World)(ht:ZaU l=true)(H:(Zaa sMacro).R w [v] l fp):
  Calls Tryz.prog 60 #[v,.string nm] w λe w'=>e=.returned (.tuple #[.int .i64 (lowAt l nm:Nat),.bool (isIn l nm)])/\Below w.heap.size w w':=by
 have HC:=Qh (ZpF v l nm fp w ht H);clear H ht;go_enter Tryz.func60,Tryz.ntmps60;go_wp2_with fail
 refine HC.out.mono ?_;rintro e w2⟨rfl,hb⟩;go_wp2;go_ret2;exact⟨rfl,hb⟩
theorem ZeV (v:Value)(l:List DMacro)(nm:ByteArray)(fp:List Nat)(w:World)(H:(Zaa sMacro).R w [v] l fp):
  Calls Tryz.prog 47 #[v,.string nm] w λe w'=>e=.returned (.int .i64 (place l nm))/\Below w.heap.size w w':=by
 obtain⟨a,cap,rfl,hc,hm,ai⟩:=Zac H;unfold maxLen at hm;clear H;go_enter Tryz.func47,Tryz.ntmps47;go_wp2;go_loopw [5] (λi wr=>∃k:Nat,k<=l.length/\i=.int .i64 k/\Hid (place l nm=plFrom l nm k)/\Below w.heap.size w wr) (λi _=>l.length-(intOf i).toNat)
 case atStart=>exact⟨0,by omega,rfl,rfl,QD _ _⟩
 case round =>
  obtain⟨k,hk,rfl,HP,hb⟩:=hrel;by_cases af:k<l.length
  ·obtain⟨b1,ae,dt,rfl,aG,-,bj⟩:=ai (by omega);obtain⟨es,hE,hR⟩:=bj k af;obtain⟨h2,h3,p2,p3,rfl,-,-,-,-⟩:=hR;replace hE:=hE.frame (hb.block b1 aG);have dg:wr.cell? ⟨b1,ae+k*4,none⟩=some _:=ZaB hE (by decide) rfl;clear hE bj ai;cases g:(l[k].name.toList==nm.toList)
   ·have HF:=Qh (HP.out.trans (ZiQ af g));clear HP;go_wp2;go_roundw;case rel=>exact⟨k+1,by omega,by go_num,HF,hb⟩
    case measure=>simp[intOf];omega
   ·have HF:=Qh (HP.out.trans (ZmZ af g));clear HP;go_wp2;go_ret;exact⟨by rw[HF.out];rfl,hb⟩
  ·have HF:=Qh (HP.out.trans (Zki (by omega)));clear HP;go_wp2;go_ret;exact⟨by rw[HF.out];rfl,hb⟩
structure RowE {α:Type}(S:Shape α)(base:Nat)(e:TypeId)(v:Value)(L:List (Elem α))(w:World):Prop where
 row:w.ownsRow base e S.m v L.length (L.flatMap (·.cells))
 len:∀x∈L,x.cells.length=S.m
 el:∀x∈L,S.R w x.cells x.d x.fp
 lo:∀x∈L,∀b∈x.fp,base<=b
 ty:∀x∈L,∀b∈x.fp,∃cur t fr,w.heap[b]?=some (.cells cur t fr)/\t≠e
section
variable {α:Type}{S:Shape α}{base:Nat}{e:TypeId}{v v':Value}{L:List (Elem α)}{w w':World}
theorem ZbR {n:Nat}{xs:List Value}{m:Nat}(h:w.ownsRow base e m v n xs)(hb:∀g,v.ownBlock=some g->w'.heap[g]?=w.heap[g]?):w'.ownsRow base e m v n xs:=by
 refine⟨h.1,?_⟩;rcases h.2 with h0 | ⟨g,cap,cur,h1,h2,h3,h4⟩
 ·exact .inl h0
 ·exact .inr ⟨g,cap,cur,h1,h2,(hb g (by rw[h1];rfl)).trans h3,h4⟩
theorem RowE.same (h:RowE S base e v L w)(hb:∀b,b<w.heap.size->base<=b->w'.heap[b]?=w.heap[b]?):RowE S base e v L w' where
 row:=ZbR h.row λg hg=>by
  have:=h.row.lt g hg;exact hb g this.2 this.1
 len:=h.len
 el:=λx hx=>S.frame (λb aE=>hb b (S.lt (h.el x hx) b aE) (h.lo x hx b aE)) (h.el x hx)
 lo:=h.lo
 ty:=λx hx b aE=>by
  obtain⟨cur,t,fr,h1,h2⟩:=h.ty x hx b aE;exact⟨cur,t,fr,(hb b (S.lt (h.el x hx) b aE) (h.lo x hx b aE)).trans h1,h2⟩
theorem RowE.below (h:RowE S base e v L w)(hb:Below w.heap.size w w'):RowE S base e v L w':=h.same λb aE _=>hb.block b aE
theorem RowE.keptR {rb:Nat}(h:RowE S base e v L w)(hk:Kept [rb] w w')(hr:rb<base):RowE S base e v L w':=h.same λb hb hl=>hk.block b hb (by simp;omega)
theorem RowE.lower {base':Nat}(h:RowE S base e v L w)(hl:base'<=base):RowE S base' e v L w where
 row:=⟨h.row.1,by
  rcases h.row.2 with h0 | ⟨g,cap,cur,h1,h2,h3⟩
  ·exact .inl h0
  ·exact .inr ⟨g,cap,cur,h1,QZ hl h2,h3⟩⟩
 len:=h.len
 el:=h.el
 lo:=λx hx b hb=>QZ hl (h.lo x hx b hb)
 ty:=h.ty
theorem RowE.nil (S:Shape α)(base:Nat)(e:TypeId)(w:World):RowE S base e (.slice none 0 0) [] w:=⟨World.ownsRow_nil _ _ _ _,by simp,by simp,by simp,by simp⟩
theorem RowE.val (h:RowE S base e v L w):∃a cap,v=.slice a L.length cap/\L.length<=cap/\cap<=maxLen/\(0<L.length->∃g,a=some ⟨g,0,none⟩/\base<=g/\g<w.heap.size):=by
 rcases h.row.2 with⟨rfl,h0⟩ | ⟨g,cap,cur,rfl,hb,hg,hn,hc,_⟩
 ·exact⟨none,0,by rw[h0],by omega,by simp,λh=>by omega⟩
 ·exact⟨_,cap,rfl,hn,hc,λ_=>⟨g,rfl,hb,(Qg hg).1⟩⟩
theorem RowE.mine (h:RowE S base e v L w):∀b,v.ownBlock=some b->base<=b:=λb hb=>(h.row.lt b hb).1
theorem RowE.slice (h:RowE S base e v L w):∃fp,(Zaa S).R w [v] (L.map (·.d)) fp:=by
 obtain⟨fp,h1,_⟩:=Zbt h.row λx hx=>⟨h.len x hx,h.el x hx⟩;exact⟨fp,h1⟩
theorem RowE.ap (h:RowE S base e v L w){x:Elem α}(hx:x∈L){b:Nat}(hb:b∈x.fp):v.ownBlock≠some b:=by
 intro hv;obtain⟨cur,t,fr,h1,h2⟩:=h.ty x hx b hb;rcases h.row.2 with⟨rfl,_⟩ | ⟨g,cap,qb,rfl,_,hg,_⟩
 ·simp[Value.ownBlock]at hv
 ·simp only[Value.ownBlock,Qi]at hv;subst hv;rw[h1]at hg;simp only[Qi,Obj.cells.injEq]at hg;exact h2 hg.2.1
theorem RowE.frozen {g n cap:Nat}(h:RowE S base e (.slice (some ⟨g,0,none⟩) n cap) L w)(o:Nat):w.frozen? ⟨g,o,none⟩=false:=by
 rcases h.row.2 with⟨h',_⟩ | ⟨g',dF,cur,h',_,hg,_⟩
 ·cases h'
 ·simp only[QT,Qi,Addr.mk.injEq,and_true]at h';obtain⟨rfl,_⟩:=h';exact frozen_of_row w g o cur e hg
theorem RowE.cellAt {g n cap:Nat}(h:RowE S base e (.slice (some ⟨g,0,none⟩) n cap) L w){k:Nat}(hk:k<L.length){j:Nat}(hj:j<S.m){u:Value}(hu:L[k].cells[j]?=some u):w.cell? ⟨g,k*S.m+j,none⟩=some u:=by
 have hn:L.length=n:=by
  rcases h.row.2 with⟨h',_⟩ | ⟨g',dF,cur,h',_⟩
  ·cases h'
  ·simp only[QT]at h';exact h'.2.1.symm
 subst hn;rw[h.row.cellAt (k*S.m+j) (by have:(k+1)*S.m<=L.length*S.m:=Nat.mul_le_mul_right _ hk;rw[Nat.succ_mul]at this;omega)];exact(Zb4 (f:=Elem.cells) h.len hk hj).trans hu
theorem Zfx {f:Elem α->List Value}{m:Nat}:∀{L:List (Elem α)} (_:∀x∈L,(f x).length=m) {k:Nat} (hk:k<L.length) {j:Nat} (_:j<m) (u:Value) (x':Elem α) (_:f x'=(f L[k]).set j u),(L.flatMap f).set (k*m+j) u=(L.set k x').flatMap f
 | [],_,k,hk,_,_,_,_,_=>by simp at hk
 |
  x::L,hL,0,_,j,hj,u,x',hx=>by
  simp only[Qw,List.set_cons_zero,Nat.zero_mul,QX];rw[List.set_append_left _ _ (by rw[hL x (by simp)];exact hj),hx];rfl
 |
  x::L,hL,k+1,hk,j,hj,u,x',hx=>by
  have hl:=hL x (by simp);have e:(k+1)*m+j=m+(k*m+j):=by rw[Nat.succ_mul];omega
  simp only[Qw,List.set_cons_succ];rw[List.set_append_right _ _ (by rw[hl,e];omega),hl,e,Nat.add_sub_cancel_left];rw[Zfx (λy hy=>hL y (by simp[hy])) (by simpa using hk) hj u x' (by simpa using hx)]
theorem RowE.set {g n cap:Nat}(h:RowE S base e (.slice (some ⟨g,0,none⟩) n cap) L w){k:Nat}(hk:k<L.length){j:Nat}(hj:j<S.m)(u:Value)(x':Elem α)(hx:x'.cells=L[k].cells.set j u)
  (hR:S.R w x'.cells x'.d x'.fp) (cV:∀b∈x'.fp,base<=b) (gD:∀b∈x'.fp,∃cur t fr,w.heap[b]?=some (.cells cur t fr)/\t≠e) :
  RowE S base e (.slice (some ⟨g,0,none⟩) n cap) (L.set k x') (w.setCell ⟨g,k*S.m+j,none⟩ u):=by
 have cD:∀b:Nat,(∃cur t fr,w.heap[b]?=some (.cells cur t fr)/\t≠e)->b≠g:=by
  rintro b⟨cur,t,fr,h1,h2⟩ rfl;rcases h.row.2 with⟨h',_⟩ | ⟨g',dF,qb,h',_,hg,_⟩
  ·cases h'
  ·simp only[QT,Qi,Addr.mk.injEq,and_true]at h';obtain⟨rfl,_⟩:=h';rw[h1]at hg;simp only[Qi,Obj.cells.injEq]at hg;exact h2 hg.2.1
 have dr:∀b:Nat,b≠g->(w.setCell ⟨g,k*S.m+j,none⟩ u).heap[b]?=w.heap[b]?:=λb hb=>QV _ _ _ _ hb;have di:∀x∈L.set k x',x=x'\/x∈L:=λx hx=>by
  rcases List.mem_or_eq_of_mem_set hx with h | h
  ·exact .inr h
  ·exact .inl h
 refine⟨?_,λx bJ=>?_,λx bJ=>?_,λx bJ=>?_,λx bJ=>?_⟩
 ·have hn:L.length=n:=by
   rcases h.row.2 with⟨h',_⟩ | ⟨g',dF,cur,h',_⟩
   ·cases h'
   ·simp only[QT]at h';exact h'.2.1.symm
  have ai:=h.row;rw[hn]at ai;have:=(ai.stored (k*S.m+j) u).1;rw[Zfx h.len hk hj u x' hx]at this;rw[List.length_set,hn];exact this
 ·rcases di x bJ with rfl | bJ
  ·rw[hx,List.length_set];exact h.len _ (QE hk)
  ·exact h.len x bJ
 ·rcases di x bJ with rfl | bJ
  ·exact S.frame (λb hb=>dr b (cD b (gD b hb))) hR
  ·exact S.frame (λb hb=>dr b (cD b (h.ty x bJ b hb))) (h.el x bJ)
 ·rcases di x bJ with rfl | bJ
  ·exact cV
  ·exact h.lo x bJ
 ·intro b hb;rcases di x bJ with rfl | bJ
  ·obtain⟨cur,t,fr,h1,h2⟩:=gD b hb;exact⟨cur,t,fr,(dr b (cD b ⟨cur,t,fr,h1,h2⟩)).trans h1,h2⟩
  ·obtain⟨cur,t,fr,h1,h2⟩:=h.ty x bJ b hb;exact⟨cur,t,fr,(dr b (cD b ⟨cur,t,fr,h1,h2⟩)).trans h1,h2⟩
theorem RowE.appended (h:RowE S base e v L w){X:List (Elem α)}(ai:w'.ownsRow base e S.m v' (L++X).length ((L++X).flatMap (·.cells)))(hg:w.grownBy w' v.ownBlock)
  (bE:∀x∈X,x.cells.length=S.m) (hR:∀x∈X,S.R w x.cells x.d x.fp) (cV:∀x∈X,∀b∈x.fp,base<=b) (gD:∀x∈X,∀b∈x.fp,∃cur t fr,w.heap[b]?=some (.cells cur t fr)/\t≠e) :
  RowE S base e v' (L++X) w':=by
 have cD:∀b:Nat,(∃cur t fr,w.heap[b]?=some (.cells cur t fr)/\t≠e)->w'.heap[b]?=w.heap[b]?:=by
  rintro b⟨cur,t,fr,h1,h2⟩;refine hg.block b (Qg h1).1 λhv=>?_;rcases h.row.2 with⟨rfl,_⟩ | ⟨g',dF,qb,rfl,_,mz,_⟩
  ·simp[Value.ownBlock]at hv
  ·simp only[Value.ownBlock,Qi]at hv;subst hv;rw[h1]at mz;simp only[Qi,Obj.cells.injEq]at mz;exact h2 mz.2.1
 refine⟨ai,λx hx=>?_,λx hx=>?_,λx hx=>?_,λx hx b hb=>?_⟩ <;> rcases Qa hx with hx | hx
 ·exact h.len x hx
 ·exact bE x hx
 ·exact S.frame (λb hb=>cD b (h.ty x hx b hb)) (h.el x hx)
 ·exact S.frame (λb hb=>cD b (gD x hx b hb)) (hR x hx)
 ·exact h.lo x hx
 ·exact cV x hx
 ·obtain⟨cur,t,fr,h1,h2⟩:=h.ty x hx b hb;exact⟨cur,t,fr,(cD b ⟨cur,t,fr,h1,h2⟩).trans h1,h2⟩
 ·obtain⟨cur,t,fr,h1,h2⟩:=gD x hx b hb;exact⟨cur,t,fr,(cD b ⟨cur,t,fr,h1,h2⟩).trans h1,h2⟩
end
theorem Zg6 {α:Type}{S:Shape α}{P:Program}{t e:TypeId}{z:Value}{bytes:Nat}(ti:TI P t e z S.m bytes)(ev:z.cells.size=S.m)(h0:0<S.m)(w:World){L X:List (Elem α)}{ops:Array Oper}{rest:List Oper}{o:Oper}{a:Act}{Q:Exit->Act->World->Prop}
  (hg:o.guard=none) (s y:Operand) (ho:o.op=.call { callee:=.builtin .append,args:=#[s,y],argTypes:=#[t,t] })
  (base:Nat) (v:Value) (hs:a.eval s=v) (ag:RowE S base e v L w) (g m c:Nat) (hy:a.eval y=.slice (some ⟨g,0,none⟩) m c) (hm:X.length=m)
  (bE:∀x∈X,x.cells.length=S.m) (h1:∀x∈X,∀u∈x.cells,u.oneCell'=true) (aJ:∀j u,(X.flatMap (·.cells))[j]?=some u->w.cell? ⟨g,j,none⟩=some u)
  (hR:∀x∈X,S.R w x.cells x.d x.fp) (cV:∀x∈X,∀b∈x.fp,base<=b) (gD:∀x∈X,∀b∈x.fp,∃cur t fr,w.heap[b]?=some (.cells cur t fr)/\t≠e)
  (dz:L.length+m<=maxLen) (aO:(L.length+m)*bytes<=140737488355328) (aK:base<=w.heap.size)
  (h:∀v' w',RowE S base e v' (L++X) w'->w.grownBy w' v.ownBlock->wpList P ops Q rest (a.put o.dst v') w'):wpList P ops Q (o::rest) a w:=by
 obtain⟨i,hi,cI,dQ,dZ⟩:=info_parts ti.2;subst hm;refine wpList_append_own _ hg s y t ho base e i z S.m bytes ti.1 hi cI dQ dZ ev h0 v L.length _ hs ag.row ⟨g,0,none⟩ X.length c (X.flatMap (·.cells)) hy (ZaR bE) ?_ ?_ dz aO aK λv' w' a b _=>h v' w' ?_ b
 ·intro j u hj;rw[ZaZ,QX];exact aJ j u hj
 ·intro u hu;obtain⟨x,hx,hu⟩:=QO.1 hu;exact h1 x hx u hu
 ·refine ag.appended ?_ b bE hR cV gD;rw[QC,Qo];exact a
section
variable {α:Type}{S:Shape α}{base:Nat}{e:TypeId}{v v':Value}{L:List (Elem α)}{w w':World}
theorem RowE.lit (X:List (Elem α))(bE:∀x∈X,x.cells.length=S.m)(hR:∀x∈X,S.R w x.cells x.d x.fp)(cV:∀x∈X,∀b∈x.fp,base<=b)(gD:∀x∈X,∀b∈x.fp,∃cur t fr,w.heap[b]?=some (.cells cur t fr)/\t≠e)
  (hb:base<=w.heap.size) (hn:X.length<=1000000):RowE S base e (.slice (some ⟨w.heap.size,0,none⟩) X.length X.length) X (w.alloc (.cells (X.flatMap (·.cells)).toArray e)) where
 row:=Q1 (base:=base) (e:=e) (size:=S.m) w (X.flatMap (·.cells)).toArray X.length hb (by unfold maxLen;omega) (by simpa using ZaR bE)
 len:=bE
 el:=λx hx=>S.below (hR x hx) (Zab _ _)
 lo:=cV
 ty:=λx hx b aE=>by
  obtain⟨cur,t,fr,h1,h2⟩:=gD x hx b aE;exact⟨cur,t,fr,((Zab w _).block b (Qg h1).1).trans h1,h2⟩
theorem RowE.read (h:RowE S base e v L w):∃fp,(Zaa S).R w [v] (L.map (·.d)) fp/\∀b∈fp,base<=b:=by
 obtain⟨fp,h1,h2,_⟩:=Zbt h.row λx hx=>⟨h.len x hx,h.el x hx⟩;refine⟨fp,h1,λb hb=>?_⟩;rcases h2 b hb with h3 | h3
 ·exact h.mine b h3
 ·obtain⟨x,hx,aE⟩:=QO.1 h3;exact h.lo x hx b aE
end
variable {P:Program}{ops:Array Oper}{w:World}{a:Act}{Q:Exit->Act->World->Prop}
theorem Zg7 {rest:List Oper}{d:Option Tmp}{op:Op}{ty:TypeId}{pos:String}{after:Array Edge}{g:Option (Nat × Bool)}
  (hw:Region.wanted (Oper.mk d op ty pos after g) (yielded ops a.tmps)=true) (h:wpList P ops Q (Oper.mk d op ty pos after none::rest) a w):wpList P ops Q (Oper.mk d op ty pos after g::rest) a w:=by
 unfold wpList at h ⊢;rw[if_pos hw];rw[if_pos (show Region.wanted (Oper.mk d op ty pos after none) (yielded ops a.tmps)=true from rfl)]at h;exact h
def Sw (K:Act->World->Prop):Exit->Act->World->Prop
 | .normal,a,w=>K a w
 | _,_,_=>False
variable {K:Act->World->Prop}
theorem Sw.noOut:¬LetsOut (Sw K):=λ⟨_,_,h⟩=>h
theorem sw_wp {o:Oper}(h:o.wp P a w K (Sw K)):o.wp P a w K Q:=by
 unfold Oper.wp at *;generalize (execOp a.eval o).run P w=r at *;cases r with
 |
  ok n w' =>
  cases n <;> simp only[Oper.upon]at h ⊢ <;>
   first
    | exact h
    | exact Calls.mono h (λe sl he=>by cases e <;> first | exact he | exact absurd he id | exact absurd he Sw.noOut)
    | exact Rows.mono h (λ_ _ he=>he)
 |
  halt x w' =>
  cases x <;> simp only[Oper.upon]at h ⊢;exact absurd h id
variable {i:Nat}
theorem sw_op {o:Oper}(hi:ops[i]?=some o)(h:wpList P ops (Sw K) [o] a w):wpOp P ops Q i K a w:=by
 unfold wpOp;rw[hi];unfold wpList at h;show if _ then _ else _;split
 ·rename_i hw;rw[if_pos hw]at h;rcases h with h | ⟨_,h⟩
  ·exact .inl (sw_wp h)
  ·exact absurd h Sw.noOut
 ·rename_i hw;rw[if_neg hw]at h;exact h
def Zav (a:Act):List (Option Nat)->List Value->Act
 | d::ds,x::xs=>Zav (a.put d x) ds xs
 | _,_=>a
theorem Zqo (a:Act)(d:Nat)(x v:Value):(a.put (some d) x).put (some d) v=a.put (some d) v:=by
 simp[Act.put,Array.setIfInBounds_setIfInBounds]
theorem put_swap (a:Act)(d e:Option Nat)(x v:Value)(h:d≠e\/d=none):(a.put d x).put e v=(a.put e v).put d x:=by
 cases d with
 | none=>rfl
 |
  some d =>
  cases e with
  | none=>rfl
  |
   some e =>
   have cD:d≠e:=by
    rcases h with h | h
    ·intro hh;exact h (by rw[hh])
    ·cases h
   simp only[Act.put];rw[Array.setIfInBounds_comm _ _ cD]
def ZeD:List (Option Nat)->Bool
 | []=>true
 | d::ds=>(d==none || !ds.contains d) && ZeD ds
theorem Zqp (ds:List (Option Nat)):∀(a:Act) (xs:List Value) (d:Option Nat) (v:Value),(d=none\/d∉ds)->(Zav a ds xs).put d v=Zav (a.put d v) ds xs:=by
 induction ds with
 | nil=>intro a xs d v _;rfl
 |
  cons e ds ih =>
  intro a xs d v h;cases xs with
  | nil=>rfl
  |
   cons x xs =>
   show(Zav (a.put e x) ds xs).put d v=Zav ((a.put d v).put e x) ds xs;rw[ih _ _ _ _ (by rcases h with h | h;exact .inl h;exact .inr (λhh=>h (by simp[hh])))]
   rw[put_swap a e d x v (by
                rcases h with rfl | h;· cases e <;> simp
                ·left;rintro rfl;exact h (by simp))]
theorem Zm0 (ds:List (Option Nat))(hd:ZeD ds=true):∀(a:Act) (xs:List Value) (i:Nat) (d:Option Nat) (v:Value),xs.length=ds.length->ds[i]?=some d->(Zav a ds xs).put d v=Zav a ds (xs.set i v):=by
 induction ds with
 | nil=>intro a xs i d v _ h;simp at h
 |
  cons e ds ih =>
  unfold ZeD at hd;rw[QI,Q6]at hd;intro a xs i d v hl h;cases xs with
  | nil=>simp at hl
  |
   cons x xs =>
   cases i with
   |
    zero =>
    simp only[List.getElem?_cons_zero,Qi]at h;subst h;show(Zav (a.put e x) ds xs).put e v=Zav (a.put e v) ds xs
    rw[Zqp ds _ _ _ _ (by
                  rcases hd.1 with h | h;· left;simpa using h
                  ·right;simpa using h)]
    cases e with
    | none=>rfl
    | some e=>rw[Zqo]
   |
    succ i =>
    show(Zav (a.put e x) ds xs).put d v=Zav (a.put e x) ds (xs.set i v);exact ih hd.2 _ _ _ _ _ (by simpa using hl) (by simpa using h)
theorem ZlT (ds:List (Option Nat)):∀(a:Act),Zav a ds (ds.map λd=>match d with | some t=>a.tmps.getD t undef | none=>undef)=a:=by
 induction ds with
 | nil=>intro a;rfl
 |
  cons d ds ih =>
  intro a;have e:a.put d (match d with | some t=>a.tmps.getD t undef | none=>undef)=a:=by
   cases d with
   | none=>rfl
   |
    some t =>
    obtain⟨T,D⟩:=a;simp only[Act.put,Act.mk.injEq,and_true];apply Array.ext_getElem?;intro j;rw[Array.getElem?_setIfInBounds];split
    ·rename_i h;subst h;split
     ·rename_i h2;simp[Array.getD,h2]
     ·rename_i h2;rw[Array.getElem?_eq_none (by omega)]
    ·rfl
  show Zav (a.put d _) ds _=a;rw[e];exact ih a
def Zeu (ops:Array Oper):Bool:=
 ZeD (ops.toList.map (·.dst)) && (List.range ops.size).all λi=>((ops[i]?).map λo=>o.after.all λe=>decide (e.on<i)).getD false
def At (Ps:List (Value->World->Prop))(i:Nat)(v:Value)(w:World):Prop:=∀p,Ps[i]?=some p->p v w
def Zep (a:Act)(ds:List (Option Nat)):List Value:=ds.map λd=>match d with | some t=>a.tmps.getD t undef | none=>undef
def Zkj (o:Oper)(i n:Nat):Bool:=(List.range n).all λj=>j==i || o.after.any λe=>Region.binds .any e && e.on==j
def Zkk (P:Program)(ops:Array Oper)(Rl:World->World->Prop)(Ps:List (Value->World->Prop))(J:Nat->World->Prop)(a:Act)(i:Nat)(o:Oper):Prop:=
 ∀(xs:List Value) (w':World) (m:Nat),xs.length=ops.size->m<ops.size->J m w'->(Zkj o i ops.size=true->m+1=ops.size) ->
  (∀e∈o.after,Region.binds .any e=true->∀v,xs[e.on]?=some v->At Ps e.on v w') ->
  (∀(j:Nat) (o':Oper),ops[j]?=some o'->(j=i\/∃e∈o'.after,Region.binds .any e=true/\e.on=i)->xs[j]?=(Zep a (ops.toList.map (·.dst)))[j]?) ->
  ∀K:Act->World->Prop,(∀v sl,At Ps i v sl->Rl w' sl->J (m+1) sl->K ((Zav a (ops.toList.map (·.dst)) xs).put o.dst v) sl) ->
   wpList P ops (Sw K) [o] (Zav a (ops.toList.map (·.dst)) xs) w'
def cnt (n:Nat)(L:Array Bool):Nat:=(List.range n).countP λi=>L.getD i false
variable {L:Array Bool}{n:Nat}
theorem Zk4 (hi:i<n)(hs:L.size=n)(h:L.getD i true=false):cnt n (L.setIfInBounds i true)=cnt n L+1:=by
 have h':L.getD i false=false:=by
  simp only[Array.getD]at h ⊢;split at h
  ·rename_i h2;rw[dif_pos h2];exact h
  ·cases h
 have eg:∀l:List Nat,l.Nodup->(l.countP λj=>(L.setIfInBounds i true).getD j false)=(l.countP λj=>L.getD j false)+(if i∈l then 1 else 0):=by
  intro l;induction l with
  | nil=>intro _;simp
  |
   cons x l ih =>
   intro hn;rw[List.nodup_cons]at hn;rw[List.countP_cons,List.countP_cons,ih hn.2];by_cases e:x=i
   ·subst e;have h1:(L.setIfInBounds x true).getD x false=true:=(by simp[Array.getD,hs,hi]);rw[if_neg hn.1,h1,h',if_pos (by simp)];simp
   ·have h1:(L.setIfInBounds i true).getD x false=L.getD x false:=by
     have e':¬i=x:=λh=>e h.symm;simp only[Array.getD,Array.size_setIfInBounds];split
     ·rename_i hx;show(L.setIfInBounds i true)[x]'_=L[x]'_;rw[Array.getElem_setIfInBounds (by simpa using hx),if_neg e']
     ·rfl
    rw[h1];have h2:(i∈x::l) ↔ i∈l:=(by simp[Ne.symm e]);simp only[h2];omega
 unfold cnt;rw[eg _ List.nodup_range,if_pos (by simpa using hi)]
theorem Zjz (h:∀i,i<n->L.getD i false=true):cnt n L=n:=by
 unfold cnt;rw[List.countP_eq_length.2 (by intro i hi;exact h i (by simpa using hi)),List.length_range]
theorem Zm1 (hi:i<n)(h:L.getD i false=false):cnt n L<n:=by
 unfold cnt;have h1:=List.countP_le_length (p:=λi=>L.getD i false) (l:=List.range n);have h2:¬(List.range n).countP (λi=>L.getD i false)=(List.range n).length:=λe=>by
  have:=List.countP_eq_length.1 e i (by simpa using hi);simp[h]at this
 rw[List.length_range]at h1 h2;omega
theorem Zff (h:Zeu ops=true){i:Nat}{o:Oper}(hi:ops[i]?=some o):∀e∈o.after,e.on<i:=by
 unfold Zeu at h;rw[QI,Qk]at h;have af:=(Qg hi).1;have:=h.2 i (by simpa using af);rw[hi]at this;simp only[JM,Option.getD_some,Array.all_eq_true']at this;intro e he;simpa using this e he
structure RInv (ops:Array Oper)(Rl:World->World->Prop)(Ps:List (Value->World->Prop))(J:Nat->World->Prop)(a:Act)(L:Array Bool)(b:Act)(w:World)(xs:List Value):Prop where
 size:L.size=ops.size
 len:xs.length=ops.size
 act:b=Zav a (ops.toList.map (·.dst)) xs
 j:J (cnt ops.size L) w
 facts:∀i v,L.getD i false=true->xs[i]?=some v->At Ps i v w
 old:∀i,i<ops.size->L.getD i false=false->xs[i]?=(Zep a (ops.toList.map (·.dst)))[i]?
 closed:∀i o,ops[i]?=some o->L.getD i false=true->∀e∈o.after,Region.binds .any e=true->L.getD e.on false=true
theorem Zf3 (h:L.getD i true=false):L.getD i false=false:=by
 simp only[Array.getD]at h ⊢;split at h
 ·rename_i h2;rw[dif_pos h2];exact h
 ·cases h
theorem ZoU (hi:i<L.size)(h:L.getD i false=false):L.getD i true=false:=by
 simp only[Array.getD]at h ⊢;rw[dif_pos hi]at h ⊢;exact h
theorem Zgo {i j:Nat}(hi:i<L.size):(L.setIfInBounds i true).getD j false=(decide (j=i) || L.getD j false):=by
 simp only[Array.getD,Array.size_setIfInBounds];by_cases e:j=i
 ·subst e;rw[dif_pos hi];simp
 ·have e':¬i=j:=λh=>e h.symm;split
  ·rename_i hx;show(L.setIfInBounds i true)[j]'_=_;rw[Array.getElem_setIfInBounds (by simpa using hx),if_neg e'];simp[e]
  ·simp[e]
theorem ZgG {Q:Exit->Act->World->Prop}{id:Nat}{a:Act}(hm:P.follows .mixedOrders=true)(bQ:Zeu ops=true)
  (Rl:World->World->Prop) (Ps:List (Value->World->Prop)) (kh:∀p∈Ps,∀v w w',Rl w w'->p v w->p v w') (J:Nat->World->Prop)
  (hJ:J 0 { w with drawn:=w.drawn+1 })
  (step:∀i o,ops[i]?=some o->Zkk P ops Rl Ps J a i o)
  (done:∀(xs:List Value) (w':World),xs.length=ops.size->(∀i v,xs[i]?=some v->At Ps i v w')->J ops.size w'->Q .normal (Zav a (ops.toList.map (·.dst)) xs) w') :
  (Code.region id ops true).wp P Q a w:=by
 refine wp_region_any hm ?_;have hd:ZeD (ops.toList.map (·.dst))=true:=by unfold Zeu at bQ;rw[QI]at bQ;exact bQ.1
 have qh:∀(L:Array Bool),L.size=ops.size->Region.ready .any ops L=[]->∀i,i<ops.size->L.getD i false=true:=by
  intro L hL hr i;induction i using Nat.strongRecOn with
  |
   ind i ih =>
   intro hi;cases hb:L.getD i false with
   | true=>rfl
   |
    false =>
    exfalso;have hm:i∈Region.ready .any ops L:=by
     rw[mem_ready]
     exact⟨ZoU (by omega) hb,ops[i],Array.getElem?_eq_getElem hi,λe he _=>by
      have af:=Zff bQ (Array.getElem?_eq_getElem hi) e he
      exact ih e.on af (by omega)⟩
    rw[hr]at hm;cases hm
 have wn:∀(cS:Nat) (L:Array Bool) (b:Act) (w':World) (xs:List Value),cS+cnt ops.size L=ops.size->RInv ops Rl Ps J a L b w' xs->wpAny P .any ops Q cS L b w':=by
  intro cS;induction cS with
  |
   zero =>
   intro L b w' xs hf I;have az:∀i,i<ops.size->L.getD i false=true:=λi hi=>by
    cases hb:L.getD i false with
    | true=>rfl
    | false=>have:=Zm1 hi hb;omega
   refine⟨?_,?_⟩
   ·cases hr:Region.ready .any ops L with
    | nil=>rfl
    |
     cons i r =>
     have hi:i∈Region.ready .any ops L:=(by rw[hr];simp);rw[mem_ready]at hi;obtain⟨h0,o,ho,_⟩:=hi;have:=az i (Qg ho).1;rw[Zf3 h0]at this;cases this
   ·rw[I.act];refine done xs w' I.len (λi v hv=>I.facts i v (az i ?_) hv) (by have:=I.j;rwa [Zjz az]at this);have:=(Qq.1 hv).1;rw[I.len]at this;exact this
  |
   succ cS ih =>
   intro L b w' xs hf I;refine⟨λhr=>?_,λi hi=>?_⟩
   ·have az:=qh L I.size hr;rw[I.act];refine done xs w' I.len (λi v hv=>I.facts i v (az i ?_) hv) (by have:=I.j;rwa [Zjz az]at this);have:=(Qq.1 hv).1;rw[I.len]at this;exact this
   ·obtain⟨h0,o,ho,em⟩:=mem_ready.1 hi;have af:=(Qg ho).1;refine sw_op ho ?_;rw[I.act];refine step i o ho xs w' (cnt ops.size L) I.len (by have:=Zm1 af (Zf3 h0);exact this) I.j (λqi=>?_) (λe he hb v hv=>I.facts e.on v (em e he hb) hv) (λj o' yz hj=>?_) _ (λv sl h1 h2 h3=>?_)
    ·rw[←Zk4 af I.size h0];refine Zjz λj hj=>?_;rw[Zgo (by rw[I.size];exact af)];unfold Zkj at qi;rw[Qk]at qi;have:=qi j (by simpa using hj);rw[Q6,beq_iff_eq]at this;rcases this with e | e
     ·subst e;simp
     ·rw[Array.any_eq_true']at e;obtain⟨d,ta,jD⟩:=e;rw[QI,beq_iff_eq]at jD;rw[←jD.2,em d ta jD.1,Bool.or_true]
    ·refine I.old j (Qg yz).1 ?_;rcases hj with rfl | ⟨e,he,hb,hon⟩
     ·exact Zf3 h0
     ·cases hL:L.getD j false with
      | false=>rfl
      |
       true =>
       have:=I.closed j o' yz hL e he hb;rw[hon,Zf3 h0]at this;cases this
    ·have hds:(ops.toList.map (·.dst))[i]?=some o.dst:=(by simp[ho]);rw[Zm0 _ hd _ _ i _ _ (by simpa using I.len) hds];have zG:cnt ops.size (L.setIfInBounds i true)=cnt ops.size L+1:=Zk4 af I.size h0;refine ih _ _ _ (xs.set i v) (by omega) ⟨by simpa using I.size,by simpa using I.len,rfl,by rw[zG];exact h3,?_,?_,?_⟩
     ·intro j u hj hu;rw[Zgo (by rw[I.size];exact af)]at hj;rw[List.getElem?_set]at hu;by_cases e:i=j
      ·subst e;rw[if_pos rfl,if_pos (by rw[I.len];exact af)]at hu;cases hu;exact h1
      ·rw[if_neg e]at hu;have le:L.getD j false=true:=by
        rw[Q6,JT]at hj;exact hj.resolve_left λh=>e h.symm
       intro p hp;exact kh p (List.mem_of_getElem? hp) _ _ _ h2 (I.facts j u le hu p hp)
     ·intro j hj hL;rw[Zgo (by rw[I.size];exact af),JD,decide_eq_false_iff_not]at hL;rw[List.getElem?_set,if_neg (λh=>hL.1 h.symm)];exact I.old j hj hL.2
     ·intro j o' yz hL e he hb;rw[Zgo (by rw[I.size];exact af),Q6]at hL ⊢;rcases hL with hL | hL
      ·have:j=i:=(by simpa using hL);subst this;rw[ho]at yz;cases yz;exact .inr (em e he hb)
      ·exact .inr (I.closed j o' yz hL e he hb)
 refine wn ops.size _ _ _ (Zep a (ops.toList.map (·.dst))) ?_ ⟨by simp,by simp[Zep],(ZlT _ a).symm,?_,?_,λi _ _=>rfl,?_⟩;all_goals
  have hz:∀i,(Array.replicate ops.size false).getD i false=false:=by intro i;simp[Array.getD]
  have hc:cnt ops.size (Array.replicate ops.size false)=0:=by
   unfold cnt;rw[List.countP_eq_zero];intro i _;simp only[hz i];simp
 ·rw[hc];omega
 ·rw[hc];exact hJ
 ·intro i v h;rw[hz i]at h;cases h
 ·intro i o _ h;rw[hz i]at h;cases h
variable {xs:List Value}
theorem ZaE (h:xs.length=n+1):∃x t,xs=x::t/\t.length=n:=by
 cases xs with
 | nil=>simp at h
 | cons x t=>exact⟨x,t,rfl,by simpa using h⟩
theorem len1 (h:xs.length=1):∃x0,xs=[x0]:=by
 obtain⟨x,t,rfl,ht⟩:=ZaE (n:=0) h;exact⟨x,by rw[List.eq_nil_of_length_eq_zero ht]⟩
theorem len2 (h:xs.length=2):∃x0 x1,xs=[x0,x1]:=by
 obtain⟨x0,t,rfl,ht⟩:=ZaE (n:=1) h;obtain⟨x1,rfl⟩:=len1 ht;exact⟨x0,x1,rfl⟩
theorem len3 (h:xs.length=3):∃x0 x1 x2,xs=[x0,x1,x2]:=by
 obtain⟨x0,t,rfl,ht⟩:=ZaE (n:=2) h;obtain⟨x1,x2,rfl⟩:=len2 ht;exact⟨x0,x1,x2,rfl⟩
theorem len4 (h:xs.length=4):∃x0 x1 x2 x3,xs=[x0,x1,x2,x3]:=by
 obtain⟨x0,t,rfl,ht⟩:=ZaE (n:=3) h;obtain⟨x1,x2,x3,rfl⟩:=len3 ht;exact⟨x0,x1,x2,x3,rfl⟩
theorem len5 (h:xs.length=5):∃x0 x1 x2 x3 x4,xs=[x0,x1,x2,x3,x4]:=by
 obtain⟨x0,t,rfl,ht⟩:=ZaE (n:=4) h;obtain⟨x1,x2,x3,x4,rfl⟩:=len4 ht;exact⟨x0,x1,x2,x3,x4,rfl⟩
theorem len6 (h:xs.length=6):∃x0 x1 x2 x3 x4 x5,xs=[x0,x1,x2,x3,x4,x5]:=by
 obtain⟨x0,t,rfl,ht⟩:=ZaE (n:=5) h;obtain⟨x1,x2,x3,x4,x5,rfl⟩:=len5 ht;exact⟨x0,x1,x2,x3,x4,x5,rfl⟩
theorem len7 (h:xs.length=7):∃x0 x1 x2 x3 x4 x5 x6,xs=[x0,x1,x2,x3,x4,x5,x6]:=by
 obtain⟨x0,t,rfl,ht⟩:=ZaE (n:=6) h;obtain⟨x1,x2,x3,x4,x5,x6,rfl⟩:=len6 ht;exact⟨x0,x1,x2,x3,x4,x5,x6,rfl⟩
theorem len8 (h:xs.length=8):∃x0 x1 x2 x3 x4 x5 x6 x7,xs=[x0,x1,x2,x3,x4,x5,x6,x7]:=by
 obtain⟨x0,t,rfl,ht⟩:=ZaE (n:=7) h;obtain⟨x1,x2,x3,x4,x5,x6,x7,rfl⟩:=len7 ht;exact⟨x0,x1,x2,x3,x4,x5,x6,x7,rfl⟩
theorem len9 (h:xs.length=9):∃x0 x1 x2 x3 x4 x5 x6 x7 x8,xs=[x0,x1,x2,x3,x4,x5,x6,x7,x8]:=by
 obtain⟨x0,t,rfl,ht⟩:=ZaE (n:=8) h;obtain⟨x1,x2,x3,x4,x5,x6,x7,x8,rfl⟩:=len8 ht;exact⟨x0,x1,x2,x3,x4,x5,x6,x7,x8,rfl⟩
theorem len10 (h:xs.length=10):∃x0 x1 x2 x3 x4 x5 x6 x7 x8 x9,xs=[x0,x1,x2,x3,x4,x5,x6,x7,x8,x9]:=by
 obtain⟨x0,t,rfl,ht⟩:=ZaE (n:=9) h;obtain⟨x1,x2,x3,x4,x5,x6,x7,x8,x9,rfl⟩:=len9 ht;exact⟨x0,x1,x2,x3,x4,x5,x6,x7,x8,x9,rfl⟩
theorem len11 (h:xs.length=11):∃x0 x1 x2 x3 x4 x5 x6 x7 x8 x9 aV,xs=[x0,x1,x2,x3,x4,x5,x6,x7,x8,x9,aV]:=by
 obtain⟨x0,t,rfl,ht⟩:=ZaE (n:=10) h;obtain⟨x1,x2,x3,x4,x5,x6,x7,x8,x9,aV,rfl⟩:=len10 ht;exact⟨x0,x1,x2,x3,x4,x5,x6,x7,x8,x9,aV,rfl⟩
theorem len12 (h:xs.length=12):∃x0 x1 x2 x3 x4 x5 x6 x7 x8 x9 aV aU,xs=[x0,x1,x2,x3,x4,x5,x6,x7,x8,x9,aV,aU]:=by
 obtain⟨x0,t,rfl,ht⟩:=ZaE (n:=11) h;obtain⟨x1,x2,x3,x4,x5,x6,x7,x8,x9,aV,aU,rfl⟩:=len11 ht;exact⟨x0,x1,x2,x3,x4,x5,x6,x7,x8,x9,aV,aU,rfl⟩
theorem len13 (h:xs.length=13):∃x0 x1 x2 x3 x4 x5 x6 x7 x8 x9 aV aU aW,xs=[x0,x1,x2,x3,x4,x5,x6,x7,x8,x9,aV,aU,aW]:=by
 obtain⟨x0,t,rfl,ht⟩:=ZaE (n:=12) h;obtain⟨x1,x2,x3,x4,x5,x6,x7,x8,x9,aV,aU,aW,rfl⟩:=len12 ht;exact⟨x0,x1,x2,x3,x4,x5,x6,x7,x8,x9,aV,aU,aW,rfl⟩
theorem Zbo (h:xs.length=14):∃x0 x1 x2 x3 x4 x5 x6 x7 x8 x9 aV aU aW aZ,xs=[x0,x1,x2,x3,x4,x5,x6,x7,x8,x9,aV,aU,aW,aZ]:=by
 obtain⟨x0,t,rfl,ht⟩:=ZaE (n:=13) h;obtain⟨x1,x2,x3,x4,x5,x6,x7,x8,x9,aV,aU,aW,aZ,rfl⟩:=len13 ht;exact⟨x0,x1,x2,x3,x4,x5,x6,x7,x8,x9,aV,aU,aW,aZ,rfl⟩
theorem len15 (h:xs.length=15):∃x0 x1 x2 x3 x4 x5 x6 x7 x8 x9 aV aU aW aZ bF,xs=[x0,x1,x2,x3,x4,x5,x6,x7,x8,x9,aV,aU,aW,aZ,bF]:=by
 obtain⟨x0,t,rfl,ht⟩:=ZaE (n:=14) h;obtain⟨x1,x2,x3,x4,x5,x6,x7,x8,x9,aV,aU,aW,aZ,bF,rfl⟩:=Zbo ht;exact⟨x0,x1,x2,x3,x4,x5,x6,x7,x8,x9,aV,aU,aW,aZ,bF,rfl⟩
theorem len16 (h:xs.length=16):∃x0 x1 x2 x3 x4 x5 x6 x7 x8 x9 aV aU aW aZ bF bM,xs=[x0,x1,x2,x3,x4,x5,x6,x7,x8,x9,aV,aU,aW,aZ,bF,bM]:=by
 obtain⟨x0,t,rfl,ht⟩:=ZaE (n:=15) h;obtain⟨x1,x2,x3,x4,x5,x6,x7,x8,x9,aV,aU,aW,aZ,bF,bM,rfl⟩:=len15 ht;exact⟨x0,x1,x2,x3,x4,x5,x6,x7,x8,x9,aV,aU,aW,aZ,bF,bM,rfl⟩
theorem len17 (h:xs.length=17):∃x0 x1 x2 x3 x4 x5 x6 x7 x8 x9 aV aU aW aZ bF bM bP,xs=[x0,x1,x2,x3,x4,x5,x6,x7,x8,x9,aV,aU,aW,aZ,bF,bM,bP]:=by
 obtain⟨x0,t,rfl,ht⟩:=ZaE (n:=16) h;obtain⟨x1,x2,x3,x4,x5,x6,x7,x8,x9,aV,aU,aW,aZ,bF,bM,bP,rfl⟩:=len16 ht;exact⟨x0,x1,x2,x3,x4,x5,x6,x7,x8,x9,aV,aU,aW,aZ,bF,bM,bP,rfl⟩
theorem len18 (h:xs.length=18):∃x0 x1 x2 x3 x4 x5 x6 x7 x8 x9 aV aU aW aZ bF bM bP bT,xs=[x0,x1,x2,x3,x4,x5,x6,x7,x8,x9,aV,aU,aW,aZ,bF,bM,bP,bT]:=by
 obtain⟨x0,t,rfl,ht⟩:=ZaE (n:=17) h;obtain⟨x1,x2,x3,x4,x5,x6,x7,x8,x9,aV,aU,aW,aZ,bF,bM,bP,bT,rfl⟩:=len17 ht;exact⟨x0,x1,x2,x3,x4,x5,x6,x7,x8,x9,aV,aU,aW,aZ,bF,bM,bP,bT,rfl⟩
theorem len19 (h:xs.length=19):∃x0 x1 x2 x3 x4 x5 x6 x7 x8 x9 aV aU aW aZ bF bM bP bT cf,xs=[x0,x1,x2,x3,x4,x5,x6,x7,x8,x9,aV,aU,aW,aZ,bF,bM,bP,bT,cf]:=by
 obtain⟨x0,t,rfl,ht⟩:=ZaE (n:=18) h;obtain⟨x1,x2,x3,x4,x5,x6,x7,x8,x9,aV,aU,aW,aZ,bF,bM,bP,bT,cf,rfl⟩:=len18 ht;exact⟨x0,x1,x2,x3,x4,x5,x6,x7,x8,x9,aV,aU,aW,aZ,bF,bM,bP,bT,cf,rfl⟩
theorem len20 (h:xs.length=20):∃x0 x1 x2 x3 x4 x5 x6 x7 x8 x9 aV aU aW aZ bF bM bP bT cf cF,xs=[x0,x1,x2,x3,x4,x5,x6,x7,x8,x9,aV,aU,aW,aZ,bF,bM,bP,bT,cf,cF]:=by
 obtain⟨x0,t,rfl,ht⟩:=ZaE (n:=19) h;obtain⟨x1,x2,x3,x4,x5,x6,x7,x8,x9,aV,aU,aW,aZ,bF,bM,bP,bT,cf,cF,rfl⟩:=len19 ht;exact⟨x0,x1,x2,x3,x4,x5,x6,x7,x8,x9,aV,aU,aW,aZ,bF,bM,bP,bT,cf,cF,rfl⟩
theorem len21 (h:xs.length=21):∃x0 x1 x2 x3 x4 x5 x6 x7 x8 x9 aV aU aW aZ bF bM bP bT cf cF cP,xs=[x0,x1,x2,x3,x4,x5,x6,x7,x8,x9,aV,aU,aW,aZ,bF,bM,bP,bT,cf,cF,cP]:=by
 obtain⟨x0,t,rfl,ht⟩:=ZaE (n:=20) h;obtain⟨x1,x2,x3,x4,x5,x6,x7,x8,x9,aV,aU,aW,aZ,bF,bM,bP,bT,cf,cF,cP,rfl⟩:=len20 ht;exact⟨x0,x1,x2,x3,x4,x5,x6,x7,x8,x9,aV,aU,aW,aZ,bF,bM,bP,bT,cf,cF,cP,rfl⟩
theorem len22 (h:xs.length=22):∃x0 x1 x2 x3 x4 x5 x6 x7 x8 x9 aV aU aW aZ bF bM bP bT cf cF cP cW,xs=[x0,x1,x2,x3,x4,x5,x6,x7,x8,x9,aV,aU,aW,aZ,bF,bM,bP,bT,cf,cF,cP,cW]:=by
 obtain⟨x0,t,rfl,ht⟩:=ZaE (n:=21) h;obtain⟨x1,x2,x3,x4,x5,x6,x7,x8,x9,aV,aU,aW,aZ,bF,bM,bP,bT,cf,cF,cP,cW,rfl⟩:=len21 ht;exact⟨x0,x1,x2,x3,x4,x5,x6,x7,x8,x9,aV,aU,aW,aZ,bF,bM,bP,bT,cf,cF,cP,cW,rfl⟩
theorem len23 (h:xs.length=23):∃x0 x1 x2 x3 x4 x5 x6 x7 x8 x9 aV aU aW aZ bF bM bP bT cf cF cP cW dn,xs=[x0,x1,x2,x3,x4,x5,x6,x7,x8,x9,aV,aU,aW,aZ,bF,bM,bP,bT,cf,cF,cP,cW,dn]:=by
 obtain⟨x0,t,rfl,ht⟩:=ZaE (n:=22) h;obtain⟨x1,x2,x3,x4,x5,x6,x7,x8,x9,aV,aU,aW,aZ,bF,bM,bP,bT,cf,cF,cP,cW,dn,rfl⟩:=len22 ht;exact⟨x0,x1,x2,x3,x4,x5,x6,x7,x8,x9,aV,aU,aW,aZ,bF,bM,bP,bT,cf,cF,cP,cW,dn,rfl⟩
theorem len24 (h:xs.length=24):∃x0 x1 x2 x3 x4 x5 x6 x7 x8 x9 aV aU aW aZ bF bM bP bT cf cF cP cW dn dC,xs=[x0,x1,x2,x3,x4,x5,x6,x7,x8,x9,aV,aU,aW,aZ,bF,bM,bP,bT,cf,cF,cP,cW,dn,dC]:=by
 obtain⟨x0,t,rfl,ht⟩:=ZaE (n:=23) h;obtain⟨x1,x2,x3,x4,x5,x6,x7,x8,x9,aV,aU,aW,aZ,bF,bM,bP,bT,cf,cF,cP,cW,dn,dC,rfl⟩:=len23 ht;exact⟨x0,x1,x2,x3,x4,x5,x6,x7,x8,x9,aV,aU,aW,aZ,bF,bM,bP,bT,cf,cF,cP,cW,dn,dC,rfl⟩
theorem len25 (h:xs.length=25):∃x0 x1 x2 x3 x4 x5 x6 x7 x8 x9 aV aU aW aZ bF bM bP bT cf cF cP cW dn dC dS,xs=[x0,x1,x2,x3,x4,x5,x6,x7,x8,x9,aV,aU,aW,aZ,bF,bM,bP,bT,cf,cF,cP,cW,dn,dC,dS]:=by
 obtain⟨x0,t,rfl,ht⟩:=ZaE (n:=24) h;obtain⟨x1,x2,x3,x4,x5,x6,x7,x8,x9,aV,aU,aW,aZ,bF,bM,bP,bT,cf,cF,cP,cW,dn,dC,dS,rfl⟩:=len24 ht;exact⟨x0,x1,x2,x3,x4,x5,x6,x7,x8,x9,aV,aU,aW,aZ,bF,bM,bP,bT,cf,cF,cP,cW,dn,dC,dS,rfl⟩
theorem len26 (h:xs.length=26):∃x0 x1 x2 x3 x4 x5 x6 x7 x8 x9 aV aU aW aZ bF bM bP bT cf cF cP cW dn dC dS eh,xs=[x0,x1,x2,x3,x4,x5,x6,x7,x8,x9,aV,aU,aW,aZ,bF,bM,bP,bT,cf,cF,cP,cW,dn,dC,dS,eh]:=by
 obtain⟨x0,t,rfl,ht⟩:=ZaE (n:=25) h;obtain⟨x1,x2,x3,x4,x5,x6,x7,x8,x9,aV,aU,aW,aZ,bF,bM,bP,bT,cf,cF,cP,cW,dn,dC,dS,eh,rfl⟩:=len25 ht;exact⟨x0,x1,x2,x3,x4,x5,x6,x7,x8,x9,aV,aU,aW,aZ,bF,bM,bP,bT,cf,cF,cP,cW,dn,dC,dS,eh,rfl⟩
theorem Zbi (h:xs.length=27):∃x0 x1 x2 x3 x4 x5 x6 x7 x8 x9 aV aU aW aZ bF bM bP bT cf cF cP cW dn dC dS eh eX,xs=[x0,x1,x2,x3,x4,x5,x6,x7,x8,x9,aV,aU,aW,aZ,bF,bM,bP,bT,cf,cF,cP,cW,dn,dC,dS,eh,eX]:=by
 obtain⟨x0,t,rfl,ht⟩:=ZaE (n:=26) h;obtain⟨x1,x2,x3,x4,x5,x6,x7,x8,x9,aV,aU,aW,aZ,bF,bM,bP,bT,cf,cF,cP,cW,dn,dC,dS,eh,eX,rfl⟩:=len26 ht;exact⟨x0,x1,x2,x3,x4,x5,x6,x7,x8,x9,aV,aU,aW,aZ,bF,bM,bP,bT,cf,cF,cP,cW,dn,dC,dS,eh,eX,rfl⟩
def Zim (P:Program)(ops:Array Oper)(Rl:World->World->Prop)(Ps:List (Value->World->Prop))(J:Nat->World->Prop)(a:Act):Nat->List Oper->Prop
 | _,[]=>True
 | i,o::t=>Zkk P ops Rl Ps J a i o/\Zim P ops Rl Ps J a (i+1) t
theorem steps_of {Rl:World->World->Prop}{Ps:List (Value->World->Prop)}{J:Nat->World->Prop}{a:Act}:
  ∀(l:List Oper) (k:Nat),(∀j,l[j]?=ops[k+j]?)->Zim P ops Rl Ps J a k l->∀i o,k<=i->ops[i]?=some o->Zkk P ops Rl Ps J a i o:=by
 intro l;induction l with
 |
  nil =>
  intro k h _ i o hk hi;have:=h (i-k);rw[show k+(i-k)=i from by omega,hi]at this;simp at this
 |
  cons x t ih =>
  intro k h hs i o hk hi;by_cases e:i=k
  ·subst e;have h0:=h 0;rw[Q0,hi]at h0;simp only[List.getElem?_cons_zero,Qi]at h0;subst h0;exact hs.1
  ·exact ih (k+1) (λj=>by have:=h (j+1);rw[List.getElem?_cons_succ]at this;rw[this];congr 1;omega) hs.2 i o (by omega) hi
theorem ZlU {Rl:World->World->Prop}{Ps:List (Value->World->Prop)}{J:Nat->World->Prop}{a:Act}(h:Zim P ops Rl Ps J a 0 ops.toList):
  ∀i o,ops[i]?=some o->Zkk P ops Rl Ps J a i o:=λi o hi=>steps_of ops.toList 0 (λj=>by simp) h i o (JI _) hi
def Zg8 (fb:List Nat)(p:Value->World->Prop):Prop:=∀v w w',Kept fb w w'->p v w->p v w'
def ZoV (fb:List Nat):List (Value->World->Prop)->Prop
 | []=>True
 | p::t=>Zg8 fb p/\ZoV fb t
variable {fb:List Nat}
theorem ZjA:∀{Ps:List (Value->World->Prop)},ZoV fb Ps->∀p∈Ps,∀v w w',Kept fb w w'->p v w->p v w'
 | [],_,p,hp=>by cases hp
 |
  q::t,h,p,hp=>by
  rcases Q7.1 hp with rfl | hp
  ·exact h.1
  ·exact ZjA h.2 p hp
def Zfg (x:Value):Value->World->Prop:=λv _=>v=x
def Zc2 (M:Nat):Value->World->Prop:=λv _=>∃s:ByteArray,v=.string s/\s.size<=M
def pInt (n:Int):Value->World->Prop:=λv _=>∃r:Int,v=.int .i64 r/\0<=r/\r<n
def Zfy (fb:List Nat)(n M:Nat):Value->World->Prop:=λv w=>∃b,v=.slice (some ⟨b,0,none⟩) n n/\b∉fb/\b<w.heap.size/\∀j,j<n->∃s:ByteArray,w.cell? ⟨b,j,none⟩=some (.string s)/\s.size<=M
def pPtr (fb:List Nat)(M:Nat):Value->World->Prop:=λv w=>∃(b j:Nat) (s:ByteArray),v=.pointer (some ⟨b,j,none⟩)/\b∉fb/\b<w.heap.size/\w.cell? ⟨b,j,none⟩=some (.string s)/\s.size<=M
theorem ZiR (x:Value):Zg8 fb (Zfg x):=λ_ _ _ _ h=>h
theorem Zfz (M:Nat):Zg8 fb (Zc2 M):=λ_ _ _ _ h=>h
theorem stInt (n:Int):Zg8 fb (pInt n):=λ_ _ _ _ h=>h
theorem Zkl (n M:Nat):Zg8 fb (Zfy fb n M):=λv w w' hk ⟨b,h1,h2,h3,h4⟩ =>
 ⟨b,h1,h2,QW h3 hk.size,λj hj=>by
  obtain⟨s,h5,h6⟩:=h4 j hj
  exact⟨s,(hk.cell (p:=⟨b,j,none⟩) h3 h2).trans h5,h6⟩⟩
theorem stPtr (M:Nat):Zg8 fb (pPtr fb M):=λv w w' hk ⟨b,j,s,h1,h2,h3,h4,h5⟩ =>
 ⟨b,j,s,h1,h2,QW h3 hk.size,(hk.cell (p:=⟨b,j,none⟩) h3 h2).trans h4,h5⟩
theorem ZgH (L:List ByteArray)(M:Nat)(fb:List Nat)(w:World)(hM:∀s∈L,s.size<=M)(hr:∀b∈fb,b<w.heap.size)(n:Nat)(hn:L.length=n):
  Zfy fb n M (.slice (some ⟨w.heap.size,0,none⟩) n n) (w.alloc (.cells (L.map Value.string).toArray 9)):=by
 refine⟨w.heap.size,rfl,λh=>by have:=hr _ h;omega,by simp,λj hj=>⟨L[j]'(by omega),?_,hM _ (QE _)⟩⟩;rw[Qy _ _ _ _ rfl];simp[QJ (show j<L.length by omega)]
def jRd (rb p0:Nat)(w0:World)(m:Nat)(w:World):Prop:=(∃p,p<=p0+m/\Rd w rb p)/\Kept [rb] w0 w
variable {rb p0 m:Nat}
theorem jRd.same {w0 w:World}(h:jRd rb p0 w0 m w):jRd rb p0 w0 (m+1) w:=by
 obtain⟨⟨p,h1,h2⟩,h3⟩:=h;exact⟨⟨p,by omega,h2⟩,h3⟩
theorem jRd.alloc {w0 w:World}(h:jRd rb p0 w0 m w)(o:Obj):jRd rb p0 w0 (m+1) (w.alloc o):=by
 obtain⟨⟨p,h1,h2⟩,h3⟩:=h;have hb:=(QD w.heap.size w).alloc (QA _) o;exact⟨⟨p,by omega,h2.grow hb⟩,h3.trans (Kept.of_below hb)⟩
theorem jRd.lt {w0 w:World}(h:jRd rb p0 w0 m w):rb<w.heap.size:=by
 obtain⟨⟨p,h1,h2⟩,h3⟩:=h;exact h2.lt
theorem jRd.lts {w0 w:World}(h:jRd rb p0 w0 m w):∀b∈[rb],b<w.heap.size:=λb hb=>by
 have:b=rb:=by simpa using hb
 subst this;exact h.lt
theorem jRd.start {rb p:Nat}(h:Rd w rb p):jRd rb p w 0 { w with drawn:=w.drawn+1 }:=
 ⟨⟨p,by omega,⟨h.ex,h.hp⟩⟩,(Kept.refl [rb] w).drewN 1⟩
theorem At.mk {Ps:List (Value->World->Prop)}{i:Nat}{p:Value->World->Prop}{v:Value}{w:World}(h:Ps[i]?=some p)(hp:p v w):At Ps i v w:=by
 intro q hq;rw[h]at hq;cases hq;exact hp
theorem jRd.top {rb p0 m B:Nat}{w00 w0 w:World}(h:jRd rb p0 w0 m w)(hb:Below B w00 w0)(hr:B<=rb)(hs:B<=w0.heap.size):Below B w00 w:=ZeR hb h.2 hr hs
theorem own_kept {B e n rb:Nat}{v:Value}{w w':World}(h:w.ownsRow B e 1 v n xs)(hk:Kept [rb] w w')(hr:rb<B):w'.ownsRow B e 1 v n xs:=by
 refine⟨h.1,?_⟩;rcases h.2 with h0 | ⟨g,cap,cur,rfl,hb,hg,h1,h2,h3,h4⟩
 ·exact .inl h0
 ·exact .inr ⟨g,cap,cur,rfl,hb,(hk.block g (Qg hg).1 (by simp;omega)).trans hg,h1,h2,h3,h4⟩
def jOwn (rb p0:Nat)(w0:World)(B:Nat)(v:Value)(L:List ByteArray)(k N M:Nat)(m:Nat)(w:World):Prop:=
 (∃p,p<=p0+m/\Rd w rb p)/\Below w0.heap.size w0 w /\
  (w.ownsRow B 9 1 v L.length (L.map Value.string)\/m=N/\∃s:ByteArray,s.size<=M/\w.ownsRow B 9 1 v L.length ((L.set k s).map Value.string))
section
variable {rb p0 B k N M m:Nat}{w0 w w':World}{v:Value}{L:List ByteArray}
theorem jOwn.row (h:jOwn rb p0 w0 B v L k N M m w)(hm:m<N):w.ownsRow B 9 1 v L.length (L.map Value.string):=by
 rcases h.2.2 with h | ⟨h,_⟩
 ·exact h
 ·omega
theorem jOwn.alloc (h:jOwn rb p0 w0 B v L k N M m w)(hm:m<N)(o:Obj):jOwn rb p0 w0 B v L k N M (m+1) (w.alloc o):=by
 obtain⟨p,h1,h2⟩:=h.1;have hb:=(QD w.heap.size w).alloc (QA _) o;exact⟨⟨p,by omega,h2.grow hb⟩,h.2.1.alloc h.2.1.size o,.inl ((h.row hm).alloc o)⟩
theorem Rd.kept {rb p:Nat}{fp:List Nat}{w w':World}(h:Rd w rb p)(hk:Kept fp w w')(hf:∀b∈fp,rb<b):Rd w' rb p:=by
 have af:=h.lt;obtain⟨⟨a,l,cap,fq,h1,h2,h3,h4⟩,h5⟩:=h;refine⟨⟨a,l,cap,fq,(hk.block rb af (λhx=>by have:=hf rb hx;omega)).trans h1,(Zaa Zdi).kept h2 (λb hb hx=>by have:=hf b hx;have:=h3 b hb;omega) hk,h3,h4⟩,h5⟩
theorem jOwn.store {g cap n:Nat}{s:ByteArray}(h:jOwn rb p0 w0 B (.slice (some ⟨g,0,none⟩) n cap) L k N M m w)(hm:m<N)(hN:m+1=N)(hs:s.size<=M)(mC:rb<B)(hg:B<=g)(hw0:w0.heap.size<=B):
  jOwn rb p0 w0 B (.slice (some ⟨g,0,none⟩) n cap) L k N M (m+1) (w.setCell ⟨g,k,none⟩ (.string s)):=by
 obtain⟨p,h1,h2⟩:=h.1;have ai:=h.row hm;have hn:L.length=n:=by
  rcases ai.2 with⟨h',_⟩ | ⟨g',dF,cur,h',_⟩
  ·cases h'
  ·simp only[QT]at h';exact h'.2.1.symm
 subst hn;have hk:Kept [g] w (w.setCell ⟨g,k,none⟩ (.string s)):=(Kept.refl _ _).setCell (by simp) _;refine⟨⟨p,by omega,h2.kept hk (λb hb=>by have e:b=g:=(by simpa using hb);omega)⟩,h.2.1.trans (hk.below (λb hb=>by have e:b=g:=(by simpa using hb);omega) h.2.1.size),.inr ⟨hN,s,hs,?_⟩⟩;have:=(ai.stored k (.string s)).1;rw[List.map_set];exact this
end
end Go.Proofs.YtipfpppcbmpjiaaGreat
