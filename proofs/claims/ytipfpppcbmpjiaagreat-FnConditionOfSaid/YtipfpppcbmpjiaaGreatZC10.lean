/- Lemmas. -/
import Derived.Test.YtipfpppcbmpjiaaGreatZC9
import Derived.Deep.CutRange
import Derived.Lib.FrozenHead2
import Derived.Lib.OthersKept
import Derived.Lib.Builder
import Derived.Laws.Externs
import Derived.Lib.Join
set_option linter.unusedVariables false
set_option maxHeartbeats 16000000
set_option maxRecDepth 100000
set_option linter.unusedSimpArgs false
namespace Go.Proofs.YtipfpppcbmpjiaaGreat
open Go.RowKit
variable {l:List Tok}
theorem of_no (h:Zam l=false):macOf l=(Zc9,false):=by unfold macOf;rw[dif_neg (λx=>by rw[h]at x;exact absurd x.1 (by simp))]
theorem of_nil (h:¬0<l.length):macOf l=(Zc9,false):=by unfold macOf;rw[dif_neg (λx=>h x.2)]
theorem of_plain (h:Zam l=true)(h0:0<l.length)(ho:ZcQ l=false):macOf l=Zda ⟨l[0].text,false,[],Zbh l 1⟩:=by unfold macOf;rw[dif_pos ⟨h,h0⟩,if_neg (by simp[ho])]
theorem of_pno (h:Zam l=true)(h0:0<l.length)(ho:ZcQ l=true)(hp:Zcd l=none):macOf l=(Zc9,false):=by unfold macOf;rw[dif_pos ⟨h,h0⟩,if_pos ho,hp]
theorem of_pars (h:Zam l=true)(h0:0<l.length)(ho:ZcQ l=true){p:List ByteArray × Nat}(hp:Zcd l=some p):macOf l=Zda ⟨l[0].text,true,p.1,Zbh l p.2⟩:=by unfold macOf;rw[dif_pos ⟨h,h0⟩,if_pos ho,hp]
variable {m:DMacro}
theorem chk_no (h:Zaq m=false):Zda m=(Zc9,false):=by unfold Zda;rw[if_neg (by simp[h])]
theorem chk_yes (h:Zaq m=true):Zda m=(m,true):=by unfold Zda;rw[if_pos h]
theorem pat_le (l:List Tok)(k:Nat):∀p,parsAt l k=some p->p.2<=l.length:=by
 induction k using parsAt.induct (l:=l) with
 | case1 k h h1 h2=>intro p hp;rw[Zm5 h h1 h2]at hp;cases hp;show k+2<=_;omega
 |
  case2 k h h1 h2 h3 ih =>
  intro p hp;rw[Zm6 h h1 h2 h3,Option.map_eq_some_iff]at hp;obtain⟨q,hq,rfl⟩:=hp;exact ih q hq
 | case3 k h h1 h2 h3=>intro p hp;rw[Zm7 h h1 h2 h3]at hp;cases hp
 | case4 k h h1=>intro p hp;rw[ZoY h h1]at hp;cases hp
 | case5 k h=>intro p hp;rw[Zm8 h]at hp;cases hp
theorem pars_le {p:List ByteArray × Nat}(h:Zcd l=some p):p.2<=l.length:=by
 unfold Zcd at h;split at h
 ·split at h
  ·cases h;show 3<=_;omega
  ·exact pat_le l 2 p h
 ·cases h
theorem op_short (h:¬1<l.length):ZcQ l=false:=by unfold ZcQ;rw[dif_neg h]
theorem op_other (h:1<l.length)(h1:l[1].text≠openB):ZcQ l=false:=by unfold ZcQ;rw[dif_pos h,JQ h1];rfl
theorem Zqv (h:1<l.length)(h1:l[1].spaced=true):ZcQ l=false:=by unfold ZcQ;rw[dif_pos h,h1];simp
theorem op_yes (h:1<l.length)(h1:l[1].text=openB)(h2:l[1].spaced=false):ZcQ l=true:=by unfold ZcQ;rw[dif_pos h,JR h1,h2];rfl
theorem Zqw {n k:Nat}(h1:n<=k)(h2:k<l.length):(Zbh l n).take (k+1-n)=(Zbh l n).take (k-n)++[⟨l[k].kind,l[k].text,l[k].spaced && decide (n<k),[]⟩]:=by
 have hl:(Zbh l n).length=l.length-n:=ZdK l n;have hk:k-n<(Zbh l n).length:=by omega
 rw[show k+1-n=k-n+1 by omega,Qb hk,ZmQ];have e:n+(k-n)=k:=by omega
 simp only[e];have e2:decide (0<k-n)=decide (n<k):=decide_eq_decide.2 (by omega);rw[e2]
def MOf (l:List Tok)(w:World)(e:Ending)(w':World):Prop:=
 ∃(cs:List Value) (fp:List Nat),e=.returned (.tuple #[.agg cs.toArray,.bool (macOf l).2])/\sMacro.R w' cs (macOf l).1 fp/\Own w' w.heap.size fp/\Below w.heap.size w w'
variable {w w':World}
theorem Znb (h:macOf l=(Zc9,false))(hb:Below w.heap.size w w'):MOf l w (.returned (.tuple #[.agg #[.string ⟨#[]⟩,.bool false,.slice none 0 0,.slice none 0 0],.bool false])) w':=
 ⟨[.string ⟨#[]⟩,.bool false,.slice none 0 0,.slice none 0 0],[],by rw[h],by rw[h];exact⟨_,_,[],[],rfl,by show(0:Nat)<=_;simp[maxLen],Zao sStr _ _ _ (by simp),Zao sTok _ _ _ (by simp),rfl⟩,Own.nil _ _,hb⟩
theorem mof_yes {cs:List Value}{fp:List Nat}(h:macOf l=(m,true))(hR:sMacro.R w' cs m fp)(ho:Own w' w.heap.size fp)(hb:Below w.heap.size w w'):MOf l w (.returned (.tuple #[.agg cs.toArray,.bool true])) w':=
 ⟨cs,fp,by rw[h],by rw[h];exact hR,ho,hb⟩
theorem Zhx {α:Type}{S:Shape α}{base:Nat}{e:TypeId}{v:Value}{L:List (Elem α)}{w:World}(h:RowE S base e v L w)(hf:∀x∈L,x.fp=[]):∃fp,(Zaa S).R w [v] (L.map (·.d)) fp/\Own w base fp:=by
 obtain⟨fp,h1,_,h3⟩:=Zbt h.row λx hx=>⟨h.len x hx,h.el x hx⟩;have e0:L.flatMap (·.fp)=[]:=by rw[List.flatMap_eq_nil_iff];exact hf
 rw[e0]at h3;exact⟨fp,h1,h3 (Own.nil _ _) (by simp)⟩
variable {g:Prop}
theorem Zc6 (h:g:=by
 obtain⟨x0,x1,x2,x3,x4,x5,x6,x7,x8,x9,aV,aU,aW,aZ,bF,bM,bP,bT,cf,cF,cP,cW,dn,dC,dS,eh,eX,rfl⟩:=Zbi hl;obtain⟨q3,e0,e1,e2⟩:=hB;clear hd;simp only[Zav,Qp,QL,QN]at hK ⊢;go_wp2
 exact hK _ (λu hu=>by simpa using hu)):g:=h
theorem Y10A2 (h:g:=by
 clear gT;have f17:xs[17]?=some (.bool false):=hd ⟨17,.guard⟩ (by simp) rfl (by decide) (by decide) (by decide) _ rfl;clear hd;obtain⟨x0,x1,x2,x3,x4,x5,x6,x7,x8,x9,aV,aU,aW,aZ,bF,bM,bP,bT,cf,cF,cP,cW,dn,dC,dS,eh,eX,ix⟩:=Zbi hl;have uE:bT=.bool false:=by rw[ix]at f17;simpa using f17
 rw[uE]at ix;clear hl f17 uE;refine sw_skip ?_ (hK _ (λu hu=>by simp at hu));rw[ix]
 kernel_rfl):g:=h
theorem Y10A3 (h:g:=by
 clear hv;obtain⟨z0,dT,z1,dU,z2,dV,z3,dW⟩:=Q8 HZ.out;have HS:=Qh (Zai (Zai (Zai (Zai HZ.out 0 (.string ⟨#[]⟩)) 1 (.bool false)) 2 (.slice none 0 0)) 3 (.slice none 0 0));have dM:=Qh ((((aY.setCell (p:=⟨w.heap.size,0,none⟩) (QA _) (.string ⟨#[]⟩)).setCell (p:=⟨w.heap.size,1,none⟩) (QA _) (.bool false)).setCell (p:=⟨w.heap.size,2,none⟩) (QA _) (.slice none 0 0)).setCell (p:=⟨w.heap.size,3,none⟩) (QA _) (.slice none 0 0));go_wp2;refine JV (Zat rfl _ _ w.heap.size _ _ _ _ rfl HS.out Tryz.underlying56 rfl (by kernel_rfl)) rfl ?_
 exact Znb HF.out dM.out):g:=h
theorem Y10A4 (h:g:=by
 clear gT;have f17:xs[17]?=some (.bool true):=hd ⟨17,.guard⟩ (by simp) rfl (by decide) (by decide) (by decide) _ rfl;clear hd;obtain⟨x0,x1,x2,x3,x4,x5,x6,x7,x8,x9,aV,aU,aW,aZ,bF,bM,bP,bT,cf,cF,cP,cW,dn,dC,dS,eh,eX,ix⟩:=Zbi hl;have uE:bT=.bool true:=by rw[ix]at f17;simpa using f17
 rw[uE]at ix;clear hl f17 uE;obtain⟨q3,e0,e1,e2⟩:=hB;simp only[ix,Zav,Act.put,QL,QN,List.setIfInBounds_toArray,List.set_cons_succ,List.set_cons_zero]at hK ⊢;refine Zg7 (by kernel_rfl) ?_;go_wp2
 exact hK _ (λu hu=>by simpa using hu)):g:=h
theorem Y10A5 (h:g:=by
 obtain⟨x0,x1,x2,x3,x4,x5,x6,x7,x8,x9,aV,aU,aW,aZ,bF,bM,bP,bT,cf,cF,cP,cW,dn,dC,dS,eh,eX,rfl⟩:=Zbi hl;obtain rfl:aW=.slice (some ⟨b1,ae,none⟩) l.length cap:=by simpa using hd ⟨12,.data⟩ (by simp) rfl (by decide) (by decide) (by decide) _ rfl
 obtain rfl:aZ=.int .i64 (k:Int):=by simpa using hd ⟨13,.data⟩ (by simp) rfl (by decide) (by decide) (by decide) _ rfl
 obtain⟨q3,e0,e1,e2⟩:=hB;clear hd;simp only[Zav,Qp,QL,QN]at hK ⊢;go_wp2
 exact hK _ (λu hu=>by simpa using hu)):g:=h
theorem Y10A6 (h:g:=by
 obtain⟨x0,x1,x2,x3,x4,x5,x6,x7,x8,x9,aV,aU,aW,aZ,bF,bM,bP,bT,cf,cF,cP,cW,dn,dC,dS,eh,eX,rfl⟩:=Zbi hl;obtain rfl:x2=.slice (some ⟨b1,ae,none⟩) l.length cap:=by simpa using hd ⟨2,.data⟩ (by simp) rfl (by decide) (by decide) (by decide) _ rfl
 obtain rfl:x3=.int .i64 (k:Int):=by simpa using hd ⟨3,.data⟩ (by simp) rfl (by decide) (by decide) (by decide) _ rfl
 obtain⟨q3,e0,e1,e2⟩:=hB;clear hd;simp only[Zav,Qp,QL,QN]at hK ⊢;go_wp2
 exact hK _ (λu hu=>by simpa using hu)):g:=h
theorem Y10A7 (h:g:=by
 obtain⟨x0,x1,x2,x3,x4,x5,x6,x7,x8,x9,aV,aU,aW,aZ,bF,bM,bP,bT,cf,cF,cP,cW,dn,dC,dS,eh,eX,rfl⟩:=Zbi hl;obtain rfl:x7=.slice (some ⟨b1,ae,none⟩) l.length cap:=by simpa using hd ⟨7,.data⟩ (by simp) rfl (by decide) (by decide) (by decide) _ rfl
 obtain rfl:x8=.int .i64 (k:Int):=by simpa using hd ⟨8,.data⟩ (by simp) rfl (by decide) (by decide) (by decide) _ rfl
 obtain⟨q3,e0,e1,e2⟩:=hB;clear hd;simp only[Zav,Qp,QL,QN]at hK ⊢;go_wp2
 exact hK _ (λu hu=>by simpa using hu)):g:=h
theorem Y10A8 (h:g:=by
 have kb:∀b,b<wc.heap.size->u.heap[b]?=wr.heap[b]?:=λb hb=>hg.block b (show b<wr.heap.size by omega) (λhe=>by have:=ag b he.symm;omega)
 exact⟨(Qu (a:=⟨w2.heap.size,3,none⟩) (kb w2.heap.size (by omega))).trans q3,(Qu (a:=⟨b1,ae+k*4,none⟩) (kb b1 (by omega))).trans e0,(Qu (a:=⟨b1,ae+k*4+1,none⟩) (kb b1 (by omega))).trans e1,(Qu (a:=⟨b1,ae+k*4+2,none⟩) (kb b1 (by omega))).trans e2⟩):g:=h
theorem Y10A9 (h:g:=by
 obtain⟨x0,x1,x2,x3,x4,x5,x6,x7,x8,x9,aV,aU,aW,aZ,bF,bM,bP,bT,cf,cF,cP,cW,dn,dC,dS,eh,eX,rfl⟩:=Zbi hl;obtain rfl:aV=.pointer (some ⟨b1,ae+k*4+1,none⟩):=by simpa using hd ⟨10,.data⟩ (by simp) rfl (by decide) (by decide) (by decide) _ rfl
 obtain⟨q3,e0,e1,e2⟩:=hB;clear hd;simp only[Zav,Qp,QL,QN]at hK ⊢;go_wp2
 exact hK _ (λu hu=>by simpa using hu)):g:=h
theorem Y10A10 (h:g:=by
 obtain⟨x0,x1,x2,x3,x4,x5,x6,x7,x8,x9,aV,aU,aW,aZ,bF,bM,bP,bT,cf,cF,cP,cW,dn,dC,dS,eh,eX,rfl⟩:=Zbi hl;obtain rfl:bM=.pointer (some ⟨b1,ae+k*4+2,none⟩):=by simpa using hd ⟨15,.data⟩ (by simp) rfl (by decide) (by decide) (by decide) _ rfl
 obtain⟨q3,e0,e1,e2⟩:=hB;clear hd;simp only[Zav,Qp,QL,QN]at hK ⊢;go_wp2
 exact hK _ (λu hu=>by simpa using hu)):g:=h
theorem Y10A11 (h:g:=by
 obtain⟨x0,x1,x2,x3,x4,x5,x6,x7,x8,x9,aV,aU,aW,aZ,bF,bM,bP,bT,cf,cF,cP,cW,dn,dC,dS,eh,eX,rfl⟩:=Zbi hl;obtain rfl:bF=.pointer (some ⟨b1,ae+k*4,none⟩):=by simpa using hd ⟨14,.data⟩ (by simp) rfl (by decide) (by decide) (by decide) _ rfl
 obtain⟨q3,e0,e1,e2⟩:=hB;clear hd;simp only[Zav,Qp,QL,QN]at hK ⊢;go_wp2
 exact hK _ (λu hu=>by simpa using hu)):g:=h
theorem Y10A12 (h:g:=by
 obtain⟨x0,x1,x2,x3,x4,x5,x6,x7,x8,x9,aV,aU,aW,aZ,bF,bM,bP,bT,cf,cF,cP,cW,dn,dC,dS,eh,eX,rfl⟩:=Zbi hl;obtain rfl:x4=.pointer (some ⟨b1,ae+k*4,none⟩):=by simpa using hd ⟨4,.data⟩ (by simp) rfl (by decide) (by decide) (by decide) _ rfl
 obtain⟨q3,e0,e1,e2⟩:=hB;clear hd;simp only[Zav,Qp,QL,QN]at hK ⊢;go_wp2
 exact hK _ (λu hu=>by simpa using hu)):g:=h
theorem Znc (v:Value)(l:List Tok)(fp:List Nat)(w:World)(hl:l.length<=1048576)(hx:∀k,(hk:k<l.length)->l[k].hidden.length<=2000000)(H:(Zaa sTok).R w [v] l fp):
  Calls Tryz.prog 76 #[v] w (MOf l w):=by
 have cI:=Zab w (.cells #[.string ⟨#[]⟩,.bool false,.slice none 0 0,.slice none 0 0] 56);have HZ:=Qh (JS w (.cells #[.string ⟨#[]⟩,.bool false,.slice none 0 0,.slice none 0 0] 56));have uF:=Qh (Zh5 v l fp _ hl hx ((Zaa sTok).below H cI));clear H hx;go_enter Tryz.func76,Tryz.ntmps76;go_wp2_with fail
 refine uF.out.mono ?_;rintro e w1⟨v1,de,rfl,HL,aG⟩;have cq:=cI.trans (aG.mono cI.size);replace HZ:=Qh (Zag HZ.out aG);clear aG cI uF;have HV:=Qh (ZbC v1 l de w1 HL);obtain⟨a,cap,rfl,hc,hm,ai⟩:=Zac HL;unfold maxLen at hm;go_wp2_with fail
 refine HV.out.mono ?_;rintro e w2⟨rfl,aF⟩;have aY:=cq.trans (aF.mono cq.size);replace HZ:=Qh (Zag HZ.out aF);have gR:=Qh ((Zaa sTok).below HL aF);clear HL HV;cases hv:Zam l
 ·have HF:=Qh (of_no hv);exact Y10A3
 by_cases h0:0<l.length;rotate_left
 ·have HF:=Qh (of_nil h0);have hz:l.length=0:=by omega
  have dQ:((l.length:Int)==0)=true:=by simp[QU.1 hz]
  exact Y10A3
 have je:=(Zay hv).1;have dQ:((l.length:Int)==0)=false:=by simp;intro h;rw[h]at h0;exact absurd h0 (by simp)
 have dZ:(0:Int)<(l.length:Int):=by omega
 obtain⟨b1,ae,dt,rfl,Ao,-,bj⟩:=ai h0;obtain⟨nm,iS⟩:∃s:ByteArray,Hid (s=(l[0]'h0).text):=⟨_,rfl⟩;have Ap:Hid (∀i,(hi:i<l.length)->∃hh,ElemAt w2 b1 ae 4 i [.int .i64 l[i].kind,.string l[i].text,.bool l[i].spaced,hh]/\Zb3 l[i].kind/\ZaC l[i].text):=λi hi=>by
  obtain⟨es,hE,hR⟩:=bj i hi;obtain⟨hh,rfl,k1,k2,-⟩:=hR;exact⟨hh,hE.frame (aF.block b1 Ao),k1,k2⟩
 have Aq:b1<w2.heap.size:=QW Ao aF.size;have hb1l:w1.heap.size<=w2.heap.size:=aF.size;have okn:ZaC nm:=by rw[iS.out];obtain⟨_,_,_,h⟩:=Ap.out 0 h0;exact h
 clear ai bj aF;have c01:w2.cell? ⟨b1,ae+1,none⟩=some (.string nm):=by
  rw[iS.out];obtain⟨hh,hE,_,_⟩:=Ap.out 0 h0;have:=Zae (i:=0) (j:=1) hE (by decide) rfl;simpa using this
 have bW:=Zab w2 (.cells #[.string nm,.bool false,.slice none 0 0,.slice none 0 0] 56);have jR:=Qh (JS w2 (.cells #[.string nm,.bool false,.slice none 0 0,.slice none 0 0] 56));have bi:(w2.alloc (.cells #[.string nm,.bool false,.slice none 0 0,.slice none 0 0] 56)).heap.size=w2.heap.size+1:=QR _;have oP:=Qh bi;have tw:=aY.trans (bW.mono aY.size);have d5:=Qh (Zag HZ.out bW);have hg0:=mlt HZ.out;have tA:=Qh ((Zaa sTok).below gR.out bW);have mE:=Qh hv;have dG:1<l.length->((w2.alloc (.cells #[.string nm,.bool false,.slice none 0 0,.slice none 0 0] 56)).cell? ⟨b1,ae+4+1,none⟩=some (.string (l[1]?.getD (⟨0,⟨#[]⟩,false,[]⟩:Tok)).text)/\(w2.alloc (.cells #[.string nm,.bool false,.slice none 0 0,.slice none 0 0] 56)).cell? ⟨b1,ae+4+2,none⟩=some (.bool (l[1]?.getD (⟨0,⟨#[]⟩,false,[]⟩:Tok)).spaced)):=λh1=>by
  obtain⟨hh,hE,_,_⟩:=Ap.out 1 h1;have hE':=hE.frame (bW.block b1 Aq);rw[QJ h1];exact⟨by have:=Zae (i:=1) (j:=1) hE' (by decide) rfl;simpa using this,by have:=Zae (i:=1) (j:=2) hE' (by decide) rfl;simpa using this⟩
 replace dG:=Qh dG;clear hv bi;go_upto_region 6 with fail
 go_cut [41] from 25 to 41 (λc wx=>c=.bool (ZcQ l)/\wx=(w2.alloc (.cells #[.string nm,.bool false,.slice none 0 0,.slice none 0 0] 56)))
 case first =>
  by_cases h1:1<l.length
  ·have h11:(1:Int)<(l.length:Int):=(by omega);obtain⟨dL,dh⟩:=dG.out h1;rw[QJ h1]at dL dh;simp only[Option.getD_some]at dL dh;by_cases h2:l[1].text=openB
   ·have e2:=ZbH (l:=[40]) h2;cases h3:l[1].spaced
    ·rw[h3]at dh;have HO:=Qh (op_yes h1 h2 h3);clear h2 h3;go_wp2;go_meet;case rel=>exact⟨by rw[HO.out],rfl⟩
    ·rw[h3]at dh;have HO:=Qh (Zqv h1 h3);clear h2 h3;go_wp2;go_meet;case rel=>exact⟨by rw[HO.out],rfl⟩
   ·have e2:=ZbI (l:=[40]) h2;have HO:=Qh (op_other h1 h2);clear h2;go_wp2;go_meet;case rel=>exact⟨by rw[HO.out],rfl⟩
  ·have h11:¬(1:Int)<(l.length:Int):=(by omega);have HO:=Qh (op_short h1);go_wp2;go_meet;case rel=>exact⟨by rw[HO.out],rfl⟩
 case rest =>
  obtain⟨rfl,rfl⟩:=hcut
  go_upto_if 41 with fail
  go_cut [5] from 6 to 54 (λc wx=>∃(n:Nat) (fn:Bool) (ap:Option Addr) (cp:Nat) (ps:List ByteArray) (oV:List Nat),c=.int .i64 n/\n<=l.length/\Hid (macOf l=Zda ⟨nm,fn,ps,Zbh l n⟩)/\Hid (wx.heap[w2.heap.size]?=some (.cells #[.string nm,.bool fn,.slice ap ps.length cp,.slice none 0 0] 56 (0,0)))/\Hid ((Zaa sStr).R wx [.slice ap ps.length cp] ps oV)/\Hid (Own wx (w2.heap.size+1) oV)/\Hid (Kept [w2.heap.size] (w2.alloc (.cells #[.string nm,.bool false,.slice none 0 0,.slice none 0 0] 56)) wx))
  case first =>
   have gd:=Qh (Zmx _ l _ _ je tA.out);cases ho:ZcQ l
   ·have HF:=Qh (of_plain mE.out h0 ho);rw[←iS.out]at HF;clear ho;go_wp2;go_meet;case rel=>exact⟨1,false,none,0,[],[],rfl,by omega,HF,jR.out,Zao sStr _ _ _ (by simp),Own.nil _ _,Kept.refl _ _⟩
   ·have kw:=Qh ho;clear ho;cases hp:Zcd l with
    |
     none =>
     unfold Zko at gd;rw[ZgY hp]at gd;have HF:=Qh (of_pno mE.out h0 kw.out hp);clear hp;go_wp2_with fail
     refine gd.out.mono ?_;rintro e w3⟨pv,oV,rfl,-,-,aC⟩;have aQ:=tw.trans (aC.mono tw.size);have sw:=Qh (Zag d5.out aC);clear aC;obtain⟨z0,dT,z1,dU,z2,dV,z3,dW⟩:=Q8 sw.out;have HS:=Qh (Zai (Zai (Zai (Zai sw.out 0 (.string ⟨#[]⟩)) 1 (.bool false)) 2 (.slice none 0 0)) 3 (.slice none 0 0));have dM:=Qh ((((aQ.setCell (p:=⟨w.heap.size,0,none⟩) (QA _) (.string ⟨#[]⟩)).setCell (p:=⟨w.heap.size,1,none⟩) (QA _) (.bool false)).setCell (p:=⟨w.heap.size,2,none⟩) (QA _) (.slice none 0 0)).setCell (p:=⟨w.heap.size,3,none⟩) (QA _) (.slice none 0 0));go_wp2;refine JV (Zat rfl _ _ w.heap.size _ _ _ _ rfl HS.out Tryz.underlying56 rfl (by kernel_rfl)) rfl ?_;exact Znb HF.out dM.out
    |
     some p =>
     obtain⟨ps,n⟩:=p;have yH:n<=l.length:=pars_le hp;unfold Zko at gd;rw[ZgX hp]at gd;have HF:=Qh (of_pars mE.out h0 kw.out hp);rw[←iS.out]at HF;clear hp;go_wp2_with fail
     refine gd.out.mono ?_;rintro e w3⟨pv,oV,rfl,hPR,hPO,aC⟩;rw[oP.out]at hPO;have mG:=Zag jR.out aC;obtain⟨ap,cp,rfl,-⟩:=Zaf hPR;have d4:w2.heap.size∉oV:=λhx=>(by have:=(hPO.2 _ hx).1;omega);have c31:=Qc 1 mG;have c32:=Qc 2 mG;have f31:=Qf 1 mG;have f32:=Qf 2 mG;have HMF:=Qh (Zai (Zai mG 1 (.bool true)) 2 (.slice ap ps.length cp));have HPF:=Qh ((Zaa sStr).setB ((Zaa sStr).setB hPR d4 1 (.bool true)) d4 2 (.slice ap ps.length cp));have l4:=Qh ((hPO.setCell ⟨w2.heap.size,1,none⟩ (.bool true)).setCell ⟨w2.heap.size,2,none⟩ (.slice ap ps.length cp));have Ar:=Qh (((Kept.of_below (fp:=[w2.heap.size]) aC).setCell (p:=⟨w2.heap.size,1,none⟩) (by simp) (.bool true)).setCell (p:=⟨w2.heap.size,2,none⟩) (by simp) (.slice ap ps.length cp));have ly:¬(n:Int)<0:=(by omega);clear hPR hPO mG aC d4;go_wp2;go_meet;case rel=>exact⟨n,true,ap,cp,ps,oV,rfl,yH,HF,HMF.out,HPF,l4,Ar⟩
  case rest =>
   obtain⟨n,fn,ap,cp,ps,oV,rfl,hn,HF,HM,HP,HO,HK⟩:=hcut;have cC:=HK.out.size;rw[oP.out]at cC;have HBc:=Qh (tw.trans (HK.out.below (lo:=w.heap.size) (by intro b hb;have e:b=w2.heap.size:=(by simpa using hb);omega) (by rw[oP.out];omega)));have HZc:=Qh ((HK.out.block w.heap.size (by rw[oP.out];omega) (by simp;omega)).trans d5.out);have HEc:Hid (∀i,(hi:i<l.length)->∃hh,ElemAt wc b1 ae 4 i [.int .i64 l[i].kind,.string l[i].text,.bool l[i].spaced,hh]/\Zb3 l[i].kind/\ZaC l[i].text):=λi hi=>by
    obtain⟨hh,hE,k1,k2⟩:=Ap.out i hi;exact⟨hh,(hE.frame (bW.block b1 Aq)).frame (HK.out.block b1 (by rw[oP.out];omega) (by simp;omega)),k1,k2⟩
   have As:=Qh (RowE.nil sTok wc.heap.size 32 wc);have HPlt:Hid (∀b∈oV,b<wc.heap.size):=(Zaa sStr).lt HP.out;have HPn:Hid (w2.heap.size∉oV):=λhx=>(by have:=(HO.out.2 _ hx).1;omega);clear Ap tA jR d5 dG gR HZ bW tw cq aY c01 HK mE;go_wp2_with fail
   go_loopw [8] (λi wr=>∃(k:Nat) (vb:Value) (L:List (Elem Tok)),n<=k/\k<=l.length/\i=.int .i64 k/\Hid (L.length=k-n)/\Hid (wr.heap[w2.heap.size]?=some (.cells #[.string nm,.bool fn,.slice ap ps.length cp,vb] 56 (0,0)))/\Hid (RowE sTok wc.heap.size 32 vb L wr)/\Hid (L.map (·.d)=(Zbh l n).take (k-n))/\Hid (∀x∈L,x.fp=[])/\Hid (Kept [w2.heap.size] wc wr)) (λi _=>l.length-(intOf i).toNat)
   case atStart=>exact⟨n,_,[],by omega,hn,rfl,by show _=_;simp,HM,As,by show _=_;simp,by intro x hx;simp at hx,Kept.refl _ _⟩
   case round =>
    obtain⟨k,vb,L,qO,hkl,rfl,oW,l5,HE,HD,da,l6⟩:=hrel;obtain⟨ab,cb,rfl,-⟩:=HE.out.val;have hszr:=l6.out.size;by_cases af:k<l.length
    ·obtain⟨hh,hE,ki,ks⟩:=HEc.out k af;have hEr:=hE.frame (l6.out.block b1 (by omega) (by simp;omega));have q3:=Qc 3 l5.out;have e0:wr.cell? ⟨b1,ae+k*4,none⟩=some (.int .i64 l[k].kind):=ZaB hEr (by decide) rfl;have e1:wr.cell? ⟨b1,ae+k*4+1,none⟩=some (.string l[k].text):=Zae (j:=1) hEr (by decide) rfl;have e2:wr.cell? ⟨b1,ae+k*4+2,none⟩=some (.bool l[k].spaced):=Zae (j:=2) hEr (by decide) rfl;have HKI:=Qh (And.intro ki ks);have HT:=Qh (Zqw qO af);have HEd:Hid (RowE sTok wc.heap.size 32 (.slice ab L.length cb) L ({ wr with drawn:=wr.drawn+1 }:World)):=HE.out.same λ_ _ _=>rfl;have ag:∀b,(Value.slice ab L.length cb).ownBlock=some b->wc.heap.size<=b:=HE.out.mine;clear hE hEr hh ki ks;cases iD:l[k].spaced
     ·rw[iD]at e2 HT;clear iD;go_wp2;refine Zh0 (P:=Tryz.prog) (by kernel_rfl) (by kernel_rfl) 23 24 26 (by kernel_rfl) (by kernel_rfl) (by decide) (by decide) rfl rfl rfl [some (.pointer (some ⟨w2.heap.size,3,none⟩)),some (.slice ab L.length cb),some (.slice (some ⟨b1,ae,none⟩) l.length cap),some (.int .i64 (k:Int)),some (.pointer (some ⟨b1,ae+k*4,none⟩)),some (.pointer (some ⟨b1,ae+k*4,none⟩)),some (.int .i64 l[k].kind),some (.slice (some ⟨b1,ae,none⟩) l.length cap),some (.int .i64 (k:Int)),some (.pointer (some ⟨b1,ae+k*4,none⟩)),some (.pointer (some ⟨b1,ae+k*4+1,none⟩)),some (.string l[k].text),some (.slice (some ⟨b1,ae,none⟩) l.length cap),some (.int .i64 (k:Int)),some (.pointer (some ⟨b1,ae+k*4,none⟩)),some (.pointer (some ⟨b1,ae+k*4+2,none⟩)),some (.bool false),some (.bool false),none,none,none,some (.bool false),some (.agg #[.int .i64 l[k].kind,.string l[k].text,.bool false,.slice none 0 0]),none,none,some (.pointer (some ⟨w2.heap.size,3,none⟩)),none] (.slice (some ⟨wr.heap.size,0,none⟩) 1 1) ((({ wr with drawn:=wr.drawn+1 }:World).alloc (.cells #[.int .i64 l[k].kind,.string l[k].text,.bool false,.slice none 0 0] 32))) (λv u=>RowE sTok wc.heap.size 32 v (L++[(⟨[.int .i64 l[k].kind,.string l[k].text,.bool false,.slice none 0 0],⟨l[k].kind,l[k].text,false,[]⟩,[]⟩:Elem Tok)]) u/\({ wr with drawn:=wr.drawn+1 }:World).grownBy u (Value.slice ab L.length cb).ownBlock) (λv u=>∃u2,(RowE sTok wc.heap.size 32 v (L++[(⟨[.int .i64 l[k].kind,.string l[k].text,.bool false,.slice none 0 0],⟨l[k].kind,l[k].text,false,[]⟩,[]⟩:Elem Tok)]) u2/\({ wr with drawn:=wr.drawn+1 }:World).grownBy u2 (Value.slice ab L.length cb).ownBlock)/\u=u2.setCell ⟨w2.heap.size,3,none⟩ v) (λu=>u.cell? ⟨w2.heap.size,3,none⟩=some (.slice ab L.length cb)/\u.cell? ⟨b1,ae+k*4,none⟩=some (.int .i64 l[k].kind)/\u.cell? ⟨b1,ae+k*4+1,none⟩=some (.string l[k].text)/\u.cell? ⟨b1,ae+k*4+2,none⟩=some (.bool false)) ?b0 ?b1 ?b2 (Zna ⟨.inr (.inr (.inr ?s0)),.inr (.inr (.inr ?s1)),.inr (.inr (.inr ?s2)),.inr (.inr (.inr ?s3)),.inr (.inr (.inr ?s4)),.inr (.inr (.inr ?s5)),.inr (.inr (.inr ?s6)),.inr (.inr (.inr ?s7)),.inr (.inr (.inr ?s8)),.inr (.inr (.inr ?s9)),.inr (.inr (.inr ?s10)),.inr (.inr (.inr ?s11)),.inr (.inr (.inr ?s12)),.inr (.inr (.inr ?s13)),.inr (.inr (.inr ?s14)),.inr (.inr (.inr ?s15)),.inr (.inr (.inr ?s16)),.inr (.inr (.inr ?s17)),.inr (.inr (.inr ?s18)),.inr (.inr (.inr ?s19)),.inr (.inr (.inr ?s20)),.inr (.inr (.inr ?s21)),.inr (.inr (.inr ?s22)),.inl rfl,.inr (.inl rfl),.inr (.inr (.inr ?s25)),.inr (.inr (.inl rfl)),trivial⟩) ?sA ?sB ?sC ?done;case b0 =>
       exact⟨q3,e0,e1,e2⟩
      case b1 =>
       have bu:=Zab ({ wr with drawn:=wr.drawn+1 }:World) (.cells #[.int .i64 l[k].kind,.string l[k].text,.bool false,.slice none 0 0] 32);exact⟨(bu.cell (p:=⟨w2.heap.size,3,none⟩) (show w2.heap.size<wr.heap.size by omega)).trans q3,(bu.cell (p:=⟨b1,ae+k*4,none⟩) (show b1<wr.heap.size by omega)).trans e0,(bu.cell (p:=⟨b1,ae+k*4+1,none⟩) (show b1<wr.heap.size by omega)).trans e1,(bu.cell (p:=⟨b1,ae+k*4+2,none⟩) (show b1<wr.heap.size by omega)).trans e2⟩
      case b2 =>
       rintro v u⟨-,hg⟩;exact Y10A8
      case s0 =>
       intro xs w' hl _ hd hB K hK;exact Zc6
      case s1 =>
       intro xs w' hl _ hd hB K hK;obtain⟨x0,x1,x2,x3,x4,x5,x6,x7,x8,x9,aV,aU,aW,aZ,bF,bM,bP,bT,cf,cF,cP,cW,dn,dC,dS,eh,eX,rfl⟩:=Zbi hl;obtain rfl:x0=.pointer (some ⟨w2.heap.size,3,none⟩):=(by simpa using hd ⟨0,.data⟩ (by simp) rfl (by decide) (by decide) (by decide) _ rfl);obtain⟨q3,e0,e1,e2⟩:=hB;clear hd;simp only[Zav,Qp,QL,QN]at hK ⊢;go_wp2;exact hK _ (λu hu=>by simpa using hu)
      case s2 =>
       intro xs w' hl _ hd hB K hK;exact Zc6
      case s3 =>
       intro xs w' hl _ hd hB K hK;exact Zc6
      case s4 =>
       intro xs w' hl _ hd hB K hK;exact Y10A6
      case s5 =>
       intro xs w' hl _ hd hB K hK;exact Y10A12
      case s6 =>
       intro xs w' hl _ hd hB K hK;obtain⟨x0,x1,x2,x3,x4,x5,x6,x7,x8,x9,aV,aU,aW,aZ,bF,bM,bP,bT,cf,cF,cP,cW,dn,dC,dS,eh,eX,rfl⟩:=Zbi hl;obtain rfl:x5=.pointer (some ⟨b1,ae+k*4,none⟩):=(by simpa using hd ⟨5,.data⟩ (by simp) rfl (by decide) (by decide) (by decide) _ rfl);obtain⟨q3,e0,e1,e2⟩:=hB;clear hd;simp only[Zav,Qp,QL,QN]at hK ⊢;go_wp2;exact hK _ (λu hu=>by simpa using hu)
      case s7 =>
       intro xs w' hl _ hd hB K hK;exact Zc6
      case s8 =>
       intro xs w' hl _ hd hB K hK;exact Zc6
      case s9 =>
       intro xs w' hl _ hd hB K hK;exact Y10A7
      case s10 =>
       intro xs w' hl _ hd hB K hK;obtain⟨x0,x1,x2,x3,x4,x5,x6,x7,x8,x9,aV,aU,aW,aZ,bF,bM,bP,bT,cf,cF,cP,cW,dn,dC,dS,eh,eX,rfl⟩:=Zbi hl;obtain rfl:x9=.pointer (some ⟨b1,ae+k*4,none⟩):=(by simpa using hd ⟨9,.data⟩ (by simp) rfl (by decide) (by decide) (by decide) _ rfl);obtain⟨q3,e0,e1,e2⟩:=hB;clear hd;simp only[Zav,Qp,QL,QN]at hK ⊢;go_wp2;exact hK _ (λu hu=>by simpa using hu)
      case s11 =>
       intro xs w' hl _ hd hB K hK;exact Y10A9
      case s12 =>
       intro xs w' hl _ hd hB K hK;exact Zc6
      case s13 =>
       intro xs w' hl _ hd hB K hK;exact Zc6
      case s14 =>
       intro xs w' hl _ hd hB K hK;exact Y10A5
      case s15 =>
       intro xs w' hl _ hd hB K hK;exact Y10A11
      case s16 =>
       intro xs w' hl _ hd hB K hK;exact Y10A10
      case s17 =>
       intro xs w' hl _ hd hB K hK;obtain⟨x0,x1,x2,x3,x4,x5,x6,x7,x8,x9,aV,aU,aW,aZ,bF,bM,bP,bT,cf,cF,cP,cW,dn,dC,dS,eh,eX,rfl⟩:=Zbi hl;obtain rfl:bP=.bool false:=(by simpa using hd ⟨16,.data⟩ (by simp) rfl (by decide) (by decide) (by decide) _ rfl);obtain⟨q3,e0,e1,e2⟩:=hB;clear hd;simp only[Zav,Qp,QL,QN]at hK ⊢;go_wp2;exact hK _ (λu hu=>by simpa using hu)
      case s18 =>
       intro xs w' hl gT hd hB K hK;exact Y10A2
      case s19 =>
       intro xs w' hl gT hd hB K hK;exact Y10A2
      case s20 =>
       intro xs w' hl gT hd hB K hK;exact Y10A2
      case s21 =>
       intro xs w' hl _ hd hB K hK;obtain⟨x0,x1,x2,x3,x4,x5,x6,x7,x8,x9,aV,aU,aW,aZ,bF,bM,bP,bT,cf,cF,cP,cW,dn,dC,dS,eh,eX,rfl⟩:=Zbi hl;obtain rfl:bT=.bool false:=(by simpa using hd ⟨17,.data⟩ (by simp) rfl (by decide) (by decide) (by decide) _ rfl);obtain⟨q3,e0,e1,e2⟩:=hB;clear hd;simp only[Zav,Qp,QL,QN]at hK ⊢;go_wp2;exact hK _ (λu hu=>by simpa using hu)
      case s22 =>
       intro xs w' hl _ hd hB K hK;obtain⟨x0,x1,x2,x3,x4,x5,x6,x7,x8,x9,aV,aU,aW,aZ,bF,bM,bP,bT,cf,cF,cP,cW,dn,dC,dS,eh,eX,rfl⟩:=Zbi hl;obtain rfl:x6=.int .i64 l[k].kind:=(by simpa using hd ⟨6,.data⟩ (by simp) rfl (by decide) (by decide) (by decide) _ rfl);obtain rfl:aU=.string l[k].text:=(by simpa using hd ⟨11,.data⟩ (by simp) rfl (by decide) (by decide) (by decide) _ rfl);obtain rfl:cW=.bool false:=(by simpa using hd ⟨21,.data⟩ (by simp) rfl (by decide) (by decide) (by decide) _ rfl);obtain⟨q3,e0,e1,e2⟩:=hB;clear hd;simp only[Zav,Qp,QL,QN]at hK ⊢;go_wp2;exact hK _ (λu hu=>by simpa using hu)
      case s25 =>
       intro xs w' hl _ hd hB K hK;exact Zc6
      case sA =>
       intro xs hl hd K hK;obtain⟨x0,x1,x2,x3,x4,x5,x6,x7,x8,x9,aV,aU,aW,aZ,bF,bM,bP,bT,cf,cF,cP,cW,dn,dC,dS,eh,eX,rfl⟩:=Zbi hl;obtain rfl:dn=.agg #[.int .i64 l[k].kind,.string l[k].text,.bool false,.slice none 0 0]:=(by simpa using hd ⟨22,.data⟩ (by simp) rfl (by decide) (by decide) (by decide) _ rfl);clear hd;simp only[Zav,Qp,QL,QN]at hK ⊢;go_wp2;exact hK
      case sB =>
       intro xs hl hd gU K hK;obtain⟨x0,x1,x2,x3,x4,x5,x6,x7,x8,x9,aV,aU,aW,aZ,bF,bM,bP,bT,cf,cF,cP,cW,dn,dC,dS,eh,eX,rfl⟩:=Zbi hl;obtain rfl:x1=.slice ab L.length cb:=(by simpa using hd ⟨1,.data⟩ (by simp) rfl (by decide) (by decide) (by decide) _ rfl);obtain rfl:dC=.slice (some ⟨wr.heap.size,0,none⟩) 1 1:=(by simpa using gU);clear hd;simp only[Zav,Qp,QL,QN]at hK ⊢;refine Zcz rfl (.tmp 62) (.tmp 84) rfl wc.heap.size (.slice ab L.length cb) L rfl HEd.out l[k].kind l[k].text false none 0 0 [] [] rfl ⟨_,rfl,HKI.out.1,HKI.out.2,Zao sStr _ _ _ (by simp)⟩ (by simp) (by simp) (by have:=oW.out;omega) (by show wc.heap.size<=wr.heap.size;omega) ?_;intro v' u' h1 h2;exact hK v' u' ⟨h1,h2⟩
      case sC =>
       intro xs v w2u hl hd ge ni K hK;obtain⟨x0,x1,x2,x3,x4,x5,x6,x7,x8,x9,aV,aU,aW,aZ,bF,bM,bP,bT,cf,cF,cP,cW,dn,dC,dS,eh,eX,rfl⟩:=Zbi hl;obtain rfl:eh=.pointer (some ⟨w2.heap.size,3,none⟩):=(by simpa using hd ⟨25,.data⟩ (by simp) rfl (by decide) (by decide) (by decide) _ rfl);obtain rfl:dS=v:=(by simpa using ge);clear hd;simp only[Zav,Qp,QL,QN]at hK ⊢;obtain⟨hA,hg⟩:=ni;obtain⟨av,cv,Au,-⟩:=hA.val;rw[QC,show([(⟨[.int .i64 l[k].kind,.string l[k].text,.bool false,.slice none 0 0],⟨l[k].kind,l[k].text,false,[]⟩,[]⟩:Elem Tok)]:List (Elem Tok)).length=1 from rfl]at Au;subst Au;have qP:=(hg.block w2.heap.size (show w2.heap.size<wr.heap.size by omega) (λhe=>by have:=ag _ he.symm;omega)).trans l5.out;have c3:=Qc 3 qP;have f3:=Qf 3 qP;go_wp2;exact hK undef _ ⟨_,⟨hA,hg⟩,rfl⟩
      case done =>
       intro xs v w3 hl hd gU ge wK;obtain⟨x0,x1,x2,x3,x4,x5,x6,x7,x8,x9,aV,aU,aW,aZ,bF,bM,bP,bT,cf,cF,cP,cW,dn,dC,dS,eh,eX,rfl⟩:=Zbi hl;clear hd gU ge;simp only[Zav,Qp,QL,QN];obtain⟨u,⟨hA,hg⟩,rfl⟩:=wK;have kb:∀b,b<wr.heap.size->(Value.slice ab L.length cb).ownBlock≠some b->u.heap[b]?=wr.heap[b]?:=λb hb hn=>hg.block b (show b<wr.heap.size by omega) (λhe=>hn he.symm);have qP:=(kb w2.heap.size (by omega) (λhe=>by have:=ag _ he;omega)).trans l5.out;have kt:=Qh (Zai qP 3 v);have HE6:=Qh (hA.same (w':=u.setCell ⟨w2.heap.size,3,none⟩ v) λb hb hl=>QV _ _ _ _ (by show b≠w2.heap.size;omega));have hus:wr.heap.size<=u.heap.size:=hg.size
       have gt:Hid (Kept [w2.heap.size] wc (u.setCell ⟨w2.heap.size,3,none⟩ v)):=⟨by have h1:u.os=wr.os:=hg.os;exact h1.trans l6.out.os,by have h1:u.tape=wr.tape:=hg.tape;exact h1.trans l6.out.tape,by have h1:u.output=wr.output:=hg.output;exact h1.trans l6.out.output,by rw[Zgd];omega,λb hb hn=>by
        have cD:b≠w2.heap.size:=by simpa using hn
        exact(QV _ _ _ _ cD).trans ((kb b (by omega) (λhe=>by have:=ag _ he;omega)).trans (l6.out.block b hb hn))⟩
       have im:Hid ((L++[(⟨[.int .i64 l[k].kind,.string l[k].text,.bool false,.slice none 0 0],⟨l[k].kind,l[k].text,false,[]⟩,[]⟩:Elem Tok)]).length=k+1-n):=(by show _=_;rw[QC,oW.out];show _+1=_;omega);have Av:Hid ((L++[(⟨[.int .i64 l[k].kind,.string l[k].text,.bool false,.slice none 0 0],⟨l[k].kind,l[k].text,false,[]⟩,[]⟩:Elem Tok)]).map (·.d)=(Zbh l n).take (k+1-n)):=(by show _=_;rw[HT.out,QG,HD.out];simp);have wL:Hid (∀x∈L++[(⟨[.int .i64 l[k].kind,.string l[k].text,.bool false,.slice none 0 0],⟨l[k].kind,l[k].text,false,[]⟩,[]⟩:Elem Tok)],x.fp=[]):=λx hx=>by
        rcases Qa hx with h | h
        ·exact da.out x h
        ·obtain rfl:=Qm h;rfl
       clear hA hg kb qP l5 HE HD da l6 oW HT q3 e0 e1 e2;go_wp2;go_roundw;case rel=>exact⟨k+1,v,_,by omega,by omega,by go_num,im,kt,HE6,Av,wL,gt⟩
       case measure=>simp[intOf];omega
     ·rw[iD]at e2 HT;clear iD;go_wp2;refine Zh0 (P:=Tryz.prog) (by kernel_rfl) (by kernel_rfl) 23 24 26 (by kernel_rfl) (by kernel_rfl) (by decide) (by decide) rfl rfl rfl [some (.pointer (some ⟨w2.heap.size,3,none⟩)),some (.slice ab L.length cb),some (.slice (some ⟨b1,ae,none⟩) l.length cap),some (.int .i64 (k:Int)),some (.pointer (some ⟨b1,ae+k*4,none⟩)),some (.pointer (some ⟨b1,ae+k*4,none⟩)),some (.int .i64 l[k].kind),some (.slice (some ⟨b1,ae,none⟩) l.length cap),some (.int .i64 (k:Int)),some (.pointer (some ⟨b1,ae+k*4,none⟩)),some (.pointer (some ⟨b1,ae+k*4+1,none⟩)),some (.string l[k].text),some (.slice (some ⟨b1,ae,none⟩) l.length cap),some (.int .i64 (k:Int)),some (.pointer (some ⟨b1,ae+k*4,none⟩)),some (.pointer (some ⟨b1,ae+k*4+2,none⟩)),some (.bool true),some (.bool true),some (.int .i64 (k:Int)),some (.int .i64 (n:Int)),some (.bool (decide (n<k))),some (.bool (decide (n<k))),some (.agg #[.int .i64 l[k].kind,.string l[k].text,.bool (decide (n<k)),.slice none 0 0]),none,none,some (.pointer (some ⟨w2.heap.size,3,none⟩)),none] (.slice (some ⟨wr.heap.size,0,none⟩) 1 1) ((({ wr with drawn:=wr.drawn+1 }:World).alloc (.cells #[.int .i64 l[k].kind,.string l[k].text,.bool (decide (n<k)),.slice none 0 0] 32))) (λv u=>RowE sTok wc.heap.size 32 v (L++[(⟨[.int .i64 l[k].kind,.string l[k].text,.bool (decide (n<k)),.slice none 0 0],⟨l[k].kind,l[k].text,(decide (n<k)),[]⟩,[]⟩:Elem Tok)]) u/\({ wr with drawn:=wr.drawn+1 }:World).grownBy u (Value.slice ab L.length cb).ownBlock) (λv u=>∃u2,(RowE sTok wc.heap.size 32 v (L++[(⟨[.int .i64 l[k].kind,.string l[k].text,.bool (decide (n<k)),.slice none 0 0],⟨l[k].kind,l[k].text,(decide (n<k)),[]⟩,[]⟩:Elem Tok)]) u2/\({ wr with drawn:=wr.drawn+1 }:World).grownBy u2 (Value.slice ab L.length cb).ownBlock)/\u=u2.setCell ⟨w2.heap.size,3,none⟩ v) (λu=>u.cell? ⟨w2.heap.size,3,none⟩=some (.slice ab L.length cb)/\u.cell? ⟨b1,ae+k*4,none⟩=some (.int .i64 l[k].kind)/\u.cell? ⟨b1,ae+k*4+1,none⟩=some (.string l[k].text)/\u.cell? ⟨b1,ae+k*4+2,none⟩=some (.bool true)) ?b0 ?b1 ?b2 (Zna ⟨.inr (.inr (.inr ?s0)),.inr (.inr (.inr ?s1)),.inr (.inr (.inr ?s2)),.inr (.inr (.inr ?s3)),.inr (.inr (.inr ?s4)),.inr (.inr (.inr ?s5)),.inr (.inr (.inr ?s6)),.inr (.inr (.inr ?s7)),.inr (.inr (.inr ?s8)),.inr (.inr (.inr ?s9)),.inr (.inr (.inr ?s10)),.inr (.inr (.inr ?s11)),.inr (.inr (.inr ?s12)),.inr (.inr (.inr ?s13)),.inr (.inr (.inr ?s14)),.inr (.inr (.inr ?s15)),.inr (.inr (.inr ?s16)),.inr (.inr (.inr ?s17)),.inr (.inr (.inr ?s18)),.inr (.inr (.inr ?s19)),.inr (.inr (.inr ?s20)),.inr (.inr (.inr ?s21)),.inr (.inr (.inr ?s22)),.inl rfl,.inr (.inl rfl),.inr (.inr (.inr ?s25)),.inr (.inr (.inl rfl)),trivial⟩) ?sA ?sB ?sC ?done;case b0 =>
       exact⟨q3,e0,e1,e2⟩
      case b1 =>
       have bu:=Zab ({ wr with drawn:=wr.drawn+1 }:World) (.cells #[.int .i64 l[k].kind,.string l[k].text,.bool (decide (n<k)),.slice none 0 0] 32);exact⟨(bu.cell (p:=⟨w2.heap.size,3,none⟩) (show w2.heap.size<wr.heap.size by omega)).trans q3,(bu.cell (p:=⟨b1,ae+k*4,none⟩) (show b1<wr.heap.size by omega)).trans e0,(bu.cell (p:=⟨b1,ae+k*4+1,none⟩) (show b1<wr.heap.size by omega)).trans e1,(bu.cell (p:=⟨b1,ae+k*4+2,none⟩) (show b1<wr.heap.size by omega)).trans e2⟩
      case b2 =>
       rintro v u⟨-,hg⟩;exact Y10A8
      case s0 =>
       intro xs w' hl _ hd hB K hK;exact Zc6
      case s1 =>
       intro xs w' hl _ hd hB K hK;obtain⟨x0,x1,x2,x3,x4,x5,x6,x7,x8,x9,aV,aU,aW,aZ,bF,bM,bP,bT,cf,cF,cP,cW,dn,dC,dS,eh,eX,rfl⟩:=Zbi hl;obtain rfl:x0=.pointer (some ⟨w2.heap.size,3,none⟩):=(by simpa using hd ⟨0,.data⟩ (by simp) rfl (by decide) (by decide) (by decide) _ rfl);obtain⟨q3,e0,e1,e2⟩:=hB;clear hd;simp only[Zav,Qp,QL,QN]at hK ⊢;go_wp2;exact hK _ (λu hu=>by simpa using hu)
      case s2 =>
       intro xs w' hl _ hd hB K hK;exact Zc6
      case s3 =>
       intro xs w' hl _ hd hB K hK;exact Zc6
      case s4 =>
       intro xs w' hl _ hd hB K hK;exact Y10A6
      case s5 =>
       intro xs w' hl _ hd hB K hK;exact Y10A12
      case s6 =>
       intro xs w' hl _ hd hB K hK;obtain⟨x0,x1,x2,x3,x4,x5,x6,x7,x8,x9,aV,aU,aW,aZ,bF,bM,bP,bT,cf,cF,cP,cW,dn,dC,dS,eh,eX,rfl⟩:=Zbi hl;obtain rfl:x5=.pointer (some ⟨b1,ae+k*4,none⟩):=(by simpa using hd ⟨5,.data⟩ (by simp) rfl (by decide) (by decide) (by decide) _ rfl);obtain⟨q3,e0,e1,e2⟩:=hB;clear hd;simp only[Zav,Qp,QL,QN]at hK ⊢;go_wp2;exact hK _ (λu hu=>by simpa using hu)
      case s7 =>
       intro xs w' hl _ hd hB K hK;exact Zc6
      case s8 =>
       intro xs w' hl _ hd hB K hK;exact Zc6
      case s9 =>
       intro xs w' hl _ hd hB K hK;exact Y10A7
      case s10 =>
       intro xs w' hl _ hd hB K hK;obtain⟨x0,x1,x2,x3,x4,x5,x6,x7,x8,x9,aV,aU,aW,aZ,bF,bM,bP,bT,cf,cF,cP,cW,dn,dC,dS,eh,eX,rfl⟩:=Zbi hl;obtain rfl:x9=.pointer (some ⟨b1,ae+k*4,none⟩):=(by simpa using hd ⟨9,.data⟩ (by simp) rfl (by decide) (by decide) (by decide) _ rfl);obtain⟨q3,e0,e1,e2⟩:=hB;clear hd;simp only[Zav,Qp,QL,QN]at hK ⊢;go_wp2;exact hK _ (λu hu=>by simpa using hu)
      case s11 =>
       intro xs w' hl _ hd hB K hK;exact Y10A9
      case s12 =>
       intro xs w' hl _ hd hB K hK;exact Zc6
      case s13 =>
       intro xs w' hl _ hd hB K hK;exact Zc6
      case s14 =>
       intro xs w' hl _ hd hB K hK;exact Y10A5
      case s15 =>
       intro xs w' hl _ hd hB K hK;exact Y10A11
      case s16 =>
       intro xs w' hl _ hd hB K hK;exact Y10A10
      case s17 =>
       intro xs w' hl _ hd hB K hK;obtain⟨x0,x1,x2,x3,x4,x5,x6,x7,x8,x9,aV,aU,aW,aZ,bF,bM,bP,bT,cf,cF,cP,cW,dn,dC,dS,eh,eX,rfl⟩:=Zbi hl;obtain rfl:bP=.bool true:=(by simpa using hd ⟨16,.data⟩ (by simp) rfl (by decide) (by decide) (by decide) _ rfl);obtain⟨q3,e0,e1,e2⟩:=hB;clear hd;simp only[Zav,Qp,QL,QN]at hK ⊢;go_wp2;exact hK _ (λu hu=>by simpa using hu)
      case s18 =>
       intro xs w' hl gT hd hB K hK;exact Y10A4
      case s19 =>
       intro xs w' hl gT hd hB K hK;exact Y10A4
      case s20 =>
       intro xs w' hl gT hd hB K hK;clear gT;have f18:xs[18]?=some (.int .i64 (k:Int)):=hd ⟨18,.data⟩ (by simp) rfl (by decide) (by decide) (by decide) _ rfl;have f19:xs[19]?=some (.int .i64 (n:Int)):=hd ⟨19,.data⟩ (by simp) rfl (by decide) (by decide) (by decide) _ rfl;have f17:xs[17]?=some (.bool true):=hd ⟨17,.guard⟩ (by simp) rfl (by decide) (by decide) (by decide) _ rfl;clear hd;obtain⟨x0,x1,x2,x3,x4,x5,x6,x7,x8,x9,aV,aU,aW,aZ,bF,bM,bP,bT,cf,cF,cP,cW,dn,dC,dS,eh,eX,ix⟩:=Zbi hl;have g18:cf=.int .i64 (k:Int):=(by rw[ix]at f18;simpa using f18);have g19:cF=.int .i64 (n:Int):=(by rw[ix]at f19;simpa using f19);have uE:bT=.bool true:=(by rw[ix]at f17;simpa using f17);rw[g18,g19,uE]at ix;clear hl f18 g18 f19 g19 f17 uE;obtain⟨q3,e0,e1,e2⟩:=hB;simp only[ix,Zav,Act.put,QL,QN,List.setIfInBounds_toArray,List.set_cons_succ,List.set_cons_zero]at hK ⊢;refine Zg7 (by kernel_rfl) ?_;go_wp2;exact hK _ (λu hu=>by simpa using hu)
      case s21 =>
       intro xs w' hl _ hd hB K hK;obtain⟨x0,x1,x2,x3,x4,x5,x6,x7,x8,x9,aV,aU,aW,aZ,bF,bM,bP,bT,cf,cF,cP,cW,dn,dC,dS,eh,eX,rfl⟩:=Zbi hl;obtain rfl:bT=.bool true:=(by simpa using hd ⟨17,.data⟩ (by simp) rfl (by decide) (by decide) (by decide) _ rfl);obtain rfl:cP=.bool (decide (n<k)):=(by simpa using hd ⟨20,.data⟩ (by simp) rfl (by decide) (by decide) (by decide) _ rfl);obtain⟨q3,e0,e1,e2⟩:=hB;clear hd;simp only[Zav,Qp,QL,QN]at hK ⊢;go_wp2;exact hK _ (λu hu=>by simpa using hu)
      case s22 =>
       intro xs w' hl _ hd hB K hK;obtain⟨x0,x1,x2,x3,x4,x5,x6,x7,x8,x9,aV,aU,aW,aZ,bF,bM,bP,bT,cf,cF,cP,cW,dn,dC,dS,eh,eX,rfl⟩:=Zbi hl;obtain rfl:x6=.int .i64 l[k].kind:=(by simpa using hd ⟨6,.data⟩ (by simp) rfl (by decide) (by decide) (by decide) _ rfl);obtain rfl:aU=.string l[k].text:=(by simpa using hd ⟨11,.data⟩ (by simp) rfl (by decide) (by decide) (by decide) _ rfl);obtain rfl:cW=.bool (decide (n<k)):=(by simpa using hd ⟨21,.data⟩ (by simp) rfl (by decide) (by decide) (by decide) _ rfl);obtain⟨q3,e0,e1,e2⟩:=hB;clear hd;simp only[Zav,Qp,QL,QN]at hK ⊢;go_wp2;exact hK _ (λu hu=>by simpa using hu)
      case s25 =>
       intro xs w' hl _ hd hB K hK;exact Zc6
      case sA =>
       intro xs hl hd K hK;obtain⟨x0,x1,x2,x3,x4,x5,x6,x7,x8,x9,aV,aU,aW,aZ,bF,bM,bP,bT,cf,cF,cP,cW,dn,dC,dS,eh,eX,rfl⟩:=Zbi hl;obtain rfl:dn=.agg #[.int .i64 l[k].kind,.string l[k].text,.bool (decide (n<k)),.slice none 0 0]:=(by simpa using hd ⟨22,.data⟩ (by simp) rfl (by decide) (by decide) (by decide) _ rfl);clear hd;simp only[Zav,Qp,QL,QN]at hK ⊢;go_wp2;exact hK
      case sB =>
       intro xs hl hd gU K hK;obtain⟨x0,x1,x2,x3,x4,x5,x6,x7,x8,x9,aV,aU,aW,aZ,bF,bM,bP,bT,cf,cF,cP,cW,dn,dC,dS,eh,eX,rfl⟩:=Zbi hl;obtain rfl:x1=.slice ab L.length cb:=(by simpa using hd ⟨1,.data⟩ (by simp) rfl (by decide) (by decide) (by decide) _ rfl);obtain rfl:dC=.slice (some ⟨wr.heap.size,0,none⟩) 1 1:=(by simpa using gU);clear hd;simp only[Zav,Qp,QL,QN]at hK ⊢;refine Zcz rfl (.tmp 62) (.tmp 84) rfl wc.heap.size (.slice ab L.length cb) L rfl HEd.out l[k].kind l[k].text (decide (n<k)) none 0 0 [] [] rfl ⟨_,rfl,HKI.out.1,HKI.out.2,Zao sStr _ _ _ (by simp)⟩ (by simp) (by simp) (by have:=oW.out;omega) (by show wc.heap.size<=wr.heap.size;omega) ?_;intro v' u' h1 h2;exact hK v' u' ⟨h1,h2⟩
      case sC =>
       intro xs v w2u hl hd ge ni K hK;obtain⟨x0,x1,x2,x3,x4,x5,x6,x7,x8,x9,aV,aU,aW,aZ,bF,bM,bP,bT,cf,cF,cP,cW,dn,dC,dS,eh,eX,rfl⟩:=Zbi hl;obtain rfl:eh=.pointer (some ⟨w2.heap.size,3,none⟩):=(by simpa using hd ⟨25,.data⟩ (by simp) rfl (by decide) (by decide) (by decide) _ rfl);obtain rfl:dS=v:=(by simpa using ge);clear hd;simp only[Zav,Qp,QL,QN]at hK ⊢;obtain⟨hA,hg⟩:=ni;obtain⟨av,cv,Au,-⟩:=hA.val;rw[QC,show([(⟨[.int .i64 l[k].kind,.string l[k].text,.bool (decide (n<k)),.slice none 0 0],⟨l[k].kind,l[k].text,(decide (n<k)),[]⟩,[]⟩:Elem Tok)]:List (Elem Tok)).length=1 from rfl]at Au;subst Au;have qP:=(hg.block w2.heap.size (show w2.heap.size<wr.heap.size by omega) (λhe=>by have:=ag _ he.symm;omega)).trans l5.out;have c3:=Qc 3 qP;have f3:=Qf 3 qP;go_wp2;exact hK undef _ ⟨_,⟨hA,hg⟩,rfl⟩
      case done =>
       intro xs v w3 hl hd gU ge wK;obtain⟨x0,x1,x2,x3,x4,x5,x6,x7,x8,x9,aV,aU,aW,aZ,bF,bM,bP,bT,cf,cF,cP,cW,dn,dC,dS,eh,eX,rfl⟩:=Zbi hl;clear hd gU ge;simp only[Zav,Qp,QL,QN];obtain⟨u,⟨hA,hg⟩,rfl⟩:=wK;have kb:∀b,b<wr.heap.size->(Value.slice ab L.length cb).ownBlock≠some b->u.heap[b]?=wr.heap[b]?:=λb hb hn=>hg.block b (show b<wr.heap.size by omega) (λhe=>hn he.symm);have qP:=(kb w2.heap.size (by omega) (λhe=>by have:=ag _ he;omega)).trans l5.out;have kt:=Qh (Zai qP 3 v);have HE6:=Qh (hA.same (w':=u.setCell ⟨w2.heap.size,3,none⟩ v) λb hb hl=>QV _ _ _ _ (by show b≠w2.heap.size;omega));have hus:wr.heap.size<=u.heap.size:=hg.size
       have gt:Hid (Kept [w2.heap.size] wc (u.setCell ⟨w2.heap.size,3,none⟩ v)):=⟨by have h1:u.os=wr.os:=hg.os;exact h1.trans l6.out.os,by have h1:u.tape=wr.tape:=hg.tape;exact h1.trans l6.out.tape,by have h1:u.output=wr.output:=hg.output;exact h1.trans l6.out.output,by rw[Zgd];omega,λb hb hn=>by
        have cD:b≠w2.heap.size:=by simpa using hn
        exact(QV _ _ _ _ cD).trans ((kb b (by omega) (λhe=>by have:=ag _ he;omega)).trans (l6.out.block b hb hn))⟩
       have im:Hid ((L++[(⟨[.int .i64 l[k].kind,.string l[k].text,.bool (decide (n<k)),.slice none 0 0],⟨l[k].kind,l[k].text,(decide (n<k)),[]⟩,[]⟩:Elem Tok)]).length=k+1-n):=(by show _=_;rw[QC,oW.out];show _+1=_;omega);have Av:Hid ((L++[(⟨[.int .i64 l[k].kind,.string l[k].text,.bool (decide (n<k)),.slice none 0 0],⟨l[k].kind,l[k].text,(decide (n<k)),[]⟩,[]⟩:Elem Tok)]).map (·.d)=(Zbh l n).take (k+1-n)):=(by show _=_;rw[HT.out,QG,HD.out];simp);have wL:Hid (∀x∈L++[(⟨[.int .i64 l[k].kind,.string l[k].text,.bool (decide (n<k)),.slice none 0 0],⟨l[k].kind,l[k].text,(decide (n<k)),[]⟩,[]⟩:Elem Tok)],x.fp=[]):=λx hx=>by
        rcases Qa hx with h | h
        ·exact da.out x h
        ·obtain rfl:=Qm h;rfl
       clear hA hg kb qP l5 HE HD da l6 oW HT q3 e0 e1 e2;go_wp2;go_roundw;case rel=>exact⟨k+1,v,_,by omega,by omega,by go_num,im,kt,HE6,Av,wL,gt⟩
       case measure=>simp[intOf];omega
    ·have hkl':k=l.length:=(by omega);have hd:=HD.out;rw[Qe (by rw[ZdK];omega)]at hd;obtain⟨jf,ll,kN⟩:=Zhx HE.out da.out;rw[hd]at ll;have hP:=(Zaa sStr).kept HP.out (λb hb hx=>HPn.out (by have e:b=w2.heap.size:=(by simpa using hx);exact e ▸ hb)) l6.out;have hO:=HO.out.kept (λb hb hx=>HPn.out (by have e:b=w2.heap.size:=(by simpa using hx);exact e ▸ hb)) l6.out;have lg:∀b∈oV,b∉jf:=λb h1 h2=>(by have h3:=HPlt.out b h1;have h4:=(kN.2 b h2).1;omega);have HR:Hid (sMacro.R wr [.string nm,.bool fn,.slice ap ps.length cp,.slice ab L.length cb] ⟨nm,fn,ps,Zbh l n⟩ (oV++jf)):=⟨_,_,oV,jf,rfl,okn,hP,ll,rfl⟩;have qQ:=Qh (Own.app (hO.lower (by omega:w.heap.size<=_)) (kN.lower (by omega:w.heap.size<=_)) lg);have hnw:w.heap.size∉oV++jf:=λhx=>by
      rcases Qa hx with h | h
      ·have:=(HO.out.2 _ h).1;omega
      ·have:=(kN.2 _ h).1;omega
     have HBr:=Qh (HBc.out.trans (l6.out.below (lo:=w.heap.size) (by intro b hb;have e:b=w2.heap.size:=(by simpa using hb);omega) (by omega)));have HZr:=Qh ((l6.out.block w.heap.size (by omega) (by simp;omega)).trans HZc.out);have q0:=Qc 0 l5.out;have q1:=Qc 1 l5.out;have q2:=Qc 2 l5.out;have q3:=Qc 3 l5.out;clear hd ll kN hP hO lg HEc HD HE da l6 oW;go_wp2_with fail
     refine(ZdG _ _ _ _ HR.out).mono ?_;rintro e w5⟨rfl,bg⟩;have cg:=HBr.out.trans (bg.mono HBr.out.size);have gH:=Qh (Zag HZr.out bg);have pK:=Qh (Zag l5.out bg);have eO:=Qh (sMacro.below HR.out bg);have nj:=Qh (qQ.out.grow bg);clear q0 q1 q2 q3 bg HR qQ HZr l5;cases bQ:Zaq ⟨nm,fn,ps,Zbh l n⟩
     ·have tB:=Qh (HF.out.trans (chk_no bQ));clear bQ;obtain⟨z0,dT,z1,dU,z2,dV,z3,dW⟩:=Q8 gH.out;have HS:=Qh (Zai (Zai (Zai (Zai gH.out 0 (.string ⟨#[]⟩)) 1 (.bool false)) 2 (.slice none 0 0)) 3 (.slice none 0 0));have dM:=Qh ((((cg.setCell (p:=⟨w.heap.size,0,none⟩) (QA _) (.string ⟨#[]⟩)).setCell (p:=⟨w.heap.size,1,none⟩) (QA _) (.bool false)).setCell (p:=⟨w.heap.size,2,none⟩) (QA _) (.slice none 0 0)).setCell (p:=⟨w.heap.size,3,none⟩) (QA _) (.slice none 0 0));go_wp2;refine JV (Zat rfl _ _ w.heap.size _ _ _ _ rfl HS.out Tryz.underlying56 rfl (by kernel_rfl)) rfl ?_;exact Znb tB.out dM.out
     ·have tB:=Qh (HF.out.trans (chk_yes bQ));clear bQ;have q0:=Qc 0 pK.out;have q1:=Qc 1 pK.out;have q2:=Qc 2 pK.out;have q3:=Qc 3 pK.out;have z0:=Qc 0 gH.out;have z1:=Qc 1 gH.out;have z2:=Qc 2 gH.out;have z3:=Qc 3 gH.out;have dT:=Qf 0 gH.out;have dU:=Qf 1 gH.out;have dV:=Qf 2 gH.out;have dW:=Qf 3 gH.out;have HS:=Qh (Zai (Zai (Zai (Zai gH.out 0 (.string nm)) 1 (.bool fn)) 2 (.slice ap ps.length cp)) 3 (.slice ab L.length cb));have dM:=Qh ((((cg.setCell (p:=⟨w.heap.size,0,none⟩) (QA _) (.string nm)).setCell (p:=⟨w.heap.size,1,none⟩) (QA _) (.bool fn)).setCell (p:=⟨w.heap.size,2,none⟩) (QA _) (.slice ap ps.length cp)).setCell (p:=⟨w.heap.size,3,none⟩) (QA _) (.slice ab L.length cb));have fM:=Qh (sMacro.setB (sMacro.setB (sMacro.setB (sMacro.setB eO.out hnw 0 (.string nm)) hnw 1 (.bool fn)) hnw 2 (.slice ap ps.length cp)) hnw 3 (.slice ab L.length cb));have l4:=Qh ((((nj.out.setCell ⟨w.heap.size,0,none⟩ (.string nm)).setCell ⟨w.heap.size,1,none⟩ (.bool fn)).setCell ⟨w.heap.size,2,none⟩ (.slice ap ps.length cp)).setCell ⟨w.heap.size,3,none⟩ (.slice ab L.length cb));clear eO nj pK gH cg;go_wp2;refine JV (Zat rfl _ _ w.heap.size _ _ _ _ rfl HS.out Tryz.underlying56 rfl (by kernel_rfl)) rfl ?_;exact mof_yes (cs:=[.string nm,.bool fn,.slice ap ps.length cp,.slice ab L.length cb]) tB.out fM.out l4.out dM.out
abbrev BldAt (B b:Nat) (p:Value) (bs:List Value) (w:World):Prop:=Lib.BuilderAtF 175 5 B b p bs w
abbrev IsBld (B b:Nat) (bs:List Value) (w:World):Prop:=Lib.IsBuilderF 175 5 B b bs w
def ZiS (B b:Nat)(bs:List Value)(w w':World):Prop:=
 BldAt B b (.pointer (some ⟨b,0,none⟩)) bs w'/\Below B w w'/\Lib.OthersKept 5 (some b) w w'
theorem ZjE:∃j,Tryz.prog.info? 175=some j/\j.size=2:=by
 have h:(Tryz.prog.info? 175).map (·.size)=some 2:=by kernel_rfl
 exact Option.map_eq_some_iff.1 h
theorem bld_lies:liesAt Tryz.prog Tryz.prog.depth 175 (2 / Tryz.prog.cellsOf 175) 0 175 1=true:=by kernel_rfl
theorem ZlZ:∃i,Tryz.prog.info? 5=some i/\i.zero=some (.int .u8 0)/\i.size=1/\i.bytes=1:=by
 have h:(Tryz.prog.info? 5).map (λi=>(i.zero,i.size,i.bytes))=some (some (.int .u8 0),1,1):=by kernel_rfl
 obtain⟨i,h1,h2⟩:=Option.map_eq_some_iff.1 h;simp only[QS]at h2;exact⟨i,h1,h2.1,h2.2.1,h2.2.2⟩
theorem ZoZ (b:Nat)(w:World):(binOp .neq 173 (.pointer (some ⟨b,0,none⟩)) (.pointer (some ⟨b,0,none⟩))).run Tryz.prog w=.ok (.bool false) w:=by
 obtain⟨j,hj,_⟩:=ZjE;exact Lib.run_neq_ptr_same w _ Tryz.underlying173 hj
theorem Zqx (b:Nat)(w:World)(yM:w.shape? b=some (175,2)):(convert 173 186 (.pointer (some ⟨b,0,none⟩))).run Tryz.prog w=.ok (.pointer (some ⟨b,0,none⟩)) w:=by
 obtain⟨j,hj,hjs⟩:=ZjE;exact Lib.run_to_unsafe w ⟨b,0,none⟩ Tryz.underlying173 Tryz.underlying186 hj (by rw[hjs];decide) yM (Nat.zero_lt_succ 1)
theorem Zom (b:Nat)(w:World)(yM:w.shape? b=some (175,2)):(convert 186 173 (.pointer (some ⟨b,0,none⟩))).run Tryz.prog w=.ok (.pointer (some ⟨b,0,none⟩)) w:=by
 obtain⟨j,hj,hjs⟩:=ZjE;exact Lib.run_from_unsafe w ⟨b,0,none⟩ Tryz.underlying186 Tryz.underlying173 hj yM bld_lies
theorem Zqy (b:Nat)(w:World):(callFunc 172 #[.pointer (some ⟨b,0,none⟩)]).run Tryz.prog w=.ok (.value (.pointer (some ⟨b,0,none⟩))) w:=by
 rw[run_callFunc_extern Tryz.func172 (by kernel_rfl) (by kernel_rfl) (by kernel_rfl) (e:=Extern.AbiNoEscape.same) (by kernel_rfl),Lib.run_noEscape];rfl
theorem ZpH (b:Nat)(w:World)(h0:w.cell? ⟨b,0,none⟩=some (.pointer (some ⟨b,0,none⟩))):
  Calls Tryz.prog 170 #[.pointer (some ⟨b,0,none⟩)] w λe w'=>e=.returned (.tuple #[])/\w'=w:=by
 have r1:=ZoZ b w;go_enter Tryz.func170,Tryz.ntmps170;go_wp2
 go_end0
 exact⟨rfl,rfl⟩
theorem Zon (b:Nat)(w:World)(h0:w.cell? ⟨b,0,none⟩=some (.pointer none))(yM:w.shape? b=some (175,2))(qa:w.frozen? ⟨b,0,none⟩=false):
  Calls Tryz.prog 170 #[.pointer (some ⟨b,0,none⟩)] w λe w'=>e=.returned (.tuple #[])/\w'=w.setCell ⟨b,0,none⟩ (.pointer (some ⟨b,0,none⟩)):=by
 have r1:=Zqx b w yM;have r2:=Zqy b w;have r3:=Zom b w yM;have c0:(w.setCell ⟨b,0,none⟩ (.pointer (some ⟨b,0,none⟩))).cell? ⟨b,0,none⟩=some (.pointer (some ⟨b,0,none⟩)):=World.cell?_setCell_same _ _ _ h0;have r4:=ZoZ b (w.setCell ⟨b,0,none⟩ (.pointer (some ⟨b,0,none⟩)));go_enter Tryz.func170,Tryz.ntmps170;go_wp2
 go_end0
 exact⟨rfl,rfl⟩
theorem Zl0 (B b:Nat)(bs:List Value)(w:World)(h:IsBld B b bs w):
  Calls Tryz.prog 170 #[.pointer (some ⟨b,0,none⟩)] w λe w'=>e=.returned (.tuple #[])/\ZiS B b bs w w':=by
 rcases h with h | h
 ·refine(Zon b w h.cell0 h.shape h.frozen0).mono ?_;rintro e w'⟨rfl,rfl⟩;exact⟨rfl,h.used _,(QD B w).setCell (p:=⟨b,0,none⟩) h.1 _,(Lib.OthersKept.refl _ _ w).setCell ⟨b,0,none⟩ rfl _⟩
 ·refine(ZpH b w h.cell0).mono ?_;rintro e w'⟨rfl,rfl⟩;exact⟨rfl,h,QD B _,Lib.OthersKept.refl _ _ _⟩
theorem Znd (B b:Nat)(bs:List Value)(c:Int)(w:World)(h:IsBld B b bs w)(bE:bs.length<=1048576)(hBw:B<=w.heap.size):
  Calls Tryz.prog 162 #[.pointer (some ⟨b,0,none⟩),.int .u8 c] w λe w'=>e=.returned .nilIface/\ZiS B b (bs++[.int .u8 c]) w w':=by
 obtain⟨i0,hi,cI,dQ,dZ⟩:=ZlZ;go_enter Tryz.func162,Tryz.ntmps162;go_wp2_with fail
 refine(Zl0 B b bs _ h).mono ?_;rintro e w1⟨rfl,⟨hB,v,fE,ag,cD⟩,aG,bG⟩;have c0:w1.cell? ⟨b,0,none⟩=some (.pointer (some ⟨b,0,none⟩)):=by rw[Lib.cell_of_heap fE];rfl
 have c1:w1.cell? ⟨b,1,none⟩=some v:=by rw[Lib.cell_of_heap fE];rfl
 have gP:=aG.size;go_wp2_with (at_builtin;refine wpList_append_ownF _ rfl _ _ 22 rfl B 5 i0 (.int .u8 0) 1 1 Tryz.underlying22 hi cI dQ dZ rfl (by decide) v bs.length bs rfl (ag.alloc _) ⟨w1.heap.size,0,none⟩ 1 1 [.int .u8 c] rfl rfl ?c1 ?c2 ?c3 ?c4 ?c5 ?_)
 case c1 =>
  intro j u hj
  match j,hj with
  | 0,hj=>simp at hj;subst hj;simp[Addr.add]
 case c2=>intro u hu;simp at hu;subst hu;rfl
 case c3=>unfold maxLen;omega
 case c4=>omega
 case c5=>simp;omega
 intro v' w2 jg aX _;have af:b<w1.heap.size:=(Qg fE).1;have aF:w2.heap[b]?=some (.cells #[.pointer (some ⟨b,0,none⟩),v] 175 (0,0)):=by
  rw[aX.block b (by simp;omega) (λe=>cD e.symm),Lib.alloc_old w1 _ b af];exact fE
 have d0:w2.cell? ⟨b,0,none⟩=some (.pointer (some ⟨b,0,none⟩)):=by rw[Lib.cell_of_heap aF];rfl
 have d1:w2.cell? ⟨b,1,none⟩=some v:=by rw[Lib.cell_of_heap aF];rfl
 have f1:w2.frozen? ⟨b,1,none⟩=false:=Lib.frozen_of_heap aF 1;obtain⟨g,cap,rfl⟩:∃g cap,v'=.slice (some ⟨g,0,none⟩) (bs.length+1) cap:=by
  rcases jg.2 with⟨_,h0⟩ | ⟨g,cap,cur,fz,hv,_⟩
  ·omega
  ·exact⟨g,cap,hv⟩
 have HA:Hid (ZiS B b (bs++[.int .u8 c]) w (w2.setCell ⟨b,1,none⟩ (.slice (some ⟨g,0,none⟩) (bs.length+1) cap))):=by
  refine⟨Lib.BuilderAtF.put (T:=175) (e:=5) hB aF (bs':=bs++[.int .u8 c]) (by simpa using jg) (by decide),?_,((bG.alloc _).grown aX (Lib.ownsRowF_kind (ag.alloc _))).setCell ⟨b,1,none⟩ rfl _⟩;exact((aG.alloc (by omega) _).grown aX (by simp;omega) (λk hk=>(ag.lt k hk).1)).setCell (p:=⟨b,1,none⟩) hB _
 clear ag jg aX fE aF aG bG;go_wp2;go_ret;exact⟨rfl,HA.out⟩
theorem bld_text (B b:Nat)(bs:List Value)(s:ByteArray)(w:World)(h:IsBld B b bs w)(bE:bs.length+s.size<=140737488355328)(hBw:B<=w.heap.size):
  Calls Tryz.prog 163 #[.pointer (some ⟨b,0,none⟩),.string s] w λe w'=>e=.returned (.tuple #[.int .i64 s.size,.nilIface])/\ZiS B b (bs++Lib.strCells s) w w':=by
 obtain⟨i0,hi,cI,dQ,dZ⟩:=ZlZ;go_enter Tryz.func163,Tryz.ntmps163;go_wp2_with fail
 refine(Zl0 B b bs _ h).mono ?_;rintro e w1⟨rfl,⟨hB,v,fE,ag,cD⟩,aG,bG⟩;have c0:w1.cell? ⟨b,0,none⟩=some (.pointer (some ⟨b,0,none⟩)):=by rw[Lib.cell_of_heap fE];rfl
 have c1:w1.cell? ⟨b,1,none⟩=some v:=by rw[Lib.cell_of_heap fE];rfl
 have gP:=aG.size;go_wp2_with (at_builtin;refine Lib.wpList_append_own_stringF _ rfl _ _ 22 9 rfl B 5 i0 Tryz.underlying22 Tryz.underlying9 hi cI dQ dZ v bs.length bs rfl ag s rfl ?c3 ?c4 ?c5 ?_)
 case c3=>unfold maxLen;omega
 case c4=>omega
 case c5=>omega
 intro v' w2 jg aX _;have af:b<w1.heap.size:=(Qg fE).1;have aF:w2.heap[b]?=some (.cells #[.pointer (some ⟨b,0,none⟩),v] 175 (0,0)):=by
  rw[aX.block b af (λe=>cD e.symm)];exact fE
 have d0:w2.cell? ⟨b,0,none⟩=some (.pointer (some ⟨b,0,none⟩)):=by rw[Lib.cell_of_heap aF];rfl
 have d1:w2.cell? ⟨b,1,none⟩=some v:=by rw[Lib.cell_of_heap aF];rfl
 have f1:w2.frozen? ⟨b,1,none⟩=false:=Lib.frozen_of_heap aF 1;obtain⟨ao,n',cap,rfl⟩:∃ao n' cap,v'=.slice ao n' cap:=by
  rcases jg.2 with⟨hv,_⟩ | ⟨g,cap,cur,fz,hv,_⟩
  ·exact⟨_,_,_,hv⟩
  ·exact⟨_,_,_,hv⟩
 have HA:Hid (ZiS B b (bs++Lib.strCells s) w (w2.setCell ⟨b,1,none⟩ (.slice ao n' cap))):=by
  refine⟨Lib.BuilderAtF.put (T:=175) (e:=5) hB aF (bs':=bs++Lib.strCells s) (by simpa[Lib.strCells_length]using jg) (by decide),?_,(bG.grown aX (Lib.ownsRowF_kind ag)).setCell ⟨b,1,none⟩ rfl _⟩;exact(aG.grown aX (by omega) (λk hk=>(ag.lt k hk).1)).setCell (p:=⟨b,1,none⟩) hB _
 clear ag jg aX fE aF aG bG;go_wp2;go_ret2;exact⟨rfl,HA.out⟩
def Bld (b:Nat)(s:ByteArray)(w:World):Prop:=IsBld b b (Lib.strCells s) w
theorem BldAt.below {B b:Nat}{p:Value}{bs:List Value}(h:BldAt B b p bs w)(hb:Below w.heap.size w w'):BldAt B b p bs w':=by
 have af:=h.lt;obtain⟨hB,v,fE,ag,cD⟩:=h;refine⟨hB,v,(hb.block b af).trans fE,⟨ag.1,?_⟩,cD⟩;rcases ag.2 with h0 | ⟨g,cap,cur,fz,h1,h2,h3,h4⟩
 ·exact .inl h0
 ·exact .inr ⟨g,cap,cur,fz,h1,h2,(hb.block g (Qg h3).1).trans h3,h4⟩
variable {b:Nat}{s:ByteArray}
theorem Bld.below (h:Bld b s w)(hb:Below w.heap.size w w'):Bld b s w':=h.elim (λh=>.inl (BldAt.below h hb)) (λh=>.inr (BldAt.below h hb))
theorem Bld.fresh (w:World):Bld w.heap.size ⟨#[]⟩ (w.alloc (.cells #[.pointer none,.slice none 0 0] 175)):=
 .inl ⟨QA _,.slice none 0 0,JS w _,World.ownsRowF_nil _ _ _ _,by simp[Value.ownBlock]⟩
theorem Bld.lt {w:World}(h:Bld b s w):b<w.heap.size:=h.elim (λh=>h.lt) (λh=>h.lt)
theorem Bld.of {bs:List Value}(h:ZiS b b bs w w')(e:bs=Lib.strCells s):Bld b s w':=.inr (e ▸ h.1)
theorem Zmz (s:ByteArray):Lib.strCells s++[.int .u8 32]=Lib.strCells (s++⟨#[32]⟩):=by
 unfold Lib.strCells;rw[ByteArray.data_append,Array.toList_append,QG];rfl
theorem Zne (s t:ByteArray):Lib.strCells s++Lib.strCells t=Lib.strCells (s++t):=by
 unfold Lib.strCells;rw[ByteArray.data_append,Array.toList_append,QG]
theorem bldByte {w:World}(h:Bld b s w)(hs:s.size<=1048576):
  Calls Tryz.prog 162 #[.pointer (some ⟨b,0,none⟩),.int .u8 32] w λe w'=>e=.returned .nilIface/\Bld b (s++⟨#[32]⟩) w'/\Below b w w'/\Lib.OthersKept 5 (some b) w w':=
 (Znd b b _ 32 w h (by rw[Lib.strCells_length];exact hs) (Nat.le_of_lt h.lt)).mono λe w' ⟨h1,h2⟩=>⟨h1,Bld.of h2 (Zmz s),h2.2.1,h2.2.2⟩
theorem Zld {s t:ByteArray}{w:World}(h:Bld b s w)(hs:s.size+t.size<=1048576):
  Calls Tryz.prog 163 #[.pointer (some ⟨b,0,none⟩),.string t] w λe w'=>e=.returned (.tuple #[.int .i64 t.size,.nilIface])/\Bld b (s++t) w'/\Below b w w'/\Lib.OthersKept 5 (some b) w w':=
 (bld_text b b _ t w h (by rw[Lib.strCells_length];omega) (Nat.le_of_lt h.lt)).mono λe w' ⟨h1,h2⟩=>⟨h1,Bld.of h2 (Zne s t),h2.2.1,h2.2.2⟩
theorem bldLen {w:World}(h:Bld b s w):
  Calls Tryz.prog 165 #[.pointer (some ⟨b,0,none⟩)] w λe w'=>e=.returned (.int .i64 s.size)/\w'=w:=by
 have:=Tryz.Builder_Len_f b b _ w h;rw[Lib.strCells_length]at this;exact this
theorem Zqz {w:World}(h:Bld b s w):
  Calls Tryz.prog 166 #[.pointer (some ⟨b,0,none⟩)] w λe w'=>e=.returned (.string s)/\Below b w w':=
 (Tryz.Builder_String_any_k b b s.data.toList w h (Nat.le_of_lt h.lt)).mono λe w' ⟨h1,h2⟩=>⟨h1,h2.2.1⟩
theorem ZqA {b g:Nat}{arr:Array Value}{ty:TypeId}{fr:Nat × Nat}(hk:Lib.OthersKept 5 (some b) w w')(h:w.heap[g]?=some (.cells arr ty fr))(hg:g≠b)(gD:ty≠5):w'.heap[g]?=some (.cells arr ty fr):=
 hk g _ h (λe=>hg (JL e)) (λc fz e=>gD (by simp only[Obj.cells.injEq]at e;exact e.2.1))
theorem ZqB (h:Zap s 1=true):s.size<=12:=(Zpu h).2.1
def set4 (w:World)(g:Nat)(v0 v1 v2 v3:Value):World:=(((w.setCell ⟨g,0,none⟩ v0).setCell ⟨g,1,none⟩ v1).setCell ⟨g,2,none⟩ v2).setCell ⟨g,3,none⟩ v3
section
variable {P:Program}{ops:Array Oper}{Q:Exit->Act->World->Prop}{md:Region.Mode}{S:World->Prop}
theorem Zkp (i d:Nat){oi:Oper}{v:Value}{cS:Nat}{cO:Array Bool}{a:Act}{w:World}(hi:ops[i]?=some oi)(hd:oi.dst=some d)
  (hs:Region.noSelect ops=true) (hf:Region.free md ops cO i=true) (hr:(Region.ready md ops cO).contains i=true)
  (hQ:∀c a w,Q (.panic c) (a.put (some d) v) w->Q (.panic c) a w) (hw:Region.wanted oi (yielded ops a.tmps)=true) (hS:S w)
  (hy:∀w,S w->(execOp a.eval oi).run P w=.ok (.value v) w)
  (h:wpAnyH P md ops Q S cS (cO.setIfInBounds i true) (a.put (some d) v) w):wpAnyH P md ops Q S (cS+1) cO a w:=
 wpAnyH_take hi hs hf hr (by rw[hd];exact hQ) (.inl ⟨hw,hy⟩) hS (by rw[hd];exact h)
end
variable {w:World}
theorem Za2 {g:Nat}{z0 z1 z2 z3:Value}{ty:TypeId}(h:w.heap[g]?=some (.cells #[z0,z1,z2,z3] ty (0,0)))(v0 v1 v2 v3:Value):
  (set4 w g v0 v1 v2 v3).heap[g]?=some (.cells #[v0,v1,v2,v3] ty (0,0)):=Zai (Zai (Zai (Zai h 0 _) 1 _) 2 _) 3 _
variable {g b:Nat}
theorem Zfk (h:b≠g)(v0 v1 v2 v3:Value):(set4 w g v0 v1 v2 v3).heap[b]?=w.heap[b]?:=by
 unfold set4;rw[QV _ _ _ _ h,QV _ _ _ _ h,QV _ _ _ _ h,QV _ _ _ _ h]
theorem ZcS (w:World)(g:Nat)(v0 v1 v2 v3:Value):(set4 w g v0 v1 v2 v3).heap.size=w.heap.size:=by
 unfold set4;simp
theorem ZaJ {B:Nat}{w0 w:World}(hB:Below B w0 w){g:Nat}(hg:B<=g)(v0 v1 v2 v3:Value):Below B w0 (set4 w g v0 v1 v2 v3):=
 ((((hB).setCell (p:=⟨g,0,none⟩) hg v0).setCell (p:=⟨g,1,none⟩) hg v1).setCell (p:=⟨g,2,none⟩) hg v2).setCell (p:=⟨g,3,none⟩) hg v3
theorem Shape.set4R {α:Type}(S:Shape α){w:World}{g:Nat}{cs:List Value}{d:α}{fp:List Nat}(h:S.R w cs d fp)(hn:g∉fp)(v0 v1 v2 v3:Value):S.R (set4 w g v0 v1 v2 v3) cs d fp:=
 S.frame (λb hb=>Zfk (λe:b=g=>hn (by rw[←e];exact hb)) _ _ _ _) h
theorem ZqC (h:b≠g)(j:Nat)(v0 v1 v2 v3:Value):(set4 w g v0 v1 v2 v3).cell? ⟨b,j,none⟩=w.cell? ⟨b,j,none⟩:=
 Qu (Zfk h v0 v1 v2 v3)
theorem ZeY (h:b≠g)(j:Nat)(v0 v1 v2 v3:Value):((((w.setCell ⟨g,0,none⟩ v0).setCell ⟨g,1,none⟩ v1).setCell ⟨g,2,none⟩ v2).setCell ⟨g,3,none⟩ v3).cell? ⟨b,j,none⟩=w.cell? ⟨b,j,none⟩:=ZqC h j v0 v1 v2 v3
theorem Own.set4 {lo g:Nat}{fp:List Nat}(h:Own w lo fp)(v0 v1 v2 v3:Value):Own (set4 w g v0 v1 v2 v3) lo fp:=
 (((h.setCell ⟨g,0,none⟩ v0).setCell ⟨g,1,none⟩ v1).setCell ⟨g,2,none⟩ v2).setCell ⟨g,3,none⟩ v3
theorem Zhy {α:Type}{S:Shape α}{w0 w:World}{g:Nat}{z0 z1 z2 z3:Value}{T:TypeId}{cs:List Value}{d:α}{fp:List Nat}(HX:w.heap[g]?=some (.cells #[z0,z1,z2,z3] T (0,0)))(hg:w0.heap.size<=g)
  (R:S.R w cs d fp) (O:Own w w0.heap.size fp) (hn:g∉fp) (hb:Below w0.heap.size w0 w) (v0 v1 v2 v3:Value) :
  (set4 w g v0 v1 v2 v3).heap[g]?=some (.cells #[v0,v1,v2,v3] T (0,0))/\w0.heap.size<=g/\g<(set4 w g v0 v1 v2 v3).heap.size/\S.R (set4 w g v0 v1 v2 v3) cs d fp/\Own (set4 w g v0 v1 v2 v3) w0.heap.size fp/\Below w0.heap.size w0 (set4 w g v0 v1 v2 v3):=
 ⟨Za2 HX _ _ _ _,hg,by rw[ZcS];exact(Qg HX).1,S.set4R R hn _ _ _ _,O.set4 _ _ _ _,ZaJ hb hg _ _ _ _⟩
section
variable {α:Type}{S:Shape α}{w w7:World}{g2 g3:Nat}{T:TypeId}{z0 z1 z2 z3 y0 y1 y2 y3:Value}{cs cs':List Value}{d d':α}{fp fp':List Nat}
end
def ZcF (m:DMacro):Prop:=m.name.size<=1000/\m.params.length<=100/\m.body.length<=100/\∀t∈m.body,t.hidden.length<=3
theorem of_small (l:List Tok):(macOf l).1.name.size<=12/\(macOf l).1.params.length<=4/\(macOf l).1.body.length<=20/\∀t∈(macOf l).1.body,t.hidden=[]:=by
 rcases h:macOf l with⟨m,ok⟩;cases ok
 ·have:=macOf_no h;subst this;exact⟨by show(0:Nat)<=12;omega,by show(0:Nat)<=4;omega,by show(0:Nat)<=20;omega,λt ht=>by simp[Zc9]at ht⟩
 ·obtain⟨⟨h1,h2,h3,h4,h5⟩,h6,h7⟩:=Za0 (macOf_ok h);refine⟨ZqB h1,h3,h5,λt ht=>?_⟩;obtain⟨k,hk,rfl⟩:=QY ht;exact(Zc1 hk (h7 k hk)).2.1
def Znf (rb p n:Nat)(w:World)(e:Ending)(w':World):Prop:=
 ∃(nm:ByteArray) (f:Bool) (a2 a3:Option Addr) (n2 c2 n3 c3:Nat) (ps:List ByteArray) (bd:List Tok) (fp:List Nat) (q:Nat),e=.returned (.agg #[.string nm,.bool f,.slice a2 n2 c2,.slice a3 n3 c3]) /\
  sMacro.R w' [.string nm,.bool f,.slice a2 n2 c2,.slice a3 n3 c3] ⟨nm,f,ps,bd⟩ fp/\ZcF ⟨nm,f,ps,bd⟩/\(∀b∈fp,w.heap.size<=b)/\q<=p+n/\Rd w' rb q/\Kept [rb] w w'
variable {m:DMacro}
theorem Zdm {w wP:World}{g rb q:Nat}{nm:ByteArray}{f:Bool}{s2 s3:Value}{fp:List Nat}(HZ:wP.heap[g]?=some (.cells #[.string ⟨#[]⟩,.bool false,.slice none 0 0,.slice none 0 0] 56 (0,0)))(R:sMacro.R wP [.string nm,.bool f,s2,s3] m fp)(hn:g∉fp)(HR:Rd wP rb q)(hr:rb<g)(HK:Kept [rb] w wP)(hg:w.heap.size<=g):
  (set4 wP g (.string nm) (.bool f) s2 s3).heap[g]?=some (.cells #[.string nm,.bool f,s2,s3] 56 (0,0))/\sMacro.R (set4 wP g (.string nm) (.bool f) s2 s3) [.string nm,.bool f,s2,s3] m fp/\Rd (set4 wP g (.string nm) (.bool f) s2 s3) rb q/\Kept [rb] w (set4 wP g (.string nm) (.bool f) s2 s3):=
 ⟨Zai (Zai (Zai (Zai HZ 0 _) 1 _) 2 _) 3 _,sMacro.setB (sMacro.setB (sMacro.setB (sMacro.setB R hn 0 _) hn 1 _) hn 2 _) hn 3 _,Zeq (Zeq (Zeq (Zeq HR hr 0 _) hr 1 _) hr 2 _) hr 3 _,ZcA (ZcA (ZcA (ZcA HK hg _ 0) hg _ 1) hg _ 2) hg _ 3⟩
theorem Zhb {rb p n q:Nat}{w wF:World}{nm:ByteArray}{f:Bool}{a2 a3:Option Addr}{n2 c2 n3 c3:Nat}{ps:List ByteArray}{bd:List Tok}{fp:List Nat}(hR:sMacro.R wF [.string nm,.bool f,.slice a2 n2 c2,.slice a3 n3 c3] ⟨nm,f,ps,bd⟩ fp)(ho:ZcF ⟨nm,f,ps,bd⟩)(cV:∀b∈fp,w.heap.size<=b)(hq:q<=p+n)(hRd:Rd wF rb q)(hK:Kept [rb] w wF):
  Znf rb p n w (.returned (.agg #[.string nm,.bool f,.slice a2 n2 c2,.slice a3 n3 c3])) wF:=⟨nm,f,a2,a3,n2,c2,n3,c3,ps,bd,fp,q,rfl,hR,ho,cV,hq,hRd,hK⟩
theorem ZeZ {w:World}{ops:Array Oper}{rest:List Oper}{o:Oper}{a:Act}{Q:Exit->Act->World->Prop}(hg:o.guard=none)(s y:Operand)
  (ho:o.op=.call { callee:=.builtin .append,args:=#[s,y],argTypes:=#[24,24] })
  (base:Nat) (v u:Value) (L:List (Elem Tok)) (M:List Tok) (fp:List Nat) (hs:a.eval s=v) (ag:RowE sTok base 32 v L w) (hy:a.eval y=u) (HM:(Zaa sTok).R w [u] M fp) (hh:∀t∈M,t.hidden=[])
  (dz:L.length+M.length<=2000000) (aK:base<=w.heap.size)
  (h:∀v' X w',X.map (·.d)=M->(∀x∈X,x.fp=[])->RowE sTok base 32 v' (L++X) w'->w.grownBy w' v.ownBlock->wpList Tryz.prog ops Q rest (a.put o.dst v') w'):wpList Tryz.prog ops Q (o::rest) a w:=by
 obtain⟨i,hi,cI,dQ,dZ⟩:=info_parts ti_tok.2;obtain⟨ad,cap,rfl,hc,hm,ai⟩:=Zac HM;by_cases h0:0<M.length
 ·obtain⟨b,off,bA,rfl,hb,-,he⟩:=ai h0;have yN:∀k,(hk:k<M.length)->∃hh:Value,ElemAt w b off 4 k [.int .i64 M[k].kind,.string M[k].text,.bool M[k].spaced,hh]/\sTok.R w [.int .i64 M[k].kind,.string M[k].text,.bool M[k].spaced,hh] M[k] []/\hh.oneCell'=true:=λk hk=>by
   obtain⟨es,hE,hR⟩:=he k hk;have ek:=hh _ (QE hk);obtain⟨hv,rfl,k1,k2,hK⟩:=hR;obtain⟨ao,co,rfl,fJ,li,-⟩:=Zac hK;exact⟨_,hE,⟨_,rfl,k1,k2,by rw[ek];exact Zao sStr w ao co li⟩,rfl⟩
  let X:List (Elem Tok):=List.ofFn λ(k:Fin M.length)=>(⟨[.int .i64 M[k.1].kind,.string M[k.1].text,.bool M[k.1].spaced,(yN k.1 k.2).choose],M[k.1],[]⟩:Elem Tok)
  have eH:X.length=M.length:=by simp[X]
  have hXg:∀k,(hk:k<X.length)->X[k]=⟨[.int .i64 (M[k]'(by omega)).kind,.string (M[k]'(by omega)).text,.bool (M[k]'(by omega)).spaced,(yN k (by omega)).choose],M[k]'(by omega),[]⟩:=λk hk=>by simp[X]
  have yO:∀x∈X,∃k,∃hk:k<M.length,x=⟨[.int .i64 M[k].kind,.string M[k].text,.bool M[k].spaced,(yN k hk).choose],M[k],[]⟩:=λx hx=>by
   obtain⟨k,hk,rfl⟩:=QY hx;exact⟨k,by omega,hXg k hk⟩
  have gE:X.map (·.d)=M:=List.ext_getElem (by simpa using eH) λk h1 h2=>by rw[JF,hXg k (by simpa using h1)]
  have hX4:∀x∈X,x.cells.length=4:=λx hx=>by obtain⟨k,hk,rfl⟩:=yO x hx;rfl
  have hX1:∀x∈X,∀u∈x.cells,u.oneCell'=true:=λx hx u hu=>by
   obtain⟨k,hk,rfl⟩:=yO x hx;have:=(yN k hk).choose_spec.2.2;simp only[Q7,Qz,or_false]at hu;rcases hu with rfl | rfl | rfl | rfl
   ·rfl
   ·rfl
   ·rfl
   ·exact this
  refine wpList_append_own _ hg s y _ ho base _ i _ 4 _ ti_tok.1 hi cI dQ dZ rfl (by decide) v L.length _ hs ag.row ⟨b,off,none⟩ M.length cap (X.flatMap (·.cells)) hy (by rw[ZaR hX4,eH]) ?_ ?_ (by unfold maxLen;omega) (by omega) aK λv' w' h1 h2 _=>h v' X w' gE (λx hx=>by obtain⟨k,hk,rfl⟩:=yO x hx;rfl) (ag.appended (X:=X) (by rw[QC,eH,Qo];exact h1) h2 hX4 (λx hx=>by obtain⟨k,hk,rfl⟩:=yO x hx;exact(yN k hk).choose_spec.2.1) (λx hx b hb=>by obtain⟨k,hk,rfl⟩:=yO x hx;simp at hb) (λx hx b hb=>by obtain⟨k,hk,rfl⟩:=yO x hx;simp at hb)) h2
  ·intro j u hj;have lj:j<X.length*4:=(by have:=(Qq.1 hj).1;rwa [ZaR hX4]at this);have hdm:j=j / 4*4+j % 4:=(by omega);have hk:j / 4<X.length:=(by omega);rw[hdm,Zb4 (f:=Elem.cells) hX4 hk (by omega),hXg _ hk]at hj;have hE:=(yN (j / 4) (by omega)).choose_spec.1;have:=hE.2 (j % 4) (by omega);rw[JN,show off+j=off+j / 4*4+j % 4 by omega,this];exact hj
  ·intro u hu;obtain⟨x,hx,hu⟩:=QO.1 hu;exact hX1 x hx u hu
 ·have hM:M=[]:=QU.1 (by omega);subst hM;cases ad with
  |
   none =>
   have gQ:=run_append_nil (P:=Tryz.prog) (w:=w) base _ o.type _ i 4 cap ti_tok.1 hi v L.length _ ag.row;have hK:=h v [] w rfl (by simp) (by simpa using ag) ⟨rfl,rfl,rfl,QA _,λ_ _ _=>rfl⟩;refine wpList_plain hg λK zP=>?_;unfold Oper.wp;simp only[JO]at hy;simp[execOp,ho,resolve,invoke,builtin,hs,hy,gQ,Result.andThen];exact zP _ _ hK
  |
   some ad =>
   refine wpList_append_own _ hg s y _ ho base _ i _ 4 _ ti_tok.1 hi cI dQ dZ rfl (by decide) v L.length _ hs ag.row ad 0 cap [] hy rfl (by simp) (by simp) (by unfold maxLen;omega) (by omega) aK λv' w' h1 h2 _=>h v' [] w' rfl (by simp) ?_ h2;exact ag.appended (X:=[]) (by have h1':=h1;simp only[Q0,Q5]at h1' ⊢;exact h1') h2 (by simp) (by simp) (by simp) (by simp)
def Zl1:List ByteArray:=[⟨#[97,32,49]⟩,⟨#[98,32,97,32,43,32,50]⟩,⟨#[65,66,32,97,32,98]⟩,⟨#[102,40,120,41,32,120,32,43,32,120]⟩,⟨#[103,40,120,44,121,41,32,120,32,35,35,32,121]⟩,⟨#[104,40,120,41,32,35,32,120]⟩,⟨#[101,40,41,32,55]⟩,⟨#[97,32,102]⟩,⟨#[114,32,114,32,43,32,49]⟩,⟨#[112,40,120,41,32,102,40,120,41]⟩,⟨#[113,40,120,44,121,44,122,41,32,122,32,121,32,120]⟩,⟨#[110]⟩,⟨#[102,40,120,41,32,120,32,35,35,32,49]⟩,⟨#[109,40,120,41,32,40,120,41,32,42,32,40,120,41]⟩,⟨#[98,32,98]⟩,⟨#[103,40,120,44,121,41,32,102,40,120,41,32,121]⟩,⟨#[97,32,40,32,50,32,41]⟩,⟨#[120,32,102,32,40,32,51]⟩,⟨#[99,40,120,41,32,120,32,120]⟩,⟨#[100,32,53,32,35,35,32,54]⟩]
theorem Zle:∀s∈Zl1,s.size<=14:=by decide
def Zl2:List ByteArray:=[⟨#[]⟩,⟨#[49]⟩,⟨#[100,101,102,105,110,101,100]⟩,⟨#[97,32,98]⟩]
theorem Zlf:∀s∈Zl2,s.size<=7:=by decide
def Zng:List ByteArray:=[⟨#[120]⟩,⟨#[49]⟩,⟨#[]⟩]
theorem ZmA:∀s∈Zng,s.size<=1:=by decide
theorem Znh {g:Prop}(h:g:=by
 have jh:Hid (∀b∈bv++dI,w.heap.size<=b):=λb hb=>by have:=(HLO.out b hb).1;omega
 clear HLO;go_wp2;refine JV (JX rfl _ _ w.heap.size _ _ _ _ rfl HS.out.1 Tryz.underlying56 rfl (by kernel_rfl)) rfl ?_
 exact Zhb HS.out.2.1 HOKF.out jh.out (by omega) HS.out.2.2.1 HS.out.2.2.2):g:=h
theorem Y10A14 {g:Prop}(h:g:=by
 have jh:Hid (∀b∈bv++ji,w.heap.size<=b):=λb hb=>(Qa hb).elim (λh=>by have:=(HLO.out b (by simp[h])).1;omega) (λh=>by have:=gG.out _ h;omega);clear HLO;go_wp2;refine JV (JX rfl _ _ w.heap.size _ _ _ _ rfl HS.out.1 Tryz.underlying56 rfl (by kernel_rfl)) rfl ?_
 exact Zhb HS.out.2.1 HOKF.out jh.out (by omega) HS.out.2.2.1 HS.out.2.2.2):g:=h
theorem Zni (rb p:Nat)(n:Int)(w:World)(H:Rd w rb p)(hp:p<=900000)(hn:n<=100)(ke:0<=n):
  Calls Tryz.prog 55 #[.pointer (some ⟨rb,0,none⟩),.int .i64 n] w (Znf rb p 10 w):=by
 have mC:=H.lt;have cI:=Zab w (.cells #[.string ⟨#[]⟩,.bool false,.slice none 0 0,.slice none 0 0] 56);have HZ:=Qh (JS w (.cells #[.string ⟨#[]⟩,.bool false,.slice none 0 0,.slice none 0 0] 56));have hzl:=Zab (w.alloc (.cells #[.string ⟨#[]⟩,.bool false,.slice none 0 0,.slice none 0 0] 56)) (.cells #[.string ⟨#[97,32,49]⟩,.string ⟨#[98,32,97,32,43,32,50]⟩,.string ⟨#[65,66,32,97,32,98]⟩,.string ⟨#[102,40,120,41,32,120,32,43,32,120]⟩,.string ⟨#[103,40,120,44,121,41,32,120,32,35,35,32,121]⟩,.string ⟨#[104,40,120,41,32,35,32,120]⟩,.string ⟨#[101,40,41,32,55]⟩,.string ⟨#[97,32,102]⟩,.string ⟨#[114,32,114,32,43,32,49]⟩,.string ⟨#[112,40,120,41,32,102,40,120,41]⟩,.string ⟨#[113,40,120,44,121,44,122,41,32,122,32,121,32,120]⟩,.string ⟨#[110]⟩,.string ⟨#[102,40,120,41,32,120,32,35,35,32,49]⟩,.string ⟨#[109,40,120,41,32,40,120,41,32,42,32,40,120,41]⟩,.string ⟨#[98,32,98]⟩,.string ⟨#[103,40,120,44,121,41,32,102,40,120,41,32,121]⟩,.string ⟨#[97,32,40,32,50,32,41]⟩,.string ⟨#[120,32,102,32,40,32,51]⟩,.string ⟨#[99,40,120,41,32,120,32,120]⟩,.string ⟨#[100,32,53,32,35,35,32,54]⟩] 9);have gP:(w.alloc (.cells #[.string ⟨#[]⟩,.bool false,.slice none 0 0,.slice none 0 0] 56)).heap.size=w.heap.size+1:=QR _;have lm:=Qh gP;clear gP;have iG:=Qh ((H.grow cI).grow hzl);go_enter Tryz.func55,Tryz.ntmps55;go_wp2_with fail
 refine(ZdO rb p _ _ iG.out (by omega) (by omega) (by omega)).mono ?_;rintro e w2⟨r,rfl,h0,h1,bN,gk⟩;obtain⟨s,hs,aS⟩:=Zht Zl1 20 (λs hs=>QZ (Zle s hs) (by decide)) h0 (by show r<20;omega) (by rw[lm.out];omega) gk;rw[lm.out]at aS;have aF:=cI.trans (hzl.mono cI.size);have Aw:=(Kept.of_below (fp:=[rb]) aF).trans gk;have HZ2:=Qh (Zea ((hzl.block _ (by rw[lm.out];omega)).trans HZ.out) gk (by omega));have bQ:ZaC s:=by unfold ZaC maxLen;omega
 clear hzl cI HZ iG;go_wp2_with fail
 refine(ZcI s _ bQ).mono ?_;rintro e w3⟨v3,f3,rfl,hT,hO,aC⟩;have az:=Zhr s;have Ax:=Aw.trans (Kept.of_below aC);have sw:=Qh (Zag HZ2.out aC);have gj:=bN.grow aC;clear hO aC aS HZ2 bN gk Aw aF;go_wp2_with fail
 refine(Znc v3 _ f3 _ (by omega) (λk hk=>by rw[az.2 _ (QE hk)];simp) hT).mono ?_;rintro e w4⟨cs,fp,rfl,hM,hMO,aM⟩;have eP:=of_small (Zau s).1;have hw34:w.heap.size+1<=w3.heap.size:=mlt sw.out;clear hT az;generalize macOf (Zau s).1=MM at hM eP;obtain⟨⟨nm,fb,ps,bd⟩,qR⟩:=MM;obtain⟨h2,h3,bv,dI,rfl,okn,K2,K3,rfl⟩:=hM;obtain⟨a2,c2,rfl,-⟩:=Zaf K2;obtain⟨a3,c3,rfl,-⟩:=Zac K3;obtain⟨sm1,sm2,sm3,sm4⟩:=eP;have Ay:=Ax.trans (Kept.of_below aM);have yP:=Zag sw.out aM;have kK:=gj.grow aM;have cV:∀b∈bv++dI,w.heap.size+1<=b/\b<w4.heap.size:=λb hb=>⟨by have:=(hMO.2 b hb).1;omega,hMO.lt b hb⟩;have bW:=Zab w4 (.cells #[.string nm,.bool fb,.slice a2 ps.length c2,.slice a3 bd.length c3] 56);have pK:=Qh (JS w4 (.cells #[.string nm,.bool fb,.slice a2 ps.length c2,.slice a3 bd.length c3] 56));have gH:=Qh (Zag yP bW);have eO:=Qh (kK.grow bW);have nk:=Qh (Ay.trans (Kept.of_below bW));have HP5:=Qh ((Zaa sStr).below K2 bW);have oX:=Qh ((Zaa sTok).below K3 bW);have nU:w.heap.size<w4.heap.size:=mlt yP;have bC:=Qh (And.intro okn (And.intro sm1 (And.intro sm2 (And.intro sm3 sm4))));have HLO:=Qh cV;clear hMO aM Ax Ay sw yP gj kK K2 K3 bW cV okn sm1 sm2 sm3 sm4;go_wp2_with fail
 refine(odd rb (p+1) n _ eO.out (by omega) (by omega) ke).mono ?_;rintro e w5⟨b,q,rfl,si,cU,kr,gI⟩;have kt:=Qh (Zea pK.out gI (by omega));have kO:=Qh (Zea gH.out gI (by omega));have gt:=Qh (nk.out.trans gI);have qS:∀b∈bv++dI,b∉[rb]:=λb hb hx=>by have:=(HLO.out b hb).1;have e:b=rb:=(by simpa using hx);omega
 have Az:=Qh ((Zaa sStr).kept HP5.out (λb hb=>qS b (by simp[hb])) gI);have qH:=Qh ((Zaa sTok).kept oX.out (λb hb=>qS b (by simp[hb])) gI);have jQ:=Qh kr;clear pK gH nk HP5 oX eO gI kr;cases b
 ·have y0:=Qc 0 kt.out;have y1:=Qc 1 kt.out;have y2:=Qc 2 kt.out;have y3:=Qc 3 kt.out;have z0:=Qc 0 kO.out;have dT:=Qf 0 kO.out;have z1:=Qc 1 kO.out;have dU:=Qf 1 kO.out;have z2:=Qc 2 kO.out;have dV:=Qf 2 kO.out;have z3:=Qc 3 kO.out;have dW:=Qf 3 kO.out;have HS:=Qh (Zdm (w:=w) (wP:=w5) kO.out (show sMacro.R w5 [.string nm,.bool fb,.slice a2 ps.length c2,.slice a3 bd.length c3] ⟨nm,fb,ps,bd⟩ (bv++dI) from⟨_,_,bv,dI,rfl,bC.out.1,Az.out,qH.out,rfl⟩) (λhx=>by have:=(HLO.out _ hx).1;omega) jQ.out (by omega) gt.out (QA _));have HOKF:Hid (ZcF ⟨nm,fb,ps,bd⟩):=⟨by have:=bC.out.2.1;show nm.size<=1000;omega,by have:=bC.out.2.2.1;show ps.length<=100;omega,by have:=bC.out.2.2.2.1;show bd.length<=100;omega,λt ht=>by rw[bC.out.2.2.2.2 t ht];simp⟩;exact Znh
 ·go_wp2_with fail
  refine(ZdO rb q _ _ jQ.out (by omega) (by omega) (by omega)).mono ?_;rintro e w6⟨r8,rfl,wl,wm,eQ,uG⟩;have iZ:=Qh (Zea kt.out uG (by omega));have ln:=Qh (Zea kO.out uG (by omega));have mH:=Qh (gt.out.trans uG);have uH:=Qh ((Zaa sStr).kept Az.out (λb hb=>qS b (by simp[hb])) uG);have gF:=Qh ((Zaa sTok).kept qH.out (λb hb=>qS b (by simp[hb])) uG);have fO:=Qh eQ;have yE:w4.heap.size<w6.heap.size:=mlt iZ.out;have iY:=Qh (show ¬(w.heap.size∈bv++dI) from λhx=>by have:=(HLO.out _ hx).1;omega);have dG:=Qh (show ¬(w4.heap.size∈bv++dI) from λhx=>by have:=(HLO.out _ hx).2;omega);clear kt kO gt Az qH jQ uG eQ qS;have hr8:r8=0\/r8=1\/r8=2\/r8=3\/r8=4\/r8=5\/r8=6\/r8=7:=by omega
  rcases hr8 with rfl | rfl | rfl | rfl | rfl | rfl | rfl | rfl
  ·have bK:=Zab w6 (.cells #[.string ⟨#[]⟩,.string ⟨#[49]⟩,.string ⟨#[100,101,102,105,110,101,100]⟩,.string ⟨#[97,32,98]⟩] 9);have HRl:=Qh (fO.out.grow bK);go_wp2_with fail
   refine(ZdO rb (q+1) _ _ HRl.out (by omega) (by omega) (by omega)).mono ?_;rintro e w7⟨r4,rfl,hr40,hr41,qI,wM⟩;obtain⟨sn,hsn,hcn⟩:=Zht Zl2 7 Zlf hr40 (by show r4<4;omega) (by omega) wM;have fP:=Qh (Zea (Zag iZ.out bK) wM (by omega));have gV:=Qh (Zea (Zag ln.out bK) wM (by omega));have qT:=Qh ((mH.out.trans (Kept.of_below bK)).trans wM);have qS:∀b∈bv++dI,b∉[rb]:=λb hb hx=>(by have:=(HLO.out b hb).1;have e:b=rb:=(by simpa using hx);omega);have uI:=Qh ((Zaa sStr).kept ((Zaa sStr).below uH.out bK) (λb hb=>qS b (by simp[hb])) wM);have il:=Qh ((Zaa sTok).kept ((Zaa sTok).below gF.out bK) (λb hb=>qS b (by simp[hb])) wM);have kM:=Qh qI;have wN:ZaC sn:=(by unfold ZaC maxLen;omega);clear wM qI bK HRl;have y0:=Qc 0 fP.out;have y1:=Qc 1 fP.out;have y2:=Qc 2 fP.out;have y3:=Qc 3 fP.out;have yf:=Qf 0 fP.out;have z0:=Qc 0 gV.out;have dT:=Qf 0 gV.out;have z1:=Qc 1 gV.out;have dU:=Qf 1 gV.out;have z2:=Qc 2 gV.out;have dV:=Qf 2 gV.out;have z3:=Qc 3 gV.out;have dW:=Qf 3 gV.out;have HS:=Qh (Zdm (w:=w) (wP:=w7.setCell ⟨w4.heap.size,0,none⟩ (.string sn)) (ZaK gV.out (by omega:w.heap.size≠w4.heap.size) 0 (.string sn)) (sMacro.setB (show sMacro.R w7 [.string sn,.bool fb,.slice a2 ps.length c2,.slice a3 bd.length c3] ⟨sn,fb,ps,bd⟩ (bv++dI) from⟨_,_,bv,dI,rfl,wN,uI.out,il.out,rfl⟩) dG.out 0 (.string sn)) iY.out (Zeq kM.out (by omega) 0 (.string sn)) (by omega) (ZcA qT.out (by omega) (.string sn) 0) (QA _));have HOKF:Hid (ZcF ⟨sn,fb,ps,bd⟩):=⟨by show sn.size<=1000;omega,by have:=bC.out.2.2.1;show ps.length<=100;omega,by have:=bC.out.2.2.2.1;show bd.length<=100;omega,λt ht=>by rw[bC.out.2.2.2.2 t ht];simp⟩;exact Znh
  ·have bK:=Zab w6 (.cells #[] 9);have bo:Hid ((w6.alloc (.cells #[] 9)).ownsRow w6.heap.size 9 1 (.slice (some ⟨w6.heap.size,0,none⟩) 0 0) ([]:List ByteArray).length (([]:List ByteArray).map Value.string)):=Q1 (base:=w6.heap.size) (e:=9) (size:=1) w6 #[] 0 (QA _) (by simp) rfl;have gW:=Qh (Zag iZ.out bK);have oY:=Qh (Zag ln.out bK);have io:=Qh (fO.out.grow bK);have o0:=Qh (mH.out.trans (Kept.of_below bK));have nW:=Qh ((Zaa sStr).below uH.out bK);have tC:=Qh ((Zaa sTok).below gF.out bK);obtain⟨_,_,-,-,-,-,cC⟩:=Zaf nW.out;have fL:=Qh cC;clear cC;have y2:(w6.alloc (.cells #[] 9)).cell? ⟨w4.heap.size,2,none⟩=some (.slice a2 ps.length c2):=Qc 2 gW.out;have pL:(w6.alloc (.cells #[] 9)).heap.size=w6.heap.size+1:=QR _;have qU:=Qh pL;have hps4:=bC.out.2.2.1;clear bK pL;have tg:q<=p+8:=by omega
   go_wp2_with (first
    |
     (
     at_builtin;refine ZbS rfl (.tmp 48) (.tmp 50) rfl w6.heap.size (.slice (some ⟨w6.heap.size,0,none⟩) 0 0) (.slice a2 ps.length c2) [] ps bv rfl bo.out rfl nW.out (by simp;omega) (by rw[qU.out];omega) ?_;intro v8 w8 hE hg;have ag:∀b,(Value.slice (some ⟨w6.heap.size,0,none⟩) 0 0).ownBlock=some b->w6.heap.size<=b:=λb hb=>(by simp only[Value.ownBlock,Qi]at hb;omega);have o7:w6.heap.size<(w6.alloc (.cells #[] 9)).heap.size:=(by rw[qU.out];omega);have kb:∀b,b<w6.heap.size->w8.heap[b]?=((w6.alloc (.cells #[] 9))).heap[b]?:=λb hb=>hg.block b (by omega) (λhe=>by have:=ag b he.symm;omega);have fP:=Qh ((kb _ (by omega)).trans gW.out);have gV:=Qh ((kb _ (by omega)).trans oY.out);have kM:=Qh (Zdu io.out hg (by omega:rb<w6.heap.size) (λb hb=>ag b hb));have qT:=Qh (Zcw o0.out hg (λb hb=>by have:=ag b hb;omega));have il:=Qh ((Zaa sTok).frame (λb hb=>kb b (by have:=(HLO.out b (by simp[hb])).2;omega)) tC.out);have yF:w6.heap.size<w8.heap.size:=QW o7 hg.size;rw[Q3]at hE;obtain⟨de,R1,-,-⟩:=ZbM (ok:=ZaC) hE fL.out;obtain⟨a8,c8,rfl,-⟩:=Zac R1;have uJ:=Qh hE;have o8:=Zab w8 (.cells #[.string ⟨#[120]⟩,.string ⟨#[49]⟩,.string ⟨#[]⟩] 9);have fF:=Qh (kM.out.grow o8);have HM9:=Qh (Zag fP.out o8);have jG:=Qh (Zag gV.out o8);have HK9:=Qh (qT.out.trans (Kept.of_below o8));have HB9:=Qh ((Zaa sTok).below il.out o8);have AB:=Qh (uJ.out.alloc (.cells #[.string ⟨#[120]⟩,.string ⟨#[49]⟩,.string ⟨#[]⟩] 9));have HS9:Hid ((w8.alloc (.cells #[.string ⟨#[120]⟩,.string ⟨#[49]⟩,.string ⟨#[]⟩] 9)).heap.size=w8.heap.size+1):=QR _
     clear hE hg kb ag y2 bo R1 kM fP gV qT il uJ o8)
    |
     (
     go_at_call 53
     refine(ZdO rb (q+1) _ _ fF.out (by omega) (by omega) (by omega)).mono ?_;rintro e w9⟨r9,rfl,hr90,hr91,hR,hK⟩;obtain⟨sn,hsn,hcn⟩:=Zht Zng 1 ZmA hr90 (by show r9<3;omega) (by omega) hK;have qS:∀b∈bv++dI,b∉[rb]:=λb hb hx=>(by have:=(HLO.out b hb).1;have e:b=rb:=(by simpa using hx);omega);have hs9:w8.heap.size<w9.heap.size:=(by have:=hK.size;have e:=HS9.out;omega);have HMA:=Qh (Zea HM9.out hK (by omega));have HZA:=Qh (Zea jG.out hK (by omega));have HKA:=Qh (HK9.out.trans hK);have lW:=Qh ((Zaa sTok).kept HB9.out (λb hb=>qS b (by simp[hb])) hK);have wO:=Qh (own_kept AB.out hK (by omega));have dx:=Qh hR;have wN:ZaC sn:=by unfold ZaC maxLen;omega
     clear hK hR qS fF HM9 jG HK9 HB9 AB HS9)
    |
     (
     at_builtin;refine Zck ti27 rfl _ (.string sn) rfl rfl (.tmp 51) (.tmp 57) rfl w6.heap.size (.slice a8 ps.length c8) ps.length (ps.map Value.string) rfl wO.out rfl (by unfold maxLen;omega) (by omega) (by omega) ?_;intro v10 o9 jS gu;have ag:∀b,(Value.slice a8 ps.length c8).ownBlock=some b->w6.heap.size<=b:=λb hb=>(wO.out.lt b hb).1;have kb:∀b,b<w6.heap.size->o9.heap[b]?=w9.heap[b]?:=λb hb=>gu.block b (by omega) (λhe=>by have:=ag b he.symm;omega);have jR:=Qh ((kb _ (by omega)).trans HMA.out);have d5:=Qh ((kb _ (by omega)).trans HZA.out);have tD:=Qh (Zdu dx.out gu (by omega:rb<w6.heap.size) (λb hb=>ag b hb));have AC:=Qh (Zcw HKA.out gu (λb hb=>by have:=ag b hb;omega));have d6:=Qh ((Zaa sTok).frame (λb hb=>kb b (by have:=(HLO.out b (by simp[hb])).2;omega)) lW.out);have AD:o9.ownsRow w6.heap.size 9 1 v10 (ps++[sn]).length ((ps++[sn]).map Value.string):=(by simpa using jS);obtain⟨fpP,hRP,hOP,-⟩:=ZbM (ok:=ZaC) AD (λi hi=>(Qa (QE hi)).elim (λh=>by obtain⟨k,hk,e⟩:=QY h;rw[←e];exact fL.out k hk) (λh=>by rw[Qm h];exact wN));have gG:Hid (∀b∈fpP,w6.heap.size<=b):=λb hb=>(hOP.2 b hb).1;have wQ:=Qh hRP;obtain⟨av,cv,hv,-⟩:=Zac hRP;generalize (ps++[sn]).length=nv at hv;subst hv;clear jS AD gu kb hRP hOP ag;have y0:=Qc 0 jR.out;have y1:=Qc 1 jR.out;have y2:=Qc 2 jR.out;have y3:=Qc 3 jR.out;have yf:=Qf 2 jR.out;have z0:=Qc 0 d5.out;have dT:=Qf 0 d5.out;have z1:=Qc 1 d5.out;have dU:=Qf 1 d5.out;have z2:=Qc 2 d5.out;have dV:=Qf 2 d5.out;have z3:=Qc 3 d5.out;have dW:=Qf 3 d5.out;have HS:=Qh (Zdm (w:=w) (wP:=o9.setCell ⟨w4.heap.size,2,none⟩ (.slice av nv cv)) (ZaK d5.out (by omega:w.heap.size≠w4.heap.size) 2 (.slice av nv cv)) (sMacro.setB (show sMacro.R o9 [.string nm,.bool fb,.slice av nv cv,.slice a3 bd.length c3] ⟨nm,fb,ps++[sn],bd⟩ (fpP++dI) from⟨_,_,fpP,dI,rfl,bC.out.1,wQ.out,d6.out,rfl⟩) (λhx=>(Qa hx).elim (λh=>by have:=gG.out _ h;omega) (λh=>dG.out (by simp[h]))) 2 (.slice av nv cv)) (λhx=>(Qa hx).elim (λh=>by have:=gG.out _ h;omega) (λh=>iY.out (by simp[h]))) (Zeq tD.out (by omega) 2 (.slice av nv cv)) (by omega) (ZcA AC.out (by omega) (.slice av nv cv) 2) (QA _));have HOKF:Hid (ZcF ⟨nm,fb,ps++[sn],bd⟩):=⟨by have:=bC.out.2.1;show nm.size<=1000;omega,by show(ps++[sn]).length<=100;simp only[QC,QQ,JO];omega,by have:=bC.out.2.2.2.1;show bd.length<=100;omega,λt ht=>by rw[bC.out.2.2.2.2 t ht];simp⟩;have jh:Hid (∀b∈fpP++dI,w.heap.size<=b):=λb hb=>(Qa hb).elim (λh=>by have:=gG.out _ h;omega) (λh=>by have:=(HLO.out b (by simp[h])).1;omega)
     clear HLO))
   refine JV (JX rfl _ _ w.heap.size _ _ _ _ rfl HS.out.1 Tryz.underlying56 rfl (by kernel_rfl)) rfl ?_;exact Zhb HS.out.2.1 HOKF.out jh.out (by omega) HS.out.2.2.1 HS.out.2.2.2
  ·have y0:=Qc 0 iZ.out;have y1:=Qc 1 iZ.out;have y2:=Qc 2 iZ.out;have y3:=Qc 3 iZ.out;have yf:=Qf 1 iZ.out;have z0:=Qc 0 ln.out;have dT:=Qf 0 ln.out;have z1:=Qc 1 ln.out;have dU:=Qf 1 ln.out;have z2:=Qc 2 ln.out;have dV:=Qf 2 ln.out;have z3:=Qc 3 ln.out;have dW:=Qf 3 ln.out;have HS:=Qh (Zdm (w:=w) (wP:=w6.setCell ⟨w4.heap.size,1,none⟩ (.bool (!fb))) (ZaK ln.out (by omega:w.heap.size≠w4.heap.size) 1 (.bool (!fb))) (sMacro.setB (show sMacro.R w6 [.string nm,.bool (!fb),.slice a2 ps.length c2,.slice a3 bd.length c3] ⟨nm,!fb,ps,bd⟩ (bv++dI) from⟨_,_,bv,dI,rfl,bC.out.1,uH.out,gF.out,rfl⟩) dG.out 1 (.bool (!fb))) iY.out (Zeq fO.out (by omega) 1 (.bool (!fb))) (by omega) (ZcA mH.out (by omega) (.bool (!fb)) 1) (QA _));have HOKF:Hid (ZcF ⟨nm,!fb,ps,bd⟩):=⟨by have:=bC.out.2.1;show nm.size<=1000;omega,by have:=bC.out.2.2.1;show ps.length<=100;omega,by have:=bC.out.2.2.2.1;show bd.length<=100;omega,λt ht=>by rw[bC.out.2.2.2.2 t ht];simp⟩;exact Znh
  ·have bK:=Zab w6 (.cells #[.int .i64 4,.string ⟨#[35,35]⟩,.bool false,.slice none 0 0] 32);have bo:Hid (RowE sTok w6.heap.size 32 (.slice (some ⟨w6.heap.size,0,none⟩) 1 1) [(⟨[.int .i64 4,.string ⟨#[35,35]⟩,.bool false,.slice none 0 0],⟨4,⟨#[35,35]⟩,false,[]⟩,[]⟩:Elem Tok)] (w6.alloc (.cells #[.int .i64 4,.string ⟨#[35,35]⟩,.bool false,.slice none 0 0] 32))):=RowE.lit [(⟨[.int .i64 4,.string ⟨#[35,35]⟩,.bool false,.slice none 0 0],⟨4,⟨#[35,35]⟩,false,[]⟩,[]⟩:Elem Tok)] (by intro x hx;obtain rfl:=Qm hx;rfl) (by intro x hx;obtain rfl:=Qm hx;exact⟨_,rfl,⟨by decide,by decide⟩,by show ZaC _;unfold ZaC;decide,Zao sStr _ _ _ (by simp)⟩) (by intro x hx b hb;obtain rfl:=Qm hx;simp at hb) (by intro x hx b hb;obtain rfl:=Qm hx;simp at hb) (QA _) (by decide);have gW:=Qh (Zag iZ.out bK);have oY:=Qh (Zag ln.out bK);have io:=Qh (fO.out.grow bK);have o0:=Qh (mH.out.trans (Kept.of_below bK));have nW:=Qh ((Zaa sStr).below uH.out bK);have tC:=Qh ((Zaa sTok).below gF.out bK);have y3:(w6.alloc (.cells #[.int .i64 4,.string ⟨#[35,35]⟩,.bool false,.slice none 0 0] 32)).cell? ⟨w4.heap.size,3,none⟩=some (.slice a3 bd.length c3):=Qc 3 gW.out;have pL:(w6.alloc (.cells #[.int .i64 4,.string ⟨#[35,35]⟩,.bool false,.slice none 0 0] 32)).heap.size=w6.heap.size+1:=QR _;have qU:=Qh pL;clear bK pL;have tg:q<=p+9:=by omega
   go_wp2_with (
    at_builtin;refine ZeZ rfl (.tmp 69) (.tmp 71) rfl w6.heap.size (.slice (some ⟨w6.heap.size,0,none⟩) 1 1) (.slice a3 bd.length c3) [(⟨[.int .i64 4,.string ⟨#[35,35]⟩,.bool false,.slice none 0 0],⟨4,⟨#[35,35]⟩,false,[]⟩,[]⟩:Elem Tok)] bd dI rfl bo.out rfl tC.out bC.out.2.2.2.2 (by have:=bC.out.2.2.2.1;simp;omega) (by rw[qU.out];omega) ?_;intro v8 X w8 hX dN hE hg;have ag:∀b,(Value.slice (some ⟨w6.heap.size,0,none⟩) 1 1).ownBlock=some b->w6.heap.size<=b:=bo.out.mine;have o7:w6.heap.size<(w6.alloc (.cells #[.int .i64 4,.string ⟨#[35,35]⟩,.bool false,.slice none 0 0] 32)).heap.size:=(by rw[qU.out];omega);have kb:∀b,b<w6.heap.size->w8.heap[b]?=((w6.alloc (.cells #[.int .i64 4,.string ⟨#[35,35]⟩,.bool false,.slice none 0 0] 32))).heap[b]?:=λb hb=>hg.block b (by omega) (λhe=>by have:=ag b he.symm;omega);have fP:=Qh ((kb _ (by omega)).trans gW.out);have gV:=Qh ((kb _ (by omega)).trans oY.out);have kM:=Qh (Zdu io.out hg (by omega:rb<w6.heap.size) (λb hb=>ag b hb));have qT:=Qh (Zcw o0.out hg (λb hb=>by have:=ag b hb;omega));have uI:=Qh ((Zaa sStr).frame (λb hb=>kb b (by have:=(HLO.out b (by simp[hb])).2;omega)) nW.out);obtain⟨ji,ll,kN⟩:=Zhx hE (λx hx=>(Qa hx).elim (λh=>by obtain rfl:=Qm h;rfl) (dN x));have gG:Hid (∀b∈ji,w6.heap.size<=b):=λb hb=>(kN.2 b hb).1;obtain⟨av,cv,hv,-⟩:=hE.val;generalize ([(⟨[.int .i64 4,.string ⟨#[35,35]⟩,.bool false,.slice none 0 0],⟨4,⟨#[35,35]⟩,false,[]⟩,[]⟩:Elem Tok)]++X).length=nv at hv;subst hv;have dH:=Qh ll;clear hE hg kb ll kN ag y3;have y0:=Qc 0 fP.out;have y1:=Qc 1 fP.out;have y2:=Qc 2 fP.out;have y3:=Qc 3 fP.out;have yf:=Qf 3 fP.out;have z0:=Qc 0 gV.out;have dT:=Qf 0 gV.out;have z1:=Qc 1 gV.out;have dU:=Qf 1 gV.out;have z2:=Qc 2 gV.out;have dV:=Qf 2 gV.out;have z3:=Qc 3 gV.out;have dW:=Qf 3 gV.out;have HS:=Qh (Zdm (w:=w) (wP:=w8.setCell ⟨w4.heap.size,3,none⟩ (.slice av nv cv)) (ZaK gV.out (by omega:w.heap.size≠w4.heap.size) 3 (.slice av nv cv)) (sMacro.setB (show sMacro.R w8 [.string nm,.bool fb,.slice a2 ps.length c2,.slice av nv cv] ⟨nm,fb,ps,([(⟨[.int .i64 4,.string ⟨#[35,35]⟩,.bool false,.slice none 0 0],⟨4,⟨#[35,35]⟩,false,[]⟩,[]⟩:Elem Tok)]++X).map (·.d)⟩ (bv++ji) from⟨_,_,bv,ji,rfl,bC.out.1,uI.out,dH.out,rfl⟩) (λhx=>(Qa hx).elim (λh=>dG.out (by simp[h])) (λh=>by have:=gG.out _ h;omega)) 3 (.slice av nv cv)) (λhx=>(Qa hx).elim (λh=>iY.out (by simp[h])) (λh=>by have:=gG.out _ h;omega)) (Zeq kM.out (by omega) 3 (.slice av nv cv)) (by omega) (ZcA qT.out (by omega) (.slice av nv cv) 3) (QA _));have HOKF:Hid (ZcF ⟨nm,fb,ps,([(⟨[.int .i64 4,.string ⟨#[35,35]⟩,.bool false,.slice none 0 0],⟨4,⟨#[35,35]⟩,false,[]⟩,[]⟩:Elem Tok)]++X).map (·.d)⟩):=⟨by have:=bC.out.2.1;show nm.size<=1000;omega,by have:=bC.out.2.2.1;show ps.length<=100;omega,by rw[QG,hX];simp;have:=bC.out.2.2.2.1;omega,λt ht=>by rw[QG,hX]at ht;exact(Qa ht).elim (λh=>by simp at h;rw[h];decide) (λh=>by rw[bC.out.2.2.2.2 t h];simp)⟩;have jh:Hid (∀b∈bv++ji,w.heap.size<=b):=λb hb=>(Qa hb).elim (λh=>by have:=(HLO.out b (by simp[h])).1;omega) (λh=>by have:=gG.out _ h;omega)
    clear HLO)
   refine JV (JX rfl _ _ w.heap.size _ _ _ _ rfl HS.out.1 Tryz.underlying56 rfl (by kernel_rfl)) rfl ?_;exact Zhb HS.out.2.1 HOKF.out jh.out (by omega) HS.out.2.2.1 HS.out.2.2.2
  ·have bK:=Zab w6 (.cells #[] 32);have bo:Hid (RowE sTok w6.heap.size 32 (.slice (some ⟨w6.heap.size,0,none⟩) 0 0) [] (w6.alloc (.cells #[] 32))):=RowE.lit [] (by simp) (by simp) (by simp) (by simp) (QA _) (by simp);have gW:=Qh (Zag iZ.out bK);have oY:=Qh (Zag ln.out bK);have io:=Qh (fO.out.grow bK);have o0:=Qh (mH.out.trans (Kept.of_below bK));have nW:=Qh ((Zaa sStr).below uH.out bK);have tC:=Qh ((Zaa sTok).below gF.out bK);have y3:(w6.alloc (.cells #[] 32)).cell? ⟨w4.heap.size,3,none⟩=some (.slice a3 bd.length c3):=Qc 3 gW.out;have pL:(w6.alloc (.cells #[] 32)).heap.size=w6.heap.size+1:=QR _;have qU:=Qh pL;clear bK pL;have tg:q<=p+9:=by omega
   go_wp2_with (first
    |
     (
     at_builtin;refine ZeZ rfl (.tmp 76) (.tmp 78) rfl w6.heap.size (.slice (some ⟨w6.heap.size,0,none⟩) 0 0) (.slice a3 bd.length c3) [] bd dI rfl bo.out rfl tC.out bC.out.2.2.2.2 (by have:=bC.out.2.2.2.1;simp;omega) (by rw[qU.out];omega) ?_;intro v8 X w8 hX dN hE hg;have ag:∀b,(Value.slice (some ⟨w6.heap.size,0,none⟩) 0 0).ownBlock=some b->w6.heap.size<=b:=bo.out.mine;have o7:w6.heap.size<(w6.alloc (.cells #[] 32)).heap.size:=(by rw[qU.out];omega);have kb:∀b,b<w6.heap.size->w8.heap[b]?=((w6.alloc (.cells #[] 32))).heap[b]?:=λb hb=>hg.block b (by omega) (λhe=>by have:=ag b he.symm;omega);have fP:=Qh ((kb _ (by omega)).trans gW.out);have gV:=Qh ((kb _ (by omega)).trans oY.out);have kM:=Qh (Zdu io.out hg (by omega:rb<w6.heap.size) (λb hb=>ag b hb));have qT:=Qh (Zcw o0.out hg (λb hb=>by have:=ag b hb;omega));have uI:=Qh ((Zaa sStr).frame (λb hb=>kb b (by have:=(HLO.out b (by simp[hb])).2;omega)) nW.out);have yF:w6.heap.size<w8.heap.size:=QW o7 hg.size;rw[Q3]at hE;obtain⟨a8,c8,qV,-⟩:=hE.val;obtain⟨n8,wR⟩:∃n,n=X.length:=⟨_,rfl⟩;rw[←wR]at qV;subst qV;have hn8b:n8<=20:=(by have e:X.length=bd.length:=(by rw[←hX,QH]);have:=bC.out.2.2.2.1;omega);have HN8:=Qh wR;have iI:=Qh hX;have uJ:=Qh hE
     clear hE hg kb ag y3 wR hX dN bo)
    |
     (
     at_builtin;refine Zcz rfl (.tmp 79) (.tmp 81) rfl w6.heap.size (.slice a8 n8 c8) X rfl uJ.out 4 ⟨#[35]⟩ false none 0 0 [] [] rfl (⟨_,rfl,⟨by decide,by decide⟩,by show ZaC _;unfold ZaC;decide,Zao sStr _ _ _ (by simp)⟩) (by simp) (by simp) (by rw[←HN8.out];omega) (by skip;omega) ?_;intro v10 o9 jS gu;have ag:=uJ.out.mine;have kb:∀b,b<w6.heap.size->o9.heap[b]?=w8.heap[b]?:=λb hb=>gu.block b (by skip;omega) (λhe=>by have:=ag b he.symm;omega);have jR:=Qh ((kb _ (by omega)).trans fP.out);have d5:=Qh ((kb _ (by omega)).trans gV.out);have tD:=Qh (Zdu kM.out gu (by omega:rb<w6.heap.size) (λb hb=>ag b hb));have AC:=Qh (Zcw qT.out gu (λb hb=>by have:=ag b hb;omega));have HPX:=Qh ((Zaa sStr).frame (λb hb=>kb b (by have:=(HLO.out b (by simp[hb])).2;omega)) uI.out);obtain⟨ji,ll,kN⟩:=jS.read;have gG:Hid (∀b∈ji,w6.heap.size<=b):=kN;have dH:=Qh ll;obtain⟨av,cv,hv,-⟩:=jS.val;generalize (X++[(⟨[.int .i64 4,.string ⟨#[35]⟩,.bool false,.slice none 0 0],⟨4,⟨#[35]⟩,false,[]⟩,[]⟩:Elem Tok)]).length=nv at hv;subst hv;clear jS gu kb ll kN ag;have y0:=Qc 0 jR.out;have y1:=Qc 1 jR.out;have y2:=Qc 2 jR.out;have y3:=Qc 3 jR.out;have yf:=Qf 3 jR.out;have z0:=Qc 0 d5.out;have dT:=Qf 0 d5.out;have z1:=Qc 1 d5.out;have dU:=Qf 1 d5.out;have z2:=Qc 2 d5.out;have dV:=Qf 2 d5.out;have z3:=Qc 3 d5.out;have dW:=Qf 3 d5.out;have HS:=Qh (Zdm (w:=w) (wP:=o9.setCell ⟨w4.heap.size,3,none⟩ (.slice av nv cv)) (ZaK d5.out (by omega:w.heap.size≠w4.heap.size) 3 (.slice av nv cv)) (sMacro.setB (show sMacro.R o9 [.string nm,.bool fb,.slice a2 ps.length c2,.slice av nv cv] ⟨nm,fb,ps,(X++[(⟨[.int .i64 4,.string ⟨#[35]⟩,.bool false,.slice none 0 0],⟨4,⟨#[35]⟩,false,[]⟩,[]⟩:Elem Tok)]).map (·.d)⟩ (bv++ji) from⟨_,_,bv,ji,rfl,bC.out.1,HPX.out,dH.out,rfl⟩) (λhx=>(Qa hx).elim (λh=>dG.out (by simp[h])) (λh=>by have:=gG.out _ h;omega)) 3 (.slice av nv cv)) (λhx=>(Qa hx).elim (λh=>iY.out (by simp[h])) (λh=>by have:=gG.out _ h;omega)) (Zeq tD.out (by omega) 3 (.slice av nv cv)) (by omega) (ZcA AC.out (by omega) (.slice av nv cv) 3) (QA _));have HOKF:Hid (ZcF ⟨nm,fb,ps,(X++[(⟨[.int .i64 4,.string ⟨#[35]⟩,.bool false,.slice none 0 0],⟨4,⟨#[35]⟩,false,[]⟩,[]⟩:Elem Tok)]).map (·.d)⟩):=⟨by have:=bC.out.2.1;show nm.size<=1000;omega,by have:=bC.out.2.2.1;show ps.length<=100;omega,by rw[QG,iI.out];simp;have:=bC.out.2.2.2.1;omega,λt ht=>by rw[QG,iI.out]at ht;exact(Qa ht).elim (λh=>by rw[bC.out.2.2.2.2 t h];simp) (λh=>by simp at h;rw[h];decide)⟩;have jh:Hid (∀b∈bv++ji,w.heap.size<=b):=λb hb=>(Qa hb).elim (λh=>by have:=(HLO.out b (by simp[h])).1;omega) (λh=>by have:=gG.out _ h;omega)
     clear HLO))
   refine JV (JX rfl _ _ w.heap.size _ _ _ _ rfl HS.out.1 Tryz.underlying56 rfl (by kernel_rfl)) rfl ?_;exact Zhb HS.out.2.1 HOKF.out jh.out (by omega) HS.out.2.2.1 HS.out.2.2.2
  ·have bK:=Zab w6 (.cells #[] 32);have bo:Hid (RowE sTok w6.heap.size 32 (.slice (some ⟨w6.heap.size,0,none⟩) 0 0) [] (w6.alloc (.cells #[] 32))):=RowE.lit [] (by simp) (by simp) (by simp) (by simp) (QA _) (by simp);have gW:=Qh (Zag iZ.out bK);have oY:=Qh (Zag ln.out bK);have io:=Qh (fO.out.grow bK);have o0:=Qh (mH.out.trans (Kept.of_below bK));have nW:=Qh ((Zaa sStr).below uH.out bK);have tC:=Qh ((Zaa sTok).below gF.out bK);have y3:(w6.alloc (.cells #[] 32)).cell? ⟨w4.heap.size,3,none⟩=some (.slice a3 bd.length c3):=Qc 3 gW.out;have pL:(w6.alloc (.cells #[] 32)).heap.size=w6.heap.size+1:=QR _;have qU:=Qh pL;clear bK pL;have tg:q<=p+9:=by omega
   go_wp2_with (first
    |
     (
     at_builtin;refine ZeZ rfl (.tmp 86) (.tmp 88) rfl w6.heap.size (.slice (some ⟨w6.heap.size,0,none⟩) 0 0) (.slice a3 bd.length c3) [] bd dI rfl bo.out rfl tC.out bC.out.2.2.2.2 (by have:=bC.out.2.2.2.1;simp;omega) (by rw[qU.out];omega) ?_;intro v8 X w8 hX dN hE hg;have ag:∀b,(Value.slice (some ⟨w6.heap.size,0,none⟩) 0 0).ownBlock=some b->w6.heap.size<=b:=bo.out.mine;have o7:w6.heap.size<(w6.alloc (.cells #[] 32)).heap.size:=(by rw[qU.out];omega);have kb:∀b,b<w6.heap.size->w8.heap[b]?=((w6.alloc (.cells #[] 32))).heap[b]?:=λb hb=>hg.block b (by omega) (λhe=>by have:=ag b he.symm;omega);have fP:=Qh ((kb _ (by omega)).trans gW.out);have gV:=Qh ((kb _ (by omega)).trans oY.out);have kM:=Qh (Zdu io.out hg (by omega:rb<w6.heap.size) (λb hb=>ag b hb));have qT:=Qh (Zcw o0.out hg (λb hb=>by have:=ag b hb;omega));have uI:=Qh ((Zaa sStr).frame (λb hb=>kb b (by have:=(HLO.out b (by simp[hb])).2;omega)) nW.out);have yF:w6.heap.size<w8.heap.size:=QW o7 hg.size;rw[Q3]at hE;obtain⟨a8,c8,qV,-⟩:=hE.val;obtain⟨n8,wR⟩:∃n,n=X.length:=⟨_,rfl⟩;rw[←wR]at qV;subst qV;have hn8b:n8<=20:=(by have e:X.length=bd.length:=(by rw[←hX,QH]);have:=bC.out.2.2.2.1;omega);have HN8:=Qh wR;have iI:=Qh hX;have uJ:=Qh hE;have wS:=Zab w8 (.cells #[.string ⟨#[97]⟩] 9);have hh:(w8.alloc (.cells #[.string ⟨#[97]⟩] 9)).ownsRow w8.heap.size 9 1 (.slice (some ⟨w8.heap.size,0,none⟩) 1 1) 1 (([⟨#[97]⟩]:List ByteArray).map Value.string):=Q1 (base:=w8.heap.size) (e:=9) (size:=1) w8 #[.string ⟨#[97]⟩] 1 (QA _) (by unfold maxLen;omega) rfl;obtain⟨wT,RH,OH,AE⟩:=ZbM (ok:=ZaC) hh (by intro i hi;have e:i=0:=(by simp at hi;omega);subst e;exact(show ZaC (⟨#[97]⟩:ByteArray) by unfold ZaC;decide));have qW:Hid (∀b∈wT,∃cur t fr,(w8.alloc (.cells #[.string ⟨#[97]⟩] 9)).heap[b]?=some (.cells cur t fr)/\t≠32):=λb hb=>by
      have e:=AE b hb;simp only[Value.ownBlock,Qi]at e;subst e;exact⟨_,_,_,JS w8 _,by decide⟩
     have HLH:Hid (∀b∈wT,w6.heap.size<=b):=λb hb=>(by have:=(OH.2 b hb).1;omega);have HRH:Hid (sTok.R (w8.alloc (.cells #[.string ⟨#[97]⟩] 9)) [.int .i64 1,.string ⟨#[97]⟩,.bool false,.slice (some ⟨w8.heap.size,0,none⟩) 1 1] ⟨1,⟨#[97]⟩,false,[⟨#[97]⟩]⟩ wT):=⟨_,rfl,⟨by decide,by decide⟩,by show ZaC _;unfold ZaC;decide,RH⟩;have HW9:Hid ((w8.alloc (.cells #[.string ⟨#[97]⟩] 9)).heap.size=w8.heap.size+1):=QR _;have HM9:=Qh (Zag fP.out wS);have jG:=Qh (Zag gV.out wS);have fF:=Qh (kM.out.grow wS);have HK9:=Qh (qT.out.trans (Kept.of_below wS));have HP9:=Qh ((Zaa sStr).below uI.out wS);have AB:=Qh (uJ.out.below wS);clear wS hh RH OH AE fP gV kM qT uI uJ
     clear hE hg kb ag y3 wR hX dN bo)
    |
     (
     at_builtin;refine Zcz rfl (.tmp 89) (.tmp 92) rfl w6.heap.size (.slice a8 n8 c8) X rfl AB.out 1 ⟨#[97]⟩ false (some ⟨w8.heap.size,0,none⟩) 1 1 [⟨#[97]⟩] wT (by rw[HW9.out];rfl) HRH.out HLH.out qW.out (by rw[←HN8.out];omega) (by rw[HW9.out];omega) ?_;intro v10 o9 jS gu;have ag:=AB.out.mine;have kb:∀b,b<w6.heap.size->o9.heap[b]?=(w8.alloc (.cells #[.string ⟨#[97]⟩] 9)).heap[b]?:=λb hb=>gu.block b (by rw[HW9.out];omega) (λhe=>by have:=ag b he.symm;omega);have jR:=Qh ((kb _ (by omega)).trans HM9.out);have d5:=Qh ((kb _ (by omega)).trans jG.out);have tD:=Qh (Zdu fF.out gu (by omega:rb<w6.heap.size) (λb hb=>ag b hb));have AC:=Qh (Zcw HK9.out gu (λb hb=>by have:=ag b hb;omega));have HPX:=Qh ((Zaa sStr).frame (λb hb=>kb b (by have:=(HLO.out b (by simp[hb])).2;omega)) HP9.out);obtain⟨ji,ll,kN⟩:=jS.read;have gG:Hid (∀b∈ji,w6.heap.size<=b):=kN;have dH:=Qh ll;obtain⟨av,cv,hv,-⟩:=jS.val;generalize (X++[(⟨[.int .i64 1,.string ⟨#[97]⟩,.bool false,.slice (some ⟨w8.heap.size,0,none⟩) 1 1],⟨1,⟨#[97]⟩,false,[⟨#[97]⟩]⟩,wT⟩:Elem Tok)]).length=nv at hv;subst hv;clear jS gu kb ll kN ag;have y0:=Qc 0 jR.out;have y1:=Qc 1 jR.out;have y2:=Qc 2 jR.out;have y3:=Qc 3 jR.out;have yf:=Qf 3 jR.out;have z0:=Qc 0 d5.out;have dT:=Qf 0 d5.out;have z1:=Qc 1 d5.out;have dU:=Qf 1 d5.out;have z2:=Qc 2 d5.out;have dV:=Qf 2 d5.out;have z3:=Qc 3 d5.out;have dW:=Qf 3 d5.out;have HS:=Qh (Zdm (w:=w) (wP:=o9.setCell ⟨w4.heap.size,3,none⟩ (.slice av nv cv)) (ZaK d5.out (by omega:w.heap.size≠w4.heap.size) 3 (.slice av nv cv)) (sMacro.setB (show sMacro.R o9 [.string nm,.bool fb,.slice a2 ps.length c2,.slice av nv cv] ⟨nm,fb,ps,(X++[(⟨[.int .i64 1,.string ⟨#[97]⟩,.bool false,.slice (some ⟨w8.heap.size,0,none⟩) 1 1],⟨1,⟨#[97]⟩,false,[⟨#[97]⟩]⟩,wT⟩:Elem Tok)]).map (·.d)⟩ (bv++ji) from⟨_,_,bv,ji,rfl,bC.out.1,HPX.out,dH.out,rfl⟩) (λhx=>(Qa hx).elim (λh=>dG.out (by simp[h])) (λh=>by have:=gG.out _ h;omega)) 3 (.slice av nv cv)) (λhx=>(Qa hx).elim (λh=>iY.out (by simp[h])) (λh=>by have:=gG.out _ h;omega)) (Zeq tD.out (by omega) 3 (.slice av nv cv)) (by omega) (ZcA AC.out (by omega) (.slice av nv cv) 3) (QA _));have HOKF:Hid (ZcF ⟨nm,fb,ps,(X++[(⟨[.int .i64 1,.string ⟨#[97]⟩,.bool false,.slice (some ⟨w8.heap.size,0,none⟩) 1 1],⟨1,⟨#[97]⟩,false,[⟨#[97]⟩]⟩,wT⟩:Elem Tok)]).map (·.d)⟩):=⟨by have:=bC.out.2.1;show nm.size<=1000;omega,by have:=bC.out.2.2.1;show ps.length<=100;omega,by rw[QG,iI.out];simp;have:=bC.out.2.2.2.1;omega,λt ht=>by rw[QG,iI.out]at ht;exact(Qa ht).elim (λh=>by rw[bC.out.2.2.2.2 t h];simp) (λh=>by simp at h;rw[h];decide)⟩;have jh:Hid (∀b∈bv++ji,w.heap.size<=b):=λb hb=>(Qa hb).elim (λh=>by have:=(HLO.out b (by simp[h])).1;omega) (λh=>by have:=gG.out _ h;omega)
     clear HLO))
   refine JV (JX rfl _ _ w.heap.size _ _ _ _ rfl HS.out.1 Tryz.underlying56 rfl (by kernel_rfl)) rfl ?_;exact Zhb HS.out.2.1 HOKF.out jh.out (by omega) HS.out.2.2.1 HS.out.2.2.2
  ·have bK:=Zab w6 (.cells #[.int .i64 1,.string ⟨#[97]⟩,.bool true,.slice none 0 0] 32);have bo:RowE sTok w6.heap.size 32 (.slice (some ⟨w6.heap.size,0,none⟩) 1 1) [(⟨[.int .i64 1,.string ⟨#[97]⟩,.bool true,.slice none 0 0],⟨1,⟨#[97]⟩,true,[]⟩,[]⟩:Elem Tok)] (w6.alloc (.cells #[.int .i64 1,.string ⟨#[97]⟩,.bool true,.slice none 0 0] 32)):=RowE.lit [(⟨[.int .i64 1,.string ⟨#[97]⟩,.bool true,.slice none 0 0],⟨1,⟨#[97]⟩,true,[]⟩,[]⟩:Elem Tok)] (by intro x hx;simp only[Q7,Qz,or_false]at hx;rcases hx with rfl <;> rfl) (by intro x hx;simp only[Q7,Qz,or_false]at hx;rcases hx with rfl <;> exact⟨_,rfl,⟨by decide,by decide⟩,by show ZaC _;unfold ZaC;decide,Zao sStr _ _ _ (by simp)⟩) (by intro x hx b hb;simp only[Q7,Qz,or_false]at hx;rcases hx with rfl <;> simp at hb) (by intro x hx b hb;simp only[Q7,Qz,or_false]at hx;rcases hx with rfl <;> simp at hb) (QA _) (by decide);obtain⟨ji,ll,kN⟩:=Zhx bo (by intro x hx;simp only[Q7,Qz,or_false]at hx;rcases hx with rfl <;> rfl);have gG:Hid (∀b∈ji,w6.heap.size<=b):=λb hb=>(kN.2 b hb).1;have dH:=Qh ll;have gW:=Qh (Zag iZ.out bK);have oY:=Qh (Zag ln.out bK);have io:=Qh (fO.out.grow bK);have o0:=Qh (mH.out.trans (Kept.of_below bK));have nW:=Qh ((Zaa sStr).below uH.out bK);clear bo ll kN bK;have x0:(w6.alloc (.cells #[.int .i64 1,.string ⟨#[97]⟩,.bool true,.slice none 0 0] 32)).cell? ⟨w4.heap.size,0,none⟩=some (.string nm):=Qc 0 gW.out;have x1:(w6.alloc (.cells #[.int .i64 1,.string ⟨#[97]⟩,.bool true,.slice none 0 0] 32)).cell? ⟨w4.heap.size,1,none⟩=some (.bool fb):=Qc 1 gW.out;have x2:(w6.alloc (.cells #[.int .i64 1,.string ⟨#[97]⟩,.bool true,.slice none 0 0] 32)).cell? ⟨w4.heap.size,2,none⟩=some (.slice a2 ps.length c2):=Qc 2 gW.out;have x3:(w6.alloc (.cells #[.int .i64 1,.string ⟨#[97]⟩,.bool true,.slice none 0 0] 32)).cell? ⟨w4.heap.size,3,none⟩=some (.slice a3 bd.length c3):=Qc 3 gW.out;have xf:(w6.alloc (.cells #[.int .i64 1,.string ⟨#[97]⟩,.bool true,.slice none 0 0] 32)).frozen? ⟨w4.heap.size,3,none⟩=false:=frozen_of_row _ _ 3 _ _ gW.out;have eW:(w6.alloc (.cells #[.int .i64 1,.string ⟨#[97]⟩,.bool true,.slice none 0 0] 32)).setCell ⟨w4.heap.size,3,none⟩ (.slice (some ⟨w6.heap.size,0,none⟩) 1 1)=((w6.setCell ⟨w4.heap.size,3,none⟩ (.slice (some ⟨w6.heap.size,0,none⟩) 1 1)).alloc (.cells #[.int .i64 1,.string ⟨#[97]⟩,.bool true,.slice none 0 0] 32)):=World.setCell_alloc_past _ _ _ _ yE;have qX:=Qh (eW ▸ Zai gW.out 3 (.slice (some ⟨w6.heap.size,0,none⟩) 1 1));have kP:=Qh (eW ▸ ZaK oY.out (by omega:w.heap.size≠w4.heap.size) 3 (.slice (some ⟨w6.heap.size,0,none⟩) 1 1));have fc:=Qh (eW ▸ Zeq io.out (by omega:rb<w4.heap.size) 3 (.slice (some ⟨w6.heap.size,0,none⟩) 1 1));have yQ:=Qh (eW ▸ ZcA o0.out (by omega:w.heap.size<=w4.heap.size) (.slice (some ⟨w6.heap.size,0,none⟩) 1 1) 3);have HPS:=Qh (eW ▸ (Zaa sStr).setB nW.out (λhx=>dG.out (by simp[hx])) 3 (.slice (some ⟨w6.heap.size,0,none⟩) 1 1));have HBS:=Qh (eW ▸ (Zaa sTok).setB dH.out (λhx=>by have:=gG.out _ hx;omega) 3 (.slice (some ⟨w6.heap.size,0,none⟩) 1 1));clear eW gW oY io o0 nW dH;have y0:((w6.setCell ⟨w4.heap.size,3,none⟩ (.slice (some ⟨w6.heap.size,0,none⟩) 1 1)).alloc (.cells #[.int .i64 1,.string ⟨#[97]⟩,.bool true,.slice none 0 0] 32)).cell? ⟨w4.heap.size,0,none⟩=some (.string nm):=Qc 0 qX.out;have y1:((w6.setCell ⟨w4.heap.size,3,none⟩ (.slice (some ⟨w6.heap.size,0,none⟩) 1 1)).alloc (.cells #[.int .i64 1,.string ⟨#[97]⟩,.bool true,.slice none 0 0] 32)).cell? ⟨w4.heap.size,1,none⟩=some (.bool fb):=Qc 1 qX.out;have y2:((w6.setCell ⟨w4.heap.size,3,none⟩ (.slice (some ⟨w6.heap.size,0,none⟩) 1 1)).alloc (.cells #[.int .i64 1,.string ⟨#[97]⟩,.bool true,.slice none 0 0] 32)).cell? ⟨w4.heap.size,2,none⟩=some (.slice a2 ps.length c2):=Qc 2 qX.out;have y3:((w6.setCell ⟨w4.heap.size,3,none⟩ (.slice (some ⟨w6.heap.size,0,none⟩) 1 1)).alloc (.cells #[.int .i64 1,.string ⟨#[97]⟩,.bool true,.slice none 0 0] 32)).cell? ⟨w4.heap.size,3,none⟩=some (.slice (some ⟨w6.heap.size,0,none⟩) 1 1):=Qc 3 qX.out;have z0:((w6.setCell ⟨w4.heap.size,3,none⟩ (.slice (some ⟨w6.heap.size,0,none⟩) 1 1)).alloc (.cells #[.int .i64 1,.string ⟨#[97]⟩,.bool true,.slice none 0 0] 32)).cell? ⟨w.heap.size,0,none⟩=some (.string ⟨#[]⟩):=Qc 0 kP.out;have dT:((w6.setCell ⟨w4.heap.size,3,none⟩ (.slice (some ⟨w6.heap.size,0,none⟩) 1 1)).alloc (.cells #[.int .i64 1,.string ⟨#[97]⟩,.bool true,.slice none 0 0] 32)).frozen? ⟨w.heap.size,0,none⟩=false:=frozen_of_row _ _ 0 _ _ kP.out;have z1:((w6.setCell ⟨w4.heap.size,3,none⟩ (.slice (some ⟨w6.heap.size,0,none⟩) 1 1)).alloc (.cells #[.int .i64 1,.string ⟨#[97]⟩,.bool true,.slice none 0 0] 32)).cell? ⟨w.heap.size,1,none⟩=some (.bool false):=Qc 1 kP.out;have dU:((w6.setCell ⟨w4.heap.size,3,none⟩ (.slice (some ⟨w6.heap.size,0,none⟩) 1 1)).alloc (.cells #[.int .i64 1,.string ⟨#[97]⟩,.bool true,.slice none 0 0] 32)).frozen? ⟨w.heap.size,1,none⟩=false:=frozen_of_row _ _ 1 _ _ kP.out;have z2:((w6.setCell ⟨w4.heap.size,3,none⟩ (.slice (some ⟨w6.heap.size,0,none⟩) 1 1)).alloc (.cells #[.int .i64 1,.string ⟨#[97]⟩,.bool true,.slice none 0 0] 32)).cell? ⟨w.heap.size,2,none⟩=some (.slice none 0 0):=Qc 2 kP.out;have dV:((w6.setCell ⟨w4.heap.size,3,none⟩ (.slice (some ⟨w6.heap.size,0,none⟩) 1 1)).alloc (.cells #[.int .i64 1,.string ⟨#[97]⟩,.bool true,.slice none 0 0] 32)).frozen? ⟨w.heap.size,2,none⟩=false:=frozen_of_row _ _ 2 _ _ kP.out;have z3:((w6.setCell ⟨w4.heap.size,3,none⟩ (.slice (some ⟨w6.heap.size,0,none⟩) 1 1)).alloc (.cells #[.int .i64 1,.string ⟨#[97]⟩,.bool true,.slice none 0 0] 32)).cell? ⟨w.heap.size,3,none⟩=some (.slice none 0 0):=Qc 3 kP.out;have dW:((w6.setCell ⟨w4.heap.size,3,none⟩ (.slice (some ⟨w6.heap.size,0,none⟩) 1 1)).alloc (.cells #[.int .i64 1,.string ⟨#[97]⟩,.bool true,.slice none 0 0] 32)).frozen? ⟨w.heap.size,3,none⟩=false:=frozen_of_row _ _ 3 _ _ kP.out;have HS:=Qh (Zdm (w:=w) (wP:=((w6.setCell ⟨w4.heap.size,3,none⟩ (.slice (some ⟨w6.heap.size,0,none⟩) 1 1)).alloc (.cells #[.int .i64 1,.string ⟨#[97]⟩,.bool true,.slice none 0 0] 32))) kP.out (show sMacro.R ((w6.setCell ⟨w4.heap.size,3,none⟩ (.slice (some ⟨w6.heap.size,0,none⟩) 1 1)).alloc (.cells #[.int .i64 1,.string ⟨#[97]⟩,.bool true,.slice none 0 0] 32)) [.string nm,.bool fb,.slice a2 ps.length c2,.slice (some ⟨w6.heap.size,0,none⟩) 1 1] ⟨nm,fb,ps,([(⟨[.int .i64 1,.string ⟨#[97]⟩,.bool true,.slice none 0 0],⟨1,⟨#[97]⟩,true,[]⟩,[]⟩:Elem Tok)]).map (·.d)⟩ (bv++ji) from⟨_,_,bv,ji,rfl,bC.out.1,HPS.out,HBS.out,rfl⟩) (λhx=>(Qa hx).elim (λh=>iY.out (by simp[h])) (λh=>by have:=gG.out _ h;omega)) fc.out (by omega) yQ.out (QA _));have HOKF:Hid (ZcF ⟨nm,fb,ps,([(⟨[.int .i64 1,.string ⟨#[97]⟩,.bool true,.slice none 0 0],⟨1,⟨#[97]⟩,true,[]⟩,[]⟩:Elem Tok)]).map (·.d)⟩):=⟨by have:=bC.out.2.1;show nm.size<=1000;omega,by have:=bC.out.2.2.1;show ps.length<=100;omega,by show(1:Nat)<=100;omega,λt ht=>by simp only[QL,QN,Q7,Qz,or_false]at ht;rcases ht with rfl <;> decide⟩
   exact Y10A14
  ·have bK:=Zab w6 (.cells #[.int .i64 1,.string ⟨#[97]⟩,.bool false,.slice none 0 0,.int .i64 4,.string ⟨#[35,35]⟩,.bool false,.slice none 0 0,.int .i64 4,.string ⟨#[35,35]⟩,.bool false,.slice none 0 0,.int .i64 1,.string ⟨#[98]⟩,.bool false,.slice none 0 0] 32);have bo:RowE sTok w6.heap.size 32 (.slice (some ⟨w6.heap.size,0,none⟩) 4 4) [(⟨[.int .i64 1,.string ⟨#[97]⟩,.bool false,.slice none 0 0],⟨1,⟨#[97]⟩,false,[]⟩,[]⟩:Elem Tok),(⟨[.int .i64 4,.string ⟨#[35,35]⟩,.bool false,.slice none 0 0],⟨4,⟨#[35,35]⟩,false,[]⟩,[]⟩:Elem Tok),(⟨[.int .i64 4,.string ⟨#[35,35]⟩,.bool false,.slice none 0 0],⟨4,⟨#[35,35]⟩,false,[]⟩,[]⟩:Elem Tok),(⟨[.int .i64 1,.string ⟨#[98]⟩,.bool false,.slice none 0 0],⟨1,⟨#[98]⟩,false,[]⟩,[]⟩:Elem Tok)] (w6.alloc (.cells #[.int .i64 1,.string ⟨#[97]⟩,.bool false,.slice none 0 0,.int .i64 4,.string ⟨#[35,35]⟩,.bool false,.slice none 0 0,.int .i64 4,.string ⟨#[35,35]⟩,.bool false,.slice none 0 0,.int .i64 1,.string ⟨#[98]⟩,.bool false,.slice none 0 0] 32)):=RowE.lit [(⟨[.int .i64 1,.string ⟨#[97]⟩,.bool false,.slice none 0 0],⟨1,⟨#[97]⟩,false,[]⟩,[]⟩:Elem Tok),(⟨[.int .i64 4,.string ⟨#[35,35]⟩,.bool false,.slice none 0 0],⟨4,⟨#[35,35]⟩,false,[]⟩,[]⟩:Elem Tok),(⟨[.int .i64 4,.string ⟨#[35,35]⟩,.bool false,.slice none 0 0],⟨4,⟨#[35,35]⟩,false,[]⟩,[]⟩:Elem Tok),(⟨[.int .i64 1,.string ⟨#[98]⟩,.bool false,.slice none 0 0],⟨1,⟨#[98]⟩,false,[]⟩,[]⟩:Elem Tok)] (by intro x hx;simp only[Q7,Qz,or_false]at hx;rcases hx with rfl | rfl | rfl | rfl <;> rfl) (by intro x hx;simp only[Q7,Qz,or_false]at hx;rcases hx with rfl | rfl | rfl | rfl <;> exact⟨_,rfl,⟨by decide,by decide⟩,by show ZaC _;unfold ZaC;decide,Zao sStr _ _ _ (by simp)⟩) (by intro x hx b hb;simp only[Q7,Qz,or_false]at hx;rcases hx with rfl | rfl | rfl | rfl <;> simp at hb) (by intro x hx b hb;simp only[Q7,Qz,or_false]at hx;rcases hx with rfl | rfl | rfl | rfl <;> simp at hb) (QA _) (by decide);obtain⟨ji,ll,kN⟩:=Zhx bo (by intro x hx;simp only[Q7,Qz,or_false]at hx;rcases hx with rfl | rfl | rfl | rfl <;> rfl);have gG:Hid (∀b∈ji,w6.heap.size<=b):=λb hb=>(kN.2 b hb).1;have dH:=Qh ll;have gW:=Qh (Zag iZ.out bK);have oY:=Qh (Zag ln.out bK);have io:=Qh (fO.out.grow bK);have o0:=Qh (mH.out.trans (Kept.of_below bK));have nW:=Qh ((Zaa sStr).below uH.out bK);clear bo ll kN bK;have x0:(w6.alloc (.cells #[.int .i64 1,.string ⟨#[97]⟩,.bool false,.slice none 0 0,.int .i64 4,.string ⟨#[35,35]⟩,.bool false,.slice none 0 0,.int .i64 4,.string ⟨#[35,35]⟩,.bool false,.slice none 0 0,.int .i64 1,.string ⟨#[98]⟩,.bool false,.slice none 0 0] 32)).cell? ⟨w4.heap.size,0,none⟩=some (.string nm):=Qc 0 gW.out;have x1:(w6.alloc (.cells #[.int .i64 1,.string ⟨#[97]⟩,.bool false,.slice none 0 0,.int .i64 4,.string ⟨#[35,35]⟩,.bool false,.slice none 0 0,.int .i64 4,.string ⟨#[35,35]⟩,.bool false,.slice none 0 0,.int .i64 1,.string ⟨#[98]⟩,.bool false,.slice none 0 0] 32)).cell? ⟨w4.heap.size,1,none⟩=some (.bool fb):=Qc 1 gW.out;have x2:(w6.alloc (.cells #[.int .i64 1,.string ⟨#[97]⟩,.bool false,.slice none 0 0,.int .i64 4,.string ⟨#[35,35]⟩,.bool false,.slice none 0 0,.int .i64 4,.string ⟨#[35,35]⟩,.bool false,.slice none 0 0,.int .i64 1,.string ⟨#[98]⟩,.bool false,.slice none 0 0] 32)).cell? ⟨w4.heap.size,2,none⟩=some (.slice a2 ps.length c2):=Qc 2 gW.out;have x3:(w6.alloc (.cells #[.int .i64 1,.string ⟨#[97]⟩,.bool false,.slice none 0 0,.int .i64 4,.string ⟨#[35,35]⟩,.bool false,.slice none 0 0,.int .i64 4,.string ⟨#[35,35]⟩,.bool false,.slice none 0 0,.int .i64 1,.string ⟨#[98]⟩,.bool false,.slice none 0 0] 32)).cell? ⟨w4.heap.size,3,none⟩=some (.slice a3 bd.length c3):=Qc 3 gW.out;have xf:(w6.alloc (.cells #[.int .i64 1,.string ⟨#[97]⟩,.bool false,.slice none 0 0,.int .i64 4,.string ⟨#[35,35]⟩,.bool false,.slice none 0 0,.int .i64 4,.string ⟨#[35,35]⟩,.bool false,.slice none 0 0,.int .i64 1,.string ⟨#[98]⟩,.bool false,.slice none 0 0] 32)).frozen? ⟨w4.heap.size,3,none⟩=false:=frozen_of_row _ _ 3 _ _ gW.out;have eW:(w6.alloc (.cells #[.int .i64 1,.string ⟨#[97]⟩,.bool false,.slice none 0 0,.int .i64 4,.string ⟨#[35,35]⟩,.bool false,.slice none 0 0,.int .i64 4,.string ⟨#[35,35]⟩,.bool false,.slice none 0 0,.int .i64 1,.string ⟨#[98]⟩,.bool false,.slice none 0 0] 32)).setCell ⟨w4.heap.size,3,none⟩ (.slice (some ⟨w6.heap.size,0,none⟩) 4 4)=((w6.setCell ⟨w4.heap.size,3,none⟩ (.slice (some ⟨w6.heap.size,0,none⟩) 4 4)).alloc (.cells #[.int .i64 1,.string ⟨#[97]⟩,.bool false,.slice none 0 0,.int .i64 4,.string ⟨#[35,35]⟩,.bool false,.slice none 0 0,.int .i64 4,.string ⟨#[35,35]⟩,.bool false,.slice none 0 0,.int .i64 1,.string ⟨#[98]⟩,.bool false,.slice none 0 0] 32)):=World.setCell_alloc_past _ _ _ _ yE;have qX:=Qh (eW ▸ Zai gW.out 3 (.slice (some ⟨w6.heap.size,0,none⟩) 4 4));have kP:=Qh (eW ▸ ZaK oY.out (by omega:w.heap.size≠w4.heap.size) 3 (.slice (some ⟨w6.heap.size,0,none⟩) 4 4));have fc:=Qh (eW ▸ Zeq io.out (by omega:rb<w4.heap.size) 3 (.slice (some ⟨w6.heap.size,0,none⟩) 4 4));have yQ:=Qh (eW ▸ ZcA o0.out (by omega:w.heap.size<=w4.heap.size) (.slice (some ⟨w6.heap.size,0,none⟩) 4 4) 3);have HPS:=Qh (eW ▸ (Zaa sStr).setB nW.out (λhx=>dG.out (by simp[hx])) 3 (.slice (some ⟨w6.heap.size,0,none⟩) 4 4));have HBS:=Qh (eW ▸ (Zaa sTok).setB dH.out (λhx=>by have:=gG.out _ hx;omega) 3 (.slice (some ⟨w6.heap.size,0,none⟩) 4 4));clear eW gW oY io o0 nW dH;have y0:((w6.setCell ⟨w4.heap.size,3,none⟩ (.slice (some ⟨w6.heap.size,0,none⟩) 4 4)).alloc (.cells #[.int .i64 1,.string ⟨#[97]⟩,.bool false,.slice none 0 0,.int .i64 4,.string ⟨#[35,35]⟩,.bool false,.slice none 0 0,.int .i64 4,.string ⟨#[35,35]⟩,.bool false,.slice none 0 0,.int .i64 1,.string ⟨#[98]⟩,.bool false,.slice none 0 0] 32)).cell? ⟨w4.heap.size,0,none⟩=some (.string nm):=Qc 0 qX.out;have y1:((w6.setCell ⟨w4.heap.size,3,none⟩ (.slice (some ⟨w6.heap.size,0,none⟩) 4 4)).alloc (.cells #[.int .i64 1,.string ⟨#[97]⟩,.bool false,.slice none 0 0,.int .i64 4,.string ⟨#[35,35]⟩,.bool false,.slice none 0 0,.int .i64 4,.string ⟨#[35,35]⟩,.bool false,.slice none 0 0,.int .i64 1,.string ⟨#[98]⟩,.bool false,.slice none 0 0] 32)).cell? ⟨w4.heap.size,1,none⟩=some (.bool fb):=Qc 1 qX.out;have y2:((w6.setCell ⟨w4.heap.size,3,none⟩ (.slice (some ⟨w6.heap.size,0,none⟩) 4 4)).alloc (.cells #[.int .i64 1,.string ⟨#[97]⟩,.bool false,.slice none 0 0,.int .i64 4,.string ⟨#[35,35]⟩,.bool false,.slice none 0 0,.int .i64 4,.string ⟨#[35,35]⟩,.bool false,.slice none 0 0,.int .i64 1,.string ⟨#[98]⟩,.bool false,.slice none 0 0] 32)).cell? ⟨w4.heap.size,2,none⟩=some (.slice a2 ps.length c2):=Qc 2 qX.out;have y3:((w6.setCell ⟨w4.heap.size,3,none⟩ (.slice (some ⟨w6.heap.size,0,none⟩) 4 4)).alloc (.cells #[.int .i64 1,.string ⟨#[97]⟩,.bool false,.slice none 0 0,.int .i64 4,.string ⟨#[35,35]⟩,.bool false,.slice none 0 0,.int .i64 4,.string ⟨#[35,35]⟩,.bool false,.slice none 0 0,.int .i64 1,.string ⟨#[98]⟩,.bool false,.slice none 0 0] 32)).cell? ⟨w4.heap.size,3,none⟩=some (.slice (some ⟨w6.heap.size,0,none⟩) 4 4):=Qc 3 qX.out;have z0:((w6.setCell ⟨w4.heap.size,3,none⟩ (.slice (some ⟨w6.heap.size,0,none⟩) 4 4)).alloc (.cells #[.int .i64 1,.string ⟨#[97]⟩,.bool false,.slice none 0 0,.int .i64 4,.string ⟨#[35,35]⟩,.bool false,.slice none 0 0,.int .i64 4,.string ⟨#[35,35]⟩,.bool false,.slice none 0 0,.int .i64 1,.string ⟨#[98]⟩,.bool false,.slice none 0 0] 32)).cell? ⟨w.heap.size,0,none⟩=some (.string ⟨#[]⟩):=Qc 0 kP.out;have dT:((w6.setCell ⟨w4.heap.size,3,none⟩ (.slice (some ⟨w6.heap.size,0,none⟩) 4 4)).alloc (.cells #[.int .i64 1,.string ⟨#[97]⟩,.bool false,.slice none 0 0,.int .i64 4,.string ⟨#[35,35]⟩,.bool false,.slice none 0 0,.int .i64 4,.string ⟨#[35,35]⟩,.bool false,.slice none 0 0,.int .i64 1,.string ⟨#[98]⟩,.bool false,.slice none 0 0] 32)).frozen? ⟨w.heap.size,0,none⟩=false:=frozen_of_row _ _ 0 _ _ kP.out;have z1:((w6.setCell ⟨w4.heap.size,3,none⟩ (.slice (some ⟨w6.heap.size,0,none⟩) 4 4)).alloc (.cells #[.int .i64 1,.string ⟨#[97]⟩,.bool false,.slice none 0 0,.int .i64 4,.string ⟨#[35,35]⟩,.bool false,.slice none 0 0,.int .i64 4,.string ⟨#[35,35]⟩,.bool false,.slice none 0 0,.int .i64 1,.string ⟨#[98]⟩,.bool false,.slice none 0 0] 32)).cell? ⟨w.heap.size,1,none⟩=some (.bool false):=Qc 1 kP.out;have dU:((w6.setCell ⟨w4.heap.size,3,none⟩ (.slice (some ⟨w6.heap.size,0,none⟩) 4 4)).alloc (.cells #[.int .i64 1,.string ⟨#[97]⟩,.bool false,.slice none 0 0,.int .i64 4,.string ⟨#[35,35]⟩,.bool false,.slice none 0 0,.int .i64 4,.string ⟨#[35,35]⟩,.bool false,.slice none 0 0,.int .i64 1,.string ⟨#[98]⟩,.bool false,.slice none 0 0] 32)).frozen? ⟨w.heap.size,1,none⟩=false:=frozen_of_row _ _ 1 _ _ kP.out;have z2:((w6.setCell ⟨w4.heap.size,3,none⟩ (.slice (some ⟨w6.heap.size,0,none⟩) 4 4)).alloc (.cells #[.int .i64 1,.string ⟨#[97]⟩,.bool false,.slice none 0 0,.int .i64 4,.string ⟨#[35,35]⟩,.bool false,.slice none 0 0,.int .i64 4,.string ⟨#[35,35]⟩,.bool false,.slice none 0 0,.int .i64 1,.string ⟨#[98]⟩,.bool false,.slice none 0 0] 32)).cell? ⟨w.heap.size,2,none⟩=some (.slice none 0 0):=Qc 2 kP.out;have dV:((w6.setCell ⟨w4.heap.size,3,none⟩ (.slice (some ⟨w6.heap.size,0,none⟩) 4 4)).alloc (.cells #[.int .i64 1,.string ⟨#[97]⟩,.bool false,.slice none 0 0,.int .i64 4,.string ⟨#[35,35]⟩,.bool false,.slice none 0 0,.int .i64 4,.string ⟨#[35,35]⟩,.bool false,.slice none 0 0,.int .i64 1,.string ⟨#[98]⟩,.bool false,.slice none 0 0] 32)).frozen? ⟨w.heap.size,2,none⟩=false:=frozen_of_row _ _ 2 _ _ kP.out;have z3:((w6.setCell ⟨w4.heap.size,3,none⟩ (.slice (some ⟨w6.heap.size,0,none⟩) 4 4)).alloc (.cells #[.int .i64 1,.string ⟨#[97]⟩,.bool false,.slice none 0 0,.int .i64 4,.string ⟨#[35,35]⟩,.bool false,.slice none 0 0,.int .i64 4,.string ⟨#[35,35]⟩,.bool false,.slice none 0 0,.int .i64 1,.string ⟨#[98]⟩,.bool false,.slice none 0 0] 32)).cell? ⟨w.heap.size,3,none⟩=some (.slice none 0 0):=Qc 3 kP.out;have dW:((w6.setCell ⟨w4.heap.size,3,none⟩ (.slice (some ⟨w6.heap.size,0,none⟩) 4 4)).alloc (.cells #[.int .i64 1,.string ⟨#[97]⟩,.bool false,.slice none 0 0,.int .i64 4,.string ⟨#[35,35]⟩,.bool false,.slice none 0 0,.int .i64 4,.string ⟨#[35,35]⟩,.bool false,.slice none 0 0,.int .i64 1,.string ⟨#[98]⟩,.bool false,.slice none 0 0] 32)).frozen? ⟨w.heap.size,3,none⟩=false:=frozen_of_row _ _ 3 _ _ kP.out;have HS:=Qh (Zdm (w:=w) (wP:=((w6.setCell ⟨w4.heap.size,3,none⟩ (.slice (some ⟨w6.heap.size,0,none⟩) 4 4)).alloc (.cells #[.int .i64 1,.string ⟨#[97]⟩,.bool false,.slice none 0 0,.int .i64 4,.string ⟨#[35,35]⟩,.bool false,.slice none 0 0,.int .i64 4,.string ⟨#[35,35]⟩,.bool false,.slice none 0 0,.int .i64 1,.string ⟨#[98]⟩,.bool false,.slice none 0 0] 32))) kP.out (show sMacro.R ((w6.setCell ⟨w4.heap.size,3,none⟩ (.slice (some ⟨w6.heap.size,0,none⟩) 4 4)).alloc (.cells #[.int .i64 1,.string ⟨#[97]⟩,.bool false,.slice none 0 0,.int .i64 4,.string ⟨#[35,35]⟩,.bool false,.slice none 0 0,.int .i64 4,.string ⟨#[35,35]⟩,.bool false,.slice none 0 0,.int .i64 1,.string ⟨#[98]⟩,.bool false,.slice none 0 0] 32)) [.string nm,.bool fb,.slice a2 ps.length c2,.slice (some ⟨w6.heap.size,0,none⟩) 4 4] ⟨nm,fb,ps,([(⟨[.int .i64 1,.string ⟨#[97]⟩,.bool false,.slice none 0 0],⟨1,⟨#[97]⟩,false,[]⟩,[]⟩:Elem Tok),(⟨[.int .i64 4,.string ⟨#[35,35]⟩,.bool false,.slice none 0 0],⟨4,⟨#[35,35]⟩,false,[]⟩,[]⟩:Elem Tok),(⟨[.int .i64 4,.string ⟨#[35,35]⟩,.bool false,.slice none 0 0],⟨4,⟨#[35,35]⟩,false,[]⟩,[]⟩:Elem Tok),(⟨[.int .i64 1,.string ⟨#[98]⟩,.bool false,.slice none 0 0],⟨1,⟨#[98]⟩,false,[]⟩,[]⟩:Elem Tok)]).map (·.d)⟩ (bv++ji) from⟨_,_,bv,ji,rfl,bC.out.1,HPS.out,HBS.out,rfl⟩) (λhx=>(Qa hx).elim (λh=>iY.out (by simp[h])) (λh=>by have:=gG.out _ h;omega)) fc.out (by omega) yQ.out (QA _));have HOKF:Hid (ZcF ⟨nm,fb,ps,([(⟨[.int .i64 1,.string ⟨#[97]⟩,.bool false,.slice none 0 0],⟨1,⟨#[97]⟩,false,[]⟩,[]⟩:Elem Tok),(⟨[.int .i64 4,.string ⟨#[35,35]⟩,.bool false,.slice none 0 0],⟨4,⟨#[35,35]⟩,false,[]⟩,[]⟩:Elem Tok),(⟨[.int .i64 4,.string ⟨#[35,35]⟩,.bool false,.slice none 0 0],⟨4,⟨#[35,35]⟩,false,[]⟩,[]⟩:Elem Tok),(⟨[.int .i64 1,.string ⟨#[98]⟩,.bool false,.slice none 0 0],⟨1,⟨#[98]⟩,false,[]⟩,[]⟩:Elem Tok)]).map (·.d)⟩):=⟨by have:=bC.out.2.1;show nm.size<=1000;omega,by have:=bC.out.2.2.1;show ps.length<=100;omega,by show(4:Nat)<=100;omega,λt ht=>by simp only[QL,QN,Q7,Qz,or_false]at ht;rcases ht with rfl | rfl | rfl | rfl <;> decide⟩
   exact Y10A14
theorem ZjF (h:ZcF m):ZfX m:=⟨by have:=h.2.1;omega,by have:=h.2.2.1;omega,λk hk=>by have:=h.2.2.2 _ (QE hk);omega⟩
theorem defM_mem {l:List DMacro}:∀x∈(Zeh l m).1,x∈l\/x=m:=by
 intro x hx;unfold Zeh at hx;split at hx
 ·split at hx
  ·split at hx
   ·exact .inl hx
   ·split at hx
    ·exact .inl hx
    ·unfold Zhw at hx;simp only[List.mem_append,JA]at hx;rcases hx with(h | h) | h
     ·exact .inl (JC h)
     ·exact .inr h
     ·exact .inl (JG h)
  ·exact .inl hx
 ·simp at hx
theorem defM_len (l:List DMacro)(m:DMacro):(Zeh l m).1.length<=l.length+1:=by
 unfold Zeh;split
 ·split
  ·split
   ·simp
   ·split
    ·simp
    ·unfold Zhw;simp only[QC,Qd,QM,List.length_singleton];omega
  ·simp
 ·simp
def DrawnTab (rb p n:Nat)(w:World)(e:Ending)(w':World):Prop:=
 ∃(v:Value) (l:List DMacro) (fp:List Nat) (q:Nat),e=.returned v/\(Zaa sMacro).R w' [v] l fp/\(∀b∈fp,w.heap.size<=b)/\(∀m∈l,ZcF m)/\l.length<=9/\q<=p+n/\Rd w' rb q/\Kept [rb] w w'
theorem Zhc {α:Type}{S:Shape α}{P:Program}{t e:TypeId}{z:Value}{bytes:Nat}(ti:TI P t e z S.m bytes)(ev:z.cells.size=S.m)(h0:0<S.m)(w:World){L X:List (Elem α)}{ops:Array Oper}{rest:List Oper}{o:Oper}{a:Act}{Q:Exit->Act->World->Prop}
  (hg:o.guard=none) (s y:Operand) (ho:o.op=.call { callee:=.builtin .append,args:=#[s,y],argTypes:=#[t,t] })
  (base:Nat) (v:Value) (hs:a.eval s=v) (ag:RowG S base e v L w) (g off m c:Nat) (hy:a.eval y=.slice (some ⟨g,off,none⟩) m c) (hm:X.length=m)
  (hX:∀x∈X,x.cells.length=S.m/\S.R w x.cells x.d x.fp/\∀b∈x.fp,v.ownBlock≠some b) (h1:∀x∈X,∀u∈x.cells,u.oneCell'=true) (aJ:∀j u,(X.flatMap (·.cells))[j]?=some u->w.cell? ⟨g,off+j,none⟩=some u)
  (dz:L.length+m<=maxLen) (aO:(L.length+m)*bytes<=140737488355328) (aK:base<=w.heap.size)
  (h:∀v' fp w',(Zaa S).R w' [v'] ((L++X).map (·.d)) fp->(∀b∈fp,base<=b\/∃x∈L++X,b∈x.fp)->w.grownBy w' v.ownBlock->wpList P ops Q rest (a.put o.dst v') w'):wpList P ops Q (o::rest) a w:=by
 obtain⟨i,hi,cI,dQ,dZ⟩:=info_parts ti.2;subst hm;refine wpList_append_own _ hg s y t ho base e i z S.m bytes ti.1 hi cI dQ dZ ev h0 v L.length _ hs ag.row ⟨g,off,none⟩ X.length c (X.flatMap (·.cells)) hy (ZaR (f:=Elem.cells) λx hx=>(hX x hx).1) ?_ ?_ dz aO aK λv' w' r1 r2 _=>?_
 ·intro j u hj;rw[JN];exact aJ j u hj
 ·intro u hu;obtain⟨x,hx,hu⟩:=QO.1 hu;exact h1 x hx u hu
 ·have az:∀x∈L++X,x.cells.length=S.m/\S.R w' x.cells x.d x.fp:=λx hx=>by
   have hb:x.cells.length=S.m/\S.R w x.cells x.d x.fp/\∀b∈x.fp,v.ownBlock≠some b:=by
    rcases Qa hx with hx | hx
    ·exact⟨ag.len x hx,ag.el x hx,ag.ap x hx⟩
    ·exact hX x hx
   exact⟨hb.1,S.frame (λb aE=>r2.block b (S.lt hb.2.1 b aE) λe=>hb.2.2 b aE e.symm) hb.2.1⟩
  have ai:w'.ownsRow base e S.m v' (L++X).length ((L++X).flatMap (·.cells)):=by
   rw[QC,Qo];exact r1
  obtain⟨fp,q1,q2,_⟩:=Zbt ai az;refine h v' fp w' q1 (λb hb=>?_) r2;rcases q2 b hb with h0 | h0
  ·exact .inl (ai.lt b h0).1
  ·obtain⟨x,hx,aE⟩:=QO.1 h0;exact .inr ⟨x,hx,aE⟩
theorem l20Table (rb p:Nat)(n:Int)(w:World)(H:Rd w rb p)(hp:p<=1000)(hn:n<=100)(ke:0<=n):
  Calls Tryz.prog 30 #[.pointer (some ⟨rb,0,none⟩),.int .i64 n] w (DrawnTab rb p 200 w):=by
 have mC:=H.lt;have bo:=Qh (RowG.lit0 sMacro 56 w);have bH:=Zab w (.cells #[] 56);have nX:=Qh (H.grow bH);have HK0:=Qh (Kept.of_below (fp:=[rb]) bH);have tt:=bH.size;go_enter Tryz.func30,Tryz.ntmps30;go_wp2_with fail
 refine(ZdO rb p _ _ nX.out (by omega) (by omega) (by omega)).mono ?_;rintro e w1⟨r,rfl,wl,wm,bR,iE⟩;have HE1:=Qh (bo.out.kept iE (λg hg hx=>by have h1:=bo.out.mine g hg;have h2:g=rb:=(by simpa using hx);omega) (by simp));have wU:=Qh (HK0.out.trans iE);obtain⟨c,rfl⟩:∃c:Nat,r=c:=⟨r.toNat,by omega⟩;clear bo bH nX HK0 iE;go_wp2;go_loopw [5,6] (λo i wr=>∃(k q top:Nat) (L:List (Elem DMacro)),k<=c/\i=.int .i64 k/\q<=p+1+10*(c-k)/\w.heap.size<=top/\top<=wr.heap.size/\Hid (RowG sMacro top 56 o L wr)/\L.length+k<=c/\Hid (∀x∈L,ZcF x.d/\∀b∈x.fp,w.heap.size<=b)/\Rd wr rb q/\Kept [rb] w wr) (λ_ i _=>(intOf i).toNat)
 case atStart=>exact⟨c,p+1,w.heap.size,[],by omega,rfl,by omega,by omega,by have:=wU.out.size;omega,HE1,by simp,(show ∀x∈([]:List (Elem DMacro)),ZcF x.d/\∀b∈x.fp,w.heap.size<=b from by simp),bR,wU.out⟩
 case round =>
  clear HE1 wU bR;obtain⟨k,q,top,L,hk,rfl,hq,ht1,ht2,HE,pJ,HO,hR,hK⟩:=hrel;by_cases ek:0<k
  ·have hk0':(0:Int)<(k:Int):=(by omega);go_wp2_with fail
   refine(Zni rb q _ _ hR (by omega) (by omega) (by omega)).mono ?_;rintro e w2⟨nm,f,a2,a3,n2,c2,n3,c3,ps,bd,fp,q2,rfl,hT,bQ,cV,cU,bN,gk⟩;have uK:=Qh (HE.out.kept gk (λg hg hx=>by have h1:=HE.out.mine g hg;have h2:g=rb:=(by simpa using hx);omega) (λx hx b hb hy=>by have h1:=(HO.out x hx).2 b hb;have h2:b=rb:=(by simpa using hy);omega));have hKK:=hK.trans gk;obtain⟨uL,AF,-,-⟩:=uK.out.read;have cC:=hKK.size;have AG:=Qh bQ;have HLO:=Qh cV;go_wp2_with fail
   refine(Zol _ (L.map (·.d)) uL [.string nm,.bool f,.slice a2 n2 c2,.slice a3 n3 c3] ⟨nm,f,ps,bd⟩ fp _ (by rw[QH];omega) (λk hk=>by rw[JF];exact ZjF (HO.out _ (QE _)).1) (ZjF bQ) AF hT).mono ?_;rintro e w3⟨v3,L3,top3,rfl,l7,hD3,ht3,ht3',ep,aC⟩;have m9:=Qh l7;have hl3:L3.length+(k-1)<=c:=by
    have h1:=defM_len (L.map (·.d)) ⟨nm,f,ps,bd⟩;rw[←hD3,QH,QH]at h1;omega
   have AH:Hid (∀x∈L3,ZcF x.d/\∀b∈x.fp,w.heap.size<=b):=λx hx=>by
    refine⟨?_,λb hb=>by have:=ep x hx b hb;omega⟩;have hm:x.d∈(Zeh (L.map (·.d)) ⟨nm,f,ps,bd⟩).1:=(by rw[←hD3];exact List.mem_map_of_mem hx);rcases defM_mem _ hm with h | h
    ·obtain⟨y,hy,e⟩:=List.mem_map.1 h;rw[←e];exact(HO.out y hy).1
    ·rw[h];exact AG.out
   have AI:=Qh (bN.grow aC);have jF:=Qh (hKK.trans (Kept.of_below (fp:=[rb]) aC));clear hT bQ cV gk AF HE hD3 ep aC l7 bN hKK hK hR HO uK AG HLO;obtain⟨av,cv,rfl,-⟩:=m9.out.val;go_wp2;go_roundw;case rel=>exact⟨k-1,q2,top3,L3,by omega,by first | rfl | (congr 1;omega) | go_num,by omega,by omega,ht3',m9,by omega,AH,AI.out,jF.out⟩
   case measure=>simp[intOf];omega
  ·have hk0':¬(0:Int)<(k:Int):=(by omega);go_wp2_with fail
   refine(odd rb q n _ hR (by omega) (by omega) ke).mono ?_;rintro e w2⟨b,q2,rfl,si,cU,bN,gk⟩;have uK:=Qh (HE.out.kept gk (λg hg hx=>by have h1:=HE.out.mine g hg;have h2:g=rb:=(by simpa using hx);omega) (λx hx b hb hy=>by have h1:=(HO.out x hx).2 b hb;have h2:b=rb:=(by simpa using hy);omega));have uM:=Qh (hK.trans gk);have bC:Hid (∀m∈L.map (·.d),ZcF m):=λm hm=>by
    obtain⟨y,hy,e⟩:=List.mem_map.1 hm;rw[←e];exact(HO.out y hy).1
   have bi:=gk.size;have hl7:L.length<=7:=(by omega);clear HE hK gk hR;cases b
   ·obtain⟨uL,AF,bO,-⟩:=uK.out.read;have kx:=Qh AF;have cZ:Hid (∀b∈uL,w.heap.size<=b):=λb hb=>by
     rcases bO b hb with h | ⟨x,hx,h⟩
     ·have:=uK.out.mine b h;omega
     ·exact(HO.out x hx).2 b h
    clear AF bO;go_wp2;go_ret;exact⟨_,_,uL,q2,rfl,kx.out,cZ.out,bC.out,by rw[QH];omega,by omega,bN,uM.out⟩
   ·go_wp2_with fail
    refine(ZdO rb q2 _ _ bN (by omega) (by omega) (by omega)).mono ?_;rintro e w3⟨r3,rfl,h30,h31,gj,fY⟩;have m9:=Qh (uK.out.kept fY (λg hg hx=>by have h1:=uK.out.mine g hg;have h2:g=rb:=(by simpa using hx);omega) (λx hx b hb hy=>by have h1:=(HO.out x hx).2 b hb;have h2:b=rb:=(by simpa using hy);omega));have jF:=Qh (uM.out.trans fY);have iR:=fY.size;clear uK uM bN fY;by_cases h3:r3=0
    ·have h3':(r3==0)=true:=(by simp[h3]);clear h3;go_wp2_with fail
     refine(Zni rb (q2+1) _ _ gj (by omega) (by omega) (by omega)).mono ?_;rintro e w4⟨nm,f,a2,a3,n2,c2,n3,c3,ps,bd,fp,q4,rfl,hT,bQ,cV,hq4,kK,fZ⟩;have uv:=Qh (m9.out.kept fZ (λg hg hx=>by have h1:=m9.out.mine g hg;have h2:g=rb:=(by simpa using hx);omega) (λx hx b hb hy=>by have h1:=(HO.out x hx).2 b hb;have h2:b=rb:=(by simpa using hy);omega));have jN:=Qh (jF.out.trans fZ);have nn:=Qh (λg hg=>(m9.out.row.lt g hg).2);have Ab:=fZ.size;have HT:=Qh hT;have tE:=Qh bQ;have HLO:=Qh cV;have gl:=Qh kK;obtain⟨av,cv,rfl,-⟩:=uv.out.val;have bH:=Zab w4 (.cells #[.string nm,.bool f,.slice a2 n2 c2,.slice a3 n3 c3] 56);have lW:=Qh bH;clear hT bQ cV m9 jF gj fZ kK bH;go_wp2_with (at_builtin;refine Zhc Zcm rfl (by decide) _ (X:=[(⟨[.string nm,.bool f,.slice a2 n2 c2,.slice a3 n3 c3],⟨nm,f,ps,bd⟩,fp⟩:Elem DMacro)]) rfl (.tmp 36) (.tmp 39) rfl top (.slice av L.length cv) rfl (uv.out.below lW.out) w4.heap.size 0 1 1 rfl rfl (λx hx=>by obtain rfl:=Qm hx;exact⟨rfl,sMacro.below HT.out lW.out,λb hb e=>by have h1:=nn.out b e;have h2:=HLO.out b hb;omega⟩) (λx hx=>by obtain rfl:=Qm hx;simp[Value.oneCell']) (λj u hj=>by rw[QX,Qy _ _ _ _ rfl];simpa using hj) (by unfold maxLen;omega) (by omega) (by have:=lW.out.size;omega) ?_;intro v5 AJ w5 cz qY cG;have wV:=Qh qY;have eO:=Qh cz;have fM:=Qh (Zdu (gl.out.grow lW.out) cG (by omega) (λb hb=>uv.out.mine b hb));have Ar:=Qh (Zcw (jN.out.trans (Kept.of_below lW.out)) cG (λb hb=>by have:=uv.out.mine b hb;omega));clear cz cG qY)
     go_wp2;go_ret
     exact⟨_,_,AJ,q4,rfl,eO.out,λb hb=>by
      rcases wV.out b hb with h | ⟨x,hx,h⟩
      ·omega
      ·rcases Qa hx with hx | hx
       ·exact(HO.out x hx).2 b h
       ·obtain rfl:=Qm hx;have:=HLO.out b h;omega,λm hm=>by
      rw[QG,List.mem_append]at hm;rcases hm with h | h
      ·exact bC.out m h
      ·obtain rfl:=Qm h;exact tE.out,by rw[QH,QC];simp;omega,by omega,fM.out,Ar.out⟩
    ·have h3':(r3==0)=false:=(by simp[h3]);clear h3;have hAA:∀W:World,sMacro.R W [.string ⟨#[65]⟩,.bool false,.slice none 0 0,.slice none 0 0] ⟨⟨#[65]⟩,false,[],[]⟩ []:=λW=>⟨_,_,[],[],rfl,(by show ZaC _;unfold ZaC;decide),Zao sStr W none 0 (by simp),Zao sTok W none 0 (by simp),rfl⟩;obtain⟨av,cv,rfl,-⟩:=m9.out.val;have bH:=Zab w3 (.cells #[.string ⟨#[65]⟩,.bool false,.slice none 0 0,.slice none 0 0,.string ⟨#[65]⟩,.bool false,.slice none 0 0,.slice none 0 0] 56);have lW:=Qh bH;have nY:=Qh hAA;have AI:=Qh gj;clear bH hAA gj;go_wp2_with (at_builtin;refine Zhc Zcm rfl (by decide) _ (X:=[(⟨[.string ⟨#[65]⟩,.bool false,.slice none 0 0,.slice none 0 0],⟨⟨#[65]⟩,false,[],[]⟩,[]⟩:Elem DMacro),(⟨[.string ⟨#[65]⟩,.bool false,.slice none 0 0,.slice none 0 0],⟨⟨#[65]⟩,false,[],[]⟩,[]⟩:Elem DMacro)]) rfl (.tmp 29) (.tmp 32) rfl top (.slice av L.length cv) rfl (m9.out.below lW.out) w3.heap.size 0 2 2 rfl rfl (λx hx=>by have e:x=(⟨[.string ⟨#[65]⟩,.bool false,.slice none 0 0,.slice none 0 0],⟨⟨#[65]⟩,false,[],[]⟩,[]⟩:Elem DMacro):=(by simpa using hx);subst e;exact⟨rfl,nY.out _,by simp⟩) (λx hx=>by have e:x=(⟨[.string ⟨#[65]⟩,.bool false,.slice none 0 0,.slice none 0 0],⟨⟨#[65]⟩,false,[],[]⟩,[]⟩:Elem DMacro):=(by simpa using hx);subst e;simp[Value.oneCell']) (λj u hj=>by rw[QX,Qy _ _ _ _ rfl];simpa using hj) (by unfold maxLen;omega) (by omega) (by have:=lW.out.size;omega) ?_;intro v5 AJ w5 cz qY cG;have wV:=Qh qY;have eO:=Qh cz;have fM:=Qh (Zdu (AI.out.grow lW.out) cG (by omega) (λb hb=>m9.out.mine b hb));have Ar:=Qh (Zcw (jF.out.trans (Kept.of_below lW.out)) cG (λb hb=>by have:=m9.out.mine b hb;omega));clear cz cG qY)
     go_wp2;go_ret
     exact⟨_,_,AJ,q2+1,rfl,eO.out,λb hb=>by
      rcases wV.out b hb with h | ⟨x,hx,h⟩
      ·omega
      ·rcases Qa hx with hx | hx
       ·exact(HO.out x hx).2 b h
       ·have e:x=(⟨[.string ⟨#[65]⟩,.bool false,.slice none 0 0,.slice none 0 0],⟨⟨#[65]⟩,false,[],[]⟩,[]⟩:Elem DMacro):=(by simpa using hx);subst e;simp at h,λm hm=>by
      rw[QG,List.mem_append]at hm;rcases hm with h | h
      ·exact bC.out m h
      ·have e:m=⟨⟨#[65]⟩,false,[],[]⟩:=(by simpa using h);subst e
       exact⟨by show(1:Nat)<=_;omega,by show(0:Nat)<=_;omega,by show(0:Nat)<=_;omega,by simp⟩,by rw[QH,QC];simp;omega,by omega,fM.out,Ar.out⟩
end Go.Proofs.YtipfpppcbmpjiaaGreat
