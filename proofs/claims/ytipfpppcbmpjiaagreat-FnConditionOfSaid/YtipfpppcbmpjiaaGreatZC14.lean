/- Lemmas. -/
import Derived.Test.YtipfpppcbmpjiaaGreatZC13
set_option linter.unusedVariables false
set_option maxHeartbeats 16000000
set_option maxRecDepth 100000
set_option linter.unusedSimpArgs false
namespace Go.Proofs.YtipfpppcbmpjiaaGreat
open Go.RowKit
def Zf7 (a b:Tok)(w:World)(e:Ending)(w':World):Prop:=
 ∃(cs:List Value) (fp:List Nat),e=.returned (.tuple #[.agg cs.toArray,.bool (ZaD a b).2])/\sTok.R w' cs (ZaD a b).1 fp/\Own w' w.heap.size fp/\Below w.heap.size w w'
variable {w w':World}
theorem Zec {a b:Tok}(h:ZaD a b=(Zaw,false))(hb:Below w.heap.size w w'):Zf7 a b w (.returned (.tuple #[.agg #[.int .i64 0,.string ⟨#[]⟩,.bool false,.slice none 0 0],.bool false])) w':=
 ⟨[.int .i64 0,.string ⟨#[]⟩,.bool false,.slice none 0 0],[],by rw[h],by rw[h];exact⟨_,rfl,by unfold Zb3 Zaw;simp,by show(0:Nat)<=_;simp[maxLen],Zao sStr _ _ _ (by simp)⟩,Own.nil _ _,hb⟩
variable {fp:List Nat}
theorem Zjm {a b t:Tok}{hv:Value}(h:ZaD a b=(⟨t.kind,t.text,a.spaced,both a.hidden b.hidden⟩,true))(hk:Zb3 t.kind)(hs:ZaC t.text)(HR:(Zaa sStr).R w' [hv] (both a.hidden b.hidden) fp)(HO:Own w' w.heap.size fp)(hb:Below w.heap.size w w'):
  Zf7 a b w (.returned (.tuple #[.agg #[.int .i64 t.kind,.string t.text,.bool a.spaced,hv],.bool true])) w':=
 ⟨[.int .i64 t.kind,.string t.text,.bool a.spaced,hv],fp,by rw[h],by rw[h];exact⟨_,rfl,hk,hs,HR⟩,HO,hb⟩
theorem ZeI {w:World}{k:Int}{s:ByteArray}{p:Bool}{h:Value}{x:Tok}(H:sTok.R w [.int .i64 k,.string s,.bool p,h] x fp):(Zaa sStr).R w [h] x.hidden fp:=by
 obtain⟨h',e,-,-,K⟩:=H;simp only[JH,and_true]at e;rw[e.2.2.2];exact K
variable {t:Tok}
theorem Zcx (h:Zaj t=true):ZbO t.hidden=true:=by unfold Zaj at h;exact(JK.1 h).2
theorem Zme {w:World}{v:Value}(h:(Zaa sTok).R w [v] [t] fp):
  ∃(b off cap:Nat) (ah:Option Addr) (ch:Nat),v=.slice (some ⟨b,off,none⟩) 1 cap/\1<=cap/\cap<=maxLen/\b<w.heap.size/\b∈fp/\w.cell? ⟨b,off,none⟩=some (.int .i64 t.kind)/\w.cell? ⟨b,off+1,none⟩=some (.string t.text)/\w.cell? ⟨b,off+2,none⟩=some (.bool t.spaced)/\w.cell? ⟨b,off+3,none⟩=some (.slice ah t.hidden.length ch)/\Zb3 t.kind/\ZaC t.text:=by
 obtain⟨a,cap,rfl,hc,hm,ai⟩:=Zac h;obtain⟨b,off,bA,rfl,hb,eY,he⟩:=ai (by simp);obtain⟨es,hE,hR⟩:=he 0 (by simp);obtain⟨hv,rfl,hk,hs,K⟩:=hR;obtain⟨ah,ch,rfl,-⟩:=Zaf K;have c0:w.cell? ⟨b,off+0*4,none⟩=some _:=ZaB hE (by decide) rfl;have c1:w.cell? ⟨b,off+0*4+1,none⟩=some _:=Zae (j:=1) hE (by decide) rfl;have c2:w.cell? ⟨b,off+0*4+2,none⟩=some _:=Zae (j:=2) hE (by decide) rfl;have c3:w.cell? ⟨b,off+0*4+3,none⟩=some _:=Zae (j:=3) hE (by decide) rfl;simp only[Nat.zero_mul,Q0]at c0 c1 c2 c3;exact⟨b,off,cap,ah,ch,rfl,by simpa using hc,hm,hb,by rw[eY];simp,c0,c1,c2,c3,hk,hs⟩
variable {g:Prop}
theorem Y14A1 (h:g:=by
 obtain⟨z0,wZ,z1,xb,z2,xd,z3,xe⟩:=Q8 HZ.out;have HS:=Qh (Za2 HZ.out (.int .i64 0) (.string ⟨#[]⟩) (.bool false) (.slice none 0 0));have dM:=Qh (ZaJ uQ (g:=w.heap.size+1+1) (by omega) (.int .i64 0) (.string ⟨#[]⟩) (.bool false) (.slice none 0 0));unfold set4 at HS dM;go_wp2;refine JV (Zat rfl _ _ (w.heap.size+1+1) _ _ _ _ rfl HS.out Tryz.underlying32 rfl (by kernel_rfl)) rfl ?_
 exact Zec HF.out dM.out):g:=h
theorem ZjJ (ca cb:List Value)(a b:Tok)(mJ jf:List Nat)(w:World)(tI:a.hidden.length<=2000000)(hlb:b.hidden.length<=2000000)(sF:sTok.R w ca a mJ)(fs:sTok.R w cb b jf):
  Calls Tryz.prog 129 #[.agg ca.toArray,.agg cb.toArray] w (Zf7 a b w):=by
 have xg:=sF;have xh:=fs;obtain⟨ha,rfl,-,-,-⟩:=xg;obtain⟨hb,rfl,-,-,-⟩:=xh;have aC:=Zj3 w #[.int .i64 a.kind,.string a.text,.bool a.spaced,ha] #[.int .i64 b.kind,.string b.text,.bool b.spaced,hb] #[.int .i64 0,.string ⟨#[]⟩,.bool false,.slice none 0 0] 32 32 32;have HA:=Qh (Zfw w #[.int .i64 a.kind,.string a.text,.bool a.spaced,ha] #[.int .i64 b.kind,.string b.text,.bool b.spaced,hb] #[.int .i64 0,.string ⟨#[]⟩,.bool false,.slice none 0 0] 32 32 32);obtain⟨g1,g2,iR⟩:=ZfV w #[.int .i64 a.kind,.string a.text,.bool a.spaced,ha] #[.int .i64 b.kind,.string b.text,.bool b.spaced,hb] #[.int .i64 0,.string ⟨#[]⟩,.bool false,.slice none 0 0] 32 32 32;have HB:=Qh g1;have HZ:=Qh g2;have dx:=Qh (sTok.below sF aC);have dH:=Qh (sTok.below fs aC);have lp:Hid (w.heap.size∉jf/\w.heap.size+1∉jf):=⟨λhx=>by have:=sTok.lt fs _ hx;omega,λhx=>by have:=sTok.lt fs _ hx;omega⟩;have aQ:=aC;clear sF fs g1 g2 aC;go_enter Tryz.func129,Tryz.ntmps129;go_upto_region 1 with fail
 generalize (((w.alloc (.cells #[.int .i64 a.kind,.string a.text,.bool a.spaced,ha] 32)).alloc (.cells #[.int .i64 b.kind,.string b.text,.bool b.spaced,hb] 32)).alloc (.cells #[.int .i64 0,.string ⟨#[]⟩,.bool false,.slice none 0 0] 32))=W3 at *;have HCa:=Qh (ZeW _ _ _ W3 tI dx.out);obtain⟨c0,c1,c2,c3⟩:=Q4 HA.out;go_wp2_with fail
 refine HCa.out.mono ?_;rintro e w4⟨pN,pO,foa,rfl,Ra,loa,tya,b4⟩;clear c0 c1 c2 c3 HCa;replace HA:=Qh (Zag HA.out b4);replace HB:=Qh (Zag HB.out b4);replace HZ:=Qh (Zag HZ.out b4);obtain⟨c0,cz0,c1,cz1,c2,cz2,c3,cz3⟩:=Q8 HA.out;have hsz4:w.heap.size+3<=w4.heap.size:=by have:=b4.size;omega
 have hB4:=ZaJ (aQ.trans (b4.mono aQ.size)) (g:=w.heap.size) (by omega) (.int .i64 a.kind) (.string a.text) (.bool a.spaced) (.slice pN a.hidden.length pO);replace dx:=Qh (sTok.set4R Ra (g:=w.heap.size) (λhx=>by have:=loa _ hx;omega) (.int .i64 a.kind) (.string a.text) (.bool a.spaced) (.slice pN a.hidden.length pO));replace dH:=Qh (sTok.set4R (sTok.below dH.out b4) (g:=w.heap.size) (lp.out.1) (.int .i64 a.kind) (.string a.text) (.bool a.spaced) (.slice pN a.hidden.length pO));replace HA:=Qh (Za2 HA.out (.int .i64 a.kind) (.string a.text) (.bool a.spaced) (.slice pN a.hidden.length pO));replace HB:=Qh ((Zfk (g:=w.heap.size) (by omega) (.int .i64 a.kind) (.string a.text) (.bool a.spaced) (.slice pN a.hidden.length pO)).trans HB.out);replace HZ:=Qh ((Zfk (g:=w.heap.size) (by omega) (.int .i64 a.kind) (.string a.text) (.bool a.spaced) (.slice pN a.hidden.length pO)).trans HZ.out);have Ab:w.heap.size+3<=(set4 w4 (w.heap.size) (.int .i64 a.kind) (.string a.text) (.bool a.spaced) (.slice pN a.hidden.length pO)).heap.size:=by rw[ZcS];omega
 have HNA:Hid (w.heap.size+1∉foa):=λhx=>by have:=loa _ hx;omega
 unfold set4 at hB4 dx dH HA HB HZ Ab;go_upto_region 2 with fail
 clear c0 c1 c2 c3 cz0 cz1 cz2 cz3 Ra loa tya b4 hsz4;generalize ((((w4.setCell ⟨w.heap.size,0,none⟩ (.int .i64 a.kind)).setCell ⟨w.heap.size,1,none⟩ (.string a.text)).setCell ⟨w.heap.size,2,none⟩ (.bool a.spaced)).setCell ⟨w.heap.size,3,none⟩ (.slice pN a.hidden.length pO))=W4 at *;have HCb:=Qh (ZeW _ _ _ W4 hlb dH.out);obtain⟨c0,c1,c2,c3⟩:=Q4 HB.out;go_wp2_with fail
 refine HCb.out.mono ?_;rintro e w5⟨pP,pQ,fob,rfl,Rb,lob,tyb,b5⟩;clear c0 c1 c2 c3 HCb;replace HA:=Qh (Zag HA.out b5);replace HB:=Qh (Zag HB.out b5);replace HZ:=Qh (Zag HZ.out b5);obtain⟨c0,cz0,c1,cz1,c2,cz2,c3,cz3⟩:=Q8 HB.out;have hsz5:w.heap.size+3<=w5.heap.size:=by have:=b5.size;omega
 have cg:=ZaJ (hB4.trans (b5.mono hB4.size)) (g:=w.heap.size+1) (by omega) (.int .i64 b.kind) (.string b.text) (.bool b.spaced) (.slice pP b.hidden.length pQ);replace dH:=Qh (sTok.set4R Rb (g:=w.heap.size+1) (λhx=>by have:=lob _ hx;omega) (.int .i64 b.kind) (.string b.text) (.bool b.spaced) (.slice pP b.hidden.length pQ));replace dx:=Qh (sTok.set4R (sTok.below dx.out b5) (g:=w.heap.size+1) (HNA.out) (.int .i64 b.kind) (.string b.text) (.bool b.spaced) (.slice pP b.hidden.length pQ));replace HA:=Qh ((Zfk (g:=w.heap.size+1) (by omega) (.int .i64 b.kind) (.string b.text) (.bool b.spaced) (.slice pP b.hidden.length pQ)).trans HA.out);replace HB:=Qh (Za2 HB.out (.int .i64 b.kind) (.string b.text) (.bool b.spaced) (.slice pP b.hidden.length pQ));replace HZ:=Qh ((Zfk (g:=w.heap.size+1) (by omega) (.int .i64 b.kind) (.string b.text) (.bool b.spaced) (.slice pP b.hidden.length pQ)).trans HZ.out);have yS:w.heap.size+3<=(set4 w5 (w.heap.size+1) (.int .i64 b.kind) (.string b.text) (.bool b.spaced) (.slice pP b.hidden.length pQ)).heap.size:=by rw[ZcS];omega
 unfold set4 at cg dx dH HA HB HZ yS;go_upto_region 3 with fail
 clear c0 c1 c2 c3 cz0 cz1 cz2 cz3 Rb lob tyb b5 hsz5;generalize ((((w5.setCell ⟨w.heap.size+1,0,none⟩ (.int .i64 b.kind)).setCell ⟨w.heap.size+1,1,none⟩ (.string b.text)).setCell ⟨w.heap.size+1,2,none⟩ (.bool b.spaced)).setCell ⟨w.heap.size+1,3,none⟩ (.slice pP b.hidden.length pQ))=W5 at *;have rc:=Qh (ZcO _ _ _ W5 dx.out);obtain⟨c0,c1,c2,c3⟩:=Q4 HA.out;cases gU:Zaj a
 ·rw[gU]at rc;have HF:=Qh (Zl9 (b:=b) gU);clear gU;go_wp2_with fail
  refine rc.out.mono ?_;rintro e w6⟨rfl,b6⟩;replace HZ:=Qh (Zag HZ.out b6);have bU:=cg.trans (b6.mono cg.size);obtain⟨z0,wZ,z1,xb,z2,xd,z3,xe⟩:=Q8 HZ.out;have HS:=Qh (Za2 HZ.out (.int .i64 0) (.string ⟨#[]⟩) (.bool false) (.slice none 0 0));have dM:=Qh (ZaJ bU (g:=w.heap.size+1+1) (by omega) (.int .i64 0) (.string ⟨#[]⟩) (.bool false) (.slice none 0 0));unfold set4 at HS dM;go_wp2;refine JV (Zat rfl _ _ (w.heap.size+1+1) _ _ _ _ rfl HS.out Tryz.underlying32 rfl (by kernel_rfl)) rfl ?_;exact Zec HF.out dM.out
 rw[gU]at rc;go_wp2_with fail
 refine rc.out.mono ?_;rintro e w6⟨rfl,b6⟩;clear c0 c1 c2 c3 rc;replace HA:=Qh (Zag HA.out b6);replace HB:=Qh (Zag HB.out b6);replace HZ:=Qh (Zag HZ.out b6);replace dx:=Qh (sTok.below dx.out b6);replace dH:=Qh (sTok.below dH.out b6);have bU:=cg.trans (b6.mono cg.size);clear b6;have re:=Qh (ZcO _ _ _ w6 dH.out);obtain⟨c0,c1,c2,c3⟩:=Q4 HB.out;cases ge:Zaj b
 ·rw[ge]at re;have HF:=Qh (Zma (a:=a) ge);clear gU ge;go_wp2_with fail
  refine re.out.mono ?_;rintro e w7⟨rfl,b7⟩;replace HZ:=Qh (Zag HZ.out b7);have lq:=bU.trans (b7.mono bU.size);obtain⟨z0,wZ,z1,xb,z2,xd,z3,xe⟩:=Q8 HZ.out;have HS:=Qh (Za2 HZ.out (.int .i64 0) (.string ⟨#[]⟩) (.bool false) (.slice none 0 0));have dM:=Qh (ZaJ lq (g:=w.heap.size+1+1) (by omega) (.int .i64 0) (.string ⟨#[]⟩) (.bool false) (.slice none 0 0));unfold set4 at HS dM;go_wp2;refine JV (Zat rfl _ _ (w.heap.size+1+1) _ _ _ _ rfl HS.out Tryz.underlying32 rfl (by kernel_rfl)) rfl ?_;exact Zec HF.out dM.out
 rw[ge]at re;go_wp2_with fail
 refine re.out.mono ?_;rintro e w7⟨rfl,b7⟩;clear c0 c1 c2 c3 re;replace HA:=Qh (Zag HA.out b7);replace HB:=Qh (Zag HB.out b7);replace HZ:=Qh (Zag HZ.out b7);replace dx:=Qh (sTok.below dx.out b7);replace dH:=Qh (sTok.below dH.out b7);have lq:=bU.trans (b7.mono bU.size);clear b7;have hzt:=mlt HZ.out;have m8:=(Za9 gU).2;have zH:=(Za9 ge).2;have HT:=Qh (λW=>ZcI (a.text++b.text) W (by rw[QK];unfold maxLen;omega));have ad:=λW=>run_string_add_sum (P:=Tryz.prog) W a.text b.text (by omega);obtain⟨l,ok,xi⟩:∃l ok,Zau (a.text++b.text)=(l,ok):=⟨_,_,rfl⟩;have ei:=Qh xi;rw[xi]at HT;clear xi;have pR:=Qh (And.intro gU ge);clear gU ge;obtain⟨c0,c1,c2,c3⟩:=Q4 HA.out;obtain⟨d0,d1,d2,d3⟩:=Q4 HB.out;go_wp2_with fail
 refine(HT.out _).mono ?_;rintro e w8⟨vt,yy,rfl,RT,OT,b8⟩;clear c0 c1 c2 c3 d0 d1 d2 d3 HT ad;replace HA:=Qh (Zag HA.out b8);replace HB:=Qh (Zag HB.out b8);replace HZ:=Qh (Zag HZ.out b8);replace dx:=Qh (sTok.below dx.out b8);replace dH:=Qh (sTok.below dH.out b8);have uQ:=lq.trans (b8.mono lq.size);clear b8;cases ok
 ·have HF:=Qh (Zmb ei.out);clear ei RT OT;exact Y14A1
 by_cases kG:l.length=1;rotate_left
 ·have HF:=Qh (Zmc ei.out kG);obtain⟨AO,AP,rfl,-⟩:=Zac RT;have gA:((l.length:Int) != 1)=true:=by simp;omega
  clear ei RT kG OT;exact Y14A1
 obtain⟨t,rfl⟩:∃t,l=[t]:=List.length_eq_one_iff.1 kG;clear kG;have HF:=Qh (Zmd pR.out.1 pR.out.2 ei.out);obtain⟨bt,ot,ct,od,oe,rfl,fJ,gL,yK,di,t0,t1,t2,t3,pc,pd⟩:=Zme RT;have hbt2:=(OT.2 bt di).1;unfold maxLen at gL;clear RT ei OT di;have hla2:a.hidden.length<=1000000:=by have:=(ZfM (Zcx pR.out.1)).1;omega
 have HL:=Qh (λU (hU:Below w8.heap.size w8 U)=>Zjl _ _ a.hidden b.hidden _ _ U hla2 (ZeI (sTok.below dx.out hU)) (ZeI (sTok.below dH.out hU)));obtain⟨c0,c1,c2,c3⟩:=Q4 HA.out;obtain⟨d0,d1,d2,d3⟩:=Q4 HB.out;have hz9:w.heap.size+3<=w8.heap.size:=by have:=uQ.size;have:=mlt HZ.out;omega
 have aS:Below w8.heap.size w8 w8.drew:=Zah (QD _ _) 1;replace c2:w8.drew.cell? ⟨w.heap.size,2,none⟩=some (.bool a.spaced):=c2;replace c3:w8.drew.cell? ⟨w.heap.size,3,none⟩=some (.slice pN a.hidden.length pO):=c3;replace d3:w8.drew.cell? ⟨w.heap.size+1,3,none⟩=some (.slice pP b.hidden.length pQ):=d3;replace t0:w8.drew.cell? ⟨bt,ot,none⟩=some (.int .i64 t.kind):=t0;replace t1:w8.drew.cell? ⟨bt,ot+1,none⟩=some (.string t.text):=t1;have tJ:∀U:World,Below w8.drew.heap.size w8.drew U->U.cell? ⟨w.heap.size,2,none⟩=some (.bool a.spaced)/\U.cell? ⟨w.heap.size,3,none⟩=some (.slice pN a.hidden.length pO)/\U.cell? ⟨w.heap.size+1,3,none⟩=some (.slice pP b.hidden.length pQ)/\U.cell? ⟨bt,ot,none⟩=some (.int .i64 t.kind)/\U.cell? ⟨bt,ot+1,none⟩=some (.string t.text):=λU hU=>⟨(hU.cell (by show _<w8.heap.size;simp only;omega)).trans c2,(hU.cell (by show _<w8.heap.size;simp only;omega)).trans c3,(hU.cell (by show _<w8.heap.size;simp only;omega)).trans d3,(hU.cell (by show _<w8.heap.size;simp only;omega)).trans t0,(hU.cell (by show _<w8.heap.size;simp only;omega)).trans t1⟩;have oM:∀U:World,Below w8.drew.heap.size w8.drew U->∀v0 v1 v2 v3:Value,((((U.setCell ⟨w.heap.size+1+1,0,none⟩ v0).setCell ⟨w.heap.size+1+1,1,none⟩ v1).setCell ⟨w.heap.size+1+1,2,none⟩ v2).setCell ⟨w.heap.size+1+1,3,none⟩ v3).cell? ⟨w.heap.size,2,none⟩=some (.bool a.spaced)/\((((U.setCell ⟨w.heap.size+1+1,0,none⟩ v0).setCell ⟨w.heap.size+1+1,1,none⟩ v1).setCell ⟨w.heap.size+1+1,2,none⟩ v2).setCell ⟨w.heap.size+1+1,3,none⟩ v3).cell? ⟨w.heap.size,3,none⟩=some (.slice pN a.hidden.length pO)/\((((U.setCell ⟨w.heap.size+1+1,0,none⟩ v0).setCell ⟨w.heap.size+1+1,1,none⟩ v1).setCell ⟨w.heap.size+1+1,2,none⟩ v2).setCell ⟨w.heap.size+1+1,3,none⟩ v3).cell? ⟨w.heap.size+1,3,none⟩=some (.slice pP b.hidden.length pQ)/\((((U.setCell ⟨w.heap.size+1+1,0,none⟩ v0).setCell ⟨w.heap.size+1+1,1,none⟩ v1).setCell ⟨w.heap.size+1+1,2,none⟩ v2).setCell ⟨w.heap.size+1+1,3,none⟩ v3).cell? ⟨bt,ot,none⟩=some (.int .i64 t.kind)/\((((U.setCell ⟨w.heap.size+1+1,0,none⟩ v0).setCell ⟨w.heap.size+1+1,1,none⟩ v1).setCell ⟨w.heap.size+1+1,2,none⟩ v2).setCell ⟨w.heap.size+1+1,3,none⟩ v3).cell? ⟨bt,ot+1,none⟩=some (.string t.text):=λU hU v0 v1 v2 v3=>by
  obtain⟨k1,k2,k3,k4,k5⟩:=tJ U hU;exact⟨(ZeY (by omega) _ _ _ _ _).trans k1,(ZeY (by omega) _ _ _ _ _).trans k2,(ZeY (by omega) _ _ _ _ _).trans k3,(ZeY (by omega) _ _ _ _ _).trans k4,(ZeY (by omega) _ _ _ _ _).trans k5⟩
 have HZD:Hid (w8.drew.heap[w.heap.size+1+1]?=_):=HZ;clear c0 c1 d0 d1 d2;go_wp2_with fail
 go_region_held3 (λw'=>w'.cell? ⟨w.heap.size,2,none⟩=some (.bool a.spaced)/\w'.cell? ⟨w.heap.size,3,none⟩=some (.slice pN a.hidden.length pO)/\w'.cell? ⟨w.heap.size+1,3,none⟩=some (.slice pP b.hidden.length pQ)/\w'.cell? ⟨bt,ot,none⟩=some (.int .i64 t.kind)/\w'.cell? ⟨bt,ot+1,none⟩=some (.string t.text))
  (first | (with_reducible exact⟨c2,c3,d3,t0,t1⟩) | (with_reducible exact tJ _ b9) | (with_reducible exact oM _ b9 _ _ _ _))
  (first | (go_at_call 100;(with_reducible refine(HL.out _ aS).mono ?_);rintro e w9⟨vv,fv,rfl,RV,OV,b9⟩;obtain⟨av,cv,rfl,-⟩:=Zaf RV;have uR:=Zag HZD.out b9;have z0:=Qc 0 uR;have wZ:=Qf 0 uR;have z1:=Qc 1 uR;have xb:=Qf 1 uR;have z2:=Qc 2 uR;have xd:=Qf 2 uR;have z3:=Qc 3 uR;have xe:=Qf 3 uR))
 have HS:=Qh (Za2 (Zag HZD.out b9) (.int .i64 t.kind) (.string t.text) (.bool a.spaced) (.slice av (both a.hidden b.hidden).length cv));have fE:=uQ.trans ((aS.trans (b9.mono (QA _))).mono uQ.size);have dM:=Qh (ZaJ fE (g:=w.heap.size+1+1) (by omega) (.int .i64 t.kind) (.string t.text) (.bool a.spaced) (.slice av (both a.hidden b.hidden).length cv));have hfv:w.heap.size+1+1∉fv:=λhx=>by have h1:=(OV.2 _ hx).1;have h2:w8.heap.size<=w.heap.size+1+1:=h1;omega
 have fM:=Qh ((Zaa sStr).set4R RV hfv (.int .i64 t.kind) (.string t.text) (.bool a.spaced) (.slice av (both a.hidden b.hidden).length cv));have l4:=Qh (Own.set4 (g:=w.heap.size+1+1) (OV.lower (show w.heap.size<=w8.heap.size by omega)) (.int .i64 t.kind) (.string t.text) (.bool a.spaced) (.slice av (both a.hidden b.hidden).length cv));unfold set4 at HS dM fM l4;go_wp2;refine JV (Zat rfl _ _ (w.heap.size+1+1) _ _ _ _ rfl HS.out Tryz.underlying32 rfl (by kernel_rfl)) rfl ?_;exact Zjm HF.out pc pd fM.out l4.out dM.out
theorem Y14A2 (h:g:=by
 obtain⟨z0,wZ,z1,xb,z2,xd,z3,xe⟩:=Q8 HZ.out;have HS:=Qh (Za2 HZ.out (.int .i64 0) (.string ⟨#[]⟩) (.bool false) (.slice none 0 0));have dM:=Qh (ZaJ uQ (g:=w.heap.size+1+1) (by omega) (.int .i64 0) (.string ⟨#[]⟩) (.bool false) (.slice none 0 0));unfold set4 at HS dM;go_wp2;refine JV (Zat rfl _ _ (w.heap.size+1+1) _ _ _ _ rfl HS.out Tryz.underlying32 rfl (by kernel_rfl)) rfl ?_
 exact Zec HF.out dM.out):g:=h
theorem ZjK (ca cb:List Value)(a b:Tok)(mJ jf:List Nat)(w:World)(tI:a.hidden.length<=2000000)(hlb:b.hidden.length<=2000000)(sF:sTok.R w ca a mJ)(fs:sTok.R w cb b jf):
  Calls Tryz.prog 156 #[.agg ca.toArray,.agg cb.toArray] w (Zf7 a b w):=by
 have xg:=sF;have xh:=fs;obtain⟨ha,rfl,-,-,-⟩:=xg;obtain⟨hb,rfl,-,-,-⟩:=xh;have aC:=Zj3 w #[.int .i64 a.kind,.string a.text,.bool a.spaced,ha] #[.int .i64 b.kind,.string b.text,.bool b.spaced,hb] #[.int .i64 0,.string ⟨#[]⟩,.bool false,.slice none 0 0] 32 32 32;have HA:=Qh (Zfw w #[.int .i64 a.kind,.string a.text,.bool a.spaced,ha] #[.int .i64 b.kind,.string b.text,.bool b.spaced,hb] #[.int .i64 0,.string ⟨#[]⟩,.bool false,.slice none 0 0] 32 32 32);obtain⟨g1,g2,iR⟩:=ZfV w #[.int .i64 a.kind,.string a.text,.bool a.spaced,ha] #[.int .i64 b.kind,.string b.text,.bool b.spaced,hb] #[.int .i64 0,.string ⟨#[]⟩,.bool false,.slice none 0 0] 32 32 32;have HB:=Qh g1;have HZ:=Qh g2;have dx:=Qh (sTok.below sF aC);have dH:=Qh (sTok.below fs aC);have lp:Hid (w.heap.size∉jf/\w.heap.size+1∉jf):=⟨λhx=>by have:=sTok.lt fs _ hx;omega,λhx=>by have:=sTok.lt fs _ hx;omega⟩;have aQ:=aC;clear sF fs g1 g2 aC;go_enter Tryz.func156,Tryz.ntmps156;go_upto_region 1 with fail
 generalize (((w.alloc (.cells #[.int .i64 a.kind,.string a.text,.bool a.spaced,ha] 32)).alloc (.cells #[.int .i64 b.kind,.string b.text,.bool b.spaced,hb] 32)).alloc (.cells #[.int .i64 0,.string ⟨#[]⟩,.bool false,.slice none 0 0] 32))=W3 at *;have rc:=Qh (ZeQ _ _ _ W3 dx.out);obtain⟨c0,c1,c2,c3⟩:=Q4 HA.out;cases gU:Zaj a
 ·rw[gU]at rc;have HF:=Qh (Zl9 (b:=b) gU);clear gU;go_wp2_with fail
  refine rc.out.mono ?_;rintro e w6⟨rfl,b6⟩;replace HZ:=Qh (Zag HZ.out b6);have bU:=aQ.trans (b6.mono aQ.size);obtain⟨z0,wZ,z1,xb,z2,xd,z3,xe⟩:=Q8 HZ.out;have HS:=Qh (Za2 HZ.out (.int .i64 0) (.string ⟨#[]⟩) (.bool false) (.slice none 0 0));have dM:=Qh (ZaJ bU (g:=w.heap.size+1+1) (by omega) (.int .i64 0) (.string ⟨#[]⟩) (.bool false) (.slice none 0 0));unfold set4 at HS dM;go_wp2;refine JV (Zat rfl _ _ (w.heap.size+1+1) _ _ _ _ rfl HS.out Tryz.underlying32 rfl (by kernel_rfl)) rfl ?_;exact Zec HF.out dM.out
 rw[gU]at rc;go_wp2_with fail
 refine rc.out.mono ?_;rintro e w6⟨rfl,b6⟩;clear c0 c1 c2 c3 rc;replace HA:=Qh (Zag HA.out b6);replace HB:=Qh (Zag HB.out b6);replace HZ:=Qh (Zag HZ.out b6);replace dx:=Qh (sTok.below dx.out b6);replace dH:=Qh (sTok.below dH.out b6);have bU:=aQ.trans (b6.mono aQ.size);clear b6;have re:=Qh (ZeQ _ _ _ w6 dH.out);obtain⟨c0,c1,c2,c3⟩:=Q4 HB.out;cases ge:Zaj b
 ·rw[ge]at re;have HF:=Qh (Zma (a:=a) ge);clear gU ge;go_wp2_with fail
  refine re.out.mono ?_;rintro e w7⟨rfl,b7⟩;replace HZ:=Qh (Zag HZ.out b7);have lq:=bU.trans (b7.mono bU.size);obtain⟨z0,wZ,z1,xb,z2,xd,z3,xe⟩:=Q8 HZ.out;have HS:=Qh (Za2 HZ.out (.int .i64 0) (.string ⟨#[]⟩) (.bool false) (.slice none 0 0));have dM:=Qh (ZaJ lq (g:=w.heap.size+1+1) (by omega) (.int .i64 0) (.string ⟨#[]⟩) (.bool false) (.slice none 0 0));unfold set4 at HS dM;go_wp2;refine JV (Zat rfl _ _ (w.heap.size+1+1) _ _ _ _ rfl HS.out Tryz.underlying32 rfl (by kernel_rfl)) rfl ?_;exact Zec HF.out dM.out
 rw[ge]at re;go_wp2_with fail
 refine re.out.mono ?_;rintro e w7⟨rfl,b7⟩;clear c0 c1 c2 c3 re;replace HA:=Qh (Zag HA.out b7);replace HB:=Qh (Zag HB.out b7);replace HZ:=Qh (Zag HZ.out b7);replace dx:=Qh (sTok.below dx.out b7);replace dH:=Qh (sTok.below dH.out b7);have lq:=bU.trans (b7.mono bU.size);clear b7;have hzt:=mlt HZ.out;have m8:=(Za9 gU).2;have zH:=(Za9 ge).2;have HT:=Qh (λW=>ZhZ (a.text++b.text) W (by rw[QK];unfold maxLen;omega));have ad:=λW=>run_string_add_sum (P:=Tryz.prog) W a.text b.text (by omega);obtain⟨l,ok,xi⟩:∃l ok,Zau (a.text++b.text)=(l,ok):=⟨_,_,rfl⟩;have ei:=Qh xi;rw[xi]at HT;clear xi;have pR:=Qh (And.intro gU ge);clear gU ge;obtain⟨c0,c1,c2,c3⟩:=Q4 HA.out;obtain⟨d0,d1,d2,d3⟩:=Q4 HB.out;go_wp2_with fail
 refine(HT.out _).mono ?_;rintro e w8⟨vt,yy,rfl,RT,OT,b8⟩;clear c0 c1 c2 c3 d0 d1 d2 d3 HT ad;replace HA:=Qh (Zag HA.out b8);replace HB:=Qh (Zag HB.out b8);replace HZ:=Qh (Zag HZ.out b8);replace dx:=Qh (sTok.below dx.out b8);replace dH:=Qh (sTok.below dH.out b8);have uQ:=lq.trans (b8.mono lq.size);clear b8;cases ok
 ·have HF:=Qh (Zmb ei.out);clear ei RT OT;exact Y14A2
 by_cases kG:l.length=1;rotate_left
 ·have HF:=Qh (Zmc ei.out kG);obtain⟨AO,AP,rfl,-⟩:=Zac RT;have gA:((l.length:Int) != 1)=true:=by simp;omega
  clear ei RT kG OT;exact Y14A2
 obtain⟨t,rfl⟩:∃t,l=[t]:=List.length_eq_one_iff.1 kG;clear kG;have HF:=Qh (Zmd pR.out.1 pR.out.2 ei.out);obtain⟨bt,ot,ct,od,oe,rfl,fJ,gL,yK,di,t0,t1,t2,t3,pc,pd⟩:=Zme RT;have hbt2:=(OT.2 bt di).1;unfold maxLen at gL;clear RT ei OT di;have yL:=ZdR (Zcx pR.out.1);have wJ:=ZdR (Zcx pR.out.2);have HL:=Qh (λ(U:World) (hU:Below w8.heap.size w8 U)=>Zgu _ _ a.hidden b.hidden _ _ U (by omega) (by omega) wJ.2.2 (ZeI (sTok.below dx.out hU)) (ZeI (sTok.below dH.out hU)));clear yL wJ;obtain⟨c0,c1,c2,c3⟩:=Q4 HA.out;obtain⟨d0,d1,d2,d3⟩:=Q4 HB.out;have hzz:w.heap.size+1+1<w8.heap.size:=mlt HZ.out;have xj:=Zab w8 (.cells #[.int .i64 t.kind,.string t.text,.bool t.spaced,.slice od t.hidden.length oe] 32);have c2_0:(w8.alloc (.cells #[.int .i64 t.kind,.string t.text,.bool t.spaced,.slice od t.hidden.length oe] 32)).cell? ⟨w.heap.size,2,none⟩=some (.bool a.spaced):=(xj.cell (by show _<w8.heap.size;simp only;omega)).trans c2;have c3_0:(w8.alloc (.cells #[.int .i64 t.kind,.string t.text,.bool t.spaced,.slice od t.hidden.length oe] 32)).cell? ⟨w.heap.size,3,none⟩=some (ha):=(xj.cell (by show _<w8.heap.size;simp only;omega)).trans c3;have d3_0:(w8.alloc (.cells #[.int .i64 t.kind,.string t.text,.bool t.spaced,.slice od t.hidden.length oe] 32)).cell? ⟨w.heap.size+1,3,none⟩=some (hb):=(xj.cell (by show _<w8.heap.size;simp only;omega)).trans d3;have l9:=Zab w8 (.cells #[.int .i64 t.kind,.string t.text,.bool a.spaced,.slice od t.hidden.length oe] 32);have c2_1:(w8.alloc (.cells #[.int .i64 t.kind,.string t.text,.bool a.spaced,.slice od t.hidden.length oe] 32)).cell? ⟨w.heap.size,2,none⟩=some (.bool a.spaced):=(l9.cell (by show _<w8.heap.size;simp only;omega)).trans c2;have c3_1:(w8.alloc (.cells #[.int .i64 t.kind,.string t.text,.bool a.spaced,.slice od t.hidden.length oe] 32)).cell? ⟨w.heap.size,3,none⟩=some (ha):=(l9.cell (by show _<w8.heap.size;simp only;omega)).trans c3;have d3_1:(w8.alloc (.cells #[.int .i64 t.kind,.string t.text,.bool a.spaced,.slice od t.hidden.length oe] 32)).cell? ⟨w.heap.size+1,3,none⟩=some (hb):=(l9.cell (by show _<w8.heap.size;simp only;omega)).trans d3;clear c0 c1 c2 c3 d0 d1 d2 d3;have HX:=Qh (show(w8.alloc (.cells #[.int .i64 t.kind,.string t.text,.bool a.spaced,.slice od t.hidden.length oe] 32)).heap[w8.heap.size]?=some (.cells #[.int .i64 t.kind,.string t.text,.bool a.spaced,.slice od t.hidden.length oe] 32 (0,0)) by show(w8.heap.push _)[_]?=_;simp);go_wp2_with fail
 refine(HL.out _ l9).mono ?_;rintro e w9⟨vv,fv,rfl,RV,OV,b9⟩;obtain⟨av,cv,rfl,-⟩:=Zaf RV;clear t0 t1 t2 t3 HL c2_0 c3_0 d3_0 c2_1 c3_1 d3_1;have fE:=uQ.trans ((l9.trans (b9.mono l9.size)).mono uQ.size);have hox:w8.heap.size∉fv:=λhx=>by have h1:=(OV.2 _ hx).1;have h2:(w8.alloc (.cells #[.int .i64 t.kind,.string t.text,.bool a.spaced,.slice od t.hidden.length oe] 32)).heap.size=w8.heap.size+1:=(by simp);omega
 have hoz:w.heap.size+1+1∉fv:=λhx=>by have h1:=(OV.2 _ hx).1;have h2:(w8.alloc (.cells #[.int .i64 t.kind,.string t.text,.bool a.spaced,.slice od t.hidden.length oe] 32)).heap.size=w8.heap.size+1:=(by simp);omega
 replace HX:=Qh (Zag HX.out b9);replace HZ:=Qh (Zag HZ.out (l9.trans (b9.mono l9.size)));obtain⟨x0,xz0,x1,xz1,x2,xz2,x3,xz3⟩:=Q8 HX.out;have xk:=fE.setCell (p:=⟨w8.heap.size,3,none⟩) (by show w.heap.size<=w8.heap.size;omega) (.slice av (both a.hidden b.hidden).length cv);have HR:=Qh ((Zaa sStr).setB RV hox 3 (.slice av (both a.hidden b.hidden).length cv));have HO:=Qh (OV.setCell ⟨w8.heap.size,3,none⟩ (.slice av (both a.hidden b.hidden).length cv));replace HX:=Qh (Zai HX.out 3 (.slice av (both a.hidden b.hidden).length cv));replace HZ:=Qh (ZaK HZ.out (by omega:w.heap.size+1+1≠w8.heap.size) 3 (.slice av (both a.hidden b.hidden).length cv));go_upto_region 9 with fail
 clear x0 x1 x2 x3 xz0 xz1 xz2 xz3 RV OV b9 fE;generalize w9.setCell ⟨w8.heap.size,3,none⟩ (.slice av (both a.hidden b.hidden).length cv)=w9' at *;obtain⟨x0,x1,x2,x3⟩:=Q4 HX.out;obtain⟨z0,wZ,z1,xb,z2,xd,z3,xe⟩:=Q8 HZ.out;have HS:=Qh (Za2 HZ.out (.int .i64 t.kind) (.string t.text) (.bool a.spaced) (.slice av (both a.hidden b.hidden).length cv));have dM:=Qh (ZaJ xk (g:=w.heap.size+1+1) (by omega) (.int .i64 t.kind) (.string t.text) (.bool a.spaced) (.slice av (both a.hidden b.hidden).length cv));have fM:=Qh ((Zaa sStr).set4R HR.out hoz (.int .i64 t.kind) (.string t.text) (.bool a.spaced) (.slice av (both a.hidden b.hidden).length cv));have l4:=Qh (Own.set4 (g:=w.heap.size+1+1) (HO.out.lower (show w.heap.size<=(w8.alloc (.cells #[.int .i64 t.kind,.string t.text,.bool a.spaced,.slice od t.hidden.length oe] 32)).heap.size by simp;omega)) (.int .i64 t.kind) (.string t.text) (.bool a.spaced) (.slice av (both a.hidden b.hidden).length cv));unfold set4 at HS dM fM l4;go_wp2;refine JV (Zat rfl _ _ (w.heap.size+1+1) _ _ _ _ rfl HS.out Tryz.underlying32 rfl (by kernel_rfl)) rfl ?_;exact Zjm HF.out pc pd fM.out l4.out dM.out
theorem ZaX (w:World)(cs:List Value)(x:Tok)(fp:List Nat)(h:sTok.R w cs x fp):∀u∈cs,u.oneCell'=true:=by
 obtain⟨hv,rfl,-,-,K⟩:=h;obtain⟨a,c,rfl,-⟩:=Zaf K;intro u hu;simp only[Q7,Qz,or_false]at hu;rcases hu with rfl | rfl | rfl | rfl <;> rfl
theorem Zed (cs:List Value)(x:Tok)(fp:List Nat)(w:World)(s:ByteArray)(H:sTok.R w cs x fp):
  Calls Tryz.prog 45 #[.agg cs.toArray,.string s] w (Zbu (decide (x.kind=4) && (x.text.toList==s.toList)) w):=by
 obtain⟨h,rfl,hk,bQ,K⟩:=H;obtain⟨a0,cK,rfl,-⟩:=Zaf K;have hb:=Zab w (.cells #[.int .i64 x.kind,.string x.text,.bool x.spaced,.slice a0 x.hidden.length cK] 32);clear K;go_enter Tryz.func45,Tryz.ntmps45;by_cases h4:x.kind=4
 ·have e0:(x.kind==4)=true:=by simp[h4]
  have HF:Hid ((decide (x.kind=4) && (x.text.toList==s.toList))=(x.text.toList==s.toList)):=by show _=_;rw[JR h4];rfl
  clear h4;go_wp2;go_ret;exact⟨Zad (by rw[HF.out]),hb⟩
 ·have e0:(x.kind==4)=false:=by simpa using h4
  have HF:Hid ((decide (x.kind=4) && (x.text.toList==s.toList))=false):=by show _=_;rw[JQ h4];rfl
  clear h4;go_wp2;go_ret;exact⟨Zad (by rw[HF.out]),hb⟩
def SpcOf (l:List Tok)(fp:List Nat)(w:World)(e:Ending)(w':World):Prop:=
 ∃(v:Value) (L:List (Elem Tok)),e=.returned v/\RowN sTok w.heap.size 32 v L w'/\L.map (·.d)=l/\(∀x∈L,∀b∈x.fp,b∈fp)/\Below w.heap.size w w'
theorem Zfn (v:Value)(l:List Tok)(fp:List Nat)(w:World)(b:Bool)(hl:l.length<=1000000)(H:(Zaa sTok).R w [v] l fp):
  Calls Tryz.prog 103 #[v,.bool b] w (SpcOf (spc b l) fp w):=by
 have af:=(Zaa sTok).lt H;obtain⟨a,cap,rfl,hc,hm,-⟩:=Zac H;have bH:=Zab w (.cells #[] 32);have HA:=Qh ((Zaa sTok).below H bH);have HG:=Qh (RowN.lit0 sTok 32 w (QA _));have d7:=Qh af;have jC:=bH.size;clear H af;go_enter Tryz.func103,Tryz.ntmps103
 go_upto_region 2 with(
            at_builtin;refine ZbF ti_tok rfl (by decide) ZaX _ rfl (.tmp 6) (.tmp 7) rfl w.heap.size (.slice (some ⟨w.heap.size,0,none⟩) 0 0) (.slice a l.length cap) l fp rfl HG.out rfl HA.out (λb hb e=>by simp only[Value.ownBlock,Qi]at e;have:=d7.out b hb;omega) (by simp[maxLen];omega) (by simp;omega) jC ?_;intro v5 X w1 hX dN hR hg _;have aG:=bH.grown hg jC (λb hb=>by simp[Value.ownBlock]at hb;omega);rw[Q3]at hR;have HR:=Qh hR;have oh:=Qh (And.intro hX dN);obtain⟨a1,c1,rfl,-⟩:=hR.val;have eH:Hid (X.length=l.length):=(by show _=_;rw[←hX,QH]);obtain⟨n,HN⟩:∃n:Nat,Hid (n=X.length):=⟨X.length,Qh rfl⟩;rw[show X.length=n from HN.out.symm]at ⊢
            clear hX dN hR hg)
 by_cases h0:n=0
 ·have ur:l=[]:=QU.1 (by have:=HN.out;have:=eH.out;omega);have HF:Hid (X.map (·.d)=spc b l):=by show _=_;rw[oh.out.1,ur];rfl
  have e0:¬(0:Int)<(n:Int):=by omega
  clear h0 ur;go_wp2;go_ret;refine⟨_,X,rfl,?_,HF.out,oh.out.2,aG⟩;rw[HN.out];exact HR.out
 ·obtain⟨x,X',rfl⟩:∃x X',X=x::X':=by
   cases X with
   | nil=>exact absurd HN.out h0
   | cons x X'=>exact⟨x,X',rfl⟩
  obtain⟨g,nU,kL,cX⟩:∃g,a1=some ⟨g,0,none⟩/\w.heap.size<=g/\g<w1.heap.size:=by
   obtain⟨a9,c9,e,-,-,h⟩:=HR.out.val;simp only[QT]at e;obtain⟨rfl,-,-⟩:=e;exact h (by simp)
  subst nU;obtain⟨h,aS,pc,pd,K⟩:=HR.out.el x (by simp);obtain⟨ah,ch,rfl,-⟩:=Zaf K;have rf:g∉x.fp:=λhx=>HR.out.ap x (by simp) g hx rfl;have ij:=HR.out;rw[show(x::X').length=n from HN.out.symm]at ij;have c2:w1.cell? ⟨g,2,none⟩=some (.bool x.d.spaced):=by
   have:=ij.cellAt (k:=0) (by simp) (j:=2) (by decide) (u:=.bool x.d.spaced) (by show x.cells[2]?=_;rw[aS];rfl);simpa using this
  have f2:w1.frozen? ⟨g,2,none⟩=false:=ij.frozen 2;have HS:Hid (RowN sTok w.heap.size 32 (.slice (some ⟨g,0,none⟩) n c1) (⟨[.int .i64 x.d.kind,.string x.d.text,.bool b,.slice ah x.d.hidden.length ch],⟨x.d.kind,x.d.text,b,x.d.hidden⟩,x.fp⟩::X') (w1.setCell ⟨g,2,none⟩ (.bool b))):=by
   show RowN _ _ _ _ _ _;have:=ij.set (k:=0) (by simp) (j:=2) (by decide) (.bool b) ⟨[.int .i64 x.d.kind,.string x.d.text,.bool b,.slice ah x.d.hidden.length ch],⟨x.d.kind,x.d.text,b,x.d.hidden⟩,x.fp⟩ (by show _=x.cells.set 2 _;rw[aS];rfl) ⟨_,rfl,pc,pd,K⟩ rf;simpa using this
  have HF:Hid (((⟨[.int .i64 x.d.kind,.string x.d.text,.bool b,.slice ah x.d.hidden.length ch],⟨x.d.kind,x.d.text,b,x.d.hidden⟩,x.fp⟩:Elem Tok)::X').map (·.d)=spc b l):=by
   show _=_;rw[←oh.out.1];rfl
  have tB:Hid (∀y∈((⟨[.int .i64 x.d.kind,.string x.d.text,.bool b,.slice ah x.d.hidden.length ch],⟨x.d.kind,x.d.text,b,x.d.hidden⟩,x.fp⟩:Elem Tok)::X'),∀b∈y.fp,b∈fp):=λy hy=>by
   rcases Q7.1 hy with rfl | hy
   ·exact oh.out.2 x (by simp)
   ·exact oh.out.2 y (by simp[hy])
  have aF:=aG.setCell (p:=⟨g,2,none⟩) kL (.bool b);have e0:(0:Int)<(n:Int):=by omega
  have e1:0<n:=by omega
  clear K aS ij HR h0 kL cX;go_wp2;go_ret;exact⟨_,_,rfl,HS.out,HF.out,tB.out,aF⟩
theorem Zfo (l:List Tok):∃k s b,Zbl l=(⟨k,s,false,[]⟩,b)/\0<=k/\k<=4/\s.size<=200:=by
 rcases h:Zbl l with⟨t,b⟩;unfold Zbl at h;split at h
 ·split at h
  ·simp only[QS]at h;exact⟨0,⟨#[]⟩,b,by rw[←h.1];rfl,by omega,by omega,by decide⟩
  ·simp only[QS]at h;exact⟨3,quoted (ZaN l l.length),b,by rw[←h.1],by omega,by omega,by omega⟩
 ·simp only[QS]at h;exact⟨0,⟨#[]⟩,b,by rw[←h.1];rfl,by omega,by omega,by decide⟩
variable {l:List Tok}
theorem TextOf.bare {e:Ending}(h:TextOf l w e w'):∃(k:Int) (s:ByteArray) (b:Bool) (ao:Option Addr) (c:Nat),Zbl l=(⟨k,s,false,[]⟩,b)/\e=.returned (.tuple #[.agg #[.int .i64 k,.string s,.bool false,.slice ao 0 c],.bool b])/\0<=k/\k<=4/\s.size<=200/\c<=maxLen/\Below w.heap.size w w':=by
 obtain⟨cs,fp,rfl,hR,-,hb⟩:=h;obtain⟨k,s,b,e,h1,h2,h3⟩:=Zfo l;rw[e]at hR ⊢;obtain⟨h',rfl,-,-,K⟩:=hR;obtain⟨ao,c,rfl,-,hc,-⟩:=Zac K;exact⟨k,s,b,ao,c,rfl,rfl,h1,h2,h3,hc,hb⟩
theorem Zmf (k:Int)(s:ByteArray)(b:Bool)(ao:Option Addr)(c:Nat)(w:World)(h0:0<=k)(h1:k<=4)(h2:s.size<=1000)(h3:c<=maxLen):sTok.R w [.int .i64 k,.string s,.bool b,.slice ao 0 c] ⟨k,s,b,[]⟩ []:=
 ⟨_,rfl,(show Zb3 k from⟨by omega,by omega⟩),(show s.size<=maxLen by unfold maxLen;omega),Zao sStr _ _ _ h3⟩
theorem ZqP (ps:List ByteArray)(t:Tok):∀d k,ps.length-k=d->-1<=parFrom ps t k/\parFrom ps t k<(ps.length:Int):=by
 intro d;induction d with
 | zero=>intro k hk;rw[parFrom,dif_neg (by omega)];omega
 |
  succ d ih =>
  intro k hk;rw[parFrom,dif_pos (by omega:k<ps.length)];split
  ·omega
  ·exact ih (k+1) (by omega)
theorem Zll {ps:List ByteArray}(h:¬parOf ps t<0):∃n:Nat,parOf ps t=n/\n<ps.length:=by
 have:=ZqP ps t _ 0 rfl;have h2:-1<=parOf ps t/\parOf ps t<(ps.length:Int):=this;exact⟨(parOf ps t).toNat,by omega,by omega⟩
theorem ZhG {l:List UInt8}(h:isM t l=true):t.text=⟨l.toArray⟩:=by
 unfold isM at h;rw[QI,Zfd,JT]at h;exact JW h.2
variable {m:DMacro}
theorem Zir (h:Zaq m=true){k:Nat}(hk:k<m.body.length)(hf:m.function=true)(hi:isM m.body[k] [35]=true):∃bG:k+1<m.body.length,∃n:Nat,parOf m.params m.body[k+1]=n/\n<m.params.length:=by
 have hb:=(Za0 h).2.2 k hk;have ht:m.body[k].text=ZdF:=ZhG hi;unfold Zd4 at hb;rw[dif_pos hk,QI]at hb;have h2:=hb.2;rw[hf,ht,JR rfl]at h2;by_cases bG:k+1<m.body.length
 ·rw[dif_pos bG]at h2;refine⟨bG,Zll λhh=>?_⟩;rw[JR hh]at h2;exact absurd h2 (by decide)
 ·rw[dif_neg bG]at h2;exact absurd h2 (by decide)
theorem ZaO {w:World}{b off n cap:Nat}(H:(Zaa sTok).R w [.slice (some ⟨b,off,none⟩) n cap] l fp){j:Nat}(hj:j<l.length):
  ∃(aj:Option Addr) (cj:Nat) (fj:List Nat),w.cell? ⟨b,off+j*4,none⟩=some (.int .i64 l[j].kind)/\w.cell? ⟨b,off+j*4+1,none⟩=some (.string l[j].text)/\w.cell? ⟨b,off+j*4+2,none⟩=some (.bool l[j].spaced)/\w.cell? ⟨b,off+j*4+3,none⟩=some (.slice aj l[j].hidden.length cj) /\
   sTok.R w [.int .i64 l[j].kind,.string l[j].text,.bool l[j].spaced,.slice aj l[j].hidden.length cj] l[j] fj/\b<w.heap.size/\∀x∈fj,x∈fp:=by
 obtain⟨a,dF,hv,hc,hm,ai⟩:=Zac H;obtain⟨b',AQ,bA,ha,hb,eY,he⟩:=ai (by omega);simp only[QT]at hv;obtain⟨rfl,rfl,rfl⟩:=hv;simp only[Qi,Addr.mk.injEq,and_true]at ha;obtain⟨rfl,rfl⟩:=ha;obtain⟨es,hE,hR⟩:=he j hj;have bN:=hR;obtain⟨hh,rfl,-,-,K⟩:=bN;obtain⟨aj,cj,rfl,-⟩:=Zaf K;have c0:w.cell? ⟨b,off+j*4,none⟩=some _:=ZaB hE (by decide) rfl;have c1:w.cell? ⟨b,off+j*4+1,none⟩=some _:=Zae (j:=1) hE (by decide) rfl;have c2:w.cell? ⟨b,off+j*4+2,none⟩=some _:=Zae (j:=2) hE (by decide) rfl;have c3:w.cell? ⟨b,off+j*4+3,none⟩=some _:=Zae (j:=3) hE (by decide) rfl;exact⟨aj,cj,bA j,c0,c1,c2,c3,hR,hb,λx hx=>by rw[eY];exact List.mem_cons_of_mem _ (QO.2 ⟨j,List.mem_range.2 hj,hx⟩)⟩
theorem Zdd {w:World}{b off n cap:Nat}{l:List (List Tok)}{fp:List Nat}(H:(Zaa (Zaa sTok)).R w [.slice (some ⟨b,off,none⟩) n cap] l fp){j:Nat}(hj:j<l.length):
  ∃(aj:Option Addr) (cj:Nat) (fj:List Nat),w.cell? ⟨b,off+j,none⟩=some (.slice aj l[j].length cj)/\(Zaa sTok).R w [.slice aj l[j].length cj] l[j] fj/\b<w.heap.size/\∀x∈fj,x∈fp:=by
 obtain⟨a,dF,hv,hc,hm,ai⟩:=Zac H;obtain⟨b',AQ,bA,ha,hb,eY,he⟩:=ai (by omega);simp only[QT]at hv;obtain⟨rfl,rfl,rfl⟩:=hv;simp only[Qi,Addr.mk.injEq,and_true]at ha;obtain⟨rfl,rfl⟩:=ha;obtain⟨es,hE,hR⟩:=he j hj;obtain⟨aj,cj,rfl⟩:=ZgZ hR;have c0:w.cell? ⟨b,off+j*1,none⟩=some _:=ZaB hE (by decide) rfl;rw[Nat.mul_one]at c0;exact⟨aj,cj,bA j,c0,hR,hb,λx hx=>by rw[eY];exact List.mem_cons_of_mem _ (QO.2 ⟨j,List.mem_range.2 hj,hx⟩)⟩
def PartOf (P:List Tok × Nat × Bool)(B:Nat)(w:World)(e:Ending)(w':World):Prop:=
 ∃(v:Value) (L:List (Elem Tok)),e=.returned (.tuple #[v,.int .i64 (P.2.1:Nat),.bool P.2.2])/\RowN sTok w.heap.size 32 v L w'/\L.map (·.d)=P.1/\(∀x∈L,∀b∈x.fp,b<B)/\Below w.heap.size w w'
theorem Zov:(⟨#[35]⟩:ByteArray).toList=[35]:=by rw[QB]
theorem Zis:(⟨#[35,35]⟩:ByteArray).toList=[35,35]:=by rw[QB]
theorem Y14A3 (h:g:=by
 have bW:=(b2.trans (oj.mono b2.size)).trans ((aS.trans (gc.mono (QA _))).mono (b2.trans (oj.mono b2.size)).size);have fM:=Qh (fF.lower (base':=w.heap.size) (by show w.heap.size<=W5.heap.size;omega));have pS:Hid (L9.map (·.d)=(ZaP m raw ready k).1):=by show _=_;rw[kA,HF.out,iy.out]
 have tB:Hid (∀x∈L9,∀b∈x.fp,b<B):=λx hx b hb=>HFJ.out b (xl x hx b hb);clear fF kA xl gc jU;go_wp2
 go_ret3
 exact⟨.slice a9 L9.length c9,L9,by rw[HF.out];rfl,fM.out,pS.out,tB.out,bW⟩):g:=h
theorem ZnA (eE:List Value)(m:DMacro)(eV:List Nat)(vr vy:Value)(raw ready:List (List Tok))(gm ol:List Nat)(k:Nat)(w:World)(hv:Zaq m=true)(ha:ZaG m raw=true)(hy:ZaG m ready=true)(hk:k<m.body.length)
  (B:Nat) (hBm:∀b∈eV,b<B) (ns:∀b∈gm,b<B) (hBy:∀b∈ol,b<B) (HM:sMacro.R w eE m eV) (Hr:(Zaa (Zaa sTok)).R w [vr] raw gm) (Hy:(Zaa (Zaa sTok)).R w [vy] ready ol) :
  Calls Tryz.prog 128 #[.agg eE.toArray,vr,vy,.int .i64 k] w (PartOf (ZaP m raw ready k) B w):=by
 have gb:=HM;obtain⟨h2,h3,q2,q3,rfl,-,K2,K3,pe⟩:=HM;obtain⟨a2,c2,rfl,-⟩:=Zaf K2;obtain⟨a3,c3,rfl,wj,jK,dw⟩:=Zac K3;obtain⟨bb,ob,-,rfl,-,-,-⟩:=dw (by omega);unfold maxLen at jK;have AR:∀b∈q3,b<B:=λb hb=>hBm b (by rw[pe];exact List.mem_append_right _ hb);have nt:m.body.length<=20:=(Za0 hv).1.2.2.2.2;have nw:Hid (raw.length=m.params.length):=by show _=_;unfold ZaG at ha;rw[QI,JT]at ha;exact ha.1
 have rh:Hid (ready.length=m.params.length):=by show _=_;unfold ZaG at hy;rw[QI,JT]at hy;exact hy.1
 have dx:Hid (∀l∈raw,Zam l=true):=by show ∀l∈raw,_;unfold ZaG at ha;rw[QI,Qk]at ha;exact ha.2
 have HYA:Hid (∀l∈ready,Zam l=true):=by show ∀l∈ready,_;unfold ZaG at hy;rw[QI,Qk]at hy;exact hy.2
 have HLr:=Qh ns;have HLy:=Qh hBy;obtain⟨ak,ck,fk,e0,e1,e2,e3,Rk,bu,hfk⟩:=ZaO K3 hk;have eZ:=Qh K3;have HV:=Qh hv;have b0:=Zab w (.cells #[.string m.name,.bool m.function,.slice a2 m.params.length c2,.slice (some ⟨bb,ob,none⟩) m.body.length c3] 56);have b1:=Zab (w.alloc (.cells #[.string m.name,.bool m.function,.slice a2 m.params.length c2,.slice (some ⟨bb,ob,none⟩) m.body.length c3] 56)) (.cells #[.int .i64 m.body[k].kind,.string m.body[k].text,.bool m.body[k].spaced,.slice ak m.body[k].hidden.length ck] 32);have b2:Below w.heap.size w ((w.alloc (.cells #[.string m.name,.bool m.function,.slice a2 m.params.length c2,.slice (some ⟨bb,ob,none⟩) m.body.length c3] 56)).alloc (.cells #[.int .i64 m.body[k].kind,.string m.body[k].text,.bool m.body[k].spaced,.slice ak m.body[k].hidden.length ck] 32)):=b0.trans (b1.mono b0.size);have HX:=Qh (Zdj w #[.string m.name,.bool m.function,.slice a2 m.params.length c2,.slice (some ⟨bb,ob,none⟩) m.body.length c3] #[.int .i64 m.body[k].kind,.string m.body[k].text,.bool m.body[k].spaced,.slice ak m.body[k].hidden.length ck] 56 32);have g0:(w.alloc (.cells #[.string m.name,.bool m.function,.slice a2 m.params.length c2,.slice (some ⟨bb,ob,none⟩) m.body.length c3] 56)).cell? ⟨bb,ob+k*4,none⟩=some _:=(b0.cell (p:=⟨bb,ob+k*4,none⟩) bu).trans e0;have g1:(w.alloc (.cells #[.string m.name,.bool m.function,.slice a2 m.params.length c2,.slice (some ⟨bb,ob,none⟩) m.body.length c3] 56)).cell? ⟨bb,ob+k*4+1,none⟩=some _:=(b0.cell (p:=⟨bb,ob+k*4+1,none⟩) bu).trans e1;have g2:(w.alloc (.cells #[.string m.name,.bool m.function,.slice a2 m.params.length c2,.slice (some ⟨bb,ob,none⟩) m.body.length c3] 56)).cell? ⟨bb,ob+k*4+2,none⟩=some _:=(b0.cell (p:=⟨bb,ob+k*4+2,none⟩) bu).trans e2;have g3:(w.alloc (.cells #[.string m.name,.bool m.function,.slice a2 m.params.length c2,.slice (some ⟨bb,ob,none⟩) m.body.length c3] 56)).cell? ⟨bb,ob+k*4+3,none⟩=some _:=(b0.cell (p:=⟨bb,ob+k*4+3,none⟩) bu).trans e3;have tK:=Qh (sTok.below Rk b2);have l5:=Qh (sMacro.below gb b2);have fe:=Qh ((Zaa (Zaa sTok)).below Hr b2);have rj:=Qh ((Zaa (Zaa sTok)).below Hy b2);have jO:=Qh ((Zaa sTok).below K3 b2);have hi0:(0:Int)<=(k:Int):=by omega
 have jJ:(k:Int)<(m.body.length:Int):=by omega
 have bi:((w.alloc (.cells #[.string m.name,.bool m.function,.slice a2 m.params.length c2,.slice (some ⟨bb,ob,none⟩) m.body.length c3] 56)).alloc (.cells #[.int .i64 m.body[k].kind,.string m.body[k].text,.bool m.body[k].spaced,.slice ak m.body[k].hidden.length ck] 32)).heap.size=w.heap.size+2:=by show((w.heap.push _).push _).size=_;simp
 have HFK:Hid (∀b∈fk,b<B):=λb hb=>AR b (hfk b hb);clear gb K2 K3 Hr Hy Rk b0 b1 e0 e1 e2 e3 hv ha hy hfk pe dw;go_enter Tryz.func128,Tryz.ntmps128;go_upto_region 2 with fail
 clear g0 g1 g2 g3;have jC:=b2.size;generalize ((w.alloc (.cells #[.string m.name,.bool m.function,.slice a2 m.params.length c2,.slice (some ⟨bb,ob,none⟩) m.body.length c3] 56)).alloc (.cells #[.int .i64 m.body[k].kind,.string m.body[k].text,.bool m.body[k].spaced,.slice ak m.body[k].hidden.length ck] 32))=W2 at *;go_cut [26] from 16 (λd wr=>d=.bool (m.function && isM m.body[k] [35])/\Below W2.heap.size W2 wr)
 case first =>
  obtain⟨p0,p1,p2,p3⟩:=Q4 HX.out.1;rcases Bool.eq_false_or_eq_true m.function with hf | hf
  ·have dY:=Qh hf;rw[hf]at p1;clear hf;obtain⟨q0,q1,q2,q3⟩:=Q4 HX.out.2;have xm:=Qh (Zed _ m.body[k] fk W2 ⟨#[35]⟩ tK.out);rw[Zov]at xm;have HE:Hid ((decide (m.body[k].kind=4) && (m.body[k].text.toList==[35]))=isM m.body[k] [35]):=rfl;rw[HE.out]at xm;go_wp2_with fail
   refine xm.out.mono ?_;rintro e w3⟨rfl,aC⟩;go_wp2;go_meet;case rel=>exact⟨by rw[dY.out];simp,aC⟩
  ·have dY:=Qh hf;rw[hf]at p1;clear hf;go_wp2;go_meet;case rel=>exact⟨by rw[dY.out];rfl,QD _ _⟩
 obtain⟨rfl,ed⟩:=hcut;generalize wc=W3 at *;have bB:=Qh (And.intro (Zag HX.out.1 ed) (Zag HX.out.2 ed));cases rl:(m.function && isM m.body[k] [35]);rotate_left
 ·skip
  obtain⟨mK,xn⟩:=JK.1 rl;obtain⟨bG,n,hn,hnp⟩:=Zir HV.out hk mK xn;have dO:n<raw.length:=by have:=nw.out;omega
  have iy:=Qh (Zfm (a:=raw) hn dO);have rn:=Qh hn;obtain⟨kk,s,qR,hx,xo,xp,cC⟩:=Zfo raw[n];have iY:=Qh hx;have HF:=Qh (Zip (raw:=raw) (ready:=ready) bG mK xn (u:=⟨kk,s,false,[]⟩) (o:=qR) (by rw[iy.out];exact hx));obtain⟨ya,yc,yf,uS,uT,uU,uV,yR,me,-⟩:=ZaO jO.out (j:=k+1) bG;have y0:W3.cell? ⟨bb,ob+(k+1)*4,none⟩=some _:=(ed.cell (p:=⟨bb,ob+(k+1)*4,none⟩) me).trans uS;have y1:W3.cell? ⟨bb,ob+(k+1)*4+1,none⟩=some _:=(ed.cell (p:=⟨bb,ob+(k+1)*4+1,none⟩) me).trans uT;have y2:W3.cell? ⟨bb,ob+(k+1)*4+2,none⟩=some _:=(ed.cell (p:=⟨bb,ob+(k+1)*4+2,none⟩) me).trans uU;have y3:W3.cell? ⟨bb,ob+(k+1)*4+3,none⟩=some _:=(ed.cell (p:=⟨bb,ob+(k+1)*4+3,none⟩) me).trans uV;obtain⟨ar,cr,rfl,-,-,dk⟩:=Zac fe.out;obtain⟨br,iJ,-,rfl,-,-,-⟩:=dk (by omega);obtain⟨aj,cj,fj,dq,Rj,eU,-⟩:=Zdd fe.out dO;have sG:=Zay (dx.out _ (QE dO));have uW:=Qh (λ(U:World) (hU:Below W3.heap.size W3 U)=>Zgi _ _ m (m.body[k+1]'bG) _ _ U (sMacro.below (sMacro.below l5.out ed) hU) (sTok.below (sTok.below yR ed) hU));rw[hn]at uW;have qW:=Qh (λ(U:World) (hU:Below W3.heap.size W3 U)=>Zlj _ raw[n] fj U (by omega) (λj hj=>by have:=(ZfM (Zcx (sG.2 j hj))).1;omega) ((Zaa sTok).below ((Zaa sTok).below Rj ed) hU));have hz3:W2.heap.size<=W3.heap.size:=ed.size;have HS:Hid (∀U:World,Below W3.heap.size W3 U->U.heap[w.heap.size]?=some (.cells #[.string m.name,.bool m.function,.slice a2 m.params.length c2,.slice (some ⟨bb,ob,none⟩) m.body.length c3] 56 (0,0))/\U.cell? ⟨bb,ob+(k+1)*4,none⟩=some (.int .i64 (m.body[k+1]'bG).kind)/\U.cell? ⟨bb,ob+(k+1)*4+1,none⟩=some (.string (m.body[k+1]'bG).text)/\U.cell? ⟨bb,ob+(k+1)*4+2,none⟩=some (.bool (m.body[k+1]'bG).spaced)/\U.cell? ⟨bb,ob+(k+1)*4+3,none⟩=some (.slice ya (m.body[k+1]'bG).hidden.length yc)/\U.cell? ⟨br,iJ+n,none⟩=some (.slice aj raw[n].length cj)):=λU hU=>⟨Zag bB.out.1 hU,(hU.cell (by show bb<W3.heap.size;omega)).trans y0,(hU.cell (by show bb<W3.heap.size;omega)).trans y1,(hU.cell (by show bb<W3.heap.size;omega)).trans y2,(hU.cell (by show bb<W3.heap.size;omega)).trans y3,(hU.cell (by show br<W3.heap.size;omega)).trans ((ed.cell (p:=⟨br,iJ+n,none⟩) eU).trans dq)⟩;have aS:Below W3.heap.size W3 W3.drew:=Zah (QD _ _) 1;have sX:IntKind.i64.wrap ((k:Int)+1)=(k:Int)+1:=QF _ (by omega);have j1:(0:Int)<=(k:Int)+1:=by omega
  have j2:(k:Int)+1<(m.body.length:Int):=by omega
  have j3:((k:Int)+1).toNat=k+1:=by omega
  have j4:(0:Int)<=(n:Int):=by omega
  have j5:(n:Int)<(raw.length:Int):=by omega
  have hbmm:0<m.body.length:=by omega
  clear hx hn mK xn rl uS uT uU uV yR y0 y1 y2 y3 dq Rj dk sG;go_upto_region 3 with fail
  go_cut [12,13] from 16 (λd b wr=>∃(gB:Nat) (ax:Option Addr) (cx:Nat),d=.pointer (some ⟨gB,0,none⟩)/\b=.bool qR/\wr.heap[gB]?=some (.cells #[.int .i64 kk,.string s,.bool false,.slice ax 0 cx] 32 (0,0))/\W3.heap.size<=gB/\gB<wr.heap.size/\cx<=maxLen/\Below W3.heap.size W3 wr)
  case first =>
   refine wp_region_noPanic ?_;refine JU (S:=λw'=>w'.heap[w.heap.size]?=some (.cells #[.string m.name,.bool m.function,.slice a2 m.params.length c2,.slice (some ⟨bb,ob,none⟩) m.body.length c3] 56 (0,0))/\w'.cell? ⟨bb,ob+(k+1)*4,none⟩=some (.int .i64 (m.body[k+1]'bG).kind)/\w'.cell? ⟨bb,ob+(k+1)*4+1,none⟩=some (.string (m.body[k+1]'bG).text)/\w'.cell? ⟨bb,ob+(k+1)*4+2,none⟩=some (.bool (m.body[k+1]'bG).spaced)/\w'.cell? ⟨bb,ob+(k+1)*4+3,none⟩=some (.slice ya (m.body[k+1]'bG).hidden.length yc)/\w'.cell? ⟨br,iJ+n,none⟩=some (.slice aj raw[n].length cj)) (by kernel_rfl) (by exact HS.out _ aS) (λac=>?_);generalize W3.drew=wd at *;refine Qt 0 28 rfl rfl ?_;try simp only[Qp]
   refine Qt 1 29 rfl rfl ?_ (by intro w aI;obtain⟨sm,s0,s1,s2,s3,sr⟩:=aI;obtain⟨m0,m1,m2,m3⟩:=Q4 sm;go_simp;(first | done | with_reducible rfl | rfl));try simp only[Qp]
   refine Qt 2 30 rfl rfl ?_;try simp only[Qp]
   refine Qt 3 31 rfl rfl ?_ (by intro w aI;obtain⟨sm,s0,s1,s2,s3,sr⟩:=aI;obtain⟨m0,m1,m2,m3⟩:=Q4 sm;go_simp;(first | done | with_reducible rfl | rfl));try simp only[Qp]
   refine Qt 4 32 rfl rfl ?_;try simp only[Qp]
   refine Qt 5 33 rfl rfl ?_;try simp only[Qp]
   refine Qt 6 34 rfl rfl ?_;try simp only[Qp]
   refine Qt 7 35 rfl rfl ?_ (by intro w aI;obtain⟨sm,s0,s1,s2,s3,sr⟩:=aI;obtain⟨m0,m1,m2,m3⟩:=Q4 sm;go_simp;(first | done | with_reducible rfl | rfl));try simp only[Qp]
   refine wpAnyH_ready (rs:=[8,15]) (by kernel_rfl) (by simp) ?_;refine JP rfl (λK hK=>?_) ?_
   ·skip
    go_simp;refine(uW.out _ aS).mono ?_;rintro e eR⟨rfl,br1⟩;have bZ:=aS.trans (br1.mono aS.size);refine hK.out _ _ (HS.out _ bZ) (λac=>?_);clear hK K;try simp only[Qp]
    refine Qt 9 37 rfl rfl ?_;try simp only[Qp]
    refine Qt 10 38 rfl rfl ?_ (by intro w aI;obtain⟨sm,s0,s1,s2,s3,sr⟩:=aI;obtain⟨m0,m1,m2,m3⟩:=Q4 sm;go_simp;(first | done | with_reducible rfl | rfl));try simp only[Qp]
    refine wpAnyH_ready (rs:=[11,15]) (by kernel_rfl) (by simp) ?_;refine JP rfl (λK hK=>?_) ?_
    ·skip
     go_simp;refine(qW.out _ bZ).mono ?_;rintro e gw hT2;obtain⟨k9,s9,b9,ax,cx,e9,rfl,-,-,-,lB,br2⟩:=hT2.bare;rw[iY.out]at e9;simp only[QS,Tok.mk.injEq,and_true]at e9;obtain⟨⟨rfl,rfl⟩,rfl⟩:=e9;have dp:=bZ.trans (br2.mono bZ.size);refine hK.out _ _ (HS.out _ dp) (λac=>?_);clear hK K;try simp only[Qp]
     refine Qt 12 27 rfl rfl ?_;try simp only[Qp]
     refine Qt 13 40 rfl rfl ?_;try simp only[Qp]
     refine Qt 14 41 rfl rfl ?_;try simp only[Qp]
     refine Qr 15 rfl (λK hK=>?_);go_simp;have bk:=Zab gw (.cells #[.int .i64 0,.string ⟨#[]⟩,.bool false,.slice none 0 0] 32);have HB:=Qh (JS gw (.cells #[.int .i64 0,.string ⟨#[]⟩,.bool false,.slice none 0 0] 32));have d8:=dp.trans (bk.mono dp.size);have eD:=dp.size;refine hK.out _ _ (HS.out _ d8) (λac=>?_);clear hK K bk;try simp only[Qp]
     generalize (gw.alloc (.cells #[.int .i64 0,.string ⟨#[]⟩,.bool false,.slice none 0 0] 32))=sH at *;obtain⟨tL,dT,tM,dU,tN,dV,tO,dW⟩:=Q8 HB.out;have ro:=Qh (Za2 HB.out (.int .i64 kk) (.string s) (.bool false) (.slice ax 0 cx));have jT:=Qh (ZaJ (g:=gw.heap.size) d8 eD (.int .i64 kk) (.string s) (.bool false) (.slice ax 0 cx));have lC:Hid (gw.heap.size<(set4 sH (gw.heap.size) (.int .i64 kk) (.string s) (.bool false) (.slice ax 0 cx)).heap.size):=(by show _<_;rw[ZcS];exact mlt HB.out);refine Qr 16 rfl (λK hK=>?_);go_simp;change K _ (set4 sH (gw.heap.size) (.int .i64 kk) (.string s) (.bool false) (.slice ax 0 cx));refine hK.out _ _ (HS.out _ jT.out) (λac=>?_);clear hK K;try simp only[Qp]
     refine Qt 17 13 rfl rfl ?_;try simp only[Qp]
     refine wpAnyH_done (by kernel_rfl) ?_ _;refine QP ?_;clear ac;go_wp2;go_meet;case rel=>exact⟨_,ax,cx,rfl,rfl,ro.out,eD,lC.out,lB,jT.out⟩
    refine JP rfl (λK hK=>?_) AllReadyH.nil;go_simp;have bk:=Zab eR (.cells #[.int .i64 0,.string ⟨#[]⟩,.bool false,.slice none 0 0] 32);have HB:=Qh (JS eR (.cells #[.int .i64 0,.string ⟨#[]⟩,.bool false,.slice none 0 0] 32));have iK:=bZ.trans (bk.mono bZ.size);have eD:=bZ.size;refine hK.out _ _ (HS.out _ iK) (λac=>?_);clear hK K bk;try simp only[Qp]
    generalize (eR.alloc (.cells #[.int .i64 0,.string ⟨#[]⟩,.bool false,.slice none 0 0] 32))=xq at *;refine Qr 11 rfl (λK hK=>?_);go_simp;refine(qW.out _ iK).mono ?_;rintro e AS hT5;obtain⟨k9,s9,b9,ax,cx,e9,rfl,-,-,-,lB,AT⟩:=hT5.bare;rw[iY.out]at e9;simp only[QS,Tok.mk.injEq,and_true]at e9;obtain⟨⟨rfl,rfl⟩,rfl⟩:=e9;have mL:=iK.trans (AT.mono iK.size);have oX:=Qh (Zag HB.out AT);refine hK.out _ _ (HS.out _ mL) (λac=>?_);clear hK K;try simp only[Qp]
    refine Qt 12 27 rfl rfl ?_;try simp only[Qp]
    refine Qt 13 40 rfl rfl ?_;try simp only[Qp]
    refine Qt 14 41 rfl rfl ?_;try simp only[Qp]
    obtain⟨tL,dT,tM,dU,tN,dV,tO,dW⟩:=Q8 oX.out;have ro:=Qh (Za2 oX.out (.int .i64 kk) (.string s) (.bool false) (.slice ax 0 cx));have jT:=Qh (ZaJ (g:=eR.heap.size) mL eD (.int .i64 kk) (.string s) (.bool false) (.slice ax 0 cx));have lC:Hid (eR.heap.size<(set4 AS (eR.heap.size) (.int .i64 kk) (.string s) (.bool false) (.slice ax 0 cx)).heap.size):=(by show _<_;rw[ZcS];exact mlt oX.out);refine Qr 16 rfl (λK hK=>?_);go_simp;change K _ (set4 AS (eR.heap.size) (.int .i64 kk) (.string s) (.bool false) (.slice ax 0 cx));refine hK.out _ _ (HS.out _ jT.out) (λac=>?_);clear hK K;try simp only[Qp]
    refine Qt 17 13 rfl rfl ?_;try simp only[Qp]
    refine wpAnyH_done (by kernel_rfl) ?_ _;refine QP ?_;clear ac;go_wp2;go_meet;case rel=>exact⟨_,ax,cx,rfl,rfl,ro.out,eD,lC.out,lB,jT.out⟩
   refine JP rfl (λK hK=>?_) AllReadyH.nil;go_simp;have bk:=Zab wd (.cells #[.int .i64 0,.string ⟨#[]⟩,.bool false,.slice none 0 0] 32);have HB:=Qh (JS wd (.cells #[.int .i64 0,.string ⟨#[]⟩,.bool false,.slice none 0 0] 32));have uX:=aS.trans (bk.mono aS.size);have eD:=aS.size;refine hK.out _ _ (HS.out _ uX) (λac=>?_);clear hK K bk;try simp only[Qp]
   generalize (wd.alloc (.cells #[.int .i64 0,.string ⟨#[]⟩,.bool false,.slice none 0 0] 32))=wx6 at *;refine Qr 8 rfl (λK hK=>?_);go_simp;refine(uW.out _ uX).mono ?_;rintro e wx7⟨rfl,br7⟩;have pf:=uX.trans (br7.mono uX.size);have gF:=Qh (Zag HB.out br7);refine hK.out _ _ (HS.out _ pf) (λac=>?_);clear hK K;try simp only[Qp]
   refine Qt 9 37 rfl rfl ?_;try simp only[Qp]
   refine Qt 10 38 rfl rfl ?_ (by intro w aI;obtain⟨sm,s0,s1,s2,s3,sr⟩:=aI;obtain⟨m0,m1,m2,m3⟩:=Q4 sm;go_simp;(first | done | with_reducible rfl | rfl));try simp only[Qp]
   refine Qr 11 rfl (λK hK=>?_);go_simp;refine(qW.out _ pf).mono ?_;rintro e AU hT8;obtain⟨k9,s9,b9,ax,cx,e9,rfl,-,-,-,lB,AV⟩:=hT8.bare;rw[iY.out]at e9;simp only[QS,Tok.mk.injEq,and_true]at e9;obtain⟨⟨rfl,rfl⟩,rfl⟩:=e9;have AW:=pf.trans (AV.mono pf.size);have il:=Qh (Zag gF.out AV);refine hK.out _ _ (HS.out _ AW) (λac=>?_);clear hK K;try simp only[Qp]
   refine Qt 12 27 rfl rfl ?_;try simp only[Qp]
   refine Qt 13 40 rfl rfl ?_;try simp only[Qp]
   refine Qt 14 41 rfl rfl ?_;try simp only[Qp]
   obtain⟨tL,dT,tM,dU,tN,dV,tO,dW⟩:=Q8 il.out;have ro:=Qh (Za2 il.out (.int .i64 kk) (.string s) (.bool false) (.slice ax 0 cx));have jT:=Qh (ZaJ (g:=wd.heap.size) AW eD (.int .i64 kk) (.string s) (.bool false) (.slice ax 0 cx));have lC:Hid (wd.heap.size<(set4 AU (wd.heap.size) (.int .i64 kk) (.string s) (.bool false) (.slice ax 0 cx)).heap.size):=(by show _<_;rw[ZcS];exact mlt il.out);refine Qr 16 rfl (λK hK=>?_);go_simp;change K _ (set4 AU (wd.heap.size) (.int .i64 kk) (.string s) (.bool false) (.slice ax 0 cx));refine hK.out _ _ (HS.out _ jT.out) (λac=>?_);clear hK K;try simp only[Qp]
   refine Qt 17 13 rfl rfl ?_;try simp only[Qp]
   refine wpAnyH_done (by kernel_rfl) ?_ _;refine QP ?_;clear ac;go_wp2;go_meet;case rel=>exact⟨_,ax,cx,rfl,rfl,ro.out,eD,lC.out,lB,jT.out⟩
  obtain⟨gB,ax,cx,rfl,rfl,gX,nU,kL,lB,wW⟩:=hcut;generalize wc=W4 at *;have HG:=Qh gX;have xr:=Qh (Zag bB.out.2 wW);clear gX HS uW qW aS;have dp:w.heap.size+1<W3.heap.size:=mlt bB.out.2;have t2:=Qc 2 xr.out;obtain⟨g0,-,g1,-,g2,gf2,g3,-⟩:=Q8 HG.out;have aM:=(b2.trans (ed.mono b2.size)).trans (wW.mono (b2.trans (ed.mono b2.size)).size);have bg:=aM.setCell (p:=⟨gB,2,none⟩) (by show w.heap.size<=gB;omega) (.bool m.body[k].spaced);have zS:=Qh (Zai HG.out 2 (.bool m.body[k].spaced));go_upto_region 5 with fail
  clear t2 g0 g1 g2 g3 gf2 HG xr aM;generalize W4.setCell ⟨gB,2,none⟩ (.bool m.body[k].spaced)=W5 at *;obtain⟨g0,g1,g2,g3⟩:=Q4 zS.out;have wg:IntKind.i64.wrap ((k:Int)+2)=(k:Int)+2:=QF _ (by omega);have HL:=Qh (RowN.lit1 (S:=sTok) (e:=32) (w:=W5) (base:=w.heap.size) (x:=⟨[.int .i64 kk,.string s,.bool m.body[k].spaced,.slice ax 0 cx],⟨kk,s,m.body[k].spaced,[]⟩,[]⟩) bg.size rfl (Zmf kk s _ ax cx W5 xo xp (by omega) lB));have oj:=bg.trans ((Zab W5 (.cells #[.int .i64 kk,.string s,.bool m.body[k].spaced,.slice ax 0 cx] 32)).mono bg.size);go_wp2
  go_ret3
  exact⟨.slice (some ⟨W5.heap.size,0,none⟩) 1 1,_,by rw[HF.out];rfl,HL.out,by rw[HF.out];rfl,λx hx=>by obtain rfl:=Qm hx;intro b hb;simp at hb,oj⟩
 have lD:Hid (¬(m.function=true/\isM m.body[k] [35]=true)):=λh=>by rw[h.1,h.2]at rl;exact absurd rl (by simp)
 clear rl;obtain⟨p0,p1,p2,p3⟩:=Q4 bB.out.1;obtain⟨q0,q1,q2,q3⟩:=Q4 bB.out.2;have HP:=Qh (Zgi _ _ m m.body[k] _ _ W3 (sMacro.below l5.out ed) (sTok.below tK.out ed));go_wp2_with fail
 refine HP.out.mono ?_;rintro e W4⟨rfl,aM⟩;clear p0 p1 p2 p3 q0 q1 q2 q3 HP;have dj:=ed.trans (aM.mono ed.size);have dJ:=Qh (And.intro (Zag HX.out.1 dj) (Zag HX.out.2 dj));have bG:IntKind.i64.wrap ((k:Int)+1)=(k:Int)+1:=QF _ (by omega);by_cases hp:parOf m.params m.body[k]<0
 ·have HF:=Qh (Ziq (raw:=raw) (ready:=ready) hk lD.out hp);obtain⟨q0,q1,q2,q3⟩:=Q4 dJ.out.2;have HL:=Qh (RowN.lit1 (S:=sTok) (e:=32) (w:=W4) (base:=w.heap.size) (x:=⟨[.int .i64 m.body[k].kind,.string m.body[k].text,.bool m.body[k].spaced,.slice ak m.body[k].hidden.length ck],m.body[k],fk⟩) (by have:=dj.size;omega) rfl (sTok.below tK.out dj));have oj:=(b2.trans (dj.mono b2.size)).trans ((Zab W4 (.cells #[.int .i64 m.body[k].kind,.string m.body[k].text,.bool m.body[k].spaced,.slice ak m.body[k].hidden.length ck] 32)).mono (b2.trans (dj.mono b2.size)).size);generalize parOf m.params m.body[k]=pn at *;go_wp2
  go_ret3
  exact⟨.slice (some ⟨W4.heap.size,0,none⟩) 1 1,_,by rw[HF.out];rfl,HL.out,by rw[HF.out];rfl,λx hx=>by obtain rfl:=Qm hx;exact HFK.out,oj⟩
 obtain⟨n,hn,hnp⟩:=Zll hp;have rn:=Qh hn;have gd:=Qh hp;rw[hn];clear hn hp;have ke:¬((n:Int)<0):=by omega
 have yT:Hid (∀(cs:List Value) (x:Tok) (fp:List Nat) (W:World),sTok.R W cs x fp->Calls Tryz.prog 45 #[.agg cs.toArray,.string ⟨#[35,35]⟩] W (Zbu (isM x [35,35]) W)):=λcs x fp W h=>by have:=Zed cs x fp W ⟨#[35,35]⟩ h;rw[Zis]at this;exact this
 go_upto_region 9 with fail
 go_cut [15] from 16 (λd wr=>d=.bool (Zc7 m k || ZcG m k)/\Below W2.heap.size W2 wr)
 case first =>
  obtain⟨p0,p1,p2,p3⟩:=Q4 dJ.out.1;by_cases ek:0<k
  ·have i0:(0:Int)<(k:Int):=(by omega);have i1:IntKind.i64.wrap ((k:Int)-1)=(k:Int)-1:=QF _ (by omega);have i2:(0:Int)<=(k:Int)-1:=(by omega);have i3:(k:Int)-1<(m.body.length:Int):=(by omega);have i4:((k:Int)-1).toNat=k-1:=(by omega);have i5:(1:Int)<=(k:Int):=(by omega);obtain⟨xa,xc,xf,AX,uY,AY,AZ,xR,xbb,-⟩:=ZaO jO.out (j:=k-1) (by omega);have x0:W4.cell? ⟨bb,ob+(k-1)*4,none⟩=some _:=(dj.cell (p:=⟨bb,ob+(k-1)*4,none⟩) xbb).trans AX;have x1:W4.cell? ⟨bb,ob+(k-1)*4+1,none⟩=some _:=(dj.cell (p:=⟨bb,ob+(k-1)*4+1,none⟩) xbb).trans uY;have x2:W4.cell? ⟨bb,ob+(k-1)*4+2,none⟩=some _:=(dj.cell (p:=⟨bb,ob+(k-1)*4+2,none⟩) xbb).trans AY;have x3:W4.cell? ⟨bb,ob+(k-1)*4+3,none⟩=some _:=(dj.cell (p:=⟨bb,ob+(k-1)*4+3,none⟩) xbb).trans AZ;have HC:=Qh (yT.out _ (m.body[k-1]'(by omega)) _ W4 (sTok.below xR dj));have gX:Hid (Zc7 m k=isM (m.body[k-1]'(by omega)) [35,35]):=(by show _=_;unfold Zc7;rw[dif_pos ⟨ek,by omega⟩]);clear AX uY AY AZ xR;rcases Bool.eq_false_or_eq_true (isM (m.body[k-1]'(by omega)) [35,35]) with hg | hg
   ·have HGT:Hid (Zc7 m k=true):=gX.out.trans hg;rw[hg]at HC;clear hg gX;go_wp2_with fail
    refine HC.out.mono ?_;rintro e w8⟨rfl,cN⟩;go_wp2;go_meet;case rel=>exact⟨by rw[HGT.out];rfl,dj.trans (cN.mono dj.size)⟩
   ·have tr:Hid (Zc7 m k=false):=gX.out.trans hg;rw[hg]at HC;clear hg gX;go_wp2_with fail
    refine HC.out.mono ?_;rintro e w8⟨rfl,cN⟩;have kf:=dj.trans (cN.mono dj.size);clear p0 p1 p2 p3 x0 x1 x2 x3;have fi:=Qh (Zag HX.out.1 kf);obtain⟨r0,r1,r2,r3⟩:=Q4 fi.out;by_cases bY:k+1<m.body.length
    ·have i1:(0:Int)<=(k:Int)+1:=(by omega);have i2:(k:Int)+1<(m.body.length:Int):=(by omega);have i3:((k:Int)+1).toNat=k+1:=(by omega);obtain⟨ya,yc,yf,uS,uT,uU,uV,yR,me,-⟩:=ZaO jO.out (j:=k+1) bY;have y0:w8.cell? ⟨bb,ob+(k+1)*4,none⟩=some _:=(kf.cell (p:=⟨bb,ob+(k+1)*4,none⟩) me).trans uS;have y1:w8.cell? ⟨bb,ob+(k+1)*4+1,none⟩=some _:=(kf.cell (p:=⟨bb,ob+(k+1)*4+1,none⟩) me).trans uT;have y2:w8.cell? ⟨bb,ob+(k+1)*4+2,none⟩=some _:=(kf.cell (p:=⟨bb,ob+(k+1)*4+2,none⟩) me).trans uU;have y3:w8.cell? ⟨bb,ob+(k+1)*4+3,none⟩=some _:=(kf.cell (p:=⟨bb,ob+(k+1)*4+3,none⟩) me).trans uV;have HC:=Qh (yT.out _ (m.body[k+1]'bY) _ w8 (sTok.below yR kf));have HG:Hid (ZcG m k=isM (m.body[k+1]'bY) [35,35]):=(by show _=_;unfold ZcG;rw[dif_pos bY]);clear uS uT uU uV yR;go_wp2_with fail
     refine HC.out.mono ?_;rintro e w9⟨rfl,gc⟩;go_wp2;go_meet;case rel=>exact⟨by rw[tr.out,HG.out];simp,kf.trans (gc.mono kf.size)⟩
    ·have i2:¬((k:Int)+1<(m.body.length:Int)):=(by omega);have HG:Hid (ZcG m k=false):=(by show _=_;unfold ZcG;rw[dif_neg bY]);go_wp2;go_meet;case rel=>exact⟨by rw[tr.out,HG.out];rfl,kf⟩
  ·have i0:¬(0:Int)<(k:Int):=(by omega);have tr:Hid (Zc7 m k=false):=(by show _=_;unfold Zc7;rw[dif_neg (λh=>ek h.1)]);clear p0 p1 p2 p3;have fi:=Qh (Zag HX.out.1 dj);obtain⟨r0,r1,r2,r3⟩:=Q4 fi.out;by_cases bY:k+1<m.body.length
   ·have i1:(0:Int)<=(k:Int)+1:=(by omega);have i2:(k:Int)+1<(m.body.length:Int):=(by omega);have i3:((k:Int)+1).toNat=k+1:=(by omega);obtain⟨ya,yc,yf,uS,uT,uU,uV,yR,me,-⟩:=ZaO jO.out (j:=k+1) bY;have y0:W4.cell? ⟨bb,ob+(k+1)*4,none⟩=some _:=(dj.cell (p:=⟨bb,ob+(k+1)*4,none⟩) me).trans uS;have y1:W4.cell? ⟨bb,ob+(k+1)*4+1,none⟩=some _:=(dj.cell (p:=⟨bb,ob+(k+1)*4+1,none⟩) me).trans uT;have y2:W4.cell? ⟨bb,ob+(k+1)*4+2,none⟩=some _:=(dj.cell (p:=⟨bb,ob+(k+1)*4+2,none⟩) me).trans uU;have y3:W4.cell? ⟨bb,ob+(k+1)*4+3,none⟩=some _:=(dj.cell (p:=⟨bb,ob+(k+1)*4+3,none⟩) me).trans uV;have HC:=Qh (yT.out _ (m.body[k+1]'bY) _ W4 (sTok.below yR dj));have HG:Hid (ZcG m k=isM (m.body[k+1]'bY) [35,35]):=(by show _=_;unfold ZcG;rw[dif_pos bY]);clear uS uT uU uV yR;go_wp2_with fail
    refine HC.out.mono ?_;rintro e w9⟨rfl,gc⟩;go_wp2;go_meet;case rel=>exact⟨by rw[tr.out,HG.out];simp,dj.trans (gc.mono dj.size)⟩
   ·have i2:¬((k:Int)+1<(m.body.length:Int)):=(by omega);have HG:Hid (ZcG m k=false):=(by show _=_;unfold ZcG;rw[dif_neg bY]);go_wp2;go_meet;case rel=>exact⟨by rw[tr.out,HG.out];rfl,dj⟩
 obtain⟨rfl,oj⟩:=hcut;generalize wc=W5 at *;have gy:=Qh (And.intro (Zag HX.out.1 oj) (Zag HX.out.2 oj));clear dJ dj bB ed yT;cases hg:(Zc7 m k || ZcG m k)
 ·skip
  have HF:=Qh (ZhD (raw:=raw) (ready:=ready) hk lD.out (by have:=gd.out;omega) hg);have dO:n<ready.length:=by have:=nw.out;have:=rh.out;omega
  have iy:=Qh (Zfm (a:=ready) rn.out dO);obtain⟨ar,cr,rfl,-,-,dk⟩:=Zac rj.out;obtain⟨br,iJ,-,rfl,-,-,-⟩:=dk (by omega);obtain⟨aj,cj,fj,dq,Rj,eU,pT⟩:=Zdd rj.out dO;have lj:(ready[n]).length<=60:=(Zay (HYA.out _ (QE dO))).1;have jU:=Qh (λ(U:World) (hU:Below W5.heap.size W5 U)=>Zfn _ ready[n] fj U m.body[k].spaced (by omega) ((Zaa sTok).below ((Zaa sTok).below Rj oj) hU));have HFJ:Hid (∀b∈fj,b<B):=λb hb=>HLy.out b (pT b hb);have d0:W5.drew.cell? ⟨br,iJ+n,none⟩=some (.slice aj (ready[n]).length cj):=(oj.cell (p:=⟨br,iJ+n,none⟩) eU).trans dq;have t2:W5.drew.cell? ⟨w.heap.size+1,2,none⟩=some (.bool m.body[k].spaced):=Qc 2 gy.out.2;have aS:Below W5.heap.size W5 W5.drew:=Zah (QD _ _) 1;have hz:W2.heap.size<=W5.heap.size:=oj.size;have tJ:∀U:World,Below W5.drew.heap.size W5.drew U->U.cell? ⟨br,iJ+n,none⟩=some (.slice aj (ready[n]).length cj)/\U.cell? ⟨w.heap.size+1,2,none⟩=some (.bool m.body[k].spaced):=λU hU=>⟨(hU.cell (by show _<W5.heap.size;simp only;omega)).trans d0,(hU.cell (by show _<W5.heap.size;simp only;omega)).trans t2⟩;have i6:(0:Int)<=(n:Int):=by omega
  have i7:(n:Int)<(ready.length:Int):=by omega
  have i8:n<ready.length:=dO;clear dq Rj pT dk hg;go_wp2_with fail
  go_region_held3 (λw'=>w'.cell? ⟨br,iJ+n,none⟩=some (.slice aj (ready[n]).length cj)/\w'.cell? ⟨w.heap.size+1,2,none⟩=some (.bool m.body[k].spaced))
   (first | (with_reducible exact⟨d0,t2⟩) | (with_reducible exact tJ _ gc))
   (first | (go_at_call 103;(with_reducible refine(jU.out _ aS).mono ?_);rintro e w9⟨v9,L9,rfl,fF,kA,xl,gc⟩;obtain⟨a9,c9,rfl,-⟩:=fF.val))
  exact Y14A3
 ·skip
  have HF:=Qh (ZjH (raw:=raw) (ready:=ready) hk lD.out (by have:=gd.out;omega) hg);have dO:n<raw.length:=by have:=nw.out;have:=rh.out;omega
  have iy:=Qh (Zfm (a:=raw) rn.out dO);obtain⟨ar,cr,rfl,-,-,dk⟩:=Zac fe.out;obtain⟨br,iJ,-,rfl,-,-,-⟩:=dk (by omega);obtain⟨aj,cj,fj,dq,Rj,eU,pT⟩:=Zdd fe.out dO;have lj:(raw[n]).length<=60:=(Zay (dx.out _ (QE dO))).1;have jU:=Qh (λ(U:World) (hU:Below W5.heap.size W5 U)=>Zfn _ raw[n] fj U m.body[k].spaced (by omega) ((Zaa sTok).below ((Zaa sTok).below Rj oj) hU));have HFJ:Hid (∀b∈fj,b<B):=λb hb=>HLr.out b (pT b hb);have d0:W5.drew.cell? ⟨br,iJ+n,none⟩=some (.slice aj (raw[n]).length cj):=(oj.cell (p:=⟨br,iJ+n,none⟩) eU).trans dq;have t2:W5.drew.cell? ⟨w.heap.size+1,2,none⟩=some (.bool m.body[k].spaced):=Qc 2 gy.out.2;have aS:Below W5.heap.size W5 W5.drew:=Zah (QD _ _) 1;have hz:W2.heap.size<=W5.heap.size:=oj.size;have tJ:∀U:World,Below W5.drew.heap.size W5.drew U->U.cell? ⟨br,iJ+n,none⟩=some (.slice aj (raw[n]).length cj)/\U.cell? ⟨w.heap.size+1,2,none⟩=some (.bool m.body[k].spaced):=λU hU=>⟨(hU.cell (by show _<W5.heap.size;simp only;omega)).trans d0,(hU.cell (by show _<W5.heap.size;simp only;omega)).trans t2⟩;have i6:(0:Int)<=(n:Int):=by omega
  have i7:(n:Int)<(raw.length:Int):=by omega
  have i8:n<raw.length:=dO;clear dq Rj pT dk hg;go_wp2_with fail
  go_region_held3 (λw'=>w'.cell? ⟨br,iJ+n,none⟩=some (.slice aj (raw[n]).length cj)/\w'.cell? ⟨w.heap.size+1,2,none⟩=some (.bool m.body[k].spaced))
   (first | (with_reducible exact⟨d0,t2⟩) | (with_reducible exact tJ _ gc))
   (first | (go_at_call 103;(with_reducible refine(jU.out _ aS).mono ?_);rintro e w9⟨v9,L9,rfl,fF,kA,xl,gc⟩;obtain⟨a9,c9,rfl,-⟩:=fF.val))
  exact Y14A3
theorem ZnB {a:List (List Tok)}(h:∀l∈a,Zam l=true)(n:Int):Zam (Zcj a n)=true:=by
 unfold Zcj;by_cases hn:n.toNat<a.length
 ·rw[Qv,QJ hn];exact h _ (QE hn)
 ·rw[Qv,List.getElem?_eq_none (by omega)];rfl
theorem Zo8 {b:Bool}(h:Zam l=true):(spc b l).length<=60/\∀t∈spc b l,t.hidden.length<=60:=by
 have hf:=Zay h;refine⟨by rw[Zli];exact hf.1,λt ht=>?_⟩;have eg:∀u∈l,u.hidden.length<=60:=λu hu=>by
  obtain⟨j,hj,rfl⟩:=QY hu;exact(ZfM (Zcx (hf.2 j hj))).1
 cases l with
 | nil=>simp[spc]at ht
 |
  cons x r =>
  rcases Q7.1 ht with rfl | ht
  ·exact eg x (by simp)
  ·exact eg t (by simp[ht])
theorem ZhH {a:List (List Tok)}(h:ZaG m a=true):∀l∈a,Zam l=true:=by
 unfold ZaG at h;rw[QI,Qk]at h;exact h.2
theorem ZkC {raw ready:List (List Tok)}(hv:Zaq m=true)(ha:ZaG m raw=true)(hy:ZaG m ready=true){k:Nat}(hk:k<m.body.length){P:List Tok}{nx:Nat}{ok:Bool}(h:ZaP m raw ready k=(P,nx,ok)):
  P.length<=60/\nx<=m.body.length/\k<nx/\∀t∈P,t.hidden.length<=60:=by
 have jV:=ZgI m raw ready k;rw[h]at jV;by_cases h1:m.function=true/\isM m.body[k] [35]=true
 ·obtain⟨bG,-⟩:=Zir hv hk h1.1 h1.2;obtain⟨kk,s,b,hx,-⟩:=Zfo (Zcj raw (parOf m.params m.body[k+1]));rw[Zip bG h1.1 h1.2 hx]at h;simp only[QS]at h;obtain⟨rfl,rfl,-⟩:=h;exact⟨by simp,by omega,jV,λt ht=>by rw[Qm ht];exact JI _⟩
 ·by_cases h2:parOf m.params m.body[k]<0
  ·rw[Ziq hk h1 h2]at h;simp only[QS]at h;obtain⟨rfl,rfl,-⟩:=h;refine⟨by simp,by omega,jV,λt ht=>?_⟩;rw[Qm ht,(Zc1 hk ((Za0 hv).2.2 k hk)).2.1];exact JI _
  ·cases h3:(Zc7 m k || ZcG m k)
   ·rw[ZhD hk h1 h2 h3]at h;simp only[QS]at h;obtain⟨rfl,rfl,-⟩:=h;have:=Zo8 (b:=m.body[k].spaced) (ZnB (ZhH hy) (parOf m.params m.body[k]));exact⟨this.1,by omega,jV,this.2⟩
   ·rw[ZjH hk h1 h2 h3]at h;simp only[QS]at h;obtain⟨rfl,rfl,-⟩:=h;have:=Zo8 (b:=m.body[k].spaced) (ZnB (ZhH ha) (parOf m.params m.body[k]));exact⟨this.1,by omega,jV,this.2⟩
variable {α:Type}
theorem set_last {l:List α}(h:l≠[])(z:α):l.set (l.length-1) z=l.dropLast++[z]:=by
 have hl:0<l.length:=List.length_pos_iff.2 h;rw[List.set_eq_take_append_cons_drop,if_pos (by omega),List.dropLast_eq_take,List.drop_of_length_le (by omega)]
def BodyOf (P:List Tok × Bool)(w:World)(e:Ending)(w':World):Prop:=
 ∃(v:Value) (L:List (Elem Tok)),e=.returned (.tuple #[v,.bool P.2])/\RowN sTok w.heap.size 32 v L w'/\L.map (·.d)=P.1/\L.length<=5000/\(∀x∈L,x.d.hidden.length<=60)/\Below w.heap.size w w'
theorem Zmg {P:List Tok × Bool}{w W:World}(h:P=([],false))(hb:Below w.heap.size w W):BodyOf P w (.returned (.tuple #[.slice (some ⟨W.heap.size,0,none⟩) 0 0,.bool false])) (W.alloc (.cells #[] 32)):=
 ⟨_,[],by rw[h],RowN.lit0 sTok 32 W hb.size,by rw[h];rfl,by simp,by simp,hb.alloc hb.size _⟩
theorem ZnC (eE:List Value)(m:DMacro)(eV:List Nat)(vr vy:Value)(raw ready:List (List Tok))(gm ol:List Nat)(w:World)(hv:Zaq m=true)(ha:ZaG m raw=true)(hy:ZaG m ready=true)
  (HM:sMacro.R w eE m eV) (Hr:(Zaa (Zaa sTok)).R w [vr] raw gm) (Hy:(Zaa (Zaa sTok)).R w [vy] ready ol) :
  Calls Tryz.prog 102 #[.agg eE.toArray,vr,vy] w (BodyOf (ZaQ m raw ready 0 [] true false) w):=by
 have gb:=HM;obtain⟨h2,h3,q2,q3,rfl,-,K2,K3,pe⟩:=HM;obtain⟨a2,c2,rfl,-⟩:=Zaf K2;obtain⟨a3,c3,rfl,wj,jK,dw⟩:=Zac K3;obtain⟨ar,cr,rfl,-⟩:=Zac Hr;obtain⟨ay,cy,rfl,-⟩:=Zac Hy;unfold maxLen at jK;have nt:m.body.length<=20:=(Za0 hv).1.2.2.2.2;have b0:=Zab w (.cells #[.string m.name,.bool m.function,.slice a2 m.params.length c2,.slice a3 m.body.length c3] 56);have HX:=Qh (JS w (.cells #[.string m.name,.bool m.function,.slice a2 m.params.length c2,.slice a3 m.body.length c3] 56));have yU:=Qh (λ(k:Nat) (hk:k<m.body.length) (U:World) (hU:Below w.heap.size w U)=>ZnA _ m eV _ _ raw ready gm ol k U hv ha hy hk w.heap.size (λb hb=>sMacro.lt gb b hb) (λb hb=>(Zaa (Zaa sTok)).lt Hr b hb) (λb hb=>(Zaa (Zaa sTok)).lt Hy b hb) (sMacro.below gb hU) ((Zaa (Zaa sTok)).below Hr hU) ((Zaa (Zaa sTok)).below Hy hU));unfold PartOf at yU;have eP:=Qh (λ(k:Nat) (hk:k<m.body.length) (P:List Tok) (nx:Nat) (ok:Bool) (h:ZaP m raw ready k=(P,nx,ok))=>ZkC hv ha hy hk h);have eZ:=Qh K3;have gP:(w.alloc (.cells #[.string m.name,.bool m.function,.slice a2 m.params.length c2,.slice a3 m.body.length c3] 56)).heap.size=w.heap.size+1:=by show(w.heap.push _).size=_;simp
 have gX:=Qh (RowN.lit0 sTok 32 (w.alloc (.cells #[.string m.name,.bool m.function,.slice a2 m.params.length c2,.slice a3 m.body.length c3] 56)) (base:=w.heap.size) (by omega));rw[gP]at gX;have b1:=b0.trans ((Zab (w.alloc (.cells #[.string m.name,.bool m.function,.slice a2 m.params.length c2,.slice a3 m.body.length c3] 56)) (.cells #[] 32)).mono b0.size);have dG:=Qh (Zag HX.out (Zab (w.alloc (.cells #[.string m.name,.bool m.function,.slice a2 m.params.length c2,.slice a3 m.body.length c3] 56)) (.cells #[] 32)));have yT:Hid (∀(cs:List Value) (x:Tok) (fp:List Nat) (W:World),sTok.R W cs x fp->Calls Tryz.prog 45 #[.agg cs.toArray,.string ⟨#[35,35]⟩] W (Zbu (isM x [35,35]) W)):=λcs x fp W h=>by have:=Zed cs x fp W ⟨#[35,35]⟩ h;rw[Zis]at this;exact this
 clear gb K2 K3 Hr Hy hv ha hy pe b0 HX;go_enter Tryz.func102,Tryz.ntmps102;go_upto_region 2 with fail
 clear gP;generalize ((w.alloc (.cells #[.string m.name,.bool m.function,.slice a2 m.params.length c2,.slice a3 m.body.length c3] 56)).alloc (.cells #[] 32))=W1 at *;go_wp2;go_loopw [8,9,10,11] (λvo ve vp va wr=>∃(k:Nat) (L:List (Elem Tok)) (emp paste:Bool),k<=m.body.length/\va=.int .i64 k/\ve=.bool emp/\vp=.bool paste/\Hid (RowN sTok w.heap.size 32 vo L wr)/\Hid (vo.ownBlock≠some w.heap.size)/\Hid (ZaQ m raw ready 0 [] true false=ZaQ m raw ready k (L.map (·.d)) emp paste)/\Hid (emp=false->0<L.length)/\Hid (L.length<=61*k)/\Hid (∀x∈L,x.d.hidden.length<=60)/\Hid (wr.heap[w.heap.size]?=some (.cells #[.string m.name,.bool m.function,.slice a2 m.params.length c2,.slice a3 m.body.length c3] 56 (0,0)))/\Below w.heap.size w wr) (λ_ _ _ va _=>m.body.length-(intOf va).toNat)
 case atStart=>exact⟨0,[],true,false,by omega,rfl,rfl,rfl,gX.out,(λh=>by simp only[Value.ownBlock,Qi]at h;omega),rfl,(λh=>by simp at h),(show(0:Nat)<=_ by omega),(λx hx=>by simp at hx),dG.out,b1⟩
 case round =>
  clear gX dG b1;obtain⟨k,L,emp,paste,hk,rfl,rfl,rfl,HR,lp,dP,yV,gR,ny,fi,hb⟩:=hrel;obtain⟨ao,co,rfl,-⟩:=HR.out.val;obtain⟨N,HN⟩:∃N:Nat,Hid (N=L.length):=⟨L.length,Qh rfl⟩;rw[show L.length=N from HN.out.symm]at HR lp yV gR ⊢;obtain⟨p0,p1,p2,p3⟩:=Q4 fi.out;by_cases af:k<m.body.length
  ·obtain⟨bb,ob,-,rfl,-,-,-⟩:=dw (by omega);obtain⟨xa,xc,xf,AX,uY,AY,AZ,xR,bu,-⟩:=ZaO eZ.out af;have x0:wr.cell? ⟨bb,ob+k*4,none⟩=some _:=(hb.cell (p:=⟨bb,ob+k*4,none⟩) bu).trans AX;have x1:wr.cell? ⟨bb,ob+k*4+1,none⟩=some _:=(hb.cell (p:=⟨bb,ob+k*4+1,none⟩) bu).trans uY;have x2:wr.cell? ⟨bb,ob+k*4+2,none⟩=some _:=(hb.cell (p:=⟨bb,ob+k*4+2,none⟩) bu).trans AY;have x3:wr.cell? ⟨bb,ob+k*4+3,none⟩=some _:=(hb.cell (p:=⟨bb,ob+k*4+3,none⟩) bu).trans AZ;have HC:=Qh (yT.out _ m.body[k] _ wr (sTok.below xR hb));have HPK:=Qh (yU.out k af);have sI:=Qh (eP.out k af);have i0:(0:Int)<=(k:Int):=(by omega);have i1:(k:Int)<(m.body.length:Int):=(by omega);have bG:IntKind.i64.wrap ((k:Int)+1)=(k:Int)+1:=QF _ (by omega);clear AX uY AY AZ xR dw;go_upto_region 6 with fail
   go_cut [10,32] from 18 to 94 (λp d wx=>p=.bool paste/\d=.bool (isM m.body[k] [35,35] && !paste)/\Below wr.heap.size wr wx)
   case first =>
    go_wp2_with fail
    refine HC.out.mono ?_;rintro e w2⟨rfl,aF⟩;clear HC;rcases Bool.eq_false_or_eq_true (isM m.body[k] [35,35]) with hq | hq
    ·have HQ:=Qh hq;rw[hq];clear hq;go_wp2;go_meet;case rel=>exact⟨rfl,by rw[HQ.out];simp,aF⟩
    ·have HQ:=Qh hq;rw[hq];clear hq;go_wp2;go_meet;case rel=>exact⟨rfl,by rw[HQ.out];rfl,aF⟩
   obtain⟨rfl,rfl,aF⟩:=hcut;generalize wc=w2 at *;replace HR:=Qh (HR.out.below aF);replace fi:=Qh (Zag fi.out aF);have hB:=hb.trans (aF.mono hb.size);clear x0 x1 x2 x3 p0 p1 p2 p3 HC aF hb;cases yW:(isM m.body[k] [35,35] && !paste);rotate_left
   ·obtain⟨li,sg⟩:=JK.1 yW;obtain rfl:paste=false:=(by simpa using sg);have km:=Qh (dP.out.trans (ZhE af li));have HLL1:Hid (L.length<=61*(k+1)):=(by show _<=_;have:=gR.out;have:=HN.out;omega);have HEM1:Hid (emp=false->0<L.length):=λh=>(by have:=yV.out h;have:=HN.out;omega);clear li sg yW dP;go_wp2;go_roundw;case rel=>exact⟨k+1,L,emp,true,by omega,by go_num,rfl,by trivial,HR.out,lp.out,km.out,HEM1.out,HLL1.out,ny.out,fi.out,hB⟩
    case measure=>simp[intOf];omega
   have mg:Hid (¬(isM m.body[k] [35,35]=true/\paste=false)):=λh=>(by rw[h.1,h.2]at yW;exact absurd yW (by simp));clear yW;rcases hP:ZaP m raw ready k with⟨P,nx,ok⟩;have HS:=Qh (sI.out P nx ok hP);have gd:=Qh hP;have HC:=Qh (HPK.out _ hB);rw[hP]at HC;try dsimp only at HC
   clear hP sI HPK;obtain⟨p0,p1,p2,p3⟩:=Q4 fi.out;go_wp2_with fail
   refine HC.out.mono ?_;rintro e w3⟨v9,L9,rfl,fF,kA,xl,aC⟩;have jk:=HR.out.mine;replace HR:=Qh (HR.out.below aC);replace fi:=Qh (Zag fi.out aC);have aQ:=hB.trans (aC.mono hB.size);obtain⟨a9,c9,rfl,hc9,hm9,tP⟩:=fF.val;have cM:=Qh fF;have fS:=Qh kA;have HF9':=Qh xl;have dD:Hid (P.length=L9.length):=(by show _=_;rw[←kA,QH]);obtain⟨sJ,r9,hf9,-⟩:=fF.read;have gJ:Hid (∀b∈sJ,(Value.slice ao N co).ownBlock≠some b):=λb hb h=>by
    have h1:=jk b h;rcases hf9 b hb with h2 | ⟨x,hx,h2⟩
    ·have:=(fF.mine b h2).1;omega
    ·have:=xl x hx b h2;omega
   rw[kA]at r9;have HRD:=Qh r9;obtain⟨N9,eS⟩:∃N9:Nat,Hid (N9=L9.length):=⟨L9.length,Qh rfl⟩;rw[show L9.length=N9 from eS.out.symm]at HRD cM hc9 ⊢;have h960:N9<=60:=(by have:=HS.out.1;have:=dD.out;have:=eS.out;omega);clear p0 p1 p2 p3 HC aC fF kA xl r9 hf9 jk tP hB;cases ok
   ·have HF:=Qh (dP.out.trans (Zhg af mg.out gd.out));go_wp2;go_ret2;exact Zmg HF.out aQ
   go_upto_region 12 with fail
   go_cut [9,10,56] from 18 to 94 (λe p d wx=>e=.bool emp/\p=.bool paste/\d=.bool (paste && !emp && decide (0<N9))/\wx=w3)
   case first =>
    have pM:decide (0<N9)=decide ((0:Int)<(N9:Int)):=decide_eq_decide.2 (by omega);obtain⟨bp,jW⟩:∃b,Hid (b=paste):=⟨paste,Qh rfl⟩;obtain⟨be,pg⟩:∃b,Hid (b=emp):=⟨emp,Qh rfl⟩;rw[show emp=be from pg.out.symm,show paste=bp from jW.out.symm];cases bp
    ·go_wp2;go_meet;case rel=>exact⟨by rw[pg.out],by rw[←jW.out],by rw[←jW.out];rfl,by trivial⟩
    ·cases be
     ·by_cases h9:0<N9
      ·have h9':(0:Int)<(N9:Int):=(by omega);go_wp2;go_meet;case rel=>exact⟨by rw[←pg.out],by rw[←jW.out],by rw[←jW.out,←pg.out];simp[h9],by trivial⟩
      ·have h9':¬(0:Int)<(N9:Int):=(by omega);go_wp2;go_meet;case rel=>exact⟨by rw[←pg.out],by rw[←jW.out],by rw[←jW.out,←pg.out];simp[h9],by trivial⟩
     ·go_wp2;go_meet;case rel=>exact⟨by rw[←pg.out],by rw[←jW.out],by rw[←jW.out,←pg.out];rfl,by trivial⟩
   obtain⟨rfl,rfl,rfl,rfl⟩:=hcut;cases sf:(paste && !emp && decide (0<N9))
   ·have HCD:Hid (¬(paste=true/\emp=false/\0<P.length)):=λh=>by
     rw[h.1,h.2.1,show decide (0<N9)=true from JR (by have:=h.2.2;have:=dD.out;have:=eS.out;omega)]at sf;exact absurd sf (by simp)
    have mN:=Qh (dP.out.trans (Zf6 af mg.out gd.out HCD.out));have HDP:Hid (decide (P.length=0)=decide (N9=0)):=decide_eq_decide.2 (by have:=dD.out;have:=eS.out;omega);clear sf;go_upto_region 18 with fail
    go_cut [9,10] from 18 to 94 (λe p wx=>e=.bool (decide (N9=0) && (emp || !paste))/\p=.bool paste/\wx=wc)
    case first =>
     obtain⟨bp,jW⟩:∃b,Hid (b=paste):=⟨paste,Qh rfl⟩;obtain⟨be,pg⟩:∃b,Hid (b=emp):=⟨emp,Qh rfl⟩;rw[show emp=be from pg.out.symm,show paste=bp from jW.out.symm];by_cases h9:N9=0
     ·have h9':((N9:Int)==0)=true:=(by simp[h9]);have H9:=Qh h9;clear h9;cases be
      ·cases bp
       ·go_wp2;go_meet;case rel=>exact⟨by rw[←jW.out,←pg.out,H9.out];rfl,by rw[←jW.out],by trivial⟩
       ·go_wp2;go_meet;case rel=>exact⟨by rw[←jW.out,←pg.out,H9.out];rfl,by rw[←jW.out],by trivial⟩
      ·go_wp2;go_meet;case rel=>exact⟨by rw[←pg.out,H9.out];rfl,by rw[jW.out],by trivial⟩
     ·have h9':((N9:Int)==0)=false:=(by rw[beq_eq_false_iff_ne];omega);have H9:=Qh h9;clear h9;go_wp2;go_meet;case rel=>exact⟨by rw[JQ H9.out];rfl,by rw[jW.out],by trivial⟩
    obtain⟨rfl,rfl,rfl⟩:=hcut;have hNL:N<=61*k:=(by have:=gR.out;exact this);have A0:k<=20:=(by omega);go_wp2_with (at_builtin;refine ZbF ti_tok rfl (by decide) ZaX wc rfl (.tmp 91) (.tmp 92) rfl w.heap.size (.slice ao N co) (.slice a9 N9 c9) (P) sJ rfl HR.out rfl HRD.out gJ.out (by have:=dD.out;have:=eS.out;have:=HN.out;simp[maxLen];omega) (by have:=dD.out;have:=eS.out;have:=HN.out;simp;omega) aQ.size ?_;intro v5 X w5 hX dN cz cG eq)
    have bg:=aQ.grown cG aQ.size (λb hb=>(HR.out.mine b hb).1);have gy:=Qh ((cG.block w.heap.size (mlt fi.out) (λe=>lp.out e.symm)).trans fi.out);have xt:Hid (v5.ownBlock≠some w.heap.size):=λe=>by
     rcases eq with h | h
     ·rw[h]at e;exact lp.out e
     ·rw[h]at e;have:=mlt fi.out;simp only[Qi]at e;omega
    have jl:Hid (ZaQ m raw ready 0 [] true false=ZaQ m raw ready nx ((L++X).map (·.d)) (decide (N9=0) && (emp || !paste)) false):=by
     show _=_;rw[mN.out,HDP.out,QG,hX]
    have eH:X.length=N9:=(by have:=JY List.length hX;rw[QH]at this;have:=dD.out;have:=eS.out;omega);have xu:Hid ((decide (N9=0) && (emp || !paste))=false->0<(L++X).length):=λh=>by
     rw[QC,eH];by_cases h9:N9=0
     ·rw[h9]at h;have he:emp=false:=by
       have h2:(emp || !paste)=false:=(by simpa using h);exact(JD.1 h2).1
      have:=yV.out he;have:=HN.out;omega
     ·omega
    have jm:Hid ((L++X).length<=61*nx):=(by show _<=_;rw[QC,eH];have:=HS.out.2.2.1;have:=HN.out;omega);have kR:Hid (∀x∈L++X,x.d.hidden.length<=60):=λx hx=>by
     rcases Qa hx with hx | hx
     ·exact ny.out x hx
     ·have hm:x.d∈P:=(by rw[←hX];exact List.mem_map.2 ⟨x,hx,rfl⟩);exact HS.out.2.2.2 x.d hm
    have eO:=Qh cz;have jV:=HS.out.2.1;have qO:=HS.out.2.2.1;clear hX dN cz cG eq;go_wp2;go_roundw;case rel=>exact⟨nx,L++X,_,false,jV,by trivial,rfl,by trivial,eO.out,xt.out,jl.out,xu.out,jm.out,kR.out,gy.out,bg⟩
    case measure=>simp[intOf];omega
   ·skip
    obtain⟨h12,h9b⟩:=JK.1 sf;obtain⟨h1p,h2e⟩:=JK.1 h12;obtain rfl:paste=true:=h1p;obtain rfl:emp=false:=(by simpa using h2e);have h90:0<N9:=JW h9b;have hN0:0<N:=yV.out rfl;have HCD:Hid (true=true/\false=false/\0<P.length):=⟨rfl,rfl,by have:=dD.out;have:=eS.out;omega⟩;clear sf h12 h9b;obtain⟨g,rfl,A1,cX⟩:∃g,ao=some ⟨g,0,none⟩/\w.heap.size<=g/\g<wc.heap.size:=by
     obtain⟨a8,c8,e8,-,-,h8⟩:=HR.out.val;simp only[QT]at e8;obtain⟨rfl,-,-⟩:=e8;exact h8 (by have:=HN.out;omega)
    obtain⟨g9,rfl,hg9w,iz⟩:∃g9,a9=some ⟨g9,0,none⟩/\w2.heap.size<=g9/\g9<wc.heap.size:=by
     obtain⟨a8,c8,e8,-,-,h8⟩:=cM.out.val;simp only[QT]at e8;obtain⟨rfl,-,-⟩:=e8;exact h8 (by have:=eS.out;omega)
    have iL:N-1<L.length:=(by have:=HN.out;omega);have eB:0<L9.length:=(by have:=eS.out;omega);obtain⟨y,mh⟩:∃y:Elem Tok,Hid (y=L[N-1]'iL):=⟨L[N-1]'iL,Qh rfl⟩;obtain⟨x,ph⟩:∃x:Elem Tok,Hid (x=L9[0]'eB):=⟨L9[0]'eB,Qh rfl⟩;have xv:y∈L:=(by rw[mh.out];exact QE iL);have xw:x∈L9:=(by rw[ph.out];exact QE eB);obtain⟨hyv,nz,-,-,KY⟩:=HR.out.el y xv;obtain⟨ya,yc,rfl,-⟩:=Zaf KY;obtain⟨hxv,pi,-,-,KX⟩:=cM.out.el x xw;obtain⟨xa,xc,rfl,-⟩:=Zaf KX;clear KY KX;have RY:=HR.out.el y xv;have RX:=cM.out.el x xw;rw[nz]at RY;rw[pi]at RX;have y0:wc.cell? ⟨g,(N-1)*4,none⟩=some (.int .i64 y.d.kind):=HR.out.cellAt iL (j:=0) (by decide) (by rw[←mh.out,nz];rfl);have y1:wc.cell? ⟨g,(N-1)*4+1,none⟩=some (.string y.d.text):=HR.out.cellAt iL (j:=1) (by decide) (by rw[←mh.out,nz];rfl);have y2:wc.cell? ⟨g,(N-1)*4+2,none⟩=some (.bool y.d.spaced):=HR.out.cellAt iL (j:=2) (by decide) (by rw[←mh.out,nz];rfl);have y3:wc.cell? ⟨g,(N-1)*4+3,none⟩=some (.slice ya y.d.hidden.length yc):=HR.out.cellAt iL (j:=3) (by decide) (by rw[←mh.out,nz];rfl);have x0:wc.cell? ⟨g9,0,none⟩=some (.int .i64 x.d.kind):=(by have:=cM.out.cellAt eB (j:=0) (by decide) (u:=.int .i64 x.d.kind) (by rw[←ph.out,pi];rfl);simpa using this);have x1:wc.cell? ⟨g9,1,none⟩=some (.string x.d.text):=(by have:=cM.out.cellAt eB (j:=1) (by decide) (u:=.string x.d.text) (by rw[←ph.out,pi];rfl);simpa using this);have x2:wc.cell? ⟨g9,2,none⟩=some (.bool x.d.spaced):=(by have:=cM.out.cellAt eB (j:=2) (by decide) (u:=.bool x.d.spaced) (by rw[←ph.out,pi];rfl);simpa using this);have x3:wc.cell? ⟨g9,3,none⟩=some (.slice xa x.d.hidden.length xc):=(by have:=cM.out.cellAt eB (j:=3) (by decide) (u:=.slice xa x.d.hidden.length xc) (by rw[←ph.out,pi];rfl);simpa using this);have A2:Hid ((L.map (·.d)).getLastD Zaw=y.d/\P.headD Zaw=x.d):=by
     refine⟨?_,?_⟩
     ·have cD:L.map (·.d)≠[]:=λh=>(by have:=JY List.length h;rw[QH]at this;simp at this;rw[this]at iL;simp at iL);rw[List.getLastD_eq_getLast?,List.getLast?_eq_some_getLast cD,Option.getD_some,List.getLast_eq_getElem,JF,mh.out];congr 2
      rw[QH];have:=HN.out;omega
     ·rw[←fS.out,ph.out];cases L9 with
      | nil=>simp at eB
      | cons q r=>rfl
    have hyh:y.d.hidden.length<=60:=ny.out y xv;have hxh:x.d.hidden.length<=60:=HS.out.2.2.2 x.d (by rw[←fS.out];exact List.mem_map.2 ⟨x,xw,rfl⟩);rcases pU:ZaD y.d x.d with⟨z,fw⟩;have HPR:=Qh pU;have gY:=Qh (λ(U:World) (hU:Below wc.heap.size wc U)=>ZjJ [.int .i64 y.d.kind,.string y.d.text,.bool y.d.spaced,.slice ya y.d.hidden.length yc] [.int .i64 x.d.kind,.string x.d.text,.bool x.d.spaced,.slice xa x.d.hidden.length xc] y.d x.d y.fp x.fp U (by omega) (by omega) (sTok.below RY hU) (sTok.below RX hU));unfold Zf7 at gY;rw[pU]at gY;try dsimp only at gY
    have gK:Hid (∀U:World,Below wc.heap.size wc U->U.cell? ⟨g,(N-1)*4,none⟩=some (.int .i64 y.d.kind)/\U.cell? ⟨g,(N-1)*4+1,none⟩=some (.string y.d.text)/\U.cell? ⟨g,(N-1)*4+2,none⟩=some (.bool y.d.spaced)/\U.cell? ⟨g,(N-1)*4+3,none⟩=some (.slice ya y.d.hidden.length yc)/\U.cell? ⟨g9,0,none⟩=some (.int .i64 x.d.kind)/\U.cell? ⟨g9,1,none⟩=some (.string x.d.text)/\U.cell? ⟨g9,2,none⟩=some (.bool x.d.spaced)/\U.cell? ⟨g9,3,none⟩=some (.slice xa x.d.hidden.length xc)):=λU hU=>⟨(hU.cell cX).trans y0,(hU.cell cX).trans y1,(hU.cell cX).trans y2,(hU.cell cX).trans y3,(hU.cell iz).trans x0,(hU.cell iz).trans x1,(hU.cell iz).trans x2,(hU.cell iz).trans x3⟩;have aS:Below wc.heap.size wc wc.drew:=Zah (QD _ _) 1;have hwn:IntKind.i64.wrap ((N:Int)-1)=(N:Int)-1:=QF _ (by have:=gR.out;have:N<=61*k:=this;omega);have n1:(0:Int)<=(N:Int)-1:=(by omega);have n2:(N:Int)-1<(N:Int):=(by omega);have n3:((N:Int)-1).toNat=N-1:=(by omega);have n4:(1:Int)<=(N:Int):=(by omega);have n5:(0:Int)<(N9:Int):=(by omega);clear y0 y1 y2 y3 x0 x1 x2 x3 pU RY RX pi;generalize wc=wa at *;go_upto_region 13 with fail
    go_cut [15,16] from 18 to 94 (λd e wx=>∃(gB:Nat) (za:Option Addr) (zc:Nat) (fz:List Nat),d=.pointer (some ⟨gB,0,none⟩)/\e=.bool fw/\wx.heap[gB]?=some (.cells #[.int .i64 z.kind,.string z.text,.bool z.spaced,.slice za z.hidden.length zc] 32 (0,0))/\wa.heap.size<=gB/\gB<wx.heap.size/\sTok.R wx [.int .i64 z.kind,.string z.text,.bool z.spaced,.slice za z.hidden.length zc] z fz/\(∀b∈fz,wa.heap.size<=b)/\Below wa.heap.size wa wx)
    case first =>
     refine wp_region_noPanic ?_;refine JU (S:=λw'=>w'.cell? ⟨g,(N-1)*4,none⟩=some (.int .i64 y.d.kind)/\w'.cell? ⟨g,(N-1)*4+1,none⟩=some (.string y.d.text)/\w'.cell? ⟨g,(N-1)*4+2,none⟩=some (.bool y.d.spaced)/\w'.cell? ⟨g,(N-1)*4+3,none⟩=some (.slice ya y.d.hidden.length yc)/\w'.cell? ⟨g9,0,none⟩=some (.int .i64 x.d.kind)/\w'.cell? ⟨g9,1,none⟩=some (.string x.d.text)/\w'.cell? ⟨g9,2,none⟩=some (.bool x.d.spaced)/\w'.cell? ⟨g9,3,none⟩=some (.slice xa x.d.hidden.length xc)) (by kernel_rfl) (by exact gK.out _ aS) (λac=>?_);generalize wa.drew=wd at *;refine Qt 0 58 rfl rfl ?_;try simp only[Qp]
     refine Qt 1 59 rfl rfl ?_;try simp only[Qp]
     refine Qt 2 60 rfl rfl ?_;try simp only[Qp]
     refine Qt 3 61 rfl rfl ?_;try simp only[Qp]
     refine Qt 4 62 rfl rfl ?_;try simp only[Qp]
     refine Qt 5 63 rfl rfl ?_ (by intro w aI;obtain⟨s0,s1,s2,s3,t0,t1,t2,t3⟩:=aI;go_simp;(first | done | with_reducible rfl | rfl));try simp only[Qp]
     refine Qt 6 64 rfl rfl ?_;try simp only[Qp]
     refine Qt 7 65 rfl rfl ?_;try simp only[Qp]
     refine Qt 8 66 rfl rfl ?_ (by intro w aI;obtain⟨s0,s1,s2,s3,t0,t1,t2,t3⟩:=aI;go_simp;(first | done | with_reducible rfl | rfl));try simp only[Qp]
     refine wpAnyH_ready (rs:=[9,13]) (by kernel_rfl) (by simp) ?_;refine JP rfl (λK hK=>?_) ?_
     ·skip
      go_simp;refine(gY.out _ aS).mono ?_;rintro e eR⟨czs,fz,rfl,rZ,oZ,tQ⟩;obtain⟨hz,rfl,-,-,KZ⟩:=id rZ;obtain⟨za,zc,rfl,-⟩:=Zaf KZ;clear KZ;have bZ:=aS.trans (tQ.mono aS.size);replace oZ:=oZ.lower aS.size;refine hK.out _ _ (gK.out _ bZ) (λac=>?_);clear hK K;try simp only[Qp]
      refine Qt 10 57 rfl rfl ?_;try simp only[Qp]
      refine Qt 11 68 rfl rfl ?_;try simp only[Qp]
      refine Qt 12 69 rfl rfl ?_;try simp only[Qp]
      refine Qr 13 rfl (λK hK=>?_);go_simp;have bk:=Zab eR (.cells #[.int .i64 0,.string ⟨#[]⟩,.bool false,.slice none 0 0] 32);have d6:=Qh (JS eR (.cells #[.int .i64 0,.string ⟨#[]⟩,.bool false,.slice none 0 0] 32));have dp:=bZ.trans (bk.mono bZ.size);have eD:=bZ.size;replace rZ:=sTok.below rZ bk;have xx:eR.heap.size∉fz:=λh=>Nat.lt_irrefl _ (oZ.lt _ h);replace oZ:=oZ.grow bk;refine hK.out _ _ (gK.out _ dp) (λac=>?_);clear hK K bk;try simp only[Qp]
      generalize (eR.alloc (.cells #[.int .i64 0,.string ⟨#[]⟩,.bool false,.slice none 0 0] 32))=gw at *;obtain⟨tL,dT,tM,dU,tN,dV,tO,dW⟩:=Q8 d6.out;have fU:=Qh (Zhy d6.out eD rZ oZ xx dp (.int .i64 z.kind) (.string z.text) (.bool z.spaced) (.slice za z.hidden.length zc));refine Qr 14 rfl (λK hK=>?_);go_simp;change K _ (set4 gw (eR.heap.size) (.int .i64 z.kind) (.string z.text) (.bool z.spaced) (.slice za z.hidden.length zc));refine hK.out _ _ (gK.out _ fU.out.2.2.2.2.2) (λac=>?_);clear hK K;try simp only[Qp]
      refine Qt 15 16 rfl rfl ?_;try simp only[Qp]
      refine wpAnyH_done (by kernel_rfl) ?_ _;refine QP ?_;clear ac;go_wp2;go_meet;case rel=>exact⟨_,za,zc,_,rfl,rfl,fU.out.1,fU.out.2.1,fU.out.2.2.1,fU.out.2.2.2.1,λb hb=>(fU.out.2.2.2.2.1.2 b hb).1,fU.out.2.2.2.2.2⟩
     refine JP rfl (λK hK=>?_) AllReadyH.nil;go_simp;have bk:=Zab wd (.cells #[.int .i64 0,.string ⟨#[]⟩,.bool false,.slice none 0 0] 32);have d6:=Qh (JS wd (.cells #[.int .i64 0,.string ⟨#[]⟩,.bool false,.slice none 0 0] 32));have d8:=aS.trans (bk.mono aS.size);have eD:=aS.size;refine hK.out _ _ (gK.out _ d8) (λac=>?_);clear hK K bk;try simp only[Qp]
     generalize (wd.alloc (.cells #[.int .i64 0,.string ⟨#[]⟩,.bool false,.slice none 0 0] 32))=sH at *;refine Qr 9 rfl (λK hK=>?_);go_simp;refine(gY.out _ d8).mono ?_;rintro e xq⟨czs,fz,rfl,rZ,oZ,tQ⟩;obtain⟨hz,rfl,-,-,KZ⟩:=id rZ;obtain⟨za,zc,rfl,-⟩:=Zaf KZ;clear KZ;have iK:=d8.trans (tQ.mono d8.size);have xx:wd.heap.size∉fz:=λh=>(by have h1:=(oZ.2 _ h).1;have h2:=mlt d6.out;omega);replace d6:=Qh (Zag d6.out tQ);replace oZ:=oZ.lower d8.size;refine hK.out _ _ (gK.out _ iK) (λac=>?_);clear hK K;try simp only[Qp]
     refine Qt 10 57 rfl rfl ?_;try simp only[Qp]
     refine Qt 11 68 rfl rfl ?_;try simp only[Qp]
     refine Qt 12 69 rfl rfl ?_;try simp only[Qp]
     obtain⟨tL,dT,tM,dU,tN,dV,tO,dW⟩:=Q8 d6.out;have fU:=Qh (Zhy d6.out eD rZ oZ xx iK (.int .i64 z.kind) (.string z.text) (.bool z.spaced) (.slice za z.hidden.length zc));refine Qr 14 rfl (λK hK=>?_);go_simp;change K _ (set4 xq (wd.heap.size) (.int .i64 z.kind) (.string z.text) (.bool z.spaced) (.slice za z.hidden.length zc));refine hK.out _ _ (gK.out _ fU.out.2.2.2.2.2) (λac=>?_);clear hK K;try simp only[Qp]
     refine Qt 15 16 rfl rfl ?_;try simp only[Qp]
     refine wpAnyH_done (by kernel_rfl) ?_ _;refine QP ?_;clear ac;go_wp2;go_meet;case rel=>exact⟨_,za,zc,_,rfl,rfl,fU.out.1,fU.out.2.1,fU.out.2.2.1,fU.out.2.2.2.1,λb hb=>(fU.out.2.2.2.2.1.2 b hb).1,fU.out.2.2.2.2.2⟩
    obtain⟨gB,za,zc,fz,rfl,rfl,rp,hgB1,hgB2,RZ,qa,mi⟩:=hcut;generalize wc=wb at *;have A3:=Qh rp;have hBb:=aQ.trans (mi.mono aQ.size);replace HR:=Qh (HR.out.below mi);replace fi:=Qh (Zag fi.out mi);have A4:=Qh ((Zaa sTok).below HRD.out mi);have ux:Hid (ZaD ((L.map (·.d)).getLastD Zaw) (P.headD Zaw)=(z,fw)):=(by show _=_;rw[A2.out.1,A2.out.2];exact HPR.out);clear rp gY gK aS HRD;cases fw
    ·have HF:=Qh (dP.out.trans (Zkx af mg.out gd.out HCD.out ux.out));go_wp2;go_ret2;exact Zmg HF.out hBb
    have mN:=Qh (dP.out.trans (ZiT af mg.out gd.out HCD.out ux.out));have HZH:Hid (z.hidden.length<=60):=(by show _<=_;have:=(ZhC HPR.out).2.2.2.2.2;omega);have rf:g∉fz:=λh=>(by have:=qa _ h;omega);have hgf:g∉sJ:=λh=>gJ.out g h rfl;have tR:w.heap.size≠g:=λh=>lp.out (by rw[h];rfl);obtain⟨z0,z1,z2,z3⟩:=Q4 A3.out;have y0:wb.cell? ⟨g,(N-1)*4,none⟩=some (.int .i64 y.d.kind):=HR.out.cellAt iL (j:=0) (by decide) (by rw[←mh.out,nz];rfl);have y1:wb.cell? ⟨g,(N-1)*4+1,none⟩=some (.string y.d.text):=HR.out.cellAt iL (j:=1) (by decide) (by rw[←mh.out,nz];rfl);have y2:wb.cell? ⟨g,(N-1)*4+2,none⟩=some (.bool y.d.spaced):=HR.out.cellAt iL (j:=2) (by decide) (by rw[←mh.out,nz];rfl);have y3:wb.cell? ⟨g,(N-1)*4+3,none⟩=some (.slice ya y.d.hidden.length yc):=HR.out.cellAt iL (j:=3) (by decide) (by rw[←mh.out,nz];rfl);have f0:wb.frozen? ⟨g,(N-1)*4,none⟩=false:=HR.out.frozen _;have f1:wb.frozen? ⟨g,(N-1)*4+1,none⟩=false:=HR.out.frozen _;have f2:wb.frozen? ⟨g,(N-1)*4+2,none⟩=false:=HR.out.frozen _;have f3:wb.frozen? ⟨g,(N-1)*4+3,none⟩=false:=HR.out.frozen _;have jX:Hid (RowN sTok w.heap.size 32 (.slice (some ⟨g,0,none⟩) N co) (L.set (N-1) ⟨[.int .i64 z.kind,.string z.text,.bool z.spaced,.slice za z.hidden.length zc],z,fz⟩) ((((wb.setCell ⟨g,(N-1)*4,none⟩ (.int .i64 z.kind)).setCell ⟨g,(N-1)*4+1,none⟩ (.string z.text)).setCell ⟨g,(N-1)*4+2,none⟩ (.bool z.spaced)).setCell ⟨g,(N-1)*4+3,none⟩ (.slice za z.hidden.length zc))):=HR.out.put iL ⟨[.int .i64 z.kind,.string z.text,.bool z.spaced,.slice za z.hidden.length zc],z,fz⟩ rfl RZ rf;have HRQ:Hid ((Zaa sTok).R ((((wb.setCell ⟨g,(N-1)*4,none⟩ (.int .i64 z.kind)).setCell ⟨g,(N-1)*4+1,none⟩ (.string z.text)).setCell ⟨g,(N-1)*4+2,none⟩ (.bool z.spaced)).setCell ⟨g,(N-1)*4+3,none⟩ (.slice za z.hidden.length zc)) [.slice (some ⟨g9,0,none⟩) N9 c9] P sJ):=(Zaa sTok).setB ((Zaa sTok).setB ((Zaa sTok).setB ((Zaa sTok).setB A4.out hgf _ _) hgf _ _) hgf _ _) hgf _ _;have HXQ:=Qh (ZaK (ZaK (ZaK (ZaK fi.out tR ((N-1)*4) (.int .i64 z.kind)) tR ((N-1)*4+1) (.string z.text)) tR ((N-1)*4+2) (.bool z.spaced)) tR ((N-1)*4+3) (.slice za z.hidden.length zc));have hBQ:Below w.heap.size w ((((wb.setCell ⟨g,(N-1)*4,none⟩ (.int .i64 z.kind)).setCell ⟨g,(N-1)*4+1,none⟩ (.string z.text)).setCell ⟨g,(N-1)*4+2,none⟩ (.bool z.spaced)).setCell ⟨g,(N-1)*4+3,none⟩ (.slice za z.hidden.length zc)):=(((hBb.setCell (p:=⟨g,(N-1)*4,none⟩) A1 (.int .i64 z.kind)).setCell (p:=⟨g,(N-1)*4+1,none⟩) A1 (.string z.text)).setCell (p:=⟨g,(N-1)*4+2,none⟩) A1 (.bool z.spaced)).setCell (p:=⟨g,(N-1)*4+3,none⟩) A1 (.slice za z.hidden.length zc);go_upto_region 17 with fail
    clear z0 z1 z2 z3 y0 y1 y2 y3 f0 f1 f2 f3 A3 HR fi A4 hBb RZ;generalize ((((wb.setCell ⟨g,(N-1)*4,none⟩ (.int .i64 z.kind)).setCell ⟨g,(N-1)*4+1,none⟩ (.string z.text)).setCell ⟨g,(N-1)*4+2,none⟩ (.bool z.spaced)).setCell ⟨g,(N-1)*4+3,none⟩ (.slice za z.hidden.length zc))=wq at *;obtain⟨sv,fQ⟩:∃sv:Value,Hid (sv=.slice (if c9=1 then some ⟨g9,0,none⟩ else some ⟨g9,4,none⟩) (N9-1) (c9-1)):=⟨_,Qh rfl⟩;have o1:(1:Int)<=(N9:Int):=(by omega);have o2:1<=N9:=h90;have o3:1<=c9:=(by omega);have o4:(1:Int)<=(c9:Int):=(by omega);go_cut [12] from 18 to 94 (λd wx=>d=sv/\wx=wq)
    case first =>
     by_cases h1:c9=1
     ·have fV:Hid (sv=.slice (some ⟨g9,0,none⟩) (N9-1) (c9-1)):=(by show _=_;rw[fQ.out,if_pos h1]);have mj:=Qh h1;go_wp2;go_meet;case rel=>exact⟨by rw[fV.out];simp[mj.out],by trivial⟩
     ·have fV:Hid (sv=.slice (some ⟨g9,4,none⟩) (N9-1) (c9-1)):=(by show _=_;rw[fQ.out,if_neg h1]);go_wp2;go_meet;case rel=>exact⟨by rw[fV.out],by trivial⟩
    obtain⟨rfl,rfl⟩:=hcut;obtain⟨bA,gf,gZ⟩:=Zbp 1 (by have:=dD.out;have:=eS.out;omega:1<=P.length) HRQ.out;have fc:Hid ((Zaa sTok).R wc [u12] (P.drop 1) bA):=(by show(Zaa sTok).R _ _ _ _;rw[fQ.out];exact gf);have qX:Hid (∀b∈bA,(Value.slice (some ⟨g,0,none⟩) N co).ownBlock≠some b):=λb hb=>gJ.out b (gZ b hb);have hPd:(P.drop 1).length=N9-1:=(by rw[QM];have:=dD.out;have:=eS.out;omega);have HPD:=Qh hPd;have hNk:N<=61*k:=gR.out;have A5:Hid ((L.set (N-1) ⟨[.int .i64 z.kind,.string z.text,.bool z.spaced,.slice za z.hidden.length zc],z,fz⟩).length=N):=(by show _=_;rw[List.length_set];exact HN.out.symm);obtain⟨M,HM⟩:∃M,Hid (M=L.set (N-1) ⟨[.int .i64 z.kind,.string z.text,.bool z.spaced,.slice za z.hidden.length zc],z,fz⟩):=⟨L.set (N-1) ⟨[.int .i64 z.kind,.string z.text,.bool z.spaced,.slice za z.hidden.length zc],z,fz⟩,Qh rfl⟩;rw[show L.set (N-1) ⟨[.int .i64 z.kind,.string z.text,.bool z.spaced,.slice za z.hidden.length zc],z,fz⟩=M from HM.out.symm]at jX A5;clear hPd gf gZ HRQ;go_wp2_with (at_builtin;refine ZbF ti_tok rfl (by decide) ZaX wc rfl (.tmp 91) (.tmp 92) rfl w.heap.size (.slice (some ⟨g,0,none⟩) N co) (u12) (P.drop 1) bA rfl jX.out rfl fc.out qX.out (by rw[A5.out,HPD.out];unfold maxLen;omega) (by rw[A5.out,HPD.out];omega) hBQ.size ?_;intro v5 X w5 hX dN cz cG eq)
    have bg:=hBQ.grown cG hBQ.size (λb hb=>(jX.out.mine b hb).1);have gy:=Qh ((cG.block w.heap.size (mlt HXQ.out) (λe=>lp.out e.symm)).trans HXQ.out);have xt:Hid (v5.ownBlock≠some w.heap.size):=λe=>by
     rcases eq with h | h
     ·rw[h]at e;exact lp.out e
     ·rw[h]at e;have:=mlt HXQ.out;simp only[Qi]at e;omega
    have eH:X.length=N9-1:=(by have:=JY List.length hX;rw[QH]at this;rw[this];exact HPD.out);have jl:Hid (ZaQ m raw ready 0 [] true false=ZaQ m raw ready nx ((M++X).map (·.d)) false false):=by
     show _=_;rw[mN.out];congr 1
     rw[QG,hX,HM.out,List.map_set,show N-1=(L.map (·.d)).length-1 by rw[QH];have:=HN.out;omega,set_last (by intro h;have:=JY List.length h;rw[QH]at this;rw[JO]at this;omega),Qn,List.drop_one];rfl
    have xu:Hid (false=false->0<(M++X).length):=λ_=>(by rw[QC,A5.out];omega);have jm:Hid ((M++X).length<=61*nx):=(by show _<=_;rw[QC,A5.out,eH];have:=HS.out.2.2.1;omega);have kR:Hid (∀x∈M++X,x.d.hidden.length<=60):=λx hx=>by
     rcases Qa hx with hx | hx
     ·rw[HM.out]at hx;rcases List.mem_or_eq_of_mem_set hx with hx | rfl
      ·exact ny.out x hx
      ·exact HZH.out
     ·have hm:x.d∈P.drop 1:=(by rw[←hX];exact List.mem_map.2 ⟨x,hx,rfl⟩);exact HS.out.2.2.2 x.d (JG hm)
    have eO:=Qh cz;have jV:=HS.out.2.1;have qO:=HS.out.2.2.1;clear hX dN cz cG eq;go_wp2;go_roundw;case rel=>exact⟨nx,M++X,false,false,jV,by trivial,by trivial,by trivial,eO.out,xt.out,jl.out,xu.out,jm.out,kR.out,gy.out,bg⟩
    case measure=>simp[intOf];omega
  ·have HF:Hid (ZaQ m raw ready 0 [] true false=(L.map (·.d),true)):=(by show _=_;rw[dP.out,Zf5 (by omega)]);have HLB:Hid (L.length<=5000):=(by show _<=_;have:=gR.out;have:=HN.out;omega);go_wp2;go_ret2;exact⟨.slice ao N co,L,by rw[HF.out];rfl,HR.out,by rw[HF.out],HLB.out,ny.out,hb⟩
theorem ZqQ (h:Zaj t=true){r:List UInt8}(ht:t.text=⟨(35::r).toArray⟩):t.kind=4:=by
 obtain⟨⟨h0,hk⟩,-⟩:=Za9 h;have e0:t.text[0]=35:=by
  have:∀(s:ByteArray) (hs:0<s.size),s=⟨(35::r).toArray⟩->s[0]=35:=by rintro s hs rfl;rfl
  exact this _ h0 ht
 rw[hk,e0];decide
theorem isM_is (h:Zaj t=true)(r:List UInt8):isM t (35::r)=(t.text.toList==35::r):=by
 unfold isM;cases e:(t.text.toList==35::r)
 ·rw[JB]
 ·rw[Zfd]at e;rw[ZqQ h (JW e)];rfl
theorem Zo9 (h:Zaq m=true){k:Nat}(hk:k<m.body.length):Zaj m.body[k]=true:=(Zc1 hk ((Za0 h).2.2 k hk)).1
theorem ZhI (h:Zaq m=true){k:Nat}(hk:k<m.body.length)(r:List UInt8):isM m.body[k] (35::r)=(m.body[k].text.toList==35::r):=isM_is (Zo9 h hk) r
theorem mark_in (h:Zaq m=true){k:Nat}(hk:k<m.body.length)(hi:isM m.body[k] [35,35]=true):k+1<m.body.length:=by
 have hb:=(Za0 h).2.2 k hk;have ht:m.body[k].text=ZcE:=ZhG hi;unfold Zd4 at hb;rw[dif_pos hk,QI,QI]at hb;have h2:=hb.1.2;rw[ht,JR rfl]at h2;by_cases e:k+1=m.body.length
 ·rw[JR e]at h2;simp at h2
 ·omega
theorem idx_par {ps:List ByteArray}(hp:∀k,(hk:k<ps.length)->Zap ps[k] 1=true)(ht:Zaj t=true)(k:Nat):idxTx ps t.text k=parFrom ps t k:=by
 induction k using idxTx.induct (ps:=ps) (x:=t.text) with
 |
  case1 k h hc =>
  have h5:=ht;unfold Zaj at h5;rw[QI]at h5;have hk:t.kind=1:=Zjv h5.1 (by rw[hc];exact hp k h);rw[Zk1 h hc,ZoQ h hk hc.symm]
 |
  case2 k h hc ih =>
  rw[Zjw h hc,ih,Zju h λe=>hc e.2.symm]
 | case3 k h=>rw[Zk0 (by omega),ZoP (by omega)]
theorem ZnD (h:Zaq m=true){k:Nat}(hk:k<m.body.length):idxTx m.params m.body[k].text 0=parOf m.params m.body[k]:=idx_par (Za0 h).2.1 (Zo9 h hk) 0
def besL (l:List Tok)(k:Nat):Bool:=if h:0<k/\k-1<l.length then (l[k-1].text.toList==[35,35]) else false
def besR (l:List Tok)(k:Nat):Bool:=if h:k+1<l.length then (l[k+1].text.toList==[35,35]) else false
theorem bes_glue (h:Zaq m=true)(k:Nat):(besL m.body k || besR m.body k)=(Zc7 m k || ZcG m k):=by
 have e1:besL m.body k=Zc7 m k:=by
  unfold besL Zc7;by_cases hk:0<k/\k-1<m.body.length
  ·rw[dif_pos hk,dif_pos hk,ZhI h hk.2]
  ·rw[dif_neg hk,dif_neg hk]
 have e2:besR m.body k=ZcG m k:=by
  unfold besR ZcG;by_cases hk:k+1<m.body.length
  ·rw[dif_pos hk,dif_pos hk,ZhI h hk]
  ·rw[dif_neg hk,dif_neg hk]
 rw[e1,e2]
theorem ZfN (A X:List (Elem α)):(A++X).flatMap (·.fp)=A.flatMap (·.fp)++X.flatMap (·.fp):=Qo
theorem Zcq {lo:Nat}{o:Option Nat}(h:Own w lo fp)(hn:∀b∈fp,o≠some b)(hg:w.grownBy w' o):Own w' lo fp:=
 ⟨h.1,λb hb=>by
  obtain⟨q1,cur,e,q2⟩:=h.2 b hb
  exact⟨q1,cur,e,(hg.block b (h.lt b hb) λe=>hn b hb e.symm).trans q2⟩⟩
theorem Zmh {L M:List (Elem α)}(h:M.Sublist L):(M.flatMap (·.fp)).Sublist (L.flatMap (·.fp)):=by
 induction h with
 | slnil=>exact List.Sublist.refl _
 | cons a _ ih=>rw[Qw];exact ih.trans (List.sublist_append_right _ _)
 | cons_cons a _ ih=>rw[Qw,Qw];exact(List.Sublist.refl _).append ih
theorem ZkD {o:Option Nat}(hg:w.grownBy w' o):Kept o.toList w w':=⟨hg.os,hg.tape,hg.output,hg.size,λk hk hn=>hg.block k hk λe=>hn (by rw[←e];simp)⟩
def MineN (l:List Tok)(w:World)(e:Ending)(w':World):Prop:=
 ∃(v:Value) (L:List (Elem Tok)),e=.returned v/\RowN sTok w.heap.size 32 v L w'/\L.map (·.d)=l/\Own w' w.heap.size (L.flatMap (·.fp))/\Below w.heap.size w w'
end Go.Proofs.YtipfpppcbmpjiaaGreat
