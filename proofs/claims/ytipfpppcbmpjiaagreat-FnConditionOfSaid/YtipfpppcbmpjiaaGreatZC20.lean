/- Lemmas. -/
import Derived.Test.YtipfpppcbmpjiaaGreatZC19
set_option linter.unusedVariables false
set_option maxHeartbeats 16000000
set_option maxRecDepth 100000
set_option linter.unusedSimpArgs false
namespace Go.Proofs.YtipfpppcbmpjiaaGreat
open Go.RowKit
def mid (s:ByteArray):ByteArray:=s.extract 1 (s.size-1)
theorem Zgz (s:ByteArray):(mid s).size=s.size-2:=by unfold mid;rw[Ql];omega
variable {s:ByteArray}{i:Nat}
theorem Zpm (h:i<(mid s).size):(mid s)[i]=s[i+1]'(by rw[Zgz]at h;omega):=by
 have h2:i+1<s.size:=by rw[Zgz]at h;omega
 have:(mid s)[i]=s[1+i]'(by omega):=ZiN s 1 (s.size-1) i h;rw[this];have e:1+i=i+1:=by omega
 simp only[e]
theorem mid_one (h:i<(mid s).size):(mid s).extract i (i+1)=s.extract (i+1) (i+2):=by
 have h2:i+1<s.size:=by rw[Zgz]at h;omega
 rw[Zgs h,Zgs h2,Zpm h]
def MidAt (s:ByteArray)(i:Nat)(out:ByteArray):Prop:=OutAt s (i+1) out
variable {out:ByteArray}
theorem MidAt.byte (h:MidAt s i out)(hi:i<(mid s).size)(hc:¬(mid s)[i].toNat=92):MidAt s (i+1) (out++(mid s).extract i (i+1)):=by
 have hz:=Zgz s;rw[Zpm hi]at hc;rw[mid_one hi];exact OutAt.byte h (by omega) hc
theorem MidAt.done (h:MidAt s i out)(hi:(mid s).size<=i):out=ZcV s 1:=OutAt.done h (by have:=Zgz s;omega)
theorem MidAt.size (h:MidAt s i out):out.size<=i+1:=h.2.2.2
variable {g:Prop}
theorem Y20A1 (h:g:=by
 clear HO HQ
 go_wp2_with (first
  | (at_builtin;refine Zfh rfl (.tmp 28) (.tmp 29) rfl W1.heap.size _ out ⟨#[92]⟩ 92 rfl ag rfl rfl (by omega) jC ?_;intro v1 w1 j9 nU;have ii:=hb.grown nU jC (λb hb=>(ag.lt b hb).1);have c2:w1.cell? ⟨w.heap.size,1,none⟩=some (.string x.text):=(ii.cell (p:=⟨w.heap.size,1,none⟩) Ca).trans (Qc 1 HX.out))
  | (at_builtin;refine Zfh rfl (.tmp 31) (.tmp 36) rfl W1.heap.size _ (out++⟨#[92]⟩) (x.text.extract k (k+1)) _ rfl j9 rfl aG (by rw[QK];have:(⟨#[92]⟩:ByteArray).size=1:=rfl;omega) ii.size ?_;intro v2 w2 rX kL))
 have rY:=ii.grown kL ii.size (λb hb=>(j9.lt b hb).1);go_roundw;case rel=>exact⟨k+1,_,by go_num,by omega,HN.out,rX,rY⟩
 case measure=>simp[intOf];omega):g:=h
theorem ZkR (cs:List Value)(x:Tok)(fp:List Nat)(w:World)(hz:x.text.size<=200)(H:sTok.R w cs x fp):
  Calls Tryz.prog 164 #[.agg cs.toArray] w (Zkz (bit x) w):=by
 obtain⟨h,rfl,-,-,-⟩:=H;have bD:=Zab w (.cells #[.int .i64 x.kind,.string x.text,.bool x.spaced,h] 32);have HX:=Qh (JS w (.cells #[.int .i64 x.kind,.string x.text,.bool x.spaced,h] 32));by_cases h3:x.kind=3;rotate_left
 ·have HF:Hid (x.text=bit x):=by show _=_;unfold bit;rw[if_neg h3]
  have hk':(x.kind != 3)=true:=by simp[h3]
  clear h3;go_enter Tryz.func164,Tryz.ntmps164;go_wp2;go_ret;exact⟨ZhF HF.out,bD⟩
 have HF:Hid (Zbb x.text x.text.size=bit x):=by show _=_;unfold bit;rw[if_pos h3]
 have hk':(x.kind != 3)=false:=by simp[h3]
 clear h3;go_enter Tryz.func164,Tryz.ntmps164;go_wp2;have tt:(w.alloc (.cells #[.int .i64 x.kind,.string x.text,.bool x.spaced,h] 32)).heap.size=w.heap.size+1:=by show(w.heap.push _).size=_;simp
 have vD:=Qh tt;clear tt;generalize (w.alloc (.cells #[.int .i64 x.kind,.string x.text,.bool x.spaced,h] 32))=W1 at *;go_loopw [3,13] (λo i wr=>∃(k:Nat) (out:ByteArray),i=.int .i64 k/\k<=x.text.size/\Hid (out=Zbb x.text k)/\Bytes W1.heap.size o out wr/\Below W1.heap.size W1 wr) (λ_ i _=>x.text.size-(intOf i).toNat)
 case atStart=>exact⟨0,_,rfl,by omega,rfl,Bytes.none _ _,QD _ _⟩
 case round =>
  obtain⟨k,out,rfl,hk,HO,ag,hb⟩:=hrel;have ho:out.size<=2*k:=by rw[HO.out];exact Ze1 _ k
  have jC:=hb.size;have hcv:=Zk5 ag;have Ca:w.heap.size<W1.heap.size:=by have:=vD.out;omega
  have c1:wr.cell? ⟨w.heap.size,1,none⟩=some (.string x.text):=(hb.cell (p:=⟨w.heap.size,1,none⟩) Ca).trans (Qc 1 HX.out);by_cases af:k<x.text.size
  ·have aG:=Zog x.text k af;rcases q_ways x.text[k]with⟨e1,HQ⟩ | ⟨e1,e2,HQ⟩ | ⟨e1,e2,HQ⟩
   ·have HN:Hid (out++⟨#[92]⟩++x.text.extract k (k+1)=Zbb x.text (k+1)):=(by show _=_;rw[Zfl af HQ.out,HO.out]);exact Y20A1
   ·have HN:Hid (out++⟨#[92]⟩++x.text.extract k (k+1)=Zbb x.text (k+1)):=(by show _=_;rw[Zfl af HQ.out,HO.out]);exact Y20A1
   ·have HN:Hid (out++x.text.extract k (k+1)=Zbb x.text (k+1)):=(by show _=_;rw[Zhf af HQ.out,HO.out]);clear HO HQ;go_wp2_with (at_builtin;refine Zfh rfl (.tmp 31) (.tmp 36) rfl W1.heap.size _ out (x.text.extract k (k+1)) _ rfl ag rfl aG (by omega) jC ?_;intro v2 w2 rX kL)
    have rY:=hb.grown kL jC (λb hb=>(ag.lt b hb).1);go_roundw;case rel=>exact⟨k+1,_,by go_num,by omega,HN.out,rX,rY⟩
    case measure=>simp[intOf];omega
  ·have HD:Hid (out=bit x):=(by show _=_;rw[←HF.out,HO.out,show k=x.text.size by omega]);clear HO;go_wp2;go_ret;exact⟨ZhF HD.out,bD.trans (hb.mono (by have:=vD.out;omega))⟩
theorem Zly (s:ByteArray):Lib.strCells s++[.int .u8 34]=Lib.strCells (s++⟨#[34]⟩):=by
 unfold Lib.strCells;rw[ByteArray.data_append,Array.toList_append,QG];rfl
theorem ZnY {b:Nat}{w:World}(h:Bld b s w)(hs:s.size<=1048576):
  Calls Tryz.prog 162 #[.pointer (some ⟨b,0,none⟩),.int .u8 34] w λe w'=>e=.returned .nilIface/\Bld b (s++⟨#[34]⟩) w'/\Below b w w'/\Lib.OthersKept 5 (some b) w w':=
 (Znd b b _ 34 w h (by rw[Lib.strCells_length];exact hs) (Nat.le_of_lt h.lt)).mono λe w' ⟨h1,h2⟩=>⟨h1,Bld.of h2 (Zly s),h2.2.1,h2.2.2⟩
def qTo (l:List Tok)(k:Nat):ByteArray:=⟨#[34]⟩++ZaN l k
variable {l:List Tok}
theorem qTo_size (h:Zam l=true){k:Nat}(hk:k<=l.length):(qTo l k).size<=401*k+1:=by
 have:=ZfB h k hk;have h1:(⟨#[34]⟩:ByteArray).size=1:=rfl;unfold qTo;rw[QK];omega
theorem qTo_sp {k:Nat}(hk:k<l.length)(h0:0<k)(h:l[k].spaced=true):qTo l (k+1)=qTo l k++⟨#[32]⟩++bit l[k]:=by
 unfold qTo;rw[ZeH hk h0 h,ByteArray.append_assoc,ByteArray.append_assoc,ByteArray.append_assoc]
theorem qTo_no {k:Nat}(hk:k<l.length)(h:¬(0<k/\l[k].spaced=true)):qTo l (k+1)=qTo l k++bit l[k]:=by
 unfold qTo;rw[Zdg hk h,ByteArray.append_assoc]
theorem qTo_zero (l:List Tok):(⟨#[]⟩:ByteArray)++⟨#[34]⟩=qTo l 0:=rfl
theorem qTo_end (l:List Tok):qTo l l.length++⟨#[34]⟩=quoted (ZaN l l.length):=rfl
theorem Zlz (v:Value)(l:List Tok)(fp:List Nat)(w:World)(H:(Zaa sTok).R w [v] l fp):
  Calls Tryz.prog 154 #[v] w (TextOf l w):=by
 have cI:=Zab w (.cells #[.int .i64 0,.string ⟨#[]⟩,.bool false,.slice none 0 0] 32);have HZ:=Qh (JS w (.cells #[.int .i64 0,.string ⟨#[]⟩,.bool false,.slice none 0 0] 32));have tt:(w.alloc (.cells #[.int .i64 0,.string ⟨#[]⟩,.bool false,.slice none 0 0] 32)).heap.size=w.heap.size+1:=by show(w.heap.push _).size=_;simp
 have xB:=(Zaa sTok).below H cI;have HV:=Qh (ZbZ v l fp _ xB);obtain⟨a,cap,rfl,hc,hm,ai⟩:=Zac xB;unfold maxLen at hm;clear H xB;cases hv:Zam l
 ·have HF:=Qh (Zl8 hv);rw[hv]at HV;clear hv tt;go_enter Tryz.func154,Tryz.ntmps154;go_wp2_with fail
  refine HV.out.mono ?_;rintro e w2⟨rfl,aF⟩;have aY:=cI.trans (aF.mono cI.size);replace HZ:=Qh (Zag HZ.out aF);clear HV aF cI;obtain⟨z0,dT,z1,dU,z2,dV,z3,dW⟩:=Q8 HZ.out;have HS:=Qh (Zai (Zai (Zai (Zai HZ.out 0 (.int .i64 0)) 1 (.string ⟨#[]⟩)) 2 (.bool false)) 3 (.slice none 0 0));have dM:=Qh ((((aY.setCell (p:=⟨w.heap.size,0,none⟩) (QA _) (.int .i64 0)).setCell (p:=⟨w.heap.size,1,none⟩) (QA _) (.string ⟨#[]⟩)).setCell (p:=⟨w.heap.size,2,none⟩) (QA _) (.bool false)).setCell (p:=⟨w.heap.size,3,none⟩) (QA _) (.slice none 0 0));go_wp2;refine JV (Zat rfl _ _ w.heap.size _ _ _ _ rfl HS.out Tryz.underlying32 rfl (by kernel_rfl)) rfl ?_;exact ZgL HF.out dM.out
 rw[hv]at HV;have bC:=Qh (Zay hv);have bE:=bC.out.1;have fL:=Qh (λk hk=>qTo_size hv (k:=k) hk);have HY:=Qh (λh=>Zku (l:=l) hv rfl h);have HG:=Qh (λh=>Zji (l:=l) hv rfl h);have HQL:=Qh (Zjk hv);have mE:=Qh hv;clear hv;go_enter Tryz.func154,Tryz.ntmps154;go_wp2_with fail
 refine HV.out.mono ?_;rintro e w1⟨rfl,aG⟩;have cq:=cI.trans (aG.mono cI.size);replace HZ:=Qh (Zag HZ.out aG);have hgz:w.heap.size<w1.heap.size:=by have:=aG.size;omega
 have ie:Hid (∀k,(hk:k<l.length)->∃b1 ae h1 fpk,a=some ⟨b1,ae,none⟩/\b1<w1.heap.size/\ElemAt w1 b1 ae 4 k [.int .i64 l[k].kind,.string l[k].text,.bool l[k].spaced,h1]/\sTok.R w1 [.int .i64 l[k].kind,.string l[k].text,.bool l[k].spaced,h1] l[k] fpk):=λk hk=>by
  obtain⟨b1,ae,dt,rfl,du,-,bj⟩:=ai (by omega);obtain⟨lA,bf,bR⟩:=bj k hk;have mZ:=bR;obtain⟨h1,rfl,-,-,-⟩:=bR;exact⟨b1,ae,h1,_,rfl,QW du aG.size,bf.frame (aG.block b1 du),sTok.below mZ aG⟩
 clear ai HV aG cI tt;have fs:=Qh (Bld.fresh w1);have aF:=Zab w1 (.cells #[.pointer none,.slice none 0 0] 175);go_wp2_with fail
 refine(ZnY fs.out (by show(0:Nat)<=_;omega)).mono ?_;rintro e w2⟨rfl,aY,aC,-⟩;have aM:=aF.trans (aC.mono (QA _));rw[qTo_zero l]at aY;replace fs:=Qh aY;clear aF aC aY;go_wp2_with fail
 go_loopw [14] (λi wr=>∃(k:Nat),k<=l.length/\i=.int .i64 k/\Hid (Bld w1.heap.size (qTo l k) wr)/\Below w1.heap.size w1 wr) (λi _=>l.length-(intOf i).toNat)
 case atStart=>exact⟨0,by omega,rfl,fs,aM⟩
 case round =>
  obtain⟨k,hk,rfl,HB,hb⟩:=hrel;clear fs aM;by_cases af:k<l.length
  ·obtain⟨b1,ae,h1,fpk,rfl,du,bf,bR⟩:=ie.out k af;replace bf:=bf.frame (hb.block b1 du);have dg:wr.cell? ⟨b1,ae+k*4,none⟩=some _:=ZaB bf (by decide) rfl;have dL:wr.cell? ⟨b1,ae+k*4+1,none⟩=some _:=Zae (j:=1) bf (by decide) rfl;have dh:wr.cell? ⟨b1,ae+k*4+2,none⟩=some _:=Zae (j:=2) bf (by decide) rfl;have ew:wr.cell? ⟨b1,ae+k*4+3,none⟩=some _:=Zae (j:=3) bf (by decide) rfl;have wY:=(Za9 (bC.out.2 k af)).2;have mi:=Znr l[k];have ra:=fL.out k hk;have HT:Hid (∀W,Below w1.heap.size w1 W->Calls Tryz.prog 164 #[.agg #[.int .i64 l[k].kind,.string l[k].text,.bool l[k].spaced,h1]] W (Zkz (bit l[k]) W)):=λW hW=>ZkR _ l[k] _ W wY (sTok.below bR hW);obtain⟨ah,bV,rfl⟩:∃ah bV,h1=.slice ah l[k].hidden.length bV:=by
    obtain⟨h',e',-,-,K⟩:=bR;obtain⟨ah,bV,e2,-⟩:=Zac K;simp only[JH,and_true,true_and]at e';exact⟨ah,bV,by rw[e',e2]⟩
   have bW:Below wr.heap.size wr (wr.alloc (.cells #[.int .i64 l[k].kind,.string l[k].text,.bool l[k].spaced,.slice ah l[k].hidden.length bV] 32)):=Zab _ _;have HX:=Qh (JS wr (.cells #[.int .i64 l[k].kind,.string l[k].text,.bool l[k].spaced,.slice ah l[k].hidden.length bV] 32));have dy:=Qh (HB.out.below bW);have hlw:=HB.out.lt;have aD:=hb.trans (bW.mono hb.size);have cD:wr.heap.size≠w1.heap.size:=(by omega);clear bf bR bW;by_cases h0:k=0
   ·have yw:¬(0:Int)<(k:Int):=(by omega);have yx:decide ((0:Int)<(k:Int))=false:=(by simp;omega);have h02:decide (0<k)=false:=(by simp;omega);have tH:Hid (¬(0<k/\l[k].spaced=true)):=λh=>(by omega);clear h0;have HN:=Qh (qTo_no af tH.out);go_wp2_with fail
    refine(HT.out _ aD).mono ?_;rintro e w3⟨rfl,aC⟩;have eZ:=Qh (dy.out.below aC);have eF:=aD.trans (aC.mono aD.size);clear dg dL dh ew aC;go_wp2_with fail
    refine(Zld eZ.out (by omega)).mono ?_;rintro e w4⟨rfl,hB4,aM,-⟩;rw[←HN.out]at hB4;have k8:=eF.trans (aM.mono (QA _));go_wp2;go_roundw;case rel=>exact⟨k+1,by omega,by go_num,hB4,k8⟩
    case measure=>simp[intOf];omega
   ·have yw:(0:Int)<(k:Int):=(by omega);have yx:decide ((0:Int)<(k:Int))=true:=(by simp;omega);have h02:decide (0<k)=true:=(by simp;omega);cases iD:l[k].spaced
    ·have tH:Hid (¬(0<k/\l[k].spaced=true)):=λh=>(by rw[iD]at h;exact absurd h.2 (by simp));rw[iD]at dh HT HX dy aD;have HN:=Qh (qTo_no af tH.out);go_wp2_with fail
     refine(HT.out _ aD).mono ?_;rintro e w3⟨rfl,aC⟩;have eZ:=Qh (dy.out.below aC);have eF:=aD.trans (aC.mono aD.size);clear dg dL dh ew aC;go_wp2_with fail
     refine(Zld eZ.out (by omega)).mono ?_;rintro e w4⟨rfl,hB4,aM,-⟩;rw[←HN.out]at hB4;have k8:=eF.trans (aM.mono (QA _));go_wp2;go_roundw;case rel=>exact⟨k+1,by omega,by go_num,hB4,k8⟩
     case measure=>simp[intOf];omega
    ·have HN:=Qh (qTo_sp af (by omega) iD);rw[iD]at dh HT HX dy aD;go_wp2_with fail
     refine(bldByte dy.out (by omega)).mono ?_;rintro e w3⟨rfl,aQ,aC,ka⟩;have eF:=aD.trans (aC.mono (QA _));have bB:=Qh (ZqA ka HX.out cD (by decide));have q0:=Qc 0 bB.out;have q1:=Qc 1 bB.out;have q2:=Qc 2 bB.out;have q3:=Qc 3 bB.out;have eZ:=Qh aQ;have h32:(qTo l k++(⟨#[32]⟩:ByteArray)).size<=401*k+2:=(by rw[QK];have:(⟨#[32]⟩:ByteArray).size=1:=rfl;omega);have H32:=Qh h32;clear dg dL dh ew aC ka aQ h32;go_wp2_with fail
     refine(HT.out _ eF).mono ?_;rintro e w4⟨rfl,aM⟩;have kq:=Qh (eZ.out.below aM);have k8:=eF.trans (aM.mono eF.size);clear q0 q1 q2 q3 aM;go_wp2_with fail
     refine(Zld kq.out (by have:=H32.out;omega)).mono ?_;rintro e w5⟨rfl,cg,bg,-⟩;rw[←HN.out]at cg;have jw:=k8.trans (bg.mono (QA _));go_wp2;go_roundw;case rel=>exact⟨k+1,by omega,by go_num,cg,jw⟩
     case measure=>simp[intOf];omega
  ·have ra:=fL.out k hk;have hkl:k=l.length:=(by omega);have HE:Hid (qTo l k++⟨#[34]⟩=quoted (ZaN l l.length)):=(by show _=_;rw[hkl];exact qTo_end l);clear hkl;go_wp2_with fail
   refine(ZnY HB.out (by omega)).mono ?_;rintro e w3⟨rfl,aQ,aC,-⟩;rw[HE.out]at aQ;have Cb:=HQL.out;generalize quoted (ZaN l l.length)=Q at *;have HL:=Qh (bldLen aQ);have HS:=Qh (Zqz aQ);have bg:=hb.trans (aC.mono (QA _));have hbB:=cq.trans (bg.mono cq.size);replace HZ:=Qh (Zag HZ.out bg);have hQ:Q.size<=50000:=Cb;clear aC aQ Cb;by_cases pb:200<Q.size
   ·have HF:=Qh (HG.out pb);clear HG HY;go_wp2_with fail
    refine HL.out.mono ?_;rintro e w4⟨rfl,rfl⟩;clear HL HS;obtain⟨z0,dT,z1,dU,z2,dV,z3,dW⟩:=Q8 HZ.out;have HS:=Qh (Zai (Zai (Zai (Zai HZ.out 0 (.int .i64 0)) 1 (.string ⟨#[]⟩)) 2 (.bool false)) 3 (.slice none 0 0));have dM:=Qh ((((hbB.setCell (p:=⟨w.heap.size,0,none⟩) (QA _) (.int .i64 0)).setCell (p:=⟨w.heap.size,1,none⟩) (QA _) (.string ⟨#[]⟩)).setCell (p:=⟨w.heap.size,2,none⟩) (QA _) (.bool false)).setCell (p:=⟨w.heap.size,3,none⟩) (QA _) (.slice none 0 0));go_wp2;refine JV (Zat rfl _ _ w.heap.size _ _ _ _ rfl HS.out Tryz.underlying32 rfl (by kernel_rfl)) rfl ?_;exact ZgL HF.out dM.out
   ·have HF:=Qh (HY.out pb);clear HG HY;go_wp2_with fail
    refine HL.out.mono ?_;rintro e w4⟨rfl,rfl⟩;go_wp2_with fail
    refine HS.out.mono ?_;rintro e w5⟨rfl,bq⟩;have hbC:=hbB.trans (bq.mono (by omega));replace HZ:=Qh ((bq.block _ hgz).trans HZ.out);clear HL HS bq;obtain⟨z0,dT,z1,dU,z2,dV,z3,dW⟩:=Q8 HZ.out;have HS:=Qh (Zai (Zai (Zai (Zai HZ.out 0 (.int .i64 3)) 1 (.string Q)) 2 (.bool false)) 3 (.slice none 0 0));have dM:=Qh ((((hbC.setCell (p:=⟨w.heap.size,0,none⟩) (QA _) (.int .i64 3)).setCell (p:=⟨w.heap.size,1,none⟩) (QA _) (.string Q)).setCell (p:=⟨w.heap.size,2,none⟩) (QA _) (.bool false)).setCell (p:=⟨w.heap.size,3,none⟩) (QA _) (.slice none 0 0));go_wp2;refine JV (Zat rfl _ _ w.heap.size _ _ _ _ rfl HS.out Tryz.underlying32 rfl (by kernel_rfl)) rfl ?_;exact ZkA HF.out dM.out (by omega)
def Zpn (P:List Tok × Nat × Bool)(w:World)(e:Ending)(w':World):Prop:=
 ∃(v:Value) (L:List (Elem Tok)),e=.returned (.tuple #[v,.int .i64 (P.2.1:Nat),.bool P.2.2])/\RowN sTok w.heap.size 32 v L w'/\L.map (·.d)=P.1/\Own w' w.heap.size (L.flatMap (·.fp))/\Below w.heap.size w w'
theorem Y20A2 (h:g:=by
 try simp only[Qp]
 refine Qr 5 rfl (λK hK=>?_);go_simp;refine(jU.out _ aS).mono ?_;rintro e w9⟨v9,L9,rfl,fF,kA,pE,gc⟩;have mv:=aS.trans (gc.mono aS.size);have bW:=b2.trans (mv.mono b2.size);have fM:=Qh (fF.lower (base':=w.heap.size) (QZ b2.size aS.size));have l4:=Qh (pE.lower (lo':=w.heap.size) (QZ b2.size aS.size));have pS:=Qh kA;clear fF kA pE;refine hK.out _ _ (HS.out _ mv) (λac=>?_);clear hK K;try simp only[Qp]
 refine Qt 8 8 rfl rfl ?_;try simp only[Qp]
 refine Qt 9 9 rfl rfl ?_;try simp only[Qp]
 refine Qt 10 10 rfl rfl ?_;try simp only[Qp]
 refine wpAnyH_done (by kernel_rfl) ?_ _;refine QP ?_;clear ac HS jU;go_wp2
 go_ret3
 exact⟨v9,L9,by rw[HF.out];rfl,fM.out,by rw[pS.out,HF.out,iy.out],l4.out,bW⟩):g:=h
theorem Y20A3 (h:g:=by
 clear RL bl;go_wp2_with fail
 refine HC.out.mono ?_;rintro e w9⟨v9,L9,rfl,fF,kA,pE,gc⟩;have fM:=Qh (fF.lower (base':=w.heap.size) bK.size);have l4:=Qh (pE.lower (lo':=w.heap.size) bK.size);have pS:=Qh kA;have bW:=bK.trans (gc.mono bK.size);clear fF kA pE HC gc bK;go_wp2
 go_ret3
 exact⟨v9,L9,by rw[HF.out];rfl,fM.out,by rw[pS.out,HF.out];rfl,l4.out,bW⟩):g:=h
theorem ZnZ (eE:List Value)(m:DMacro)(eV:List Nat)(vr vy:Value)(raw ready:List (List Tok))(gm ol:List Nat)(k:Nat)(w:World)(hv:Zaq m=true)(ha:ZaG m raw=true)(hy:ZaG m ready=true)(hk:k<m.body.length)
  (HM:sMacro.R w eE m eV) (Hr:(Zaa (Zaa sTok)).R w [vr] raw gm) (Hy:(Zaa (Zaa sTok)).R w [vy] ready ol) :
  Calls Tryz.prog 139 #[.agg eE.toArray,vr,vy,.int .i64 k] w (Zpn (ZaP m raw ready k) w):=by
 have gb:=HM;obtain⟨h2,h3,q2,q3,rfl,-,K2,K3,pe⟩:=HM;obtain⟨a2,c2,rfl,-⟩:=Zaf K2;obtain⟨a3,c3,rfl,wj,jK,dw⟩:=Zac K3;obtain⟨bb,ob,-,rfl,-,-,-⟩:=dw (by omega);unfold maxLen at jK;have nt:m.body.length<=20:=(Za0 hv).1.2.2.2.2;have nw:Hid (raw.length=m.params.length):=by show _=_;unfold ZaG at ha;rw[QI,JT]at ha;exact ha.1
 have rh:Hid (ready.length=m.params.length):=by show _=_;unfold ZaG at hy;rw[QI,JT]at hy;exact hy.1
 have dx:Hid (∀l∈raw,Zam l=true):=ZhH ha;have HYA:Hid (∀l∈ready,Zam l=true):=ZhH hy;obtain⟨ak,ck,fk,e0,e1,e2,e3,Rk,bu,hfk⟩:=ZaO K3 hk;have HV:=Qh hv;have HIM:Hid (isM m.body[k] [35]=(m.body[k].text.toList==[35])):=ZhI hv hk [];have HIX:Hid (idxTx m.params m.body[k].text 0=parOf m.params m.body[k]):=ZnD hv hk;have y6:Hid (m.body[k].hidden.length<=2000000):=by show _<=_;rw[(Zc1 hk ((Za0 hv).2.2 k hk)).2.1];simp
 have b0:=Zab w (.cells #[.string m.name,.bool m.function,.slice a2 m.params.length c2,.slice (some ⟨bb,ob,none⟩) m.body.length c3] 56);have b1:=Zab (w.alloc (.cells #[.string m.name,.bool m.function,.slice a2 m.params.length c2,.slice (some ⟨bb,ob,none⟩) m.body.length c3] 56)) (.cells #[.int .i64 m.body[k].kind,.string m.body[k].text,.bool m.body[k].spaced,.slice ak m.body[k].hidden.length ck] 32);have b2:Below w.heap.size w ((w.alloc (.cells #[.string m.name,.bool m.function,.slice a2 m.params.length c2,.slice (some ⟨bb,ob,none⟩) m.body.length c3] 56)).alloc (.cells #[.int .i64 m.body[k].kind,.string m.body[k].text,.bool m.body[k].spaced,.slice ak m.body[k].hidden.length ck] 32)):=b0.trans (b1.mono b0.size);have HX:=Qh (Zdj w #[.string m.name,.bool m.function,.slice a2 m.params.length c2,.slice (some ⟨bb,ob,none⟩) m.body.length c3] #[.int .i64 m.body[k].kind,.string m.body[k].text,.bool m.body[k].spaced,.slice ak m.body[k].hidden.length ck] 56 32);have g0:(w.alloc (.cells #[.string m.name,.bool m.function,.slice a2 m.params.length c2,.slice (some ⟨bb,ob,none⟩) m.body.length c3] 56)).cell? ⟨bb,ob+k*4,none⟩=some _:=(b0.cell (p:=⟨bb,ob+k*4,none⟩) bu).trans e0;have g1:(w.alloc (.cells #[.string m.name,.bool m.function,.slice a2 m.params.length c2,.slice (some ⟨bb,ob,none⟩) m.body.length c3] 56)).cell? ⟨bb,ob+k*4+1,none⟩=some _:=(b0.cell (p:=⟨bb,ob+k*4+1,none⟩) bu).trans e1;have g2:(w.alloc (.cells #[.string m.name,.bool m.function,.slice a2 m.params.length c2,.slice (some ⟨bb,ob,none⟩) m.body.length c3] 56)).cell? ⟨bb,ob+k*4+2,none⟩=some _:=(b0.cell (p:=⟨bb,ob+k*4+2,none⟩) bu).trans e2;have g3:(w.alloc (.cells #[.string m.name,.bool m.function,.slice a2 m.params.length c2,.slice (some ⟨bb,ob,none⟩) m.body.length c3] 56)).cell? ⟨bb,ob+k*4+3,none⟩=some _:=(b0.cell (p:=⟨bb,ob+k*4+3,none⟩) bu).trans e3;have tK:=Qh (sTok.below Rk b2);have l5:=Qh (sMacro.below gb b2);have fe:=Qh ((Zaa (Zaa sTok)).below Hr b2);have rj:=Qh ((Zaa (Zaa sTok)).below Hy b2);have jO:=Qh ((Zaa sTok).below K3 b2);have ug:=Qh ((Zaa sStr).below K2 b2);have hi0:(0:Int)<=(k:Int):=by omega
 have jJ:(k:Int)<(m.body.length:Int):=by omega
 have bi:((w.alloc (.cells #[.string m.name,.bool m.function,.slice a2 m.params.length c2,.slice (some ⟨bb,ob,none⟩) m.body.length c3] 56)).alloc (.cells #[.int .i64 m.body[k].kind,.string m.body[k].text,.bool m.body[k].spaced,.slice ak m.body[k].hidden.length ck] 32)).heap.size=w.heap.size+2:=by show((w.heap.push _).push _).size=_;simp
 clear gb K2 K3 Hr Hy Rk b0 b1 e0 e1 e2 e3 hv ha hy hfk pe dw;go_enter Tryz.func139,Tryz.ntmps139;go_upto_region 2 with fail
 clear g0 g1 g2 g3;have jC:=b2.size;clear bi;generalize ((w.alloc (.cells #[.string m.name,.bool m.function,.slice a2 m.params.length c2,.slice (some ⟨bb,ob,none⟩) m.body.length c3] 56)).alloc (.cells #[.int .i64 m.body[k].kind,.string m.body[k].text,.bool m.body[k].spaced,.slice ak m.body[k].hidden.length ck] 32))=W2 at *;go_cut [26] from 15 (λd wr=>d=.bool (m.function && isM m.body[k] [35])/\wr=W2)
 case first =>
  obtain⟨p0,p1,p2,p3⟩:=Q4 HX.out.1;rcases Bool.eq_false_or_eq_true m.function with hf | hf
  ·have dY:=Qh hf;rw[hf]at p1;clear hf;obtain⟨q0,q1,q2,q3⟩:=Q4 HX.out.2;go_wp2;go_meet;case rel=>exact⟨by rw[dY.out,HIM.out];rfl,by trivial⟩
  ·have dY:=Qh hf;rw[hf]at p1;clear hf;go_wp2;go_meet;case rel=>exact⟨by rw[dY.out];rfl,by trivial⟩
 obtain⟨rfl,rfl⟩:=hcut;generalize wc=W2 at *;cases rl:(m.function && isM m.body[k] [35]);rotate_left
 ·skip
  obtain⟨mK,xn⟩:=JK.1 rl;obtain⟨bG,n,hn,hnp⟩:=Zir HV.out hk mK xn;have dO:n<raw.length:=by have:=nw.out;omega
  have iy:=Qh (Zfm (a:=raw) hn dO);have rn:=Qh hn;obtain⟨kk,s,qR,hx,xo,xp,cC⟩:=Zfo raw[n];have iY:=Qh hx;have HF:=Qh (Zip (raw:=raw) (ready:=ready) bG mK xn (u:=⟨kk,s,false,[]⟩) (o:=qR) (by rw[iy.out];exact hx));obtain⟨ya,yc,yf,-,y1,-,-,-,me,-⟩:=ZaO jO.out bG;obtain⟨ar,cr,rfl,-,-,dk⟩:=Zac fe.out;obtain⟨br,iJ,-,rfl,-,-,-⟩:=dk (by omega);obtain⟨aj,cj,fj,dq,Rj,eU,-⟩:=Zdd fe.out dO;have uW:Hid (∀(U:World),Below W2.heap.size W2 U->Calls Tryz.prog 116 #[.slice a2 m.params.length c2,.string (m.body[k+1]'bG).text] U λe w'=>e=.returned (.int .i64 (n:Nat))/\w'=U):=λU hU=>by have:=Zik _ m.params q2 (m.body[k+1]'bG).text U ((Zaa sStr).below ug.out hU);rw[ZnD HV.out bG,hn]at this;exact this
  have qW:=Qh (λ(U:World) (hU:Below W2.heap.size W2 U)=>Zlz _ raw[n] fj U ((Zaa sTok).below Rj hU));have HS:Hid (∀U:World,Below W2.heap.size W2 U->U.heap[w.heap.size]?=some (.cells #[.string m.name,.bool m.function,.slice a2 m.params.length c2,.slice (some ⟨bb,ob,none⟩) m.body.length c3] 56 (0,0))/\U.cell? ⟨bb,ob+(k+1)*4+1,none⟩=some (.string (m.body[k+1]'bG).text)/\U.cell? ⟨br,iJ+n,none⟩=some (.slice aj raw[n].length cj)):=λU hU=>⟨Zag HX.out.1 hU,(hU.cell (by show bb<W2.heap.size;omega)).trans y1,(hU.cell (by show br<W2.heap.size;omega)).trans dq⟩;have aS:Below W2.heap.size W2 W2.drew:=Zah (QD _ _) 1;have sX:IntKind.i64.wrap ((k:Int)+1)=(k:Int)+1:=QF _ (by omega);have j1:(0:Int)<=(k:Int)+1:=by omega
  have j2:(k:Int)+1<(m.body.length:Int):=by omega
  have j3:((k:Int)+1).toNat=k+1:=by omega
  have j4:(0:Int)<=(n:Int):=by omega
  have j5:(n:Int)<(raw.length:Int):=by omega
  have hbmm:0<m.body.length:=by omega
  clear hx hn mK xn rl y1 dq Rj dk;go_upto_region 3 with fail
  go_cut [12,13] from 15 (λd b wr=>∃(gB:Nat) (ax:Option Addr) (cx:Nat),d=.pointer (some ⟨gB,0,none⟩)/\b=.bool qR/\wr.heap[gB]?=some (.cells #[.int .i64 kk,.string s,.bool false,.slice ax 0 cx] 32 (0,0))/\W2.heap.size<=gB/\gB<wr.heap.size/\cx<=maxLen/\Below W2.heap.size W2 wr)
  case first =>
   refine wp_region_noPanic ?_;refine JU (S:=λw'=>w'.heap[w.heap.size]?=some (.cells #[.string m.name,.bool m.function,.slice a2 m.params.length c2,.slice (some ⟨bb,ob,none⟩) m.body.length c3] 56 (0,0))/\w'.cell? ⟨bb,ob+(k+1)*4+1,none⟩=some (.string (m.body[k+1]'bG).text)/\w'.cell? ⟨br,iJ+n,none⟩=some (.slice aj raw[n].length cj)) (by kernel_rfl) (by exact HS.out _ aS) (λac=>?_);generalize W2.drew=wd at *;refine Qt 0 28 rfl rfl ?_;try simp only[Qp]
   refine Qt 1 29 rfl rfl ?_;try simp only[Qp]
   refine Qt 2 30 rfl rfl ?_ (by intro w aI;obtain⟨sm,s1,sr⟩:=aI;have m2:=Qc 2 sm;have m3:=Qc 3 sm;go_simp;(first | done | with_reducible rfl | rfl));try simp only[Qp]
   refine Qt 3 31 rfl rfl ?_;try simp only[Qp]
   refine Qt 4 32 rfl rfl ?_ (by intro w aI;obtain⟨sm,s1,sr⟩:=aI;have m2:=Qc 2 sm;have m3:=Qc 3 sm;go_simp;(first | done | with_reducible rfl | rfl));try simp only[Qp]
   refine Qt 5 33 rfl rfl ?_;try simp only[Qp]
   refine Qt 6 34 rfl rfl ?_;try simp only[Qp]
   refine Qt 7 35 rfl rfl ?_;try simp only[Qp]
   refine Qt 8 36 rfl rfl ?_;try simp only[Qp]
   refine Qt 9 37 rfl rfl ?_ (by intro w aI;obtain⟨sm,s1,sr⟩:=aI;have m2:=Qc 2 sm;have m3:=Qc 3 sm;go_simp;(first | done | with_reducible rfl | rfl));try simp only[Qp]
   refine wpAnyH_ready (rs:=[10,17]) (by kernel_rfl) (by simp) ?_;refine JP rfl (λK hK=>?_) ?_
   ·skip
    go_simp;refine(uW.out _ aS).mono ?_;rintro e eR⟨rfl,rfl⟩;have bZ:=aS;refine hK.out _ _ (HS.out _ bZ) (λac=>?_);clear hK K;try simp only[Qp]
    refine Qt 11 39 rfl rfl ?_;try simp only[Qp]
    refine Qt 12 40 rfl rfl ?_ (by intro w aI;obtain⟨sm,s1,sr⟩:=aI;have m2:=Qc 2 sm;have m3:=Qc 3 sm;go_simp;(first | done | with_reducible rfl | rfl));try simp only[Qp]
    refine wpAnyH_ready (rs:=[13,17]) (by kernel_rfl) (by simp) ?_;refine JP rfl (λK hK=>?_) ?_
    ·skip
     go_simp;refine(qW.out _ bZ).mono ?_;rintro e gw hT2;obtain⟨k9,s9,b9,ax,cx,e9,rfl,-,-,-,lB,br2⟩:=hT2.bare;rw[iY.out]at e9;simp only[QS,Tok.mk.injEq,and_true]at e9;obtain⟨⟨rfl,rfl⟩,rfl⟩:=e9;have dp:=bZ.trans (br2.mono bZ.size);refine hK.out _ _ (HS.out _ dp) (λac=>?_);clear hK K;try simp only[Qp]
     refine Qt 14 27 rfl rfl ?_;try simp only[Qp]
     refine Qt 15 42 rfl rfl ?_;try simp only[Qp]
     refine Qt 16 43 rfl rfl ?_;try simp only[Qp]
     refine Qr 17 rfl (λK hK=>?_);go_simp;have bk:=Zab gw (.cells #[.int .i64 0,.string ⟨#[]⟩,.bool false,.slice none 0 0] 32);have HB:=Qh (JS gw (.cells #[.int .i64 0,.string ⟨#[]⟩,.bool false,.slice none 0 0] 32));have d8:=dp.trans (bk.mono dp.size);have eD:=dp.size;refine hK.out _ _ (HS.out _ d8) (λac=>?_);clear hK K bk;try simp only[Qp]
     generalize (gw.alloc (.cells #[.int .i64 0,.string ⟨#[]⟩,.bool false,.slice none 0 0] 32))=sH at *;obtain⟨tL,dT,tM,dU,tN,dV,tO,dW⟩:=Q8 HB.out;have ro:=Qh (Za2 HB.out (.int .i64 kk) (.string s) (.bool false) (.slice ax 0 cx));have jT:=Qh (ZaJ (g:=gw.heap.size) d8 eD (.int .i64 kk) (.string s) (.bool false) (.slice ax 0 cx));have lC:Hid (gw.heap.size<(set4 sH (gw.heap.size) (.int .i64 kk) (.string s) (.bool false) (.slice ax 0 cx)).heap.size):=(by show _<_;rw[ZcS];exact mlt HB.out);refine Qr 18 rfl (λK hK=>?_);go_simp;change K _ (set4 sH (gw.heap.size) (.int .i64 kk) (.string s) (.bool false) (.slice ax 0 cx));refine hK.out _ _ (HS.out _ jT.out) (λac=>?_);clear hK K;try simp only[Qp]
     refine Qt 19 13 rfl rfl ?_;try simp only[Qp]
     refine wpAnyH_done (by kernel_rfl) ?_ _;refine QP ?_;clear ac;go_wp2;go_meet;case rel=>exact⟨_,ax,cx,rfl,rfl,ro.out,eD,lC.out,lB,jT.out⟩
    refine JP rfl (λK hK=>?_) AllReadyH.nil;go_simp;have bk:=Zab eR (.cells #[.int .i64 0,.string ⟨#[]⟩,.bool false,.slice none 0 0] 32);have HB:=Qh (JS eR (.cells #[.int .i64 0,.string ⟨#[]⟩,.bool false,.slice none 0 0] 32));have iK:=bZ.trans (bk.mono bZ.size);have eD:=bZ.size;refine hK.out _ _ (HS.out _ iK) (λac=>?_);clear hK K bk;try simp only[Qp]
    generalize (eR.alloc (.cells #[.int .i64 0,.string ⟨#[]⟩,.bool false,.slice none 0 0] 32))=xq at *;refine Qr 13 rfl (λK hK=>?_);go_simp;refine(qW.out _ iK).mono ?_;rintro e AS hT5;obtain⟨k9,s9,b9,ax,cx,e9,rfl,-,-,-,lB,AT⟩:=hT5.bare;rw[iY.out]at e9;simp only[QS,Tok.mk.injEq,and_true]at e9;obtain⟨⟨rfl,rfl⟩,rfl⟩:=e9;have mL:=iK.trans (AT.mono iK.size);have oX:=Qh (Zag HB.out AT);refine hK.out _ _ (HS.out _ mL) (λac=>?_);clear hK K;try simp only[Qp]
    refine Qt 14 27 rfl rfl ?_;try simp only[Qp]
    refine Qt 15 42 rfl rfl ?_;try simp only[Qp]
    refine Qt 16 43 rfl rfl ?_;try simp only[Qp]
    obtain⟨tL,dT,tM,dU,tN,dV,tO,dW⟩:=Q8 oX.out;have ro:=Qh (Za2 oX.out (.int .i64 kk) (.string s) (.bool false) (.slice ax 0 cx));have jT:=Qh (ZaJ (g:=eR.heap.size) mL eD (.int .i64 kk) (.string s) (.bool false) (.slice ax 0 cx));have lC:Hid (eR.heap.size<(set4 AS (eR.heap.size) (.int .i64 kk) (.string s) (.bool false) (.slice ax 0 cx)).heap.size):=(by show _<_;rw[ZcS];exact mlt oX.out);refine Qr 18 rfl (λK hK=>?_);go_simp;change K _ (set4 AS (eR.heap.size) (.int .i64 kk) (.string s) (.bool false) (.slice ax 0 cx));refine hK.out _ _ (HS.out _ jT.out) (λac=>?_);clear hK K;try simp only[Qp]
    refine Qt 19 13 rfl rfl ?_;try simp only[Qp]
    refine wpAnyH_done (by kernel_rfl) ?_ _;refine QP ?_;clear ac;go_wp2;go_meet;case rel=>exact⟨_,ax,cx,rfl,rfl,ro.out,eD,lC.out,lB,jT.out⟩
   refine JP rfl (λK hK=>?_) AllReadyH.nil;go_simp;have bk:=Zab wd (.cells #[.int .i64 0,.string ⟨#[]⟩,.bool false,.slice none 0 0] 32);have HB:=Qh (JS wd (.cells #[.int .i64 0,.string ⟨#[]⟩,.bool false,.slice none 0 0] 32));have uX:=aS.trans (bk.mono aS.size);have eD:=aS.size;refine hK.out _ _ (HS.out _ uX) (λac=>?_);clear hK K bk;try simp only[Qp]
   generalize (wd.alloc (.cells #[.int .i64 0,.string ⟨#[]⟩,.bool false,.slice none 0 0] 32))=wx6 at *;refine Qr 10 rfl (λK hK=>?_);go_simp;refine(uW.out _ uX).mono ?_;rintro e wx7⟨rfl,rfl⟩;have pf:=uX;refine hK.out _ _ (HS.out _ pf) (λac=>?_);clear hK K;try simp only[Qp]
   refine Qt 11 39 rfl rfl ?_;try simp only[Qp]
   refine Qt 12 40 rfl rfl ?_ (by intro w aI;obtain⟨sm,s1,sr⟩:=aI;have m2:=Qc 2 sm;have m3:=Qc 3 sm;go_simp;(first | done | with_reducible rfl | rfl));try simp only[Qp]
   refine Qr 13 rfl (λK hK=>?_);go_simp;refine(qW.out _ pf).mono ?_;rintro e AU hT8;obtain⟨k9,s9,b9,ax,cx,e9,rfl,-,-,-,lB,AV⟩:=hT8.bare;rw[iY.out]at e9;simp only[QS,Tok.mk.injEq,and_true]at e9;obtain⟨⟨rfl,rfl⟩,rfl⟩:=e9;have AW:=pf.trans (AV.mono pf.size);have il:=Qh (Zag HB.out AV);refine hK.out _ _ (HS.out _ AW) (λac=>?_);clear hK K;try simp only[Qp]
   refine Qt 14 27 rfl rfl ?_;try simp only[Qp]
   refine Qt 15 42 rfl rfl ?_;try simp only[Qp]
   refine Qt 16 43 rfl rfl ?_;try simp only[Qp]
   obtain⟨tL,dT,tM,dU,tN,dV,tO,dW⟩:=Q8 il.out;have ro:=Qh (Za2 il.out (.int .i64 kk) (.string s) (.bool false) (.slice ax 0 cx));have jT:=Qh (ZaJ (g:=wd.heap.size) AW eD (.int .i64 kk) (.string s) (.bool false) (.slice ax 0 cx));have lC:Hid (wd.heap.size<(set4 AU (wd.heap.size) (.int .i64 kk) (.string s) (.bool false) (.slice ax 0 cx)).heap.size):=(by show _<_;rw[ZcS];exact mlt il.out);refine Qr 18 rfl (λK hK=>?_);go_simp;change K _ (set4 AU (wd.heap.size) (.int .i64 kk) (.string s) (.bool false) (.slice ax 0 cx));refine hK.out _ _ (HS.out _ jT.out) (λac=>?_);clear hK K;try simp only[Qp]
   refine Qt 19 13 rfl rfl ?_;try simp only[Qp]
   refine wpAnyH_done (by kernel_rfl) ?_ _;refine QP ?_;clear ac;go_wp2;go_meet;case rel=>exact⟨_,ax,cx,rfl,rfl,ro.out,eD,lC.out,lB,jT.out⟩
  obtain⟨gB,ax,cx,rfl,rfl,gX,nU,kL,lB,wW⟩:=hcut;generalize wc=W4 at *;have HG:=Qh gX;have xr:=Qh (Zag HX.out.2 wW);have HRk4:=Qh (sTok.below tK.out wW);clear gX HS uW qW aS;obtain⟨t0,t1,t2,t3⟩:=Q4 xr.out;obtain⟨g0,g1,g2,g3⟩:=Q4 HG.out;have aM:=b2.trans (wW.mono b2.size);have wg:IntKind.i64.wrap ((k:Int)+2)=(k:Int)+2:=QF _ (by omega);have HL:=Qh (RowN.lit1 (S:=sTok) (e:=32) (w:=W4) (base:=W4.heap.size) (x:=⟨[.int .i64 kk,.string s,.bool false,.slice ax 0 cx],⟨kk,s,false,[]⟩,[]⟩) (QA _) rfl (Zmf kk s _ ax cx W4 xo xp (by omega) lB));obtain⟨uL,RL,-,-⟩:=HL.out.read;have bl:=Zab W4 (.cells #[.int .i64 kk,.string s,.bool false,.slice ax 0 cx] 32);have HC:=Qh (Zdr _ m.body[k] fk (.slice (some ⟨W4.heap.size,0,none⟩) 1 1) [⟨kk,s,false,[]⟩] uL (W4.alloc (.cells #[.int .i64 kk,.string s,.bool false,.slice ax 0 cx] 32)) (by simp) (λj hj=>by have:j=0:=(by simpa using hj);subst this;exact(JI _)) (sTok.below HRk4.out bl) RL);have bK:=aM.trans (bl.mono aM.size);exact Y20A3
 have lD:Hid (¬(m.function=true/\isM m.body[k] [35]=true)):=λh=>by rw[h.1,h.2]at rl;exact absurd rl (by simp)
 clear rl HIM;have p2:=Qc 2 HX.out.1;have q1:=Qc 1 HX.out.2;have HP:=Qh (Zik _ m.params q2 m.body[k].text W2 ug.out);rw[HIX.out]at HP;go_upto_region 6 with(go_at_call 116;refine HP.out.mono ?_;rintro e w3⟨rfl,rfl⟩)
 clear p2 q1 HP HIX;try generalize w3=W2 at *
 have bG:IntKind.i64.wrap ((k:Int)+1)=(k:Int)+1:=QF _ (by omega);by_cases hp:parOf m.params m.body[k]<0
 ·have HF:=Qh (Ziq (raw:=raw) (ready:=ready) hk lD.out hp);have hpd:decide (parOf m.params m.body[k]<0)=true:=JR hp;obtain⟨t0,t1,t2,t3⟩:=Q4 HX.out.2;generalize parOf m.params m.body[k]=pn at *;have HL:=Qh (RowN.lit1 (S:=sTok) (e:=32) (w:=W2) (base:=W2.heap.size) (x:=⟨[.int .i64 m.body[k].kind,.string m.body[k].text,.bool m.body[k].spaced,.slice ak m.body[k].hidden.length ck],m.body[k],fk⟩) (QA _) rfl tK.out);obtain⟨uL,RL,-,-⟩:=HL.out.read;have bl:=Zab W2 (.cells #[.int .i64 m.body[k].kind,.string m.body[k].text,.bool m.body[k].spaced,.slice ak m.body[k].hidden.length ck] 32);have HC:=Qh (Zdr _ m.body[k] fk (.slice (some ⟨W2.heap.size,0,none⟩) 1 1) [m.body[k]] uL (W2.alloc (.cells #[.int .i64 m.body[k].kind,.string m.body[k].text,.bool m.body[k].spaced,.slice ak m.body[k].hidden.length ck] 32)) (by simp) (λj hj=>by have:j=0:=(by simpa using hj);subst this;exact y6.out) (sTok.below tK.out bl) RL);have bK:=b2.trans (bl.mono b2.size);exact Y20A3
 obtain⟨n,hn,hnp⟩:=Zll hp;have rn:=Qh hn;have gd:=Qh hp;rw[hn];clear hn hp;have ke:¬((n:Int)<0):=by omega
 have p3:=Qc 3 HX.out.1;have jW:=Qh (ZjX _ m.body q3 k W2 (by omega) hk jO.out);rw[bes_glue HV.out k]at jW;go_wp2_with fail
 refine jW.out.mono ?_;rintro e w5⟨rfl,rfl⟩;clear p3 jW;try generalize w5=W2 at *
 cases hg:(Zc7 m k || ZcG m k)
 ·skip
  have HF:=Qh (ZhD (raw:=raw) (ready:=ready) hk lD.out (by have:=gd.out;omega) hg);have dO:n<ready.length:=by have:=nw.out;have:=rh.out;omega
  have iy:=Qh (Zfm (a:=ready) rn.out dO);obtain⟨ar,cr,rfl,-,-,dk⟩:=Zac rj.out;obtain⟨br,iJ,-,rfl,-,-,-⟩:=dk (by omega);obtain⟨aj,cj,fj,dq,Rj,eU,pT⟩:=Zdd rj.out dO;have sG:=Zay (HYA.out _ (QE dO));have lj:(ready[n]).length<=60:=sG.1;have HJH:Hid (∀j,(hj:j<(ready[n]).length)->(ready[n])[j].hidden.length<=2000000):=λj hj=>by have:=(ZfM (Zcx (sG.2 j hj))).1;omega
  have jU:=Qh (λ(U:World) (hU:Below W2.heap.size W2 U)=>Zdr _ m.body[k] fk _ ready[n] fj U (by omega) HJH.out (sTok.below tK.out hU) ((Zaa sTok).below Rj hU));have d0:W2.drew.heap[w.heap.size+1]?=some (.cells #[.int .i64 m.body[k].kind,.string m.body[k].text,.bool m.body[k].spaced,.slice ak m.body[k].hidden.length ck] 32 (0,0)):=HX.out.2;have d1:W2.drew.cell? ⟨br,iJ+n,none⟩=some (.slice aj (ready[n]).length cj):=dq;have aS:Below W2.heap.size W2 W2.drew:=Zah (QD _ _) 1;have HS:Hid (∀U:World,Below W2.heap.size W2 U->U.heap[w.heap.size+1]?=some (.cells #[.int .i64 m.body[k].kind,.string m.body[k].text,.bool m.body[k].spaced,.slice ak m.body[k].hidden.length ck] 32 (0,0))/\U.cell? ⟨br,iJ+n,none⟩=some (.slice aj (ready[n]).length cj)):=λU hU=>⟨Zag HX.out.2 hU,(hU.cell (by show br<W2.heap.size;omega)).trans dq⟩;have i6:(0:Int)<=(n:Int):=by omega
  have i7:(n:Int)<(ready.length:Int):=by omega
  have i8:n<ready.length:=dO;clear dq Rj pT dk hg sG;go_wp2_with fail
  refine wp_region_noPanic ?_;refine JU (S:=λw'=>w'.heap[w.heap.size+1]?=some (.cells #[.int .i64 m.body[k].kind,.string m.body[k].text,.bool m.body[k].spaced,.slice ak m.body[k].hidden.length ck] 32 (0,0))/\w'.cell? ⟨br,iJ+n,none⟩=some (.slice aj (ready[n]).length cj)) (by kernel_rfl) (by exact HS.out _ aS) (λac=>?_);generalize W2.drew=wd at *;refine Qt 0 78 rfl rfl ?_ (by intro w aI;obtain⟨st,sr⟩:=aI;obtain⟨t0,t1,t2,t3⟩:=Q4 st;go_simp;(first | done | with_reducible rfl | rfl));try simp only[Qp]
  refine Qt 1 79 rfl rfl ?_;try simp only[Qp]
  refine Qt 2 80 rfl rfl ?_;try simp only[Qp]
  refine Qt 3 81 rfl rfl ?_;try simp only[Qp]
  refine Qt 4 82 rfl rfl ?_ (by intro w aI;obtain⟨st,sr⟩:=aI;obtain⟨t0,t1,t2,t3⟩:=Q4 st;go_simp;(first | done | with_reducible rfl | rfl));try simp only[Qp]
  refine Qt 6 84 rfl rfl ?_;try simp only[Qp]
  refine Qt 7 85 rfl rfl ?_;exact Y20A2
 ·skip
  have HF:=Qh (ZjH (raw:=raw) (ready:=ready) hk lD.out (by have:=gd.out;omega) hg);have dO:n<raw.length:=by have:=nw.out;have:=rh.out;omega
  have iy:=Qh (Zfm (a:=raw) rn.out dO);obtain⟨ar,cr,rfl,-,-,dk⟩:=Zac fe.out;obtain⟨br,iJ,-,rfl,-,-,-⟩:=dk (by omega);obtain⟨aj,cj,fj,dq,Rj,eU,pT⟩:=Zdd fe.out dO;have sG:=Zay (dx.out _ (QE dO));have lj:(raw[n]).length<=60:=sG.1;have HJH:Hid (∀j,(hj:j<(raw[n]).length)->(raw[n])[j].hidden.length<=2000000):=λj hj=>by have:=(ZfM (Zcx (sG.2 j hj))).1;omega
  have jU:=Qh (λ(U:World) (hU:Below W2.heap.size W2 U)=>Zdr _ m.body[k] fk _ raw[n] fj U (by omega) HJH.out (sTok.below tK.out hU) ((Zaa sTok).below Rj hU));have d0:W2.drew.heap[w.heap.size+1]?=some (.cells #[.int .i64 m.body[k].kind,.string m.body[k].text,.bool m.body[k].spaced,.slice ak m.body[k].hidden.length ck] 32 (0,0)):=HX.out.2;have d1:W2.drew.cell? ⟨br,iJ+n,none⟩=some (.slice aj (raw[n]).length cj):=dq;have aS:Below W2.heap.size W2 W2.drew:=Zah (QD _ _) 1;have HS:Hid (∀U:World,Below W2.heap.size W2 U->U.heap[w.heap.size+1]?=some (.cells #[.int .i64 m.body[k].kind,.string m.body[k].text,.bool m.body[k].spaced,.slice ak m.body[k].hidden.length ck] 32 (0,0))/\U.cell? ⟨br,iJ+n,none⟩=some (.slice aj (raw[n]).length cj)):=λU hU=>⟨Zag HX.out.2 hU,(hU.cell (by show br<W2.heap.size;omega)).trans dq⟩;have i6:(0:Int)<=(n:Int):=by omega
  have i7:(n:Int)<(raw.length:Int):=by omega
  have i8:n<raw.length:=dO;clear dq Rj pT dk hg sG;go_wp2_with fail
  refine wp_region_noPanic ?_;refine JU (S:=λw'=>w'.heap[w.heap.size+1]?=some (.cells #[.int .i64 m.body[k].kind,.string m.body[k].text,.bool m.body[k].spaced,.slice ak m.body[k].hidden.length ck] 32 (0,0))/\w'.cell? ⟨br,iJ+n,none⟩=some (.slice aj (raw[n]).length cj)) (by kernel_rfl) (by exact HS.out _ aS) (λac=>?_);generalize W2.drew=wd at *;refine Qt 0 70 rfl rfl ?_ (by intro w aI;obtain⟨st,sr⟩:=aI;obtain⟨t0,t1,t2,t3⟩:=Q4 st;go_simp;(first | done | with_reducible rfl | rfl));try simp only[Qp]
  refine Qt 1 71 rfl rfl ?_;try simp only[Qp]
  refine Qt 2 72 rfl rfl ?_;try simp only[Qp]
  refine Qt 3 73 rfl rfl ?_;try simp only[Qp]
  refine Qt 4 74 rfl rfl ?_ (by intro w aI;obtain⟨st,sr⟩:=aI;obtain⟨t0,t1,t2,t3⟩:=Q4 st;go_simp;(first | done | with_reducible rfl | rfl));try simp only[Qp]
  refine Qt 6 76 rfl rfl ?_;try simp only[Qp]
  refine Qt 7 77 rfl rfl ?_;exact Y20A2
theorem ZjY {α:Type}{S:Shape α}{P:Program}{t e:TypeId}{z:Value}{bytes:Nat}(ti:TI P t e z S.m bytes)(ev:z.cells.size=S.m)(h0:0<S.m)(cY:∀w cs x fp,S.R w cs x fp->∀u∈cs,u.oneCell'=true)(w:World){L X:List (Elem α)}{o:Oper}{a:Act}{K:Act->World->Prop}{Q:Exit->Act->World->Prop}
  (s y:Operand) (ho:o.op=.call { callee:=.builtin .append,args:=#[s,y],argTypes:=#[t,t] })
  (base base':Nat) (v u:Value) (hs:a.eval s=v) (ag:RowN S base e v L w) (hy:a.eval y=u) (hX:RowN S base' e u X w) (lg:∀x∈X,∀b∈x.fp,v.ownBlock≠some b)
  (dz:L.length+X.length<=maxLen) (aO:(L.length+X.length)*bytes<=140737488355328) (aK:base<=w.heap.size)
  (h:∀v' w',RowN S base e v' (L++X) w'->w.grownBy w' v.ownBlock->(v'.ownBlock=v.ownBlock\/v'.ownBlock=some w.heap.size)->K (a.put o.dst v') w'):o.wp P a w K Q:=by
 rcases hX.row.2 with⟨rfl,hx0⟩ | ⟨g,cap,cur,rfl,-,-,-,-,-,-⟩
 ·have qg:X=[]:=QU.1 hx0;subst qg;obtain⟨i,hi,cI,dQ,dZ⟩:=info_parts ti.2;have gn:K (a.put o.dst v) w:=h v w (by simpa using ag) ⟨rfl,rfl,rfl,QA _,λ_ _ _=>rfl⟩ (.inl rfl);have gQ:=ZgK (P:=P) (w:=w) base _ o.type _ i S.m 0 ti.1 hi v L.length _ ag.row;unfold Oper.wp;simp[execOp,ho,resolve,invoke,builtin,hs,hy,gQ,Result.andThen];exact gn
 ·refine ZcC ti ev h0 w (X:=X) s y ho base v hs ag ⟨g,0,none⟩ X.length cap hy rfl (λx hx=>⟨hX.len x hx,hX.el x hx,lg x hx⟩) (λx hx=>cY _ _ _ _ (hX.el x hx)) ?_ dz aO aK h;intro j u hj;have lj:=(Qq.1 hj).1;rw[ZaR (f:=Elem.cells) hX.len]at lj;rw[JN,QX,hX.row.cellAt j lj];exact hj
theorem Zhi {α:Type}{S:Shape α}{P:Program}{t e:TypeId}{z:Value}{bytes:Nat}(ti:TI P t e z S.m bytes)(ev:z.cells.size=S.m)(h0:0<S.m)(cY:∀w cs x fp,S.R w cs x fp->∀u∈cs,u.oneCell'=true)(w:World){L X:List (Elem α)}{ops:Array Oper}{rest:List Oper}{o:Oper}{a:Act}{Q:Exit->Act->World->Prop}
  (hg:o.guard=none) (s y:Operand) (ho:o.op=.call { callee:=.builtin .append,args:=#[s,y],argTypes:=#[t,t] })
  (base base':Nat) (v u:Value) (hs:a.eval s=v) (ag:RowN S base e v L w) (hy:a.eval y=u) (hX:RowN S base' e u X w) (lg:∀x∈X,∀b∈x.fp,v.ownBlock≠some b)
  (dz:L.length+X.length<=maxLen) (aO:(L.length+X.length)*bytes<=140737488355328) (aK:base<=w.heap.size)
  (h:∀v' w',RowN S base e v' (L++X) w'->w.grownBy w' v.ownBlock->(v'.ownBlock=v.ownBlock\/v'.ownBlock=some w.heap.size)->wpList P ops Q rest (a.put o.dst v') w'):wpList P ops Q (o::rest) a w:=
 wpList_plain hg λ_ hK=>ZjY ti ev h0 cY w s y ho base base' v u hs ag hy hX lg dz aO aK λv' w' h2 h3 h4=>hK _ _ (h v' w' h2 h3 h4)
def ZlA (m:DMacro)(raw ready:List (List Tok))(w:World)(e:Ending)(w':World):Prop:=
 ∃(v:Value) (fp:List Nat),e=.returned (.tuple #[v,.bool (Zaz m raw ready).2])/\(Zaa sTok).R w' [v] (Zaz m raw ready).1 fp/\Own w' w.heap.size fp/\Below w.heap.size w w'
variable {m:DMacro}
theorem Zdo {raw ready:List (List Tok)}{w W:World}(h:Zaz m raw ready=([],false))(hb:Below w.heap.size w W):ZlA m raw ready w (.returned (.tuple #[.slice none 0 0,.bool false])) W:=
 ⟨_,[],by rw[h],by rw[h];exact Zao _ _ _ _ (by simp),Own.nil _ _,hb⟩
theorem last_app {D L:List Tok}(h:L≠[]):(D++L).getLastD Zaw=L.getLastD Zaw:=by
 rw[List.getLastD_eq_getLast?,List.getLastD_eq_getLast?,List.getLast?_append,List.getLast?_eq_some_getLast h];rfl
theorem drop_app {D L:List Tok}(h:L≠[]):(D++L).dropLast=D++L.dropLast:=List.dropLast_append_of_ne_nil h
theorem map_ne {L:List (Elem Tok)}(h:0<L.length):L.map (·.d)≠[]:=λe=>absurd (List.map_eq_nil_iff.1 e) (List.ne_nil_of_length_pos h)
theorem ZkS (eE:List Value)(m:DMacro)(eV:List Nat)(vr vy:Value)(raw ready:List (List Tok))(gm ol:List Nat)(w:World)
  (HM:sMacro.R w eE m eV) (Hr:(Zaa (Zaa sTok)).R w [vr] raw gm) (Hy:(Zaa (Zaa sTok)).R w [vy] ready ol) :
  Calls Tryz.prog 121 #[.agg eE.toArray,vr,vy] w (ZlA m raw ready w):=by
 have gb:=HM;obtain⟨h2,h3,q2,q3,rfl,-,K2,K3,-⟩:=HM;obtain⟨a2,c2,rfl,-⟩:=Zaf K2;obtain⟨a3,c3,rfl,wj,jK,dw⟩:=Zac K3;obtain⟨ar,cr,rfl,-⟩:=Zac Hr;obtain⟨ay,cy,rfl,-⟩:=Zac Hy;unfold maxLen at jK;have b0:=Zab w (.cells #[.string m.name,.bool m.function,.slice a2 m.params.length c2,.slice a3 m.body.length c3] 56);have HX:=Qh (JS w (.cells #[.string m.name,.bool m.function,.slice a2 m.params.length c2,.slice a3 m.body.length c3] 56));have eL:=Qh (sMacro.below gb b0);have zd:=Qh ((Zaa (Zaa sTok)).below Hr b0);have ze:=Qh ((Zaa (Zaa sTok)).below Hy b0);have eZ:=Qh ((Zaa sTok).below K3 b0);have ie:Hid (∀af:0<m.body.length,∃bb ob,a3=some ⟨bb,ob,none⟩):=λh=>by obtain⟨b,o,-,e,-⟩:=dw h;exact⟨b,o,e⟩
 clear K2 K3 gb Hr Hy dw;go_enter Tryz.func121,Tryz.ntmps121;go_upto_region 1 with fail
 generalize (w.alloc (.cells #[.string m.name,.bool m.function,.slice a2 m.params.length c2,.slice a3 m.body.length c3] 56))=W1 at *;have rJ:=Qh (ZeS _ m eV W1 eL.out);have iy:=Qh (λ(U:World) (hU:Below W1.heap.size W1 U)=>Ze7 _ m eV _ raw gm U (sMacro.below eL.out hU) ((Zaa (Zaa sTok)).below zd.out hU));have Cc:=Qh (λ(U:World) (hU:Below W1.heap.size W1 U)=>Ze7 _ m eV _ ready ol U (sMacro.below eL.out hU) ((Zaa (Zaa sTok)).below ze.out hU));obtain⟨p0,p1,p2,p3⟩:=Q4 HX.out;cases hv:Zaq m
 ·have HF:=Qh (ZcW (m:=m) (raw:=raw) (ready:=ready) (λh=>by rw[hv]at h;exact absurd h.1 (by simp):¬(Zaq m=true/\ZaG m raw=true/\ZaG m ready=true)));rw[hv]at rJ;clear hv;go_wp2_with fail
  refine(rJ.out).mono ?_;rintro e w2⟨rfl,aF⟩;go_wp2;go_ret2;exact Zdo HF.out (b0.trans (aF.mono b0.size))
 have zs:=Qh hv;rw[hv]at rJ;clear hv;go_wp2_with fail
 refine(rJ.out).mono ?_;rintro e w2⟨rfl,aF⟩;clear p0 p1 p2 p3;have aY:=aF;have cJ:=Qh (Zag HX.out aY);obtain⟨p0,p1,p2,p3⟩:=Q4 cJ.out;cases ha:ZaG m raw
 ·have HF:=Qh (ZcW (m:=m) (raw:=raw) (ready:=ready) (λh=>by rw[ha]at h;exact absurd h.2.1 (by simp):¬(Zaq m=true/\ZaG m raw=true/\ZaG m ready=true)));rw[ha]at iy;clear ha;go_wp2_with fail
  refine(iy.out _ aY).mono ?_;rintro e w3⟨rfl,aC⟩;go_wp2;go_ret2;exact Zdo HF.out (b0.trans ((aY.trans (aC.mono aY.size)).mono b0.size))
 have HVa:=Qh ha;rw[ha]at iy;clear ha;go_wp2_with fail
 refine(iy.out _ aY).mono ?_;rintro e w3⟨rfl,aC⟩;clear p0 p1 p2 p3;have aQ:=aY.trans (aC.mono aY.size);have bB:=Qh (Zag HX.out aQ);obtain⟨p0,p1,p2,p3⟩:=Q4 bB.out;cases hy:ZaG m ready
 ·have HF:=Qh (ZcW (m:=m) (raw:=raw) (ready:=ready) (λh=>by rw[hy]at h;exact absurd h.2.2 (by simp):¬(Zaq m=true/\ZaG m raw=true/\ZaG m ready=true)));rw[hy]at Cc;clear hy;go_wp2_with fail
  refine(Cc.out _ aQ).mono ?_;rintro e w4⟨rfl,aM⟩;go_wp2;go_ret2;exact Zdo HF.out (b0.trans ((aQ.trans (aM.mono aQ.size)).mono b0.size))
 have HVy:=Qh hy;rw[hy]at Cc;clear hy;go_wp2_with fail
 refine(Cc.out _ aQ).mono ?_;rintro e w4⟨rfl,aM⟩;clear p0 p1 p2 p3;have hB4:=aQ.trans (aM.mono aQ.size);clear rJ iy Cc cJ bB aF aC aM aY aQ;have nt:m.body.length<=20:=(Za0 zs.out).1.2.2.2.2;have yU:=Qh (λ(k:Nat) (hk:k<m.body.length) (U:World) (hU:Below W1.heap.size W1 U)=>ZnZ _ m eV _ _ raw ready gm ol k U zs.out HVa.out HVy.out hk (sMacro.below eL.out hU) ((Zaa (Zaa sTok)).below zd.out hU) ((Zaa (Zaa sTok)).below ze.out hU));unfold Zpn at yU;have eP:=Qh (λ(k:Nat) (hk:k<m.body.length) (P:List Tok) (nx:Nat) (ok:Bool) (h:ZaP m raw ready k=(P,nx,ok))=>ZkC zs.out HVa.out HVy.out hk h);have HBM:=Qh (λ(k:Nat) (hk:k<m.body.length)=>ZhI zs.out hk [35]);have gJ:=Qh (λ(k:Nat) (hk:k<m.body.length) (h:isM m.body[k] [35,35]=true)=>mark_in zs.out hk h);have wY:w.heap.size<W1.heap.size:=mlt HX.out;clear eL zd ze;go_wp2;go_loopw [8,9,10] (λvd vl va wr=>∃(k:Nat) (D L:List (Elem Tok)),k<=m.body.length/\va=.int .i64 k/\Hid (TwoN W1.heap.size vd D vl L wr)/\Hid (ZaQ m raw ready 0 [] true false=ZaQ m raw ready k ((D++L).map (·.d)) (decide (L.length=0)) false)/\Hid (D.length+L.length<=61*k)/\Hid (∀x∈D++L,x.d.hidden.length<=60)/\Below W1.heap.size W1 wr) (λ_ _ va _=>m.body.length-(intOf va).toNat)
 case atStart=>exact⟨0,[],[],by omega,rfl,TwoN.start _ _,rfl,(show(0:Nat)<=_ by omega),(λx hx=>by simp at hx),hB4⟩
 case round =>
  clear hB4;obtain⟨k,D,L,hk,rfl,HT,dP,gR,ny,hb⟩:=hrel;have fi:=Qh (Zag HX.out hb);obtain⟨ad,cd,hvd,-⟩:=HT.out.d.val;obtain⟨al,cl,hvl,dK,-,-⟩:=HT.out.l.val;subst hvd hvl;obtain⟨N,HN⟩:∃N:Nat,Hid (N=L.length):=⟨L.length,Qh rfl⟩;obtain⟨ND,p8⟩:∃N:Nat,Hid (N=D.length):=⟨D.length,Qh rfl⟩;rw[show L.length=N from HN.out.symm]at HT dK ⊢;rw[show D.length=ND from p8.out.symm]at HT ⊢;have aD:=b0.trans (hb.mono b0.size);obtain⟨p0,p1,p2,p3⟩:=Q4 fi.out;by_cases af:k<m.body.length
  ·obtain⟨bb,ob,rfl⟩:=ie.out (by omega);obtain⟨xa,xc,xf,-,uY,-,-,-,bu,-⟩:=ZaO eZ.out af;have x1:wr.cell? ⟨bb,ob+k*4+1,none⟩=some _:=(hb.cell (p:=⟨bb,ob+k*4+1,none⟩) bu).trans uY;clear uY;have i0:(0:Int)<=(k:Int):=(by omega);have i1:(k:Int)<(m.body.length:Int):=(by omega);cases yn:isM m.body[k] [35,35]
   ·have e1:(m.body[k].text.toList==[35,35])=false:=(by rw[←HBM.out k af];exact yn);have mg:=Qh yn;clear yn;rcases hP:ZaP m raw ready k with⟨P,nx,ok⟩;have HS:=Qh (eP.out k af P nx ok hP);have gd:=Qh hP;have HC:=Qh (yU.out k af _ hb);rw[hP]at HC;try dsimp only at HC
    clear hP;go_wp2_with fail
    refine HC.out.mono ?_;rintro e w3⟨v9,L9,rfl,fF,kA,pE,aC⟩;have aQ:=aD.trans (aC.mono aD.size);clear p0 p1 p2 p3 x1 e1 HC;cases ok
    ·have HF:=Qh (ZgJ (dP.out.trans (Zhg af (λh=>by rw[mg.out]at h;exact absurd h.1 (by simp)) gd.out)));go_wp2;go_ret2;exact Zdo HF.out aQ
    have dv:=hb.trans (aC.mono hb.size);have nG:=Qh (HT.out.below aC);have d7:=Qh HT.out.lt;have cM:=Qh fF;have r6:=Qh pE;have fS:=Qh kA;obtain⟨a9,c9,tP,-⟩:=fF.val;subst tP;have A0:k<=20:=(by omega);have hNL:ND+N<=61*k:=(by have:=gR.out;have:=HN.out;have:=p8.out;omega);have zt:=hb.size;clear fF pE kA HT;go_wp2_with (at_builtin;refine Zhi ti_tok rfl (by decide) ZaX w3 rfl (.tmp 59) (.tmp 60) rfl W1.heap.size W1.heap.size (.slice ad ND cd) (.slice al N cl) rfl nG.out.d rfl nG.out.l nG.out.ld (by have:=HN.out;have:=p8.out;unfold maxLen;omega) (by have:=HN.out;have:=p8.out;omega) dv.size ?_;intro v5 w5 cz cG eq)
    have bg:Below W1.heap.size W1 w5:=dv.grown cG dv.size (λb hb=>(nG.out.d.mine b hb).1);have Cd:∀b,(Value.slice ad ND cd).ownBlock=some b->b<wr.heap.size:=d7.out.1;have eA:Hid (TwoN W1.heap.size v5 (D++L) (.slice a9 L9.length c9) L9 w5):=by
     have Ce:=nG.out.flushed cz cG;have hr9:RowN sTok wr.heap.size 32 (.slice a9 L9.length c9) L9 w5:=cM.out.same (λg hg=>cG.block g (cM.out.mine g hg).2 (λe=>by have:=Cd g e.symm;have:=(cM.out.mine g hg).1;omega)) (λx hx b hb=>cG.block b (sTok.lt (cM.out.el x hx) b hb) (λe=>by have:=Cd b e.symm;have:=(r6.out.2 b (QO.2 ⟨x,hx,hb⟩)).1;omega));have ho9:Own w5 wr.heap.size (L9.flatMap (·.fp)):=Zcq r6.out (λb hb e=>by have:=Cd b e;have:=(r6.out.2 b hb).1;omega) cG;show TwoN _ _ _ _ _ _;have h3s:=aC.size;rcases eq with eq | eq
     ·refine TwoN.fresh cz Ce hr9 ho9 zt (λb hb=>Cd b (by rw[←eq];exact hb)) (λx hx b hb=>?_);rcases Qa hx with hx | hx
      ·exact d7.out.2.2.1 x hx b hb
      ·exact d7.out.2.2.2 x hx b hb
     ·refine⟨cz,hr9.lower zt,Ce.app (ho9.lower zt) (λb hb hx=>?_),(λb hb hv=>?_),(λx hx b hb hv=>?_),(λx hx b hb hv=>?_)⟩
      ·have h1:=(ho9.2 b hx).1;obtain⟨x,bZ,dp⟩:=QO.1 hb;rcases Qa bZ with bZ | bZ
       ·have:=d7.out.2.2.1 x bZ b dp;omega
       ·have:=d7.out.2.2.2 x bZ b dp;omega
      ·rw[eq,Qi]at hb;have:=(cM.out.mine b hv).2;omega
      ·have h1:=(cM.out.mine b hv).1;rcases Qa hx with hx | hx
       ·have:=d7.out.2.2.1 x hx b hb;omega
       ·have:=d7.out.2.2.2 x hx b hb;omega
      ·rw[eq,Qi]at hv;have:=sTok.lt (cM.out.el x hx) b hb;omega
    have vO:P.length=L9.length:=(by rw[←fS.out,QH]);have jl:Hid (ZaQ m raw ready 0 [] true false=ZaQ m raw ready nx (((D++L)++L9).map (·.d)) (decide (L9.length=0)) false):=by
     show _=_;rw[dP.out,Zf6 af (λh=>by rw[mg.out]at h;exact absurd h.1 (by simp)) gd.out (λh=>absurd h.1 (by simp)),QG (l₁:=D++L),fS.out,vO];simp
    have jm:Hid ((D++L).length+L9.length<=61*nx):=(by show _<=_;rw[QC,←vO];have:=HS.out.1;have:=HS.out.2.2.1;have:=HN.out;have:=p8.out;omega);have kR:Hid (∀x∈(D++L)++L9,x.d.hidden.length<=60):=λx hx=>by
     rcases Qa hx with hx | hx
     ·exact ny.out x hx
     ·have hm:x.d∈P:=(by rw[←fS.out];exact List.mem_map.2 ⟨x,hx,rfl⟩);exact HS.out.2.2.2 x.d hm
    have jV:=HS.out.2.1;have qO:=HS.out.2.2.1;clear cz cG eq Cd cM r6 vO;go_wp2;go_roundw;case rel=>exact⟨nx,D++L,L9,jV,by trivial,eA,jl,jm,kR,bg⟩
    case measure=>simp[intOf];omega
   ·have e1:(m.body[k].text.toList==[35,35])=true:=(by rw[←HBM.out k af];exact yn);have bG:k+1<m.body.length:=gJ.out k af yn;have sc:=Qh (dP.out.trans (by rw[ZhE af yn]));have sX:IntKind.i64.wrap ((k:Int)+1)=(k:Int)+1:=QF _ (by omega);clear yn dP;rcases hP:ZaP m raw ready (k+1) with⟨P,nx,ok⟩;have HS:=Qh (eP.out (k+1) bG P nx ok hP);have gd:=Qh hP;have HC:=Qh (yU.out (k+1) bG _ hb);rw[hP]at HC;try dsimp only at HC
    clear hP;go_wp2_with fail
    refine HC.out.mono ?_;rintro e w3⟨v9,L9,rfl,fF,kA,pE,aC⟩;have aQ:=aD.trans (aC.mono aD.size);clear p0 p1 p2 p3 x1 e1 HC;cases ok
    ·have HF:=Qh (ZgJ (sc.out.trans (Zhg bG (λh=>absurd h.2 (by simp)) gd.out)));go_wp2;go_ret2;exact Zdo HF.out aQ
    have dv:=hb.trans (aC.mono hb.size);have nG:=Qh (HT.out.below aC);have d7:=Qh HT.out.lt;have cM:=Qh fF;have r6:=Qh pE;have fS:=Qh kA;obtain⟨a9,c9,tP,-⟩:=fF.val;subst tP;have A0:k<=20:=(by omega);have hNL:ND+N<=61*k:=(by have:=gR.out;have:=HN.out;have:=p8.out;omega);have zt:=hb.size;have vO:Hid (P.length=L9.length):=(by show _=_;rw[←fS.out,QH]);have HFR:Hid (TwoN W1.heap.size (.slice ad ND cd) D (.slice a9 L9.length c9) L9 w3):=TwoN.fresh nG.out.d (nG.out.own.split.1) fF pE zt d7.out.1 d7.out.2.2.1;have HFL:Hid (TwoN W1.heap.size (.slice al N cl) L (.slice a9 L9.length c9) L9 w3):=TwoN.fresh nG.out.l (nG.out.own.split.2.1) fF pE zt d7.out.2.1 d7.out.2.2.2;have jV:=HS.out.2.1;have qO:=HS.out.2.2.1;obtain⟨N9,eS⟩:∃N9:Nat,Hid (N9=L9.length):=⟨L9.length,Qh rfl⟩;rw[show L9.length=N9 from eS.out.symm]at HFR HFL ⊢;clear fF pE kA HT;by_cases hN0:N=0
    ·have hL0:L=[]:=QU.1 (by have:=HN.out;omega);subst hN0;subst hL0;have jl:Hid (ZaQ m raw ready 0 [] true false=ZaQ m raw ready nx ((D++L9).map (·.d)) (decide (L9.length=0)) false):=by
      show _=_;rw[sc.out,Zf6 bG (λh=>absurd h.2 (by simp)) gd.out (λh=>absurd h.2.1 (by simp)),Q5,QG,fS.out,vO.out];simp
     have jm:Hid (D.length+L9.length<=61*nx):=(by show _<=_;have:=vO.out;have:=HS.out.1;have:=p8.out;omega);have kR:Hid (∀x∈D++L9,x.d.hidden.length<=60):=λx hx=>by
      rcases Qa hx with hx | hx
      ·exact ny.out x (by simpa using hx)
      ·have hm:x.d∈P:=(by rw[←fS.out];exact List.mem_map.2 ⟨x,hx,rfl⟩);exact HS.out.2.2.2 x.d hm
     go_wp2_with fail
     refine(ZkE al cl (.slice a9 N9 c9) w3).mono ?_;rintro e w4⟨rfl,rfl⟩;go_wp2;go_roundw;case rel=>exact⟨nx,D,L9,jV,by trivial,HFR,jl,jm,kR,dv⟩
     case measure=>simp[intOf];omega
    by_cases hN9:N9=0
    ·have hL0:L9=[]:=QU.1 (by have:=eS.out;omega);have HP0:Hid (P=[]):=(by show _=_;rw[←fS.out,hL0];rfl);subst hN9;have nZ:Hid (decide (L.length=0)=false):=JQ (by have:=HN.out;omega);have jl:Hid (ZaQ m raw ready 0 [] true false=ZaQ m raw ready nx ((D++L).map (·.d)) (decide (L.length=0)) false):=by
      show _=_;rw[sc.out,Zf6 bG (λh=>absurd h.2 (by simp)) gd.out (λh=>by rw[HP0.out]at h;exact absurd h.2.2 (by simp)),HP0.out,Q5,nZ.out];rfl
     have jm:Hid (D.length+L.length<=61*nx):=(by show _<=_;have:=gR.out;omega);have hNp:0<N:=(by omega);clear hL0;go_wp2_with fail
     refine(ZkF al a9 N cl c9 w3 hNp).mono ?_;rintro e w4⟨rfl,rfl⟩;go_wp2;go_roundw;case rel=>exact⟨nx,D,L,jV,by trivial,nG,jl,jm,ny,dv⟩
     case measure=>simp[intOf];omega
    have hNp:0<N:=(by omega);have hN9p:0<N9:=(by omega);have nZ:Hid (decide (L.length=0)=false):=JQ (by have:=HN.out;omega);have pA:=Qh (map_ne (L:=L) (by have:=HN.out;omega));have HPZ:Hid (P.headD Zaw=(L9.map (·.d)).headD Zaw):=(by show _=_;rw[fS.out]);have HPp:Hid (0<P.length):=(by show _<_;have:=vO.out;have:=eS.out;omega);have hN960:N9<=60:=(by have:=vO.out;have:=eS.out;have:=HS.out.1;omega);have HG:=Qh (ZjL W1.heap.size (.slice al N cl) (.slice a9 N9 c9) L L9 w3 dv.size HFL.out (by have:=HN.out;omega) (by have:=eS.out;omega) (by have:=HN.out;omega) (by have:=eS.out;omega) (λx hx=>ny.out x (by simp[hx])) (λx hx=>HS.out.2.2.2 x.d (by rw[←fS.out];exact List.mem_map.2 ⟨x,hx,rfl⟩)));unfold GlueOf at HG;rcases pU:ZaD ((L.map (·.d)).getLastD Zaw) ((L9.map (·.d)).headD Zaw) with⟨z,fw⟩;rw[pU]at HG;try dsimp only at HG
    have ux:Hid (ZaD (((D++L).map (·.d)).getLastD Zaw) (P.headD Zaw)=(z,fw)):=(by show _=_;rw[QG,last_app pA.out,HPZ.out];exact pU);have HPF:=Qh pU;have Cf:Hid (((L.map (·.d)).getLastD Zaw).hidden.length<=60):=by
     show _<=_;rw[List.getLastD_eq_getLast?,List.getLast?_eq_some_getLast pA.out,Option.getD_some];obtain⟨x,hx,e⟩:=List.mem_map.1 (List.getLast_mem pA.out);rw[←e];exact ny.out x (by simp[hx])
    clear pU;cases fw
    ·have HF:=Qh (ZgJ (sc.out.trans (Zkx bG (λh=>absurd h.2 (by simp)) gd.out ⟨rfl,nZ.out,HPp.out⟩ ux.out)));go_wp2_with fail
     refine HG.out.mono ?_;rintro e w4 (⟨-,rfl,aM⟩ |⟨h,-⟩);rotate_left
     ·exact absurd h (by simp)
     go_wp2;go_ret2;exact Zdo HF.out (aQ.trans (aM.mono aQ.size))
    have mN:=Qh (sc.out.trans (ZiT bG (λh=>absurd h.2 (by simp)) gd.out ⟨rfl,nZ.out,HPp.out⟩ ux.out));have hDL:Hid (∀b∈D.flatMap (·.fp),b∉L9.flatMap (·.fp)):=λb hb hx=>(List.nodup_append.1 HFR.out.own.1).2.2 b hb b hx rfl;go_wp2_with fail
    refine HG.out.mono ?_;rintro e w4 (⟨h,-⟩ |⟨-,v4,X,rfl,gl,hXz,sN,jN,Cg⟩)
    ·exact absurd h (by simp)
    have eA:=Qh (TwoN.glued nG.out HFL.out (λb hb x hx h=>HFR.out.ld x hx b h hb) hDL.out dv.size gl sN jN Cg);have bg:Below W1.heap.size W1 w4:=dv.trans (jN.below (λb hb=>by simp only[Option.mem_toList]at hb;exact(nG.out.l.mine b hb).1) dv.size);have jl:Hid (ZaQ m raw ready 0 [] true false=ZaQ m raw ready nx ((D++(L.dropLast++X::L9.tail)).map (·.d)) (decide ((L.dropLast++X::L9.tail).length=0)) false):=by
     show _=_;rw[mN.out,JQ (by rw[QC,QQ];omega:¬(L.dropLast++X::L9.tail).length=0),QG,drop_app pA.out,QG,QG,QL,List.map_tail,List.map_dropLast,fS.out,hXz,Qn,nZ.out]
    have Ch:Hid ((L.dropLast++X::L9.tail).length=N+N9-1):=(by show _=_;rw[QC,QQ,List.length_dropLast,List.length_tail];have:=HN.out;have:=eS.out;omega);have jm:Hid (D.length+(L.dropLast++X::L9.tail).length<=61*nx):=(by show _<=_;rw[Ch.out];have:=p8.out;omega);have kR:Hid (∀x∈D++(L.dropLast++X::L9.tail),x.d.hidden.length<=60):=λx hx=>by
     have hP9:∀y∈L9,y.d.hidden.length<=60:=λy hy=>HS.out.2.2.2 y.d (by rw[←fS.out];exact List.mem_map.2 ⟨y,hy,rfl⟩);rcases Qa hx with hx | hx
     ·exact ny.out x (by simp[hx])
     ·rcases Qa hx with hx | hx
      ·exact ny.out x (by simp[(List.dropLast_sublist L).subset hx])
      ·rcases Q7.1 hx with rfl | hx
       ·rw[hXz];have h1:=(ZhC HPF.out).2.2.2.2.2;have h2:=Cf.out;omega
       ·exact hP9 x (List.mem_of_mem_tail hx)
    clear gl sN jN Cg hXz;go_wp2;go_roundw;case rel=>exact⟨nx,D,_,jV,by trivial,eA,jl,jm,kR,bg⟩
    case measure=>simp[intOf];omega
  ·have hkl:k=m.body.length:=(by omega);have HSG:Hid (ZaQ m raw ready 0 [] true false=((D++L).map (·.d),true)):=(by show _=_;rw[dP.out,Zf5 (by omega)]);have hNL:ND+N<=61*k:=(by have:=gR.out;have:=HN.out;have:=p8.out;omega);clear hkl;go_upto_region 20 with(at_builtin;refine Zhi ti_tok rfl (by decide) ZaX wr rfl (.tmp 71) (.tmp 72) rfl W1.heap.size W1.heap.size (.slice ad ND cd) (.slice al N cl) rfl HT.out.d rfl HT.out.l HT.out.ld (by have:=HN.out;have:=p8.out;unfold maxLen;omega) (by have:=HN.out;have:=p8.out;omega) hb.size ?_;intro v5 w5 cz cG eq;have Ce:=HT.out.flushed cz cG;have bg:Below W1.heap.size W1 w5:=hb.grown cG hb.size (λb hb=>(HT.out.d.mine b hb).1);obtain⟨AJ,r5,-,f5⟩:=cz.read;have o5:=f5 Ce;obtain⟨a5,c5,mT,-⟩:=cz.val;have hl5:(D++L).length=ND+N:=(by rw[QC];have:=HN.out;have:=p8.out;omega);rw[hl5]at mT;subst mT;have eO:=Qh r5;have nj:=Qh (o5.lower (lo':=w.heap.size) b0.size);have fW:=Qh hl5;clear cz cG eq Ce f5 r5 o5 hl5)
   have kf:=b0.trans (bg.mono b0.size);by_cases h9:240<ND+N
   ·have HF:=Qh (Zjj (raw:=raw) (ready:=ready) HSG.out (by rw[QH,fW.out];exact h9));have e9:(240:Int)<((ND+N:Nat):Int):=(by omega);have e8:(240:Int)<(ND:Int)+(N:Int):=(by omega);go_wp2;go_ret2;exact Zdo HF.out kf
   ·have HF:=Qh (Zky ⟨zs.out,HVa.out,HVy.out⟩ HSG.out (by rw[QH,fW.out];exact h9));have e9:¬(240:Int)<((ND+N:Nat):Int):=(by omega);have e8:¬(240:Int)<(ND:Int)+(N:Int):=(by omega);go_wp2;go_ret2;exact⟨_,AJ,by rw[HF.out];rfl,by rw[HF.out];exact eO.out,nj.out,kf⟩
def ZdZ (m:DMacro)(A:Zbe)(en:Nat)(hs:List ByteArray)(l:List Tok)(R:Zbe):List Tok × Int:=
 if (Zaz m A R).2=true then (if 60<(Zbm (Zaz m A R).1 hs (l.headD Zaw).spaced++l.drop en).length then ([],3) else (Zbm (Zaz m A R).1 hs (l.headD Zaw).spaced++l.drop en,0)) else ([],2)
variable {A:Zbe}{en:Nat}{hs:List ByteArray}{R:Zbe}{b:List Tok}
theorem ZlB (h:Zaz m A R=(b,false)):ZdZ m A en hs l R=([],2):=by unfold ZdZ;rw[h,if_neg (by simp)]
theorem Zq8 (h0:0<l.length)(h:Zaz m A R=(b,true))(hl:60<b.length+(l.length-en)):ZdZ m A en hs l R=([],3):=by
 unfold ZdZ;rw[h,if_pos rfl,if_pos (by rw[QC,Zfq,QM];exact hl)]
theorem repR_yes (h0:0<l.length)(h:Zaz m A R=(b,true))(hl:¬60<b.length+(l.length-en)):ZdZ m A en hs l R=(Zbm b hs l[0].spaced++l.drop en,0):=by
 unfold ZdZ;rw[h,if_pos rfl,if_neg (by rw[QC,Zfq,QM];exact hl)];cases l with
 | nil=>simp at h0
 | cons t r=>rfl
def AfterOf (r:List Tok × Int)(fp:List Nat)(w:World)(e:Ending)(w':World):Prop:=
 ∃(v:Value) (fp':List Nat),e=.returned (.tuple #[v,.int .i64 r.2])/\(Zaa sTok).R w' [v] r.1 fp'/\(∀b∈fp',b∈fp\/w.heap.size<=b)/\Below w.heap.size w w'
theorem AfterOf.none {r:List Tok × Int}{fp:List Nat}{c:Int}{w W:World}(h:r=([],c))(hb:Below w.heap.size w W):AfterOf r fp w (.returned (.tuple #[.slice none 0 0,.int .i64 c])) W:=
 ⟨_,[],by rw[h],by rw[h];exact Zao _ _ _ _ (by simp),by simp,hb⟩
theorem ZhU {t:Tok}(h:Zaj t=true):t.hidden.length<=60/\Up t.hidden:=⟨(ZdR (Zcx h)).1,(ZdR (Zcx h)).2.2⟩
theorem ZmE (eE:List Value)(m:DMacro)(eV:List Nat)(vA vH:Value)(A:Zbe)(fA:List Nat)(en:Nat)(hs:List ByteArray)(fH:List Nat)(v:Value)(l:List Tok)(fp:List Nat)(vR:Value)(R:Zbe)(fR:List Nat)(w:World)(h0:0<l.length)(je:l.length<=60)(hen:en<=l.length)(hhs:hs.length<=100000)
  (HM:sMacro.R w eE m eV) (HA:(Zaa sToks).R w [vA] A fA) (HH:(Zaa sStr).R w [vH] hs fH) (H:(Zaa sTok).R w [v] l fp) (HR:(Zaa sToks).R w [vR] R fR) :
  Calls Tryz.prog 90 #[.agg (eE++[vA,.int .i64 en,vH]).toArray,v,vR] w (AfterOf (ZdZ m A en hs l R) fp w):=by
 have gb:=HM;obtain⟨h2,h3,q2,q3,rfl,-,K2,K3,-⟩:=HM;obtain⟨a2,c2,rfl,-⟩:=Zaf K2;obtain⟨a3,c3,rfl,-⟩:=Zac K3;have sF:=HA;obtain⟨aA,cA,rfl,-⟩:=Zac HA;have HH0:=HH;obtain⟨aH,cH,rfl,-⟩:=Zaf HH;have vN:=H;have d7:=Qh ((Zaa sTok).lt H);obtain⟨al,cl,rfl,dK,iu,ai⟩:=Zac H;unfold maxLen at iu;obtain⟨bw,ow,-,rfl,-,-,-⟩:=ai h0;have HX:=Qh (JS w (.cells #[.string m.name,.bool m.function,.slice a2 m.params.length c2,.slice a3 m.body.length c3,.slice aA A.length cA,.int .i64 (en:Nat),.slice aH hs.length cH] 129));have b0:=Zab w (.cells #[.string m.name,.bool m.function,.slice a2 m.params.length c2,.slice a3 m.body.length c3,.slice aA A.length cA,.int .i64 (en:Nat),.slice aH hs.length cH] 129);have eL:=Qh (sMacro.below gb b0);have k7:=Qh ((Zaa sToks).below sF b0);have HH1:=Qh ((Zaa sStr).below HH0 b0);have kj:=Qh ((Zaa sTok).below vN b0);have iG:=Qh ((Zaa sToks).below HR b0);clear gb K2 K3 HA sF HH HH0 H vN HR ai;go_enter Tryz.func90,Tryz.ntmps90;go_upto_region 1 with fail
 generalize (w.alloc (.cells #[.string m.name,.bool m.function,.slice a2 m.params.length c2,.slice a3 m.body.length c3,.slice aA A.length cA,.int .i64 (en:Nat),.slice aH hs.length cH] 129))=W1 at *;have p0:=Qc 0 HX.out;have p1:=Qc 1 HX.out;have p2:=Qc 2 HX.out;have p3:=Qc 3 HX.out;have p4:=Qc 4 HX.out;have p5:=Qc 5 HX.out;have p6:=Qc 6 HX.out;have lw:=Qh (ZkS _ m eV _ _ A R fA fR W1 eL.out k7.out iG.out);unfold ZlA at lw;have Ci:Hid (∀t∈(Zaz m A R).1,Zaj t=true):=sub_ok;have xy:Hid ((Zaz m A R).1.length<=240):=Zlr m A R;rcases wC:Zaz m A R with⟨b,ok⟩;rw[wC]at lw Ci xy;try dsimp only at lw Ci xy
 have HSR:=Qh wC;clear wC;cases ok
 ·have HF:=Qh (ZlB (en:=en) (hs:=hs) (l:=l) HSR.out);go_wp2_with fail
  refine lw.out.mono ?_;rintro e w2⟨vB,fB,rfl,RB,-,aF⟩;obtain⟨aB,cB,rfl,-⟩:=Zac RB;clear RB;go_wp2;go_ret2;exact AfterOf.none HF.out (b0.trans (aF.mono b0.size))
 go_wp2_with fail
 refine lw.out.mono ?_;rintro e w2⟨vB,fB,rfl,RB,OB,aF⟩;obtain⟨aB,cB,rfl,-⟩:=Zac RB;clear p0 p1 p2 p3 p4 p5 p6 lw;have aY:=b0.trans (aF.mono b0.size);have cJ:=Qh (Zag HX.out aF);have lE:=Qh ((Zaa sTok).below kj.out aF);have HH2:=Qh ((Zaa sStr).below HH1.out aF);have dH:=Qh RB;have bK:b.length<=240:=xy.out;obtain⟨nb,lp⟩:∃nb:Nat,Hid (nb=b.length):=⟨_,Qh rfl⟩;rw[show b.length=nb from lp.out.symm]at dH bK ⊢;clear RB OB aF b0 HX eL k7 HH1 kj iG;go_upto_region 4 with fail
 obtain⟨xa,xc,xf,x0,x1,x2,x3,xR,bu,-⟩:=ZaO lE.out h0;simp only[Nat.zero_mul,Q0]at x0 x1 x2 x3;have oh:=Qh (And.intro x0 (And.intro x1 (And.intro x2 x3)));have lr:=Qh xR;have eP:Hid (∀Q:World,Below w2.heap.size w2 Q->(λw'=>w'.heap[w.heap.size]?=some (.cells #[.string m.name,.bool m.function,.slice a2 m.params.length c2,.slice a3 m.body.length c3,.slice aA A.length cA,.int .i64 (en:Nat),.slice aH hs.length cH] 129 (0,0))/\w'.cell? ⟨bw,ow,none⟩=some (.int .i64 l[0].kind)/\w'.cell? ⟨bw,ow+1,none⟩=some (.string l[0].text)/\w'.cell? ⟨bw,ow+2,none⟩=some (.bool l[0].spaced)/\w'.cell? ⟨bw,ow+3,none⟩=some (.slice xa l[0].hidden.length xc)) Q):=λQ hQ=>⟨Zag cJ.out hQ,(hQ.cell (p:=⟨bw,ow,none⟩) bu).trans oh.out.1,(hQ.cell (p:=⟨bw,ow+1,none⟩) bu).trans oh.out.2.1,(hQ.cell (p:=⟨bw,ow+2,none⟩) bu).trans oh.out.2.2.1,(hQ.cell (p:=⟨bw,ow+3,none⟩) bu).trans oh.out.2.2.2⟩;have jU:=Qh (λ(Q:World) (hQ:Below w2.heap.size w2 Q)=>Zdr _ l[0] xf (.slice aB nb cB) b fB Q (by have:=xy.out;omega) (λk hk=>by have:=(ZhU (Ci.out _ (QE hk))).1;omega) (sTok.below lr.out hQ) ((Zaa sTok).below dH.out hQ));clear x0 x1 x2 x3 xR;have aS:Below w2.heap.size w2 w2.drew:=Zah (QD _ _) 1;refine wp_region_noPanic ?_;refine JU (S:=λw'=>w'.heap[w.heap.size]?=some (.cells #[.string m.name,.bool m.function,.slice a2 m.params.length c2,.slice a3 m.body.length c3,.slice aA A.length cA,.int .i64 (en:Nat),.slice aH hs.length cH] 129 (0,0))/\w'.cell? ⟨bw,ow,none⟩=some (.int .i64 l[0].kind)/\w'.cell? ⟨bw,ow+1,none⟩=some (.string l[0].text)/\w'.cell? ⟨bw,ow+2,none⟩=some (.bool l[0].spaced)/\w'.cell? ⟨bw,ow+3,none⟩=some (.slice xa l[0].hidden.length xc)) (by kernel_rfl) (by exact eP.out _ aS) (λac=>?_);generalize hwd:w2.drew=wd at *;refine Qt 0 22 rfl rfl ?_;try simp only[Qp]
 refine Qt 1 23 rfl rfl ?_;try simp only[Qp]
 refine Qt 2 24 rfl rfl ?_ (by intro w aI;obtain⟨-,t0,t1,t2,t3⟩:=aI;go_simp;(first | done | with_reducible rfl | rfl));try simp only[Qp]
 refine Qt 3 25 rfl rfl ?_;try simp only[Qp]
 refine Qt 5 27 rfl rfl ?_;try simp only[Qp]
 refine Qt 6 28 rfl rfl ?_ (by intro w aI;have p6:=Qc 6 aI.1;go_simp;(first | done | with_reducible rfl | rfl));try simp only[Qp]
 refine Qr 4 rfl (λK hK=>?_);go_simp;refine(jU.out _ aS).mono ?_;rintro e w3⟨v3,L3,rfl,R3,D3,O3,aC⟩;obtain⟨f3,r3,g3,-⟩:=R3.read;rw[D3]at r3;obtain⟨a3_,kE,rfl,-⟩:=Zac r3;have d8:=aS.trans (aC.mono aS.size);refine hK.out _ _ (eP.out _ d8) (λac=>?_);clear hK K;try simp only[Qp]
 refine Qr 7 rfl (λK hK=>?_);go_simp;have HHN:=Qh (Zlw _ (spc l[0].spaced b) f3 _ hs fH w3 (by rw[Zli];have:=xy.out;omega) (λt ht=>(ZhU (ZkP Ci.out t ht)).2) (λt ht=>by have:=(ZhU (ZkP Ci.out t ht)).1;omega) hhs r3 ((Zaa sStr).below HH2.out d8));refine HHN.out.mono ?_;rintro e w4⟨v4,L4,rfl,R4,D4,F4,aM⟩;rw[put_spc]at D4;have iK:=d8.trans (aM.mono d8.size);refine hK.out _ _ (eP.out _ iK) (λac=>?_);clear hK K;try simp only[Qp]
 refine Qt 8 8 rfl rfl ?_;try simp only[Qp]
 refine wpAnyH_done (by kernel_rfl) ?_ _;refine QP ?_;clear ac;have hB4:=aY.trans (iK.mono aY.size);have dJ:=Qh (Zag cJ.out iK);have kD:=Qh ((Zaa sTok).below lE.out iK);have h24:w.heap.size<=w3.heap.size:=by have:=aY.size;have:=d8.size;omega
 have gl:=Qh (R4.lower (base':=w.heap.size) h24);have HD4:=Qh D4;have HF4:Hid (∀x∈L4,∀b∈x.fp,w.heap.size<=b):=λx hx c hc=>by
  rcases F4 x hx c hc with h | h
  ·rcases g3 c h with h1 | ⟨y,hy,h1⟩
   ·have:=(R3.mine c h1).1;have:=aY.size;have:=aS.size;omega
   ·have:=(O3.2 c (QO.2 ⟨y,hy,h1⟩)).1;have:=aY.size;have:=aS.size;omega
  ·omega
 have hL4:L4.length=nb:=by have:=JY List.length D4;rw[QH,Zfq]at this;rw[this,lp.out]
 obtain⟨a4,c4,Cg,-⟩:=R4.val;rw[hL4]at Cg;subst Cg;have Cj:=Qh hL4;clear R3 D3 O3 r3 g3 aC R4 D4 F4 aM hL4 oh lr eP jU cJ lE HH2 dH aS hwd;have p5:=Qc 5 dJ.out;obtain⟨sv,fQ⟩:∃sv:Value,Hid (sv=.slice (if cl=en then some ⟨bw,ow,none⟩ else some ⟨bw,ow+en*4,none⟩) (l.length-en) (cl-en)):=⟨_,Qh rfl⟩;have o1:(0:Int)<=(en:Int):=by omega
 have o2:(en:Int)<=(l.length:Int):=by omega
 have o3:(en:Int)<=(cl:Int):=by omega
 have o4:en<=cl:=by omega
 go_upto_region 5 with fail
 go_cut [10] from 11 to 43 (λd wx=>d=sv/\wx=w4)
 case first =>
  by_cases h1:cl=en
  ·have fV:Hid (sv=.slice (some ⟨bw,ow,none⟩) (l.length-en) (cl-en)):=(by show _=_;rw[fQ.out,if_pos h1]);have mj:=Qh h1;go_wp2;go_meet;case rel=>exact⟨by rw[fV.out];simp[mj.out],by trivial⟩
  ·have fV:Hid (sv=.slice (some ⟨bw,ow+en*4,none⟩) (l.length-en) (cl-en)):=(by show _=_;rw[fQ.out,if_neg h1]);go_wp2;go_meet;case rel=>exact⟨by rw[fV.out],by trivial⟩
 obtain⟨rfl,rfl⟩:=hcut;generalize wc=w4 at *;obtain⟨bA,gf,gZ⟩:=Zbp en hen kD.out;rw[JM,JN,show sTok.m=4 from rfl]at gf;have fc:Hid ((Zaa sTok).R w4 [u10] (l.drop en) bA):=by show(Zaa sTok).R _ _ _ _;rw[fQ.out];exact gf
 obtain⟨nr,sM⟩:∃nr:Nat,Hid (nr=l.length-en):=⟨_,Qh rfl⟩;obtain⟨ar,cr,sK,-⟩:=Zac gf;have HU:Hid (u10=.slice (if cl=en then some ⟨bw,ow,none⟩ else some ⟨bw,ow+en*4,none⟩) nr (cl-en)):=by show _=_;rw[fQ.out,sM.out]
 obtain⟨au,hau⟩:∃au:Option Addr,au=(if cl=en then some ⟨bw,ow,none⟩ else some ⟨bw,ow+en*4,none⟩):=⟨_,rfl⟩;rw[←hau]at HU;have HU2:=HU.out;subst HU2;clear hau HU fQ sK gf p5 o1 o2 o3 o4;have hnr60:nr<=60:=by have:=sM.out;omega
 have pq:=Qh gZ;by_cases oE:60<nb+nr
 ·have HF:=Qh (Zq8 (en:=en) (hs:=hs) h0 HSR.out (by rw[←lp.out,←sM.out];exact oE));have e1:(60:Int)<(nb:Int)+(nr:Int):=by omega
  clear oE;go_wp2;go_ret2;exact AfterOf.none HF.out hB4
 have HF:=Qh (repR_yes (en:=en) (hs:=hs) h0 HSR.out (by rw[←lp.out,←sM.out];exact oE));have e1:¬(60:Int)<(nb:Int)+(nr:Int):=by omega
 have cV:Hid (∀b∈bA,(Value.slice a4 nb c4).ownBlock≠some b):=λc hc h=>by
  have h1:=(gl.out.mine c h).1;have h2:=d7.out c (pq.out c hc);omega
 have hdl:Hid ((l.drop en).length<=60):=by show _<=_;rw[QM];omega
 clear oE;go_wp2_with (at_builtin;refine ZbF ti_tok rfl (by decide) ZaX _ rfl (.tmp 40) (.tmp 41) rfl w.heap.size (.slice a4 nb c4) _ (l.drop en) bA rfl gl.out rfl fc.out cV.out (by have:=Cj.out;have:=hdl.out;unfold maxLen;omega) (by have:=Cj.out;have:=hdl.out;omega) hB4.size ?_;intro v5 X w5 hX dN cz cG eq)
 have bg:=hB4.grown cG hB4.size (λb hb=>(gl.out.mine b hb).1);obtain⟨f5,r5,g5,-⟩:=cz.read;have fe:Hid ((Zaa sTok).R w5 [v5] (Zbm b hs l[0].spaced++l.drop en) f5):=by
  show(Zaa sTok).R _ _ _ _;rw[QG,HD4.out,hX]at r5;exact r5
 have HGG:Hid (∀c∈f5,c∈fp\/w.heap.size<=c):=λc hc=>by
  rcases g5 c hc with h1 | ⟨x,hx,h1⟩
  ·exact .inr (cz.mine c h1).1
  ·rcases Qa hx with hx | hx
   ·exact .inr (HF4.out x hx c h1)
   ·exact .inl (pq.out c (dN x hx c h1))
 clear hX dN cz cG eq r5 g5;go_wp2;go_ret2;exact⟨v5,f5,by rw[HF.out];rfl,by rw[HF.out];exact fe.out,HGG.out,bg⟩
def ZcH (f:List Tok->Nat->Zde)(m:DMacro)(l:List Tok):Nat->List Tok × Nat × Int
 | 0=>([],0,3)
 |
  s+1 =>
  match Zdf m l with
  | none=>([],s,1)
  |
   some (A,en,hs) =>
   if (ZaL f A s).2.2=0 then ((ZdZ m A en hs l (ZaL f A s).1).1,(ZaL f A s).2.1,(ZdZ m A en hs l (ZaL f A s).1).2) else ([],(ZaL f A s).2)
section
variable {f:List Tok->Nat->Zde}{m:DMacro}{l:List Tok}{s en q:Nat}{A R:Zbe}{hs:List ByteArray}{c:Int}{x:List Tok}
theorem ZiX (h:Zdf m l=none):ZcH f m l (s+1)=([],s,1):=by unfold ZcH;rw[h]
theorem ZiH (h:Zdf m l=some (A,en,hs))(ha:ZaL f A s=(R,q,c))(hc:c≠0):ZcH f m l (s+1)=([],q,c):=by
 unfold ZcH;rw[h];simp only[ha];rw[if_neg hc]
theorem Zd0 (h:Zdf m l=some (A,en,hs))(ha:ZaL f A s=(R,q,0))(hr:ZdZ m A en hs l R=(x,c)):ZcH f m l (s+1)=(x,q,c):=by
 unfold ZcH;rw[h];simp only[ha];rw[if_pos trivial,hr]
end
variable {m:DMacro}{l:List Tok}
theorem Zq9 (h:m.function=true){A:Zbe}{e:Nat}(hs:Zax (l.drop 2) 1 [] [] 2=(A,e,true))(hn:Zcl m.params.length A=m.params.length):
  Zdf m l=some (A.take m.params.length,e,ins (both (l.headD Zaw).hidden (l.getD (e-1) Zaw).hidden) m.name):=by
 unfold Zdf;rw[if_neg (by simp[h]),hs,if_pos ⟨rfl,hn⟩]
variable {A:Zbe}{en:Nat}{hs:List ByteArray}
theorem Zn0 {R:Zbe}{b:List Tok}(h:Zaz m A R=(b,true)):
  ZdZ m A en hs l R=if 60<(Zbm b hs (l.headD Zaw).spaced++l.drop en).length then ([],3) else (Zbm b hs (l.headD Zaw).spaced++l.drop en,0):=by unfold ZdZ;rw[h,if_pos rfl]
variable {T:List DMacro}
theorem Zn1 {n s:Nat}{out r:List Tok}{t:Tok}(h:goM T (t::r)=some m):
  Zak T (n+1) (s+1) out (t::r)=if (ZcH (λa k=>Zak T n k [] a) m (t::r) (s+1)).2.2=0 then Zak T n (ZcH (λa k=>Zak T n k [] a) m (t::r) (s+1)).2.1 out (ZcH (λa k=>Zak T n k [] a) m (t::r) (s+1)).1 else ([],(ZcH (λa k=>Zak T n k [] a) m (t::r) (s+1)).2):=by
 cases hf:m.function
 ·have hu:=ZnW (m:=m) (l:=t::r) (by simp) hf;rcases hc:Zaz m [] []with⟨b,ok⟩;cases ok
  ·rw[Zez h hf hc,Zd0 hu (show ZaL _ [] s=([],s,0) from rfl) (ZlB hc),if_neg (by simp)]
  ·have hg:=Zn0 (en:=1) (hs:=ins (t::r)[0].hidden m.name) (l:=t::r) hc;have e1:Zbm b (ins (t::r)[0].hidden m.name) ((t::r).headD Zaw).spaced++(t::r).drop 1=Zbm b (ins t.hidden m.name) t.spaced++r:=rfl;rw[e1]at hg;by_cases hl:60<(Zbm b (ins t.hidden m.name) t.spaced++r).length
   ·rw[if_pos hl]at hg;rw[ZdU h hf hc hl,Zd0 hu (show ZaL _ [] s=([],s,0) from rfl) hg,if_neg (by simp)]
   ·rw[if_neg hl]at hg;rw[Zef h hf hc hl,Zd0 hu (show ZaL _ [] s=([],s,0) from rfl) hg,if_pos rfl]
 ·rcases hS:Zax ((t::r).drop 2) 1 [] [] 2 with⟨A,e,ok⟩;cases ok
  ·rw[Zcy h hf (Zpf hS) (by simp),ZiX (Zpl hf hS),if_neg (by simp)]
  by_cases hn:Zcl m.params.length A=m.params.length;rotate_left
  ·rw[Zcy h hf (ZnL hS hn) (by simp),ZiX (ZnX hf hS hn),if_neg (by simp)]
  have hu:=Zq9 hf hS hn;rcases ha:ZaL (λa k=>Zak T n k [] a) (A.take m.params.length) s with⟨R,l,c⟩;by_cases hc:c=0;rotate_left
  ·rw[Zcy h hf (Zmo hS hn ha hc) hc,ZiH hu ha hc,if_neg hc]
  subst hc;rcases hb:Zaz m (A.take m.params.length) R with⟨b,fw⟩;cases fw
  ·rw[Zcy h hf (ZkM hS hn ha hb) (by simp),Zd0 hu ha (ZlB hb),if_neg (by simp)]
  ·have hg:=Zn0 (en:=e) (hs:=ins (both ((t::r).headD Zaw).hidden ((t::r).getD (e-1) Zaw).hidden) m.name) (l:=t::r) hb;have hy:=ZnM hS hn ha hb;split at hg
   ·rename_i hl;rw[Zdh h hf hy hl,Zd0 hu ha hg,if_neg (by simp)]
   ·rename_i hl;rw[Zdn h hf hy hl,Zd0 hu ha hg,if_pos rfl]
def EBox (eb:Nat)(vT:Value)(k:Nat)(w:World):Prop:=w.heap[eb]?=some (.cells #[vT,.int .i64 (k:Nat)] 74 (0,0))
theorem EBox.below {eb:Nat}{vT:Value}{k:Nat}{w w':World}(h:EBox eb vT k w)(hb:Below w.heap.size w w'):EBox eb vT k w':=Zag h hb
def MineX (eb:Nat)(vT:Value)(r:Zde)(w:World)(e:Ending)(w':World):Prop:=
 ∃(v:Value) (L:List (Elem Tok)) (k':Nat),e=.returned (.tuple #[v,.int .i64 r.2.2])/\RowN sTok w.heap.size 32 v L w'/\L.map (·.d)=r.1/\Own w' w.heap.size (L.flatMap (·.fp))/\EBox eb vT k' w'/\(r.2.2=0->k'+r.2.1=100)/\Kept [eb] w w'
def AllOf (eb:Nat)(vT:Value)(r:List (List Tok) × Nat × Int)(w:World)(e:Ending)(w':World):Prop:=
 ∃(v:Value) (fp:List Nat) (k':Nat),e=.returned (.tuple #[v,.int .i64 r.2.2])/\(Zaa sToks).R w' [v] r.1 fp/\(∀b∈fp,w.heap.size<=b)/\EBox eb vT k' w'/\(r.2.2=0->k'+r.2.1=100)/\Kept [eb] w w'
def StepOf (eb:Nat)(vT:Value)(fp:List Nat)(r:List Tok × Nat × Int)(w:World)(e:Ending)(w':World):Prop:=
 ∃(v:Value) (fp':List Nat) (k':Nat),e=.returned (.tuple #[v,.int .i64 r.2.2])/\(Zaa sTok).R w' [v] r.1 fp'/\(∀b∈fp',b∈fp\/w.heap.size<=b)/\EBox eb vT k' w'/\(r.2.2=0->k'+r.2.1=100)/\Kept [eb] w w'
def Zfu (N:List ByteArray)(t:Tok):Prop:=Tx t/\HidIn N t
def ExpI (T:List DMacro)(N:List ByteArray)(n:Nat):Prop:=
 ∀(eb:Nat) (vT:Value) (cE:List Nat) (v:Value) (l:List Tok) (fp:List Nat) (s k:Nat) (w:World),s<=n->k+s=100->l.length<=60->(∀t∈l,Zfu N t)->EBox eb vT k w->(Zaa sMacro).R w [vT] T cE->eb∉cE->(Zaa sTok).R w [v] l fp->eb∉fp ->
  Calls Tryz.prog 39 #[.pointer (some ⟨eb,0,none⟩),v] w (MineX eb vT (Zak T n s [] l) w)
theorem Kept.after {K:List Nat}{w w1 w2:World}(h:Kept K w w1)(hb:Below w1.heap.size w1 w2):Kept K w w2:=h.trans (Kept.of_below hb)
variable {N:List ByteArray}
theorem ZlC {n:Nat}(HE:ExpI T N n)(eb:Nat)(vT:Value)(cE:List Nat)(vA:Value)(A:List (List Tok))(fA:List Nat)(s k0:Nat)(w:World)(hs:s<=n)(hk:k0+s=100)(By:A.length<=60)(hA:∀a∈A,a.length<=60/\∀t∈a,Zfu N t)
  (HB:EBox eb vT k0 w) (HT:(Zaa sMacro).R w [vT] T cE) (sV:eb∉cE) (H:(Zaa sToks).R w [vA] A fA) (heA:eb∉fA) :
  Calls Tryz.prog 89 #[.pointer (some ⟨eb,0,none⟩),vA] w (AllOf eb vT (ZaL (λa k=>Zak T n k [] a) A s) w):=by
 have H0:=Qh H;have mP:=Qh HT;have nY:=Qh hA;have heb:eb<w.heap.size:=mlt HB;obtain⟨aA,cA,rfl,hcA,hmA,ai⟩:=Zac H;unfold maxLen at hmA;clear H HT hA;go_enter Tryz.func89,Tryz.ntmps89;go_wp2;go_loopw [6,13] (λvr i wr=>∃(k s' kk:Nat) (R:List (Elem (List Tok))),k<=A.length/\i=.int .i64 k/\s'<=s/\kk+s'=100/\Hid (AccA (λa k=>Zak T n k [] a) A s k s' (R.map (·.d)))/\Hid (RowN sToks w.heap.size 24 vr R wr)/\Hid (R.length=k)/\Hid (∀x∈R,∀b∈x.fp,w.heap.size<=b)/\Hid (EBox eb vT kk wr)/\Hid (Kept [eb] w wr)) (λ_ i _=>A.length-(intOf i).toNat)
 case atStart=>exact⟨0,s,k0,[],by omega,rfl,QA _,hk,AccA.start _ _ _,RowN.nil _ _ _ _,rfl,(λx hx=>by simp at hx),HB,Kept.refl _ _⟩
 case round =>
  obtain⟨k,s',kk,R,bY,rfl,hss,yo,nI,ov,iC,fM,d6,HK⟩:=hrel;obtain⟨ar,cr,sK,-⟩:=ov.out.val;rw[iC.out]at sK;subst sK;have gN:=HK.out.size;by_cases af:k<A.length
  ·obtain⟨ba,oa,-,rfl,-,-,-⟩:=ai (by omega);have HRr:=Qh ((Zaa sToks).kept H0.out (λb hb=>by simp only[JA];rintro rfl;exact heA hb) HK.out);obtain⟨aj,cj,fj,q1,RX,bK,pT⟩:=Zdd HRr.out af;have hga:=nY.out _ (QE af);have iq:=Qh (HE eb vT cE _ A[k] fj s' kk wr (by omega) yo hga.1 hga.2 d6.out ((Zaa sMacro).kept mP.out (λb hb=>by simp only[JA];rintro rfl;exact sV hb) HK.out) sV RX (λh=>heA (pT _ h)));have zj:=Qh (ZkH T n A[k] s' []);rcases hx:Zak T n s' [] A[k]with⟨x,lf,c⟩;rw[hx]at iq zj;have Bz:Hid ((λa k=>Zak T n k [] a) A[k] s'=(x,lf,c)):=hx;unfold MineX at iq;try dsimp only at iq
   have hlf:lf<=s':=zj.out;have i0:(0:Int)<=(k:Int):=(by omega);have i1:(k:Int)<(A.length:Int):=(by omega);clear hx hga HRr RX bK pT ai;go_wp2_with fail
   refine iq.out.mono ?_;rintro e w5⟨vx,L,k5,rfl,RL,mV,OL,vP,fg,K5⟩;have yQ:=Qh K5;have nk:=Qh (HK.out.trans K5);have lb:=Qh vP;obtain⟨fx,rx,gx,ox⟩:=RL.read;have hox:=ox OL;rw[mV]at rx;obtain⟨ax,cx,rfl,-⟩:=Zac rx;clear q1 iq vP K5;by_cases dm:c=0;rotate_left
   ·have HF:=Qh (nI.out.stop af Bz.out dm);have e2:(c != 0)=true:=(by simp[dm]);have Ck:=Qh dm;clear dm fg;go_wp2;go_ret2;exact⟨_,[],k5,by rw[HF.out];rfl,by rw[HF.out];exact Zao _ _ _ _ (by simp),by simp,lb.out,λh=>by rw[HF.out]at h;exact absurd h Ck.out,nk.out⟩
   subst dm;have pa:k5+lf=100:=fg rfl;have HN:=Qh (nI.out.step af Bz.out);have t6:=Qh (ov.out.kept yQ.out (λg hg=>by simp only[JA];have:=(ov.out.mine g hg).1;omega) (λx hx b hb=>by simp only[JA];have:=fM.out x hx b hb;omega));have hw5:=yQ.out.size;have bl:=Zab w5 (.cells #[.slice ax x.length cx] 24);have im:=Qh (JS w5 (.cells #[.slice ax x.length cx] 24));have pw:=Qh (t6.out.below bl);have RX6:=Qh (sToks.below rx bl);have Cl:Hid (∀b∈fx,wr.heap.size<=b):=λb hb=>(hox.2 b hb).1;have HVX:Hid (∀b∈fx,(Value.slice ar k cr).ownBlock≠some b):=λb hb h=>by
    have h1:=(ov.out.mine b h).2;have:=Cl.out b hb;omega
   have HEB6:=Qh (lb.out.below bl);have gt:=Qh (nk.out.after bl);clear RL OL gx ox hox rx mV bl fg;go_wp2_with (at_builtin;refine ZaT (X:=[(⟨[.slice ax x.length cx],x,fx⟩:Elem (List Tok))]) Zf4 rfl (by decide) _ rfl (.tmp 26) (.tmp 28) rfl w.heap.size (.slice ar k cr) rfl pw.out ⟨w5.heap.size,0,none⟩ 1 1 rfl rfl (λy hy=>by obtain rfl:=Qm hy;exact⟨rfl,RX6.out,HVX.out⟩) (λy hy u hu=>by obtain rfl:=Qm hy;rw[Qm hu];rfl) (λj u hj=>by rw[ZaZ,QX,cell_of_row _ _ _ _ _ _ im.out];simpa using hj) (by have:=iC.out;unfold maxLen;omega) (by have:=iC.out;omega) (by have:=gt.out.size;omega) ?_;intro v7 w7 eQ dc iA)
   have mH:Hid (Kept [eb] w w7):=⟨dc.os.trans gt.out.os,dc.tape.trans gt.out.tape,dc.output.trans gt.out.output,QZ gt.out.size dc.size,λb hb hn=>(dc.block b (by have:=gt.out.size;omega) (λe=>by have:=(pw.out.mine b e.symm).1;omega)).trans (gt.out.block b hb hn)⟩;have HEB7:Hid (EBox eb vT k5 w7):=(dc.block eb (by have:=gt.out.size;omega) (λe=>by have:=(pw.out.mine eb e.symm).1;omega)).trans HEB6.out;have fO:=Qh eQ;have HF7:Hid (∀y∈R++[(⟨[.slice ax x.length cx],x,fx⟩:Elem (List Tok))],∀b∈y.fp,w.heap.size<=b):=λy hy b hb=>by
    rcases Qa hy with hy | hy
    ·exact fM.out y hy b hb
    ·rw[Qm hy]at hb;have:=Cl.out b hb;omega
   have HN7:Hid (AccA (λa k=>Zak T n k [] a) A s (k+1) lf ((R++[(⟨[.slice ax x.length cx],x,fx⟩:Elem (List Tok))]).map (·.d))):=(by show AccA _ _ _ _ _ _;rw[QG];exact HN.out);have HL7:Hid ((R++[(⟨[.slice ax x.length cx],x,fx⟩:Elem (List Tok))]).length=k+1):=(by show _=_;rw[QC,iC.out];rfl);clear eQ dc iA;go_wp2;go_roundw;case rel=>exact⟨k+1,lf,k5,_,by omega,by go_num,by omega,pa,HN7,fO,HL7,HF7,HEB7,mH⟩
   case measure=>simp[intOf];omega
  ·have lh:k=A.length:=(by omega);have iy:=Qh (nI.out.done (by omega));obtain⟨fr,rr,gr,-⟩:=ov.out.read;have fe:=Qh rr
   have HG:=Qh (λb hb=>(show w.heap.size<=b from by
    rcases gr b hb with h | ⟨x,hx,h⟩
    ·exact(ov.out.mine b h).1
    ·exact fM.out x hx b h))
   clear rr gr lh;go_wp2;go_ret2;exact⟨_,fr,kk,by rw[iy.out];rfl,by rw[iy.out];exact fe.out,HG.out,d6.out,λ_=>by rw[iy.out];exact yo,HK.out⟩
theorem head_mem (h0:0<l.length):l.headD Zaw∈l:=by
 cases l with
 | nil=>simp at h0
 | cons t r=>simp
theorem Zra (a b:List ByteArray):(both a b).length<=a.length:=List.length_filter_le _ _
theorem Zmu (h:Zdf m l=some (A,en,hs))(hl:l.length<=60)(h0:0<l.length)(hg:∀t∈l,Zfu N t)(hN:N.length<=5000)(hm:m.name∈N):
  A.length<=60/\(∀a∈A,a.length<=60/\∀t∈a,Zfu N t)/\en<=l.length/\hs.length<=100000/\∀x∈hs,x∈N:=by
 have hh:=(hg _ (head_mem h0)).2;have hhl:=hh.len;unfold Zdf at h;split at h
 ·simp only[Qi,QS]at h;obtain⟨rfl,rfl,rfl⟩:=h;have:=ZhR m.name (l.headD Zaw).hidden;refine⟨by simp,by simp,h0,by omega,λx hx=>?_⟩;rcases ZeK hx with rfl | hx
  ·exact hm
  ·exact hh.2 x hx
 ·split at h
  ·rename_i h1;simp only[Qi,QS]at h;obtain⟨rfl,rfl,rfl⟩:=h;have h2:=ZhN (l.drop 2) 1 [] [] 2 (B:=60) (by simp) (by rw[QM];simp;omega);have h3:=Zgx (P:=Zfu N) (l.drop 2) 1 [] [] 2 (λt ht=>hg t (JG ht)) (by simp) (by simp);have h4:=Zdy (l.drop 2) 1 [] [] 2 (R:=(Zax (l.drop 2) 1 [] [] 2).1) (e:=(Zax (l.drop 2) 1 [] [] 2).2.1) (by rw[←h1.1]);rw[QM]at h4;have h5:=h2.2;rw[QM]at h5;have h6:=ZhR m.name (both (l.headD Zaw).hidden (l.getD ((Zax (l.drop 2) 1 [] [] 2).2.1-1) Zaw).hidden);have h7:=Zra (l.headD Zaw).hidden (l.getD ((Zax (l.drop 2) 1 [] [] 2).2.1-1) Zaw).hidden;refine⟨?_,λa ha=>⟨h2.1 a (JC ha),h3 a (JC ha)⟩,by omega,by omega,λx hx=>?_⟩
   ·rw[Qd];simp at h5;omega
   ·rcases ZeK hx with rfl | hx
    ·exact hm
    ·exact hh.2 x (List.mem_filter.1 hx).1
  ·simp at h
theorem Zrb {R:Zbe}(hA:∀a∈A,∀t∈a,HidIn N t)(hR:∀a∈R,∀t∈a,HidIn N t)(hh:∀x∈hs,x∈N)(hg:∀t∈l,Zfu N t):(∀t∈(ZdZ m A en hs l R).1,Zfu N t)/\(ZdZ m A en hs l R).1.length<=60:=by
 unfold ZdZ;split
 ·split
  ·simp
  ·rename_i h;refine⟨λt ht=>?_,Nat.not_lt.1 h⟩;rcases Qa ht with ht | ht
   ·exact⟨putL_tx sub_tx t ht,ZiU (Ziy hA hR) hh t ht⟩
   ·exact hg t (JG ht)
 ·simp
theorem Zrc (hT:∀m∈T,m.name∈N)(hN:N.length<=5000){m:DMacro}(hm:m.name∈N){l:List Tok}(hl:l.length<=60)(h0:0<l.length)(hg:∀t∈l,Zfu N t)(n s:Nat):
  (∀t∈(ZcH (λa k=>Zak T n k [] a) m l s).1,Zfu N t)/\(ZcH (λa k=>Zak T n k [] a) m l s).1.length<=60/\(ZcH (λa k=>Zak T n k [] a) m l s).2.1<=s-1:=by
 cases s with
 | zero=>unfold ZcH;simp
 |
  succ s =>
  cases hu:Zdf m l with
  | none=>rw[ZiX hu];simp
  |
   some q =>
   obtain⟨A,en,hs⟩:=q;obtain⟨f1,f2,f3,f4,f5⟩:=Zmu hu hl h0 hg hN hm;have hA:∀a∈A,∀t∈a,HidIn N t:=λa ha t ht=>((f2 a ha).2 t ht).2;have hR:=Ziz (P:=HidIn N) (f:=λa k=>Zak T n k [] a) (λa k ha=>ZkI hT n a k [] (by simp) ha) A s hA;have j8:=Zlo (f:=λa k=>Zak T n k [] a) (λa k=>ZkH T n a k []) A s;rcases ha:ZaL (λa k=>Zak T n k [] a) A s with⟨R,q,c⟩;rw[ha]at hR j8;by_cases hc:c=0
   ·subst hc;rcases hr:ZdZ m A en hs l R with⟨x,c⟩;rw[Zd0 hu ha hr];have:=Zrb (N:=N) (m:=m) (en:=en) hA hR f5 hg;rw[hr]at this;exact⟨this.1,this.2,by show q<=s+1-1;have h9:q<=s:=j8;omega⟩
   ·rw[ZiH hu ha hc];exact⟨by simp,by simp,by show q<=s+1-1;have h9:q<=s:=j8;omega⟩
theorem Zrd {n:Nat}(hN:N.length<=5000)(eb:Nat)(vT:Value)(cE:List Nat)(eE:List Value)(m:DMacro)(eV:List Nat)(v:Value)(l:List Tok)(fp:List Nat)(s k:Nat)(w:World)(HE:0<s->ExpI T N n)(hs:s<=n+1)(hk:k+s=100)(h0:0<l.length)(hl:l.length<=60)(hg:∀t∈l,Zfu N t)(hv:Zaq m=true)(hm:m.name∈N)(hop:m.function=true->∃h1:1<l.length,isM l[1] [40]=true)
  (HB:EBox eb vT k w) (HT:(Zaa sMacro).R w [vT] T cE) (sV:eb∉cE) (HM:sMacro.R w eE m eV) (heM:eb∉eV) (H:(Zaa sTok).R w [v] l fp) (he:eb∉fp) :
  Calls Tryz.prog 62 #[.pointer (some ⟨eb,0,none⟩),.agg eE.toArray,v] w (StepOf eb vT fp (ZcH (λa k=>Zak T n k [] a) m l s) w):=by
 have gb:=HM;obtain⟨h2,h3,q2,q3,rfl,-,K2,K3,-⟩:=HM;obtain⟨a2,c2,rfl,-⟩:=Zaf K2;obtain⟨a3,c3,rfl,-⟩:=Zac K3;have vN:=H;have d7:=Qh ((Zaa sTok).lt H);obtain⟨al,cl,rfl,-⟩:=Zac H;have heb:eb<w.heap.size:=mlt HB;have b0:=Zab w (.cells #[.string m.name,.bool m.function,.slice a2 m.params.length c2,.slice a3 m.body.length c3] 56);have HX:=Qh (JS w (.cells #[.string m.name,.bool m.function,.slice a2 m.params.length c2,.slice a3 m.body.length c3] 56));have dy:=Qh (HB.below b0);have eL:=Qh (sMacro.below gb b0);have gh:=Qh ((Zaa sMacro).below HT b0);have kj:=Qh ((Zaa sTok).below vN b0);have HG:=Qh hg;have kw:=Qh hop;have pR:=Qh hv;have iq:=Qh HE;clear gb K2 K3 HT H vN HB hg hop hv HE;go_enter Tryz.func62,Tryz.ntmps62;go_upto_region 1 with fail
 have AR:=mlt HX.out;generalize (w.alloc (.cells #[.string m.name,.bool m.function,.slice a2 m.params.length c2,.slice a3 m.body.length c3] 56))=W1 at *;have e0:=Qc 0 dy.out;have e1:=Qc 1 dy.out;cases s with
 |
  zero =>
  have bG:k=100:=by omega
  subst bG;go_wp2;go_ret2;exact⟨_,[],100,rfl,Zao _ _ _ _ (by simp),by simp,dy.out,λh=>absurd (show(3:Int)=0 from h) (by decide),Kept.of_below b0⟩
 |
  succ s =>
  have cD:((k:Int)==100)=false:=by simp;omega
  have gN:IntKind.i64.wrap ((k:Int)+1)=(k:Int)+1:=QF _ (by omega);have f1:=Qf 1 dy.out;have jO:Hid (EBox eb vT (k+1) (W1.setCell ⟨eb,1,none⟩ (.int .i64 ((k:Int)+1)))):=Zai dy.out 1 (.int .i64 ((k:Int)+1));have oM:Hid (Kept [eb] w (W1.setCell ⟨eb,1,none⟩ (.int .i64 ((k:Int)+1)))):=(Kept.of_below b0).setCell (p:=⟨eb,1,none⟩) (by simp) _;have cJ:=Qh (ZaK HX.out (by omega:w.heap.size≠eb) 1 (.int .i64 ((k:Int)+1)));have nf:=Qh (sMacro.setB eL.out heM 1 (.int .i64 ((k:Int)+1)));have gC:=Qh ((Zaa sMacro).setB gh.out sV 1 (.int .i64 ((k:Int)+1)));have lE:=Qh ((Zaa sTok).setB kj.out he 1 (.int .i64 ((k:Int)+1)));go_upto_region 4 with fail
  clear e0 e1 f1 cD gN HX dy eL gh kj b0;generalize (W1.setCell ⟨eb,1,none⟩ (.int .i64 ((k:Int)+1)))=W2 at *;obtain⟨p0,p1,p2,p3⟩:=Q4 cJ.out;have wg:w.heap.size<=W2.heap.size:=oM.out.size;have vQ:=Qh (ZpW _ m eV _ l fp W2 pR.out h0 hl (λt ht=>(HG.out t ht).1) (λt ht=>(HG.out t ht).2.1) (λt ht=>by have:=(HG.out t ht).2.len;omega) kw.out nf.out lE.out);go_wp2_with fail
  refine vQ.out.mono ?_;rintro e w3 (⟨hu,rfl,aC⟩ |⟨A,en,vC,vA,vH,fA,fH,hu,rfl,RA,hfA,RH,hfH,aC⟩)
  ·have HF:=Qh (ZiX (f:=λa k=>Zak T n k [] a) (s:=s) hu);have jF:=oM.out.after aC;have ba:=Zab w3 (.cells #[.string ⟨#[]⟩,.bool false,.slice none 0 0,.slice none 0 0,.slice none 0 0,.int .i64 0,.slice none 0 0] 129);have jN:=Qh (jF.after ba);have kq:=Qh ((jO.out.below aC).below ba);clear vQ hu p0 p1 p2 p3;go_wp2;go_ret2;exact⟨_,[],k+1,by rw[HF.out];rfl,by rw[HF.out];exact Zao _ _ _ _ (by simp),by simp,kq.out,λh=>by rw[HF.out]at h;exact absurd (show(1:Int)=0 from h) (by decide),jN.out⟩
  obtain⟨u1,u2,u3,u4,-⟩:=Zmu hu hl h0 HG.out hN hm;obtain⟨aA,cA,rfl,-⟩:=Zac RA;obtain⟨aH,cH,rfl,-⟩:=Zaf RH;have HU:=Qh hu;have HU2:=Qh u2;have iH:=Qh (JS w3 (.cells #[.string m.name,.bool m.function,.slice a2 m.params.length c2,.slice a3 m.body.length c3,.slice aA A.length cA,.int .i64 (en:Nat),.slice aH vC.length cH] 129));have ba:=Zab w3 (.cells #[.string m.name,.bool m.function,.slice a2 m.params.length c2,.slice a3 m.body.length c3,.slice aA A.length cA,.int .i64 (en:Nat),.slice aH vC.length cH] 129);have eT:=aC.trans (ba.mono aC.size);have jN:=Qh (oM.out.after eT);have kq:=Qh (jO.out.below eT);have lu:=Qh ((Zaa sMacro).below gC.out eT);have kD:=Qh ((Zaa sTok).below lE.out eT);have wy:=Qh (sMacro.below nf.out eT);have RA4:=Qh ((Zaa sToks).below RA ba);have RH4:=Qh ((Zaa sStr).below RH ba);have hw3:=aC.size;have wO:Hid (eb∉fA):=λh=>by have:=hfA _ h;omega
  have HEH:Hid (eb∉fH):=λh=>by have:=hfH _ h;omega
  clear vQ hu u2 p0 p1 p2 p3 RA RH hfA hfH eT aC ba cJ nf gC lE jO oM;go_upto_region 7 with fail
  obtain⟨ub,HUB⟩:∃ub:Nat,Hid (ub=w3.heap.size):=⟨_,Qh rfl⟩;generalize (w3.alloc (.cells #[.string m.name,.bool m.function,.slice a2 m.params.length c2,.slice a3 m.body.length c3,.slice aA A.length cA,.int .i64 (en:Nat),.slice aH vC.length cH] 129))=w4 at *;rw[show w3.heap.size=ub from HUB.out.symm]at iH hw3 ⊢;have q4:=Qc 4 iH.out;have lX:=Qh (ZlC (iq.out (by omega)) eb vT cE _ A fA s (k+1) w4 (by omega) (by omega) u1 HU2.out kq.out lu.out sV RA4.out wO.out);rcases ha:ZaL (λa k=>Zak T n k [] a) A s with⟨R,q,c⟩;unfold AllOf at lX;rw[ha]at lX;try dsimp only at lX
  have iy:=Qh ha;clear ha iq kq lu;go_wp2_with fail
  refine lX.out.mono ?_;rintro e w5⟨vR,fR,k5,rfl,RR,hfR,vP,fg,K5⟩;obtain⟨aR,cR,rfl,-⟩:=Zac RR;have nk:=Qh (jN.out.trans K5);have lb:=Qh vP;clear q4 lX vP;by_cases dm:c=0;rotate_left
  ·have HF:=Qh (ZiH HU.out iy.out dm);have e2:(c != 0)=true:=(by simp[dm]);have Ck:=Qh dm;clear dm fg RR hfR K5;go_wp2;go_ret2;exact⟨_,[],k5,by rw[HF.out];rfl,by rw[HF.out];exact Zao _ _ _ _ (by simp),by simp,lb.out,λh=>by rw[HF.out]at h;exact absurd h Ck.out,nk.out⟩
  subst dm;have pa:k5+q=100:=fg rfl;have heu:ub≠eb:=by omega
  have gy:=Qh ((K5.block ub (mlt iH.out) (by simpa using heu)).trans iH.out);have Cm:∀{f:List Nat},eb∉f->∀b∈f,b∉[eb]:=λh b hb=>by simp only[JA];rintro rfl;exact h hb
  have wQ:=Qh (ZmE _ m eV _ _ A fA en vC fH _ l fp _ R fR w5 h0 hl u3 u4 (sMacro.kept wy.out (Cm heM) K5) ((Zaa sToks).kept RA4.out (Cm wO.out) K5) ((Zaa sStr).kept RH4.out (Cm HEH.out) K5) ((Zaa sTok).kept kD.out (Cm he) K5) RR);rcases hr:ZdZ m A en vC l R with⟨x,c⟩;unfold AfterOf at wQ;rw[hr]at wQ;try dsimp only at wQ
  have HF:=Qh (Zd0 HU.out iy.out hr);clear hr fg RR hfR K5 Cm iH wy RA4 RH4 kD jN;have q0:=Qc 0 gy.out;have q1:=Qc 1 gy.out;have zg:=Qc 2 gy.out;have q3':=Qc 3 gy.out;have q4:=Qc 4 gy.out;have q5:=Qc 5 gy.out;have q6:=Qc 6 gy.out;go_wp2_with fail
  refine wQ.out.mono ?_;rintro e w6⟨v6,f6,rfl,R6,g6,bq⟩;have jQ:=Qh R6;have lY:Hid (∀b∈f6,b∈fp\/w.heap.size<=b):=λb hb=>(g6 b hb).imp id λh=>by have:=nk.out.size;omega
  have gt:=Qh (nk.out.after bq);have qH:=Qh (lb.out.below bq);clear R6 g6 bq wQ q0 q1 zg q3' q4 q5 q6;go_wp2;go_ret2;exact⟨v6,f6,k5,by rw[HF.out];rfl,by rw[HF.out];exact jQ.out,lY.out,qH.out,λ_=>by rw[HF.out];exact pa,gt.out⟩
end Go.Proofs.YtipfpppcbmpjiaaGreat
