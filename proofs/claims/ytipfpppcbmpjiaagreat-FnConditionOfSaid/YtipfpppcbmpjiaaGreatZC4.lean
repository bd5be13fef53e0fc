/- Lemmas. -/
import Derived.Test.YtipfpppcbmpjiaaGreatZC3
set_option linter.unusedVariables false
set_option maxHeartbeats 16000000
set_option maxRecDepth 100000
set_option linter.unusedSimpArgs false
namespace Go.Proofs.YtipfpppcbmpjiaaGreat
open Go.RowKit
variable {v:Value}
theorem TokRow.below {base:Nat}{l:List Tok}{w w':World}(h:TokRow base v l w)(hb:Below w.heap.size w w'):TokRow base v l w':=by
 refine⟨h.1,?_⟩;rcases h.2 with h0 | ⟨g,cap,cur,h1,h2,h3,h4⟩
 ·exact .inl h0
 ·exact .inr ⟨g,cap,cur,h1,h2,(hb.block g (Qg h3).1).trans h3,h4⟩
theorem TokRow.empty (w:World):TokRow w.heap.size (.slice (some ⟨w.heap.size,0,none⟩) 0 0) [] (w.alloc (.cells #[] 32)):=
 ⟨rfl,.inr ⟨w.heap.size,0,#[],rfl,QA _,by show(w.heap.push _)[w.heap.size]?=_;simp,QA _,by simp,rfl,rfl⟩⟩
variable {s:ByteArray}
theorem cutGood {k e:Nat}(hk:k<s.size)(he:ZaI s k=e):ZbL s k=(cutKind s[k],(e:Int))/\1<=cutKind s[k]/\cutKind s[k]<=4/\(cutKind s[k]<=2->(e:Int)-(k:Int)<=12):=by
 have h:=Zp3 hk (by omega);rw[he]at h;obtain⟨h1,h2⟩:=h;have h3:=Zj2 s[k];refine⟨h2,h3.1,h3.2,λh=>?_⟩;rw[h2]at h1;unfold SBad at h1;simp only at h1;omega
theorem cutBad {k:Nat}(hk:k<s.size)(h:ZaI s k<0):∃a b:Int,ZbL s k=(a,b)/\(b=k\/b≠k/\a=0\/b≠k/\a=1/\12<b-k\/b≠k/\a=2/\12<b-k):=by
 have h1:=sCut_bad hk h;unfold SBad at h1;exact⟨(ZbL s k).1,(ZbL s k).2,rfl,by omega⟩
theorem Zp8 {k:Nat}(hk:k<s.size):0<=(ZbL s k).2/\(ZbL s k).2<=1000000+s.size:=by
 cases hw:Zar s[k]
 ·by_cases hq:s[k].toNat=34
  ·cases hc:tClose s (k+1) with
   | none=>rw[Zic hk hw hq hc];constructor <;> simp only <;> omega
   | some e=>have:=ZbA hc;rw[ZgS hk hw hq hc];constructor <;> simp only <;> omega
  ·have:=Zia hk;rw[ZgB hk hw hq];constructor <;> simp only <;> omega
 ·have:=(ZgR s (k+1)).2 (by omega);rw[ZfH hk hw];constructor <;> simp only <;> omega
def Zgh (s:ByteArray)(w:World)(e:Ending)(w':World):Prop:=
 ∃v,e=.returned (.tuple #[v,.bool (Zau s).2])/\TokRow w.heap.size v (Zau s).1 w'/\Fresh s.size (Zau s).1/\Below w.heap.size w w'
theorem TokRow.emptyAt {base:Nat}(w:World)(h:base<=w.heap.size):TokRow base (.slice (some ⟨w.heap.size,0,none⟩) 0 0) [] (w.alloc (.cells #[] 32)):=
 ⟨rfl,.inr ⟨w.heap.size,0,#[],rfl,h,by show(w.heap.push _)[w.heap.size]?=_;simp,QA _,by simp,rfl,rfl⟩⟩
theorem ZiM (h:Zau s=([],false)){w W:World}(hb:Below w.heap.size w W)(hs:w.heap.size<=W.heap.size):
  Zgh s w (.returned (.tuple #[.slice (some ⟨W.heap.size,0,none⟩) 0 0,.bool false])) (W.alloc (.cells #[] 32)):=by
 unfold Zgh;rw[h];exact⟨_,rfl,TokRow.emptyAt W hs,Fresh.nil _,hb.alloc hs _⟩
theorem Zp9 {l:List Tok}(h:Zau s=(l,true)){w w':World}(hr:TokRow w.heap.size v l w')(hf:Fresh s.size l)(hb:Below w.heap.size w w'):
  Zgh s w (.returned (.tuple #[v,.bool true])) w':=by
 unfold Zgh;rw[h];exact⟨v,rfl,hr,hf,hb⟩
theorem Zeg (s:ByteArray)(w:World)(hs:s.size<=maxLen):
  Calls Tryz.prog 56 #[.string s] w (Zgh s w):=by
 have hm:=hs;unfold maxLen at hm;cases h0:Za8 s
 ·have HF:=Qh (Zhn h0);go_enter Tryz.func56,Tryz.ntmps56;go_wp2_with (go_at_call 77;refine(Zg2 _ _ hs).mono ?_;rw[h0];rintro e w'⟨rfl,rfl⟩)
  go_ret2;exact ZiM HF.out (QD _ _) (QA _)
 have cC:=Zgg h0;have H0:=Qh h0;go_enter Tryz.func56,Tryz.ntmps56;go_wp2_with (go_at_call 77;refine(Zg2 _ _ hs).mono ?_;rw[h0];rintro e w'⟨rfl,rfl⟩)
 clear h0;go_loopw [4,5,6] (λv sp i wr=>∃(k:Nat) (b:Bool) (out:List Tok),k<=s.size/\i=.int .i64 k/\sp=.bool b/\AtT s k b out/\Fresh s.size out/\TokRow w.heap.size v out wr/\Below w.heap.size w wr) (λ_ _ i _=>s.size-(intOf i).toNat)
 case atStart=>exact⟨0,false,[],by omega,rfl,rfl,AtT.zero s,Fresh.nil _,TokRow.empty _,(QD _ _).alloc (QA _) _⟩
 case round =>
  obtain⟨k,b,out,hk,rfl,rfl,df,nP,ag,bL⟩:=hrel;have ho:out.length<=60:=df.2;have jC:=bL.size;by_cases af:k<s.size
  ·by_cases h32:s[k].toNat=32
   ·have HN:=Qh (df.space af h32);have vW:((s[k].toNat:Int)==32)=true:=(by simp;omega);clear df h32;go_wp2;go_roundw;case rel=>exact⟨k+1,true,out,by omega,by go_num,rfl,HN.out,nP,ag,bL⟩
    case measure=>simp[intOf];omega
   ·have vW:((s[k].toNat:Int)==32)=false:=(by simp;omega);have hro:=Zp8 af;rcases ZlL s k with ly | ⟨e,he,lh,zw⟩
    ·have HF:=Qh (Zfv (df.bad af h32 (.inl ly)));obtain⟨a,b2,hab,lz⟩:=cutBad af ly;rw[hab]at hro;have HC:Hid (∀W,Calls Tryz.prog 78 #[.string s,.int .i64 k] W λe w'=>e=.returned (.tuple #[.int .i64 a,.int .i64 b2])/\∃n,w'=W.drewN n):=λW=>(by have:=Zka s k W (by omega) af;rw[hab]at this;exact this);clear df h32 hab;obtain⟨ho1,ho2⟩:=hro;simp only at ho1 ho2;rcases lz with h1 | ⟨h1,h2⟩ | ⟨h1,h2,h3⟩ | ⟨h1,h2,h3⟩
     ·subst h1;go_wp2_with (go_at_call 78;refine(HC.out _).mono ?_;rintro e w'⟨rfl,n,rfl⟩)
      go_ret2;exact ZiM HF.out (Zah bL n) jC
     all_goals
      subst h2;have h1':(b2==(k:Int))=false:=(by simp;omega);clear h1;go_wp2_with (go_at_call 78;refine(HC.out _).mono ?_;rintro e w'⟨rfl,n,rfl⟩)
      go_ret2;exact ZiM HF.out (Zah bL n) jC
    ·obtain⟨a,cap,rfl,gL⟩:=ag.slice;obtain⟨hab,bG,bY,ka⟩:=cutGood af he;have HC:Hid (∀W,Calls Tryz.prog 78 #[.string s,.int .i64 k] W λr w'=>r=.returned (.tuple #[.int .i64 (cutKind s[k]),.int .i64 e])/\∃n,w'=W.drewN n):=λW=>(by have:=Zka s k W (by omega) af;rw[hab]at this;exact this);have hek:((e:Int)==(k:Int))=false:=(by simp;omega);clear hro hab;by_cases nS:out.length=60
     ·have HF:=Qh (Zfv (df.bad af h32 (.inr nS)));have vX:((out.length:Int)==60)=true:=(by simp;omega);clear df h32 nS;generalize cutKind s[k]=K at *;have hK:(K=1/\(e:Int)-(k:Int)<=12)\/(K=2/\(e:Int)-(k:Int)<=12)\/(K=3/\k<e)\/(K=4/\k<e):=(by omega);clear ka;rcases hK with⟨rfl,fg⟩ | ⟨rfl,fg⟩ | ⟨rfl,fg⟩ | ⟨rfl,fg⟩;all_goals
       go_wp2_with (go_at_call 78;refine(HC.out _).mono ?_;rintro e w'⟨rfl,n,rfl⟩)
       go_ret2;exact ZiM HF.out (Zah bL n) jC
     ·have HN:=Qh (df.tok af h32 he nS);have HR:=Qh (nP.snoc (k:=k) (e:=e) (sp:=b) (c:=s[k]) (QA s.size));have vX:((out.length:Int)==60)=false:=(by simp;omega);have hsl2:=λW=>(Zg4 s (k:Int) (e:Int) k e rfl rfl (by omega) (by omega) W);clear df h32 nS;generalize cutKind s[k]=K at *;have hK:(K=1/\(e:Int)-(k:Int)<=12)\/(K=2/\(e:Int)-(k:Int)<=12)\/(K=3/\k<e)\/(K=4/\k<e):=(by omega);clear ka;rcases hK with⟨rfl,fg⟩ | ⟨rfl,fg⟩ | ⟨rfl,fg⟩ | ⟨rfl,fg⟩;all_goals
       go_wp2_with (first
        | (go_at_call 78;refine(HC.out _).mono ?_;rintro e w'⟨rfl,n,rfl⟩)
        | (at_builtin;refine ZhX rfl (.tmp 57) (.tmp 65) rfl w.heap.size _ out _ _ _ rfl (ag.drew _) rfl (by omega) jC ?_;intro v1 w1 j9 nU))
       have ii:=(Zah bL _).grown nU jC ag.mine;go_roundw;case rel=>exact⟨e,false,_,zw,rfl,rfl,HN.out,HR.out,j9,ii⟩
       case measure=>simp[intOf];omega
  ·have HF:=Qh (ZgT H0.out (df.done (by omega)));clear df;go_wp2;go_ret2;exact Zp9 HF.out ag nP bL
theorem ZcI (s:ByteArray)(w:World)(hs:s.size<=maxLen):
  Calls Tryz.prog 56 #[.string s] w (Zd3 (Zau s) w):=by
 refine(Zeg s w hs).mono ?_;rintro e w'⟨v,rfl,h1,h2,h3⟩;have cC:(Zau s).1=[]\/s.size<=200:=by
  cases h0:Za8 s
  ·left;rw[Zhn h0]
  ·right;exact Zgg h0
 rcases cC with h | h
 ·rw[h]at h1 h2;obtain⟨fp,a,b,_⟩:=Zjr (B:=0) h1 (Fresh.nil _) (by omega);exact⟨v,fp,rfl,by rw[h];exact a,b,h3⟩
 ·obtain⟨fp,a,b,_⟩:=Zjr h1 h2 (by omega);exact⟨v,fp,rfl,a,b,h3⟩
variable {t:Tok}
theorem ZbQ {w:World}{fp:List Nat}(H:(Zaa sTok).R w [v] [t] fp):
  ∃b off cap h,v=.slice (some ⟨b,off,none⟩) 1 cap/\cap<=maxLen/\1<=cap/\b<w.heap.size/\w.cell? ⟨b,off,none⟩=some (.int .i64 t.kind)/\w.cell? ⟨b,off+1,none⟩=some (.string t.text)/\w.cell? ⟨b,off+2,none⟩=some (.bool t.spaced)/\w.cell? ⟨b,off+3,none⟩=some h/\Zb3 t.kind/\ZaC t.text:=by
 obtain⟨a,cap,rfl,hc,hm,h⟩:=Zac H;obtain⟨b,off,bA,rfl,hb,_,he⟩:=h (by simp);obtain⟨es,⟨h1,h2⟩,hh,h3,h4,h5,h6⟩:=he 0 (by simp);subst h3;have g:=λj (hj:j<4)=>h2 j hj;refine⟨b,off,cap,hh,rfl,hm,by simpa using hc,hb,?_,?_,?_,?_,h4,h5⟩
 ·simpa using g 0 (by omega)
 ·simpa[Nat.add_assoc]using g 1 (by omega)
 ·simpa[Nat.add_assoc]using g 2 (by omega)
 ·simpa[Nat.add_assoc]using g 3 (by omega)
def Zbu (b:Bool)(w:World)(e:Ending)(w':World):Prop:=e=.returned (.bool b)/\Below w.heap.size w w'
theorem ZdE (x:ByteArray)(k:Int)(w:World)(hs:x.size<=maxLen):
  Calls Tryz.prog 79 #[.string x,.int .i64 k] w (Zbu (Zap x k) w):=by
 have HT:Hid (∀W,Calls Tryz.prog 114 #[.string x] W (Zd3 (Zau x) W)):=λW=>ZhZ x W hs;go_enter Tryz.func79,Tryz.ntmps79;rcases Zes x k with⟨hr,HF⟩ | ⟨l,hr,hl,HF⟩ | ⟨t,hr,hk,HF⟩ | ⟨t,hr,hk,hx,HF⟩ | ⟨t,hr,hk,hx,_,HF⟩
 ·rw[hr]at HT;clear hr;go_wp2_with (go_at_call 114;refine(HT.out _).mono ?_;rintro e w'⟨v,fp,rfl,hR,hO,hB⟩)
  go_ret;exact⟨Zad HF.out.symm,hB⟩
 ·rw[hr]at HT;have un:((l.length:Int) != 1)=true:=by simp;omega
  clear hr hl;go_wp2_with (go_at_call 114;refine(HT.out _).mono ?_;rintro e w'⟨v,fp,rfl,hR,hO,hB⟩;obtain⟨a,cap,rfl,_,_,_⟩:=Zac hR)
  go_ret;exact⟨Zad HF.out.symm,hB⟩
 ·rw[hr]at HT;have hk':(t.kind==k)=false:=by simp[hk]
  clear hr hk;go_wp2_with (go_at_call 114;refine(HT.out _).mono ?_;rintro e w'⟨v,fp,rfl,hR,hO,hB⟩;obtain⟨b,off,cap,h,rfl,fJ,dA,hb,h0,h1,h2,h3,_,_⟩:=ZbQ hR)
  go_ret;exact⟨Zad HF.out.symm,hB⟩
 ·rw[hr]at HT;have hk':(t.kind==k)=true:=by simp[hk]
  have bJ:(t.text.toList==x.toList)=false:=Zcb hx;clear hr hk hx;go_wp2_with (go_at_call 114;refine(HT.out _).mono ?_;rintro e w'⟨v,fp,rfl,hR,hO,hB⟩;obtain⟨b,off,cap,h,rfl,fJ,dA,hb,h0,h1,h2,h3,_,_⟩:=ZbQ hR)
  go_ret;exact⟨Zad HF.out.symm,hB⟩
 ·rw[hr]at HT;have hk':(t.kind==k)=true:=by simp[hk]
  have bJ:(t.text.toList==x.toList)=true:=Zca hx;clear hr hk hx;go_wp2_with (go_at_call 114;refine(HT.out _).mono ?_;rintro e w'⟨v,fp,rfl,hR,hO,hB⟩;obtain⟨b,off,cap,h,rfl,fJ,dA,hb,h0,h1,h2,h3,_,_⟩:=ZbQ hR)
  go_ret;exact⟨Zad HF.out.symm,hB⟩
theorem Zjt (v:Value)(l:List ByteArray)(fp:List Nat)(w:World)(H:(Zaa sStr).R w [v] l fp):
  Calls Tryz.prog 83 #[v] w (Zbu (ZbO l) w):=by
 obtain⟨a,cap,rfl,hc,hm,aJ,cC⟩:=Zaf H;unfold maxLen at hm;by_cases hl:60<l.length
 ·have HF:=Qh (Zj4 hl);go_enter Tryz.func83,Tryz.ntmps83;go_wp2;go_ret;exact⟨Zad HF.out.symm,QD _ _⟩
 ·go_enter Tryz.func83,Tryz.ntmps83;go_wp2;go_loopw [10] (λi wr=>∃k:Nat,k<=l.length/\i=.int .i64 k/\HidUpto l k/\Below w.heap.size w wr) (λi _=>l.length-(intOf i).toNat)
  case atStart=>exact⟨0,by omega,rfl,HidUpto.zero _,QD _ _⟩
  case round =>
   obtain⟨k,hk,rfl,az,bL⟩:=hrel;by_cases af:k<l.length
   ·obtain⟨b,off,rfl,hb,_,dA⟩:=aJ (by omega);have kF:=(bL.cell (p:=⟨b,off+k,none⟩) hb).trans (dA k af);have hsk:=cC k af;have eU:b<wr.heap.size:=QW hb bL.size;have HC:Hid (∀W,Calls Tryz.prog 79 #[.string l[k],.int .i64 1] W (Zbu (Zap l[k] 1) W)):=λW=>ZdE l[k] 1 W hsk;rcases hid_ways af with⟨h1,HF⟩ | ⟨h1,h0,HN⟩ | ⟨hp,h1,h2,HF⟩ | ⟨hp,h1,h2,HN⟩
    ·rw[h1]at HC;have HG:=Qh (Zet af HF.out);clear h1 dA az;go_wp2_with (go_at_call 79;refine(HC.out _).mono ?_;rintro e w1⟨rfl,aG⟩)
     go_ret;exact⟨Zad HG.out.symm,bL.trans (aG.mono bL.size)⟩
    ·rw[h1]at HC;have HG:=Qh (az.succ HN.out);have gM:¬(0:Int)<(k:Int):=(by omega);clear h1 h0 dA az;go_wp2_with (go_at_call 79;refine(HC.out _).mono ?_;rintro e w1⟨rfl,aG⟩)
     go_roundw;case rel=>exact⟨k+1,by omega,by go_num,HG.out,bL.trans (aG.mono bL.size)⟩
     case measure=>simp[intOf];omega
    ·rw[h1]at HC;have HG:=Qh (Zet af HF.out);have qc:=(bL.cell (p:=⟨b,off+(k-1),none⟩) hb).trans (dA (k-1) (by omega));have h6:((k:Int)-1).toNat=k-1:=(by omega);have gM:(0:Int)<(k:Int):=(by omega);have h2':Op.bytesLess (l[k-1]'(by omega)).toList l[k].toList=false:=h2;clear h1 h2 dA az;go_wp2_with (go_at_call 79;refine(HC.out _).mono ?_;rintro e w1⟨rfl,aG⟩;have hcp1:=(aG.cell (p:=⟨b,off+(k-1),none⟩) eU).trans qc)
     go_ret;exact⟨Zad HG.out.symm,bL.trans (aG.mono bL.size)⟩
    ·rw[h1]at HC;have HG:=Qh (az.succ HN.out);have qc:=(bL.cell (p:=⟨b,off+(k-1),none⟩) hb).trans (dA (k-1) (by omega));have h6:((k:Int)-1).toNat=k-1:=(by omega);have gM:(0:Int)<(k:Int):=(by omega);have h2':Op.bytesLess (l[k-1]'(by omega)).toList l[k].toList=true:=h2;clear h1 h2 dA az;go_wp2_with (go_at_call 79;refine(HC.out _).mono ?_;rintro e w1⟨rfl,aG⟩;have hcp1:=(aG.cell (p:=⟨b,off+(k-1),none⟩) eU).trans qc)
     go_roundw;case rel=>exact⟨k+1,by omega,by go_num,HG.out,bL.trans (aG.mono bL.size)⟩
     case measure=>simp[intOf];omega
   ·have HG:=Qh (Zie az (by omega) (by omega));clear az;go_wp2;go_ret;exact⟨Zad HG.out.symm,bL⟩
theorem ZiY (t:Tok)(h:Value)(fp:List Nat)(w:World)(ht:ZaC t.text)(H:(Zaa sStr).R w [h] t.hidden fp):
  Calls Tryz.prog 59 #[.agg #[.int .i64 t.kind,.string t.text,.bool t.spaced,h]] w (Zbu (Zaj t) w):=by
 have HF:Hid (Zaj t=(Zap t.text t.kind && ZbO t.hidden)):=rfl;have HC:Hid (∀W,Calls Tryz.prog 79 #[.string t.text,.int .i64 t.kind] W (Zbu (Zap t.text t.kind) W)):=λW=>ZdE t.text t.kind W ht;have HD:Hid (∀W,Below w.heap.size w W->Calls Tryz.prog 83 #[h] W (Zbu (ZbO t.hidden) W)):=λW hb=>Zjt h t.hidden fp W ((Zaa sStr).below H hb);go_enter Tryz.func59,Tryz.ntmps59;have bD:=Zab w (.cells #[.int .i64 t.kind,.string t.text,.bool t.spaced,h] 32);cases h1:Zap t.text t.kind
 ·rw[h1]at HC HF;clear h1;go_wp2_with (go_at_call 79;refine(HC.out _).mono ?_;rintro e w1⟨rfl,aG⟩)
  go_ret;exact⟨Zad (by rw[HF.out];rfl),bD.trans (aG.mono bD.size)⟩
 ·rw[h1]at HC HF;clear h1
  go_wp2_with (first
   | (go_at_call 79;refine(HC.out _).mono ?_;rintro e w1⟨rfl,aG⟩;have sf:=(aG.cell (p:=⟨w.heap.size,3,none⟩) (by simp)))
   | (go_at_call 83;refine(HD.out _ (bD.trans (aG.mono bD.size))).mono ?_;rintro e w2⟨rfl,aF⟩))
  go_ret;exact⟨Zad (by rw[HF.out];rfl),bD.trans ((aG.trans (aF.mono aG.size)).mono bD.size)⟩
theorem ZeQ (cs:List Value)(x:Tok)(fp:List Nat)(w:World)(H:sTok.R w cs x fp):Calls Tryz.prog 59 #[.agg cs.toArray] w (Zbu (Zaj x) w):=by
 obtain⟨h,rfl,_,bQ,K⟩:=H;exact ZiY x h fp w bQ K
theorem tokOk_a (h:Zap t.text t.kind=false):Zaj t=false:=by unfold Zaj;rw[h];rfl
theorem Zf1 (h:ZbO t.hidden=false):Zaj t=false:=by unfold Zaj;rw[h,JB]
theorem tokOk_c (h:Zap t.text t.kind=true)(h':ZbO t.hidden=true):Zaj t=true:=by unfold Zaj;rw[h,h'];rfl
section
variable {w w1:World}{ty:TypeId}{v0 v1 v2 v3:Value}
theorem box0 (hB:Below (w.alloc (.cells #[v0,v1,v2,v3] ty)).heap.size (w.alloc (.cells #[v0,v1,v2,v3] ty)) w1):w1.cell? ⟨w.heap.size,0,none⟩=some v0:=(hB.cell (by simp)).trans (by rw[Qy _ _ _ _ rfl];rfl)
theorem box1 (hB:Below (w.alloc (.cells #[v0,v1,v2,v3] ty)).heap.size (w.alloc (.cells #[v0,v1,v2,v3] ty)) w1):w1.cell? ⟨w.heap.size,1,none⟩=some v1:=(hB.cell (by simp)).trans (by rw[Qy _ _ _ _ rfl];rfl)
theorem box3 (hB:Below (w.alloc (.cells #[v0,v1,v2,v3] ty)).heap.size (w.alloc (.cells #[v0,v1,v2,v3] ty)) w1):w1.cell? ⟨w.heap.size,3,none⟩=some v3:=(hB.cell (by simp)).trans (by rw[Qy _ _ _ _ rfl];rfl)
end
theorem Zig (t:Tok)(h:Value)(fp:List Nat)(w:World)(ht:ZaC t.text)(H:(Zaa sStr).R w [h] t.hidden fp)(cY:Zap t.text t.kind=false):
  Calls Tryz.prog 68 #[.agg #[.int .i64 t.kind,.string t.text,.bool t.spaced,h]] w (Zbu (Zaj t) w):=by
 have HT:Hid (∀W,Calls Tryz.prog 56 #[.string t.text] W (Zd3 (Zau t.text) W)):=λW=>ZcI t.text W ht;have HF:=Qh (tokOk_a cY);have bD:=Zab w (.cells #[.int .i64 t.kind,.string t.text,.bool t.spaced,h] 32);rcases Zes t.text t.kind with⟨hr,HG⟩ | ⟨l,hr,hl,HG⟩ | ⟨t',hr,hk,HG⟩ | ⟨t',hr,hk,hx,HG⟩ | ⟨t',hr,hk,hx,_,HG⟩
 ·rw[hr]at HT;clear hr cY;go_enter Tryz.func68,Tryz.ntmps68;go_wp2_with (go_at_call 56;refine(HT.out _).mono ?_;rintro e w'⟨v,fp,rfl,hR,hO,hB⟩)
  go_quiet (fail)
  go_wp2;go_ret;exact⟨Zad HF.out.symm,Zah (bD.trans (hB.mono bD.size)) _⟩
 ·rw[hr]at HT;have un:((l.length:Int) != 1)=true:=by simp;omega
  clear hr cY hl;go_enter Tryz.func68,Tryz.ntmps68;go_wp2_with (go_at_call 56;refine(HT.out _).mono ?_;rintro e w'⟨v,fp,rfl,hR,hO,hB⟩;obtain⟨a,cap,rfl,_,_,_⟩:=Zac hR)
  go_quiet (fail)
  go_wp2;go_ret;exact⟨Zad HF.out.symm,Zah (bD.trans (hB.mono bD.size)) _⟩
 ·rw[hr]at HT;have hk':(t'.kind != t.kind)=true:=by simp[hk]
  clear hr cY hk;go_enter Tryz.func68,Tryz.ntmps68;go_wp2_with (go_at_call 56;refine(HT.out _).mono ?_;rintro e w'⟨v,fp,rfl,hR,hO,hB⟩;obtain⟨b,off,cap,h',rfl,fJ,dA,hb,h0,h1,h2,h3,_,_⟩:=ZbQ hR;have a0:=box0 hB)
  go_quiet (fail)
  go_wp2;go_ret;exact⟨Zad HF.out.symm,Zah (bD.trans (hB.mono bD.size)) _⟩
 ·rw[hr]at HT;have hk':(t'.kind != t.kind)=false:=by simp[hk]
  have bJ:(t'.text.toList==t.text.toList)=false:=Zcb hx;clear hr cY hk hx;go_enter Tryz.func68,Tryz.ntmps68;go_wp2_with (go_at_call 56;refine(HT.out _).mono ?_;rintro e w'⟨v,fp,rfl,hR,hO,hB⟩;obtain⟨b,off,cap,h',rfl,fJ,dA,hb,h0,h1,h2,h3,_,_⟩:=ZbQ hR;have a0:=box0 hB;have a1:=box1 hB)
  go_quiet (fail)
  go_wp2;go_ret;exact⟨Zad HF.out.symm,Zah (bD.trans (hB.mono bD.size)) _⟩
 ·exact absurd (HG.out.symm.trans cY) (by simp)
theorem Zkb {a b:ByteArray}:(ZaF a b=true/\Op.bytesLess b.toList a.toList=false/\(b.toList==a.toList)=false)\/(ZaF a b=false/\Op.bytesLess b.toList a.toList=true)\/(ZaF a b=false/\Op.bytesLess b.toList a.toList=false/\(b.toList==a.toList)=true):=by
 cases h:ZaF a b
 ·have:=sLess_no h;cases h1:Op.bytesLess b.toList a.toList
  ·rw[h1,Bool.false_or]at this;exact .inr (.inr ⟨rfl,rfl,this⟩)
  ·exact .inr (.inl ⟨rfl,rfl⟩)
 ·have:=Zp4 h;rw[JD]at this;exact .inl ⟨rfl,this.1,this.2⟩
theorem Y4A1 {g:Prop}(h:g:=by
 clear hr HG dA az aJ;go_wp2_with (go_at_call 56;refine(HT.out _).mono ?_;rintro e w'⟨v,fp,rfl,hR,hO,aY⟩;obtain⟨b1,ae,aN,h1,rfl,vZ,we,aG,g0,g1,g2,g3,_,_⟩:=ZbQ hR;have zx:=(aY.cell (p:=⟨w.heap.size,3,none⟩) gN).trans a3;have qd:=(aY.cell (p:=⟨b,off+k,none⟩) eU).trans kF)
 go_quiet (fail)
 go_wp2;go_ret
 exact⟨Zad HF.out.symm,Zah (aD.trans (aY.mono aD.size)) _⟩):g:=h
theorem Zh2 (t:Tok)(h:Value)(fp:List Nat)(w:World)(ht:ZaC t.text)(H:(Zaa sStr).R w [h] t.hidden fp)(cY:Zap t.text t.kind=true):
  Calls Tryz.prog 68 #[.agg #[.int .i64 t.kind,.string t.text,.bool t.spaced,h]] w (Zbu (Zaj t) w):=by
 have HT:Hid (∀W,Calls Tryz.prog 56 #[.string t.text] W (Zd3 (Zau t.text) W)):=λW=>ZcI t.text W ht;have HO:=Qh cY;have bD:=Zab w (.cells #[.int .i64 t.kind,.string t.text,.bool t.spaced,h] 32);obtain⟨ah,bV,rfl,hch,hmh,aJ,cC⟩:=Zaf H;unfold maxLen at hmh;rcases Zes t.text t.kind with⟨hr,HG⟩ | ⟨l,hr,hl,HG⟩ | ⟨t',hr,hk,HG⟩ | ⟨t',hr,hk,hx,HG⟩ | ⟨t',hr,hk,hx,iD,HG⟩
 ·exact absurd (HG.out.symm.trans cY) (by simp)
 ·exact absurd (HG.out.symm.trans cY) (by simp)
 ·exact absurd (HG.out.symm.trans cY) (by simp)
 ·exact absurd (HG.out.symm.trans cY) (by simp)
 rw[hr]at HT;have hk':(t'.kind != t.kind)=false:=by simp[hk]
 have bJ:(t'.text.toList==t.text.toList)=true:=Zca hx;clear hr cY hk hx HG;by_cases hl:60<t.hidden.length
 ·have HF:=Qh (Zf1 (t:=t) (Zj4 hl));go_enter Tryz.func68,Tryz.ntmps68;go_wp2_with (go_at_call 56;refine(HT.out _).mono ?_;rintro e w'⟨v,fp,rfl,hR,hO,hB⟩;obtain⟨b,off,cap,h',rfl,fJ,dA,hb,h0,h1,h2,h3,_,_⟩:=ZbQ hR;have a0:=box0 hB;have a1:=box1 hB;have a3:=box3 hB;rw[iD]at h2)
  go_quiet (fail)
  go_wp2;go_ret;exact⟨Zad HF.out.symm,Zah (bD.trans (hB.mono bD.size)) _⟩
 ·have un:¬(60:Int)<(t.hidden.length:Int):=by omega
  have gA:decide ((60:Int)<(t.hidden.length:Int))=false:=by simpa using un
  go_enter Tryz.func68,Tryz.ntmps68;go_wp2_with (go_at_call 56;refine(HT.out _).mono ?_;rintro e w'⟨v,fp,rfl,hR,hO,hB⟩;obtain⟨b,off,cap,h',rfl,fJ,dA,hb,h0,h1,h2,h3,_,_⟩:=ZbQ hR;have a0:=box0 hB;have a1:=box1 hB;have a3:=box3 hB;rw[iD]at h2)
  go_quiet (fail)
  go_wp2;have hB':=Zah hB nq;clear a0 a1 a3 h0 h1 h2 h3 hR hO fJ dA hb hB;go_loopw [5] (λi wr=>∃k:Nat,k<=t.hidden.length/\i=.int .i64 k/\HidUpto t.hidden k/\Below (w.alloc (.cells #[.int .i64 t.kind,.string t.text,.bool t.spaced,.slice ah t.hidden.length bV] 32)).heap.size (w.alloc (.cells #[.int .i64 t.kind,.string t.text,.bool t.spaced,.slice ah t.hidden.length bV] 32)) wr) (λi _=>t.hidden.length-(intOf i).toNat)
  case atStart=>exact⟨0,by omega,rfl,HidUpto.zero _,hB'⟩
  case round =>
   obtain⟨k,hk,rfl,az,bL⟩:=hrel;have aD:=bD.trans (bL.mono bD.size);have yu:(w.alloc (.cells #[.int .i64 t.kind,.string t.text,.bool t.spaced,.slice ah t.hidden.length bV] 32)).heap.size=w.heap.size+1:=QR _;have gN:w.heap.size<wr.heap.size:=(by have:=bL.size;omega);have a3:=box3 bL;by_cases af:k<t.hidden.length
   ·obtain⟨b,off,rfl,hb,_,dA⟩:=aJ (by omega);have kF:=(aD.cell (p:=⟨b,off+k,none⟩) hb).trans (dA k af);have eU:b<wr.heap.size:=QW hb aD.size;have hsk:=cC k af;have HT:Hid (∀W,Calls Tryz.prog 56 #[.string t.hidden[k]] W (Zd3 (Zau t.hidden[k]) W)):=λW=>ZcI t.hidden[k] W hsk;rcases Zes t.hidden[k] 1 with⟨hr,HG⟩ | ⟨l,hr,hl,HG⟩ | ⟨t',hr,hk,HG⟩ | ⟨t',hr,hk,hx,HG⟩ | ⟨t',hr,hk,hx,_,HG⟩
    ·rw[hr]at HT;have HF:=Qh (Zf1 (t:=t) (Zet af (ZeP af HG.out)));clear hr HG dA az aJ;go_wp2_with (go_at_call 56;refine(HT.out _).mono ?_;rintro e w'⟨v,fp,rfl,hR,hO,aY⟩;have zx:=(aY.cell (p:=⟨w.heap.size,3,none⟩) gN).trans a3;have qd:=(aY.cell (p:=⟨b,off+k,none⟩) eU).trans kF)
     go_quiet (fail)
     go_wp2;go_ret;exact⟨Zad HF.out.symm,Zah (aD.trans (aY.mono aD.size)) _⟩
    ·rw[hr]at HT;have HF:=Qh (Zf1 (t:=t) (Zet af (ZeP af HG.out)));have hl'':((l.length:Int) != 1)=true:=(by simp;omega);clear hr HG dA az aJ;go_wp2_with (go_at_call 56;refine(HT.out _).mono ?_;rintro e w'⟨v,fp,rfl,hR,hO,aY⟩;obtain⟨a,cap,rfl,_,_,_⟩:=Zac hR;have zx:=(aY.cell (p:=⟨w.heap.size,3,none⟩) gN).trans a3;have qd:=(aY.cell (p:=⟨b,off+k,none⟩) eU).trans kF)
     go_quiet (fail)
     go_wp2;go_ret;exact⟨Zad HF.out.symm,Zah (aD.trans (aY.mono aD.size)) _⟩
    ·rw[hr]at HT;have HF:=Qh (Zf1 (t:=t) (Zet af (ZeP af HG.out)));have zy:(t'.kind != 1)=true:=(by simp[hk]);exact Y4A1
    ·rw[hr]at HT;have HF:=Qh (Zf1 (t:=t) (Zet af (ZeP af HG.out)));have zy:(t'.kind != 1)=false:=(by simp[hk]);have hx'':(t'.text.toList==t.hidden[k].toList)=false:=Zcb hx;exact Y4A1
    ·rw[hr]at HT;have zy:(t'.kind != 1)=false:=(by simp[hk]);have hx'':(t'.text.toList==t.hidden[k].toList)=true:=Zca hx;by_cases h0:k=0
     ·have gM:decide ((0:Int)<(k:Int))=false:=(by simp;omega);have HN:Hid (HidUpto t.hidden (k+1)):=(by subst h0;exact az.succ (Zi7 af HG.out));have yw:¬(0:Int)<(k:Int):=(by omega);have yx:decide (0<k)=false:=(by simp;omega);clear h0;clear hr HG dA az aJ;go_wp2_with (go_at_call 56;refine(HT.out _).mono ?_;rintro e w'⟨v,fp,rfl,hR,hO,aY⟩;obtain⟨b1,ae,aN,h1,rfl,vZ,we,aG,g0,g1,g2,g3,_,_⟩:=ZbQ hR;have zx:=(aY.cell (p:=⟨w.heap.size,3,none⟩) gN).trans a3;have qd:=(aY.cell (p:=⟨b,off+k,none⟩) eU).trans kF)
      go_quiet (fail)
      go_wp2;go_roundw;case rel=>exact⟨k+1,by omega,by go_num,HN.out,Zah (bL.trans (aY.mono bL.size)) _⟩
      case measure=>simp[intOf];omega
     ·have qc:=(aD.cell (p:=⟨b,off+(k-1),none⟩) hb).trans (dA (k-1) (by omega));have h6:((k:Int)-1).toNat=k-1:=(by omega);have gM:(0:Int)<(k:Int):=(by omega);have zz:decide ((0:Int)<(k:Int))=true:=(by simpa using gM);have h0n:decide (0<k)=true:=(by simp;omega);have jJ:(0:Int)<=(k:Int)-1:=(by omega);have kc:(k:Int)-1<(t.hidden.length:Int):=(by omega);rcases Zkb (a:=t.hidden[k-1]'(by omega)) (b:=t.hidden[k]) with⟨hw,sX,wg⟩ | ⟨hw,sX⟩ | ⟨hw,sX,wg⟩
      ·have HN:=Qh (az.succ (Zi8 af (by omega) HG.out hw));clear hr HG dA az aJ hw;go_wp2_with (go_at_call 56;refine(HT.out _).mono ?_;rintro e w'⟨v,fp,rfl,hR,hO,aY⟩;obtain⟨b1,ae,aN,h1,rfl,vZ,we,aG,g0,g1,g2,g3,_,_⟩:=ZbQ hR;have zx:=(aY.cell (p:=⟨w.heap.size,3,none⟩) gN).trans a3;have qd:=(aY.cell (p:=⟨b,off+k,none⟩) eU).trans kF;have hcp':=(aY.cell (p:=⟨b,off+(k-1),none⟩) eU).trans qc)
       go_quiet (fail)
       go_wp2;go_roundw;case rel=>exact⟨k+1,by omega,by go_num,HN.out,Zah (bL.trans (aY.mono bL.size)) _⟩
       case measure=>simp[intOf];omega
      all_goals
       have HF:=Qh (Zf1 (t:=t) (Zet af (Zj5 af (by omega) hw)));clear hr HG dA az aJ hw;go_wp2_with (go_at_call 56;refine(HT.out _).mono ?_;rintro e w'⟨v,fp,rfl,hR,hO,aY⟩;obtain⟨b1,ae,aN,h1,rfl,vZ,we,aG,g0,g1,g2,g3,_,_⟩:=ZbQ hR;have zx:=(aY.cell (p:=⟨w.heap.size,3,none⟩) gN).trans a3;have qd:=(aY.cell (p:=⟨b,off+k,none⟩) eU).trans kF;have hcp':=(aY.cell (p:=⟨b,off+(k-1),none⟩) eU).trans qc)
       go_quiet (fail)
       go_wp2;go_ret;exact⟨Zad HF.out.symm,Zah (aD.trans (aY.mono aD.size)) _⟩
   ·have HF:=Qh (tokOk_c HO.out (Zie az (by omega) (by omega)));clear az;go_wp2;go_ret;exact⟨Zad HF.out.symm,aD⟩
theorem ZiZ (t:Tok)(h:Value)(fp:List Nat)(w:World)(ht:ZaC t.text)(H:(Zaa sStr).R w [h] t.hidden fp):
  Calls Tryz.prog 68 #[.agg #[.int .i64 t.kind,.string t.text,.bool t.spaced,h]] w (Zbu (Zaj t) w):=by
 cases ho:Zap t.text t.kind
 ·exact Zig t h fp w ht H ho
 ·exact Zh2 t h fp w ht H ho
theorem ZcO (cs:List Value)(x:Tok)(fp:List Nat)(w:World)(H:sTok.R w cs x fp):Calls Tryz.prog 68 #[.agg cs.toArray] w (Zbu (Zaj x) w):=by
 obtain⟨h,rfl,_,bQ,K⟩:=H;exact ZiZ x h fp w bQ K
def tKey (t:Tok):Int × ByteArray:=(t.kind,t.text)
def Zdq (a b:List Tok):Bool:=decide (a.map tKey=b.map tKey)
def SameUpto (a b:List Tok)(k:Nat):Prop:=∀j,(h:j<a.length)->(h':j<b.length)->j<k->tKey a[j]=tKey b[j]
theorem SameUpto.zero (a b:List Tok):SameUpto a b 0:=by intro j _ _ h;omega
variable {k:Nat}{a b:List Tok}
theorem SameUpto.succ (h:SameUpto a b k)(h1:k<a.length)(h2:k<b.length)(e1:a[k].kind=b[k].kind)(e2:a[k].text=b[k].text):SameUpto a b (k+1):=by
 intro j hj le my;by_cases e:j=k
 ·subst e;unfold tKey;rw[e1,e2]
 ·exact h j hj le (by omega)
theorem ZmN (h:a.length≠b.length):Zdq a b=false:=by
 unfold Zdq;rw[decide_eq_false_iff_not];intro e;have:=JY List.length e;simp only[QH]at this;exact h this
theorem ZoM (h1:k<a.length)(h2:k<b.length)(e:¬(a[k].kind=b[k].kind/\a[k].text=b[k].text)):Zdq a b=false:=by
 unfold Zdq;rw[decide_eq_false_iff_not];intro e';have:=List.getElem_of_eq e' (i:=k) (by simpa using h1);simp only[JF,tKey,QS]at this;exact e this
theorem same_yes (h:SameUpto a b k)(hl:a.length=b.length)(hk:a.length<=k):Zdq a b=true:=by
 unfold Zdq;rw[JT];refine List.ext_getElem (by simpa using hl) λi h1 h2=>?_;simp only[QH]at h1 h2;rw[JF,JF];exact h i h1 h2 (by omega)
theorem ZkW (v1 v2:Value)(l1 l2:List Tok)(de bv:List Nat)(w:World)(H1:(Zaa sTok).R w [v1] l1 de)(H2:(Zaa sTok).R w [v2] l2 bv):
  Calls Tryz.prog 107 #[v1,v2] w (Zbu (Zdq l1 l2) w):=by
 obtain⟨a1,aN,rfl,fJ,li,kd⟩:=Zac H1;obtain⟨a2,fK,rfl,dA,sg,uo⟩:=Zac H2;unfold maxLen at li sg;clear H1 H2;by_cases hl:l1.length=l2.length
 ·have hnb:((l1.length:Int) != (l2.length:Int))=false:=by simp[hl]
  have HL:=Qh hl;clear hl;go_enter Tryz.func107,Tryz.ntmps107;go_wp2;go_loopw [5] (λi wr=>∃k:Nat,k<=l1.length/\i=.int .i64 k/\SameUpto l1 l2 k/\Below w.heap.size w wr) (λi _=>l1.length-(intOf i).toNat)
  case atStart=>exact⟨0,by omega,rfl,SameUpto.zero _ _,QD _ _⟩
  case round =>
   obtain⟨k,hk,rfl,az,hb⟩:=hrel;by_cases af:k<l1.length
   ·have ce:k<l2.length:=(by have:=HL.out;omega);obtain⟨b1,ae,dt,rfl,aG,-,bj⟩:=kd (by omega);obtain⟨b2,sY,fps2,rfl,aF,-,pF⟩:=uo (by omega);obtain⟨lA,bf,bR⟩:=bj k af;obtain⟨up,cQ,bN⟩:=pF k ce;clear kd uo bj pF;obtain⟨h1,rfl,_,_,_⟩:=bR;obtain⟨h2,rfl,_,_,_⟩:=bN;replace bf:=bf.frame (hb.block b1 aG);replace cQ:=cQ.frame (hb.block b2 aF);have dg:wr.cell? ⟨b1,ae+k*4,none⟩=some _:=ZaB bf (by decide) rfl;have dL:wr.cell? ⟨b1,ae+k*4+1,none⟩=some _:=Zae (j:=1) bf (by decide) rfl;have c20:wr.cell? ⟨b2,sY+k*4,none⟩=some _:=ZaB cQ (by decide) rfl;have uq:wr.cell? ⟨b2,sY+k*4+1,none⟩=some _:=Zae (j:=1) cQ (by decide) rfl;clear bf cQ;by_cases e1:l1[k].kind=l2[k].kind
    ·have q1:(l1[k].kind != l2[k].kind)=false:=(by simp[e1]);by_cases e2:l1[k].text=l2[k].text
     ·have q2:=Zca e2;have hn:=az.succ af ce e1 e2;clear e1 e2 az;go_wp2
      go_quiet (fail)
      go_wp2;go_roundw;case rel=>exact⟨k+1,by omega,by go_num,hn,Zah hb _⟩
      case measure=>simp[intOf];omega
     ·have q2:=Zcb e2;have HF:=Qh (ZoM af ce (λh=>e2 h.2));clear e1 e2 az;go_wp2
      go_quiet (fail)
      go_wp2;go_ret;exact⟨Zad HF.out.symm,Zah hb _⟩
    ·have q1:(l1[k].kind != l2[k].kind)=true:=(by simp[e1]);have HF:=Qh (ZoM af ce (λh=>e1 h.1));clear e1 az;go_wp2
     go_quiet (fail)
     go_wp2;go_ret;exact⟨Zad HF.out.symm,Zah hb _⟩
   ·have HF:=Qh (same_yes az HL.out (by omega));clear az;go_wp2;go_ret;exact⟨Zad HF.out.symm,hb⟩
 ·have hnb:((l1.length:Int) != (l2.length:Int))=true:=by simp;omega
  have HF:=Qh (ZmN hl);clear hl;go_enter Tryz.func107,Tryz.ntmps107;go_wp2;go_ret;exact⟨Zad HF.out.symm,QD _ _⟩
def Zam (l:List Tok):Bool:=decide (l.length<=60) && l.all Zaj
theorem ZbC (v:Value)(l:List Tok)(fp:List Nat)(w:World)(H:(Zaa sTok).R w [v] l fp):
  Calls Tryz.prog 44 #[v] w (Zbu (Zam l) w):=by
 obtain⟨a,cap,rfl,hc,hm,ai⟩:=Zac H;unfold maxLen at hm;clear H;go_enter Tryz.func44,Tryz.ntmps44;go_wp2;go_loopw [3] (λi wr=>∃k:Nat,k<=l.length/\i=.int .i64 k/\AllUpto Zaj l k/\Below w.heap.size w wr) (λi _=>l.length-(intOf i).toNat)
 case atStart=>exact⟨0,by omega,rfl,AllUpto.zero _ _,QD _ _⟩
 case round =>
  obtain⟨k,hk,rfl,az,hb⟩:=hrel;by_cases af:k<l.length
  ·obtain⟨b1,ae,dt,rfl,aG,-,bj⟩:=ai (by omega);obtain⟨lA,bf,bR⟩:=bj k af;clear ai bj;have bN:=sTok.below bR hb;obtain⟨h1,rfl,_,_,_⟩:=bR;have HC:=Qh (ZcO _ _ _ wr bN);clear bN;replace bf:=bf.frame (hb.block b1 aG);have dg:wr.cell? ⟨b1,ae+k*4,none⟩=some _:=ZaB bf (by decide) rfl;have dL:wr.cell? ⟨b1,ae+k*4+1,none⟩=some _:=Zae (j:=1) bf (by decide) rfl;have dh:wr.cell? ⟨b1,ae+k*4+2,none⟩=some _:=Zae (j:=2) bf (by decide) rfl;have ew:wr.cell? ⟨b1,ae+k*4+3,none⟩=some _:=Zae (j:=3) bf (by decide) rfl;clear bf;cases hv:Zaj l[k]
   ·have HF:=Qh (all_no (p:=Zaj) af hv);rw[hv]at HC;clear hv az;go_wp2_with (go_at_call 68;refine(HC.out).mono ?_;rintro e w1⟨rfl,aF⟩)
    go_ret;exact⟨Zad (by unfold Zam;rw[HF.out];simp),hb.trans (aF.mono hb.size)⟩
   ·have HN:=Qh (az.succ af hv);rw[hv]at HC;clear hv az;go_wp2_with (go_at_call 68;refine(HC.out).mono ?_;rintro e w1⟨rfl,aF⟩)
    go_roundw;case rel=>exact⟨k+1,by omega,by go_num,HN.out,hb.trans (aF.mono hb.size)⟩
    case measure=>simp[intOf];omega
  ·have HF:=Qh (ZoJ (p:=Zaj) az (by omega));clear az;go_wp2;go_ret;exact⟨Zad (by unfold Zam;rw[HF.out,Bool.and_true];exact decide_eq_decide.2 (by omega)),hb⟩
theorem ZbZ (v:Value)(l:List Tok)(fp:List Nat)(w:World)(H:(Zaa sTok).R w [v] l fp):
  Calls Tryz.prog 35 #[v] w (Zbu (Zam l) w):=by
 obtain⟨a,cap,rfl,hc,hm,ai⟩:=Zac H;unfold maxLen at hm;clear H;by_cases hl:60<l.length
 ·go_enter Tryz.func35,Tryz.ntmps35;go_wp2;go_ret;exact⟨Zad (by unfold Zam;rw[JQ (by omega)];rfl),QD _ _⟩
 go_enter Tryz.func35,Tryz.ntmps35;go_wp2;go_loopw [10] (λi wr=>∃k:Nat,k<=l.length/\i=.int .i64 k/\AllUpto Zaj l k/\Below w.heap.size w wr) (λi _=>l.length-(intOf i).toNat)
 case atStart=>exact⟨0,by omega,rfl,AllUpto.zero _ _,QD _ _⟩
 case round =>
  obtain⟨k,hk,rfl,az,hb⟩:=hrel;by_cases af:k<l.length
  ·obtain⟨b1,ae,dt,rfl,aG,-,bj⟩:=ai (by omega);obtain⟨lA,bf,bR⟩:=bj k af;clear ai bj;have bN:=sTok.below bR hb;obtain⟨h1,rfl,_,_,K1⟩:=bR;obtain⟨ah,bV,rfl,-⟩:=Zac K1;clear K1;have HC:Hid (∀W,Below wr.heap.size wr W->Calls Tryz.prog 59 #[.agg #[.int .i64 l[k].kind,.string l[k].text,.bool l[k].spaced,.slice ah l[k].hidden.length bV]] W (Zbu (Zaj l[k]) W)):=λW hW=>ZeQ _ _ _ W (sTok.below bN hW);clear bN;replace bf:=bf.frame (hb.block b1 aG);have dg:wr.cell? ⟨b1,ae+k*4,none⟩=some _:=ZaB bf (by decide) rfl;have dL:wr.cell? ⟨b1,ae+k*4+1,none⟩=some _:=Zae (j:=1) bf (by decide) rfl;have dh:wr.cell? ⟨b1,ae+k*4+2,none⟩=some _:=Zae (j:=2) bf (by decide) rfl;have ew:wr.cell? ⟨b1,ae+k*4+3,none⟩=some _:=Zae (j:=3) bf (by decide) rfl;clear bf;cases hv:Zaj l[k]
   ·have HF:=Qh (all_no (p:=Zaj) af hv);rw[hv]at HC;clear hv az;go_wp2_with (go_at_call 59;refine(HC.out _ (Zab _ _)).mono ?_;rintro e w1⟨rfl,aF⟩)
    go_ret;have aC:=(Zab wr (.cells #[.int .i64 l[k].kind,.string l[k].text,.bool l[k].spaced,.slice ah l[k].hidden.length bV] 32));exact⟨Zad (by unfold Zam;rw[HF.out];simp),hb.trans ((aC.trans (aF.mono aC.size)).mono hb.size)⟩
   ·have HN:=Qh (az.succ af hv);rw[hv]at HC;clear hv az;go_wp2_with (go_at_call 59;refine(HC.out _ (Zab _ _)).mono ?_;rintro e w1⟨rfl,aF⟩)
    have aC:=(Zab wr (.cells #[.int .i64 l[k].kind,.string l[k].text,.bool l[k].spaced,.slice ah l[k].hidden.length bV] 32));go_roundw;case rel=>exact⟨k+1,by omega,by go_num,HN.out,hb.trans ((aC.trans (aF.mono aC.size)).mono hb.size)⟩
    case measure=>simp[intOf];omega
  ·have HF:=Qh (ZoJ (p:=Zaj) az (by omega));clear az;go_wp2;go_ret;exact⟨Zad (by unfold Zam;rw[HF.out,Bool.and_true];exact(JR (by omega)).symm),hb⟩
theorem ZiN (s:ByteArray)(i j k:Nat)(h:k<(s.extract i j).size):(s.extract i j)[k]=s[i+k]'(by rw[Ql]at h;omega):=by
 rw[ByteArray.getElem_extract]
def ZmO (t:Tok):Prop:=∃h:0<t.text.size,t.kind=cutKind t.text[0]
theorem Zqa (s:ByteArray):∀(k:Nat) (sp:Bool) (n:Nat) (l:List Tok),toks s k sp n=some l->∀t∈l,ZmO t:=by
 intro k sp n;induction k,sp,n using toks.induct (s:=s) with
 |
  case1 k sp n hk h32 ih =>
  intro l h;rw[toks,dif_pos hk,if_pos h32]at h;exact ih l h
 |
  case2 k sp n hk h32 hb =>
  intro l h;rw[toks,dif_pos hk,if_neg h32,if_pos hb]at h;exact absurd h (by simp)
 |
  case3 k sp n hk h32 hb ih =>
  intro l h t ht;rw[toks,dif_pos hk,if_neg h32,if_neg hb]at h;have hr:=Zb7 (s:=s) (k:=k) (by omega);rw[Option.map_eq_some_iff]at h;obtain⟨l',h1,rfl⟩:=h;rcases Q7.1 ht with rfl | ht
  ·have hz:0<(s.extract k (ZaI s k).toNat).size:=(by rw[Ql];omega);refine⟨hz,?_⟩;show cutKind s[k]=cutKind (s.extract k (ZaI s k).toNat)[0];rw[ZiN];rfl
  ·exact ih l' h1 t ht
 |
  case4 k sp n hk =>
  intro l h;rw[toks,dif_neg hk]at h;simp only[Qi]at h;subst h;simp
theorem Zjc (s:ByteArray):∀t∈(Zau s).1,ZmO t:=by
 rcases hr:Zau s with⟨l,ok⟩;cases ok
 ·obtain rfl:=Zge hr;simp
 ·exact Zqa s 0 false 0 l (Zdt hr).1
theorem Zkc {x:ByteArray}{k:Int}(h:Zap x k=true):∃t,Zau x=([t],true)/\t.kind=k/\t.text=x:=by
 rcases Zes x k with⟨_,HG⟩ | ⟨l,_,_,HG⟩ | ⟨t',_,_,HG⟩ | ⟨t',_,_,_,HG⟩ | ⟨t',hr,hk,hx,_,_⟩
 ·exact absurd (HG.out.symm.trans h) (by simp)
 ·exact absurd (HG.out.symm.trans h) (by simp)
 ·exact absurd (HG.out.symm.trans h) (by simp)
 ·exact absurd (HG.out.symm.trans h) (by simp)
 ·exact⟨t',hr,hk,hx⟩
variable {t:Tok}
theorem Za9 (h:Zaj t=true):ZmO t/\t.text.size<=200:=by
 unfold Zaj at h;rw[QI]at h;obtain⟨u,hr,hk,hx⟩:=Zkc h.1;have h1:=Zjc t.text u (by rw[hr];simp);have h2:=Zi4 (Zdt hr).2;refine⟨?_,h2⟩;obtain⟨a,b⟩:=h1;obtain⟨k,x,s,hd⟩:=t;subst hx;exact⟨a,(show k=u.kind from hk.symm).trans b⟩
def readsTwo (a b:ByteArray):Bool:=(Zau (a++b)).2 && decide ((Zau (a++b)).1.map (·.text)=[a,b])
def meets (a b:ByteArray):Bool:=if h:0<a.size/\0<b.size then decide (a[a.size-1].toNat=47) && (decide (b[0].toNat=47) || decide (b[0].toNat=42)) else false
def glued (a b:ByteArray):Bool:=!readsTwo a b || meets a b
theorem Zay {l:List Tok}(h:Zam l=true):l.length<=60/\∀k,(hk:k<l.length)->Zaj l[k]=true:=by
 unfold Zam at h;rw[QI,JT,Qk]at h;exact⟨h.1,λk hk=>h.2 _ (QE hk)⟩
theorem toks_all (s:ByteArray):∀(k:Nat) (sp:Bool) (n:Nat) (l:List Tok),toks s k sp n=some l->n<=60->n+l.length<=60/\∀t∈l,t.hidden=[]:=by
 intro k sp n;induction k,sp,n using toks.induct (s:=s) with
 |
  case1 k sp n hk h32 ih =>
  intro l h hn;rw[toks,dif_pos hk,if_pos h32]at h;exact ih l h hn
 |
  case2 k sp n hk h32 hb =>
  intro l h hn;rw[toks,dif_pos hk,if_neg h32,if_pos hb]at h;exact absurd h (by simp)
 |
  case3 k sp n hk h32 hb ih =>
  intro l h hn;rw[toks,dif_pos hk,if_neg h32,if_neg hb]at h;rw[Option.map_eq_some_iff]at h;obtain⟨l',h1,rfl⟩:=h;obtain⟨a,b⟩:=ih l' h1 (by omega);refine⟨by simp only[QQ];omega,λt ht=>?_⟩;rcases Q7.1 ht with rfl | ht
  ·rfl
  ·exact b t ht
 |
  case4 k sp n hk =>
  intro l h hn;rw[toks,dif_neg hk]at h;simp only[Qi]at h;subst h;simp;exact hn
theorem Zhr (s:ByteArray):(Zau s).1.length<=60/\∀t∈(Zau s).1,t.hidden=[]:=by
 rcases hr:Zau s with⟨l,ok⟩;cases ok
 ·obtain rfl:=Zge hr;simp
 ·obtain⟨h1,_⟩:=Zdt hr;have:=toks_all s 0 false 0 l h1 (by omega);exact⟨by simpa using this.1,this.2⟩
def bAt (s:ByteArray)(j:Nat):Option UInt8:=if h:j<s.size then some s[j] else none
variable {s:ByteArray}{j:Nat}
theorem ZbB (h:j<s.size):bAt s j=some s[j]:=by unfold bAt;rw[dif_pos h]
theorem Zih (h:s.size<=j):bAt s j=none:=by unfold bAt;rw[dif_neg (by omega)]
theorem Zc0 {c:UInt8}(h:bAt s j=some c):∃hj:j<s.size,s[j]=c:=by
 by_cases hj:j<s.size
 ·rw[ZbB hj,Qi]at h;exact⟨hj,h⟩
 ·rw[Zih (by omega)]at h;exact absurd h (by simp)
theorem bAt_left {s t:ByteArray}(h:j<s.size):bAt (s++t) j=bAt s j:=by
 rw[ZbB (by rw[QK];omega),ZbB h,ByteArray.getElem_append_left h]
theorem Zqb {s t:ByteArray}{i j:Nat}(h:i=s.size+j):bAt (s++t) i=bAt t j:=by
 subst h;by_cases hj:j<t.size
 ·rw[ZbB (by rw[QK];omega),ZbB hj,ByteArray.getElem_append_right (by omega)];congr 2;omega
 ·rw[Zih (by rw[QK];omega),Zih (by omega)]
theorem ZoN {a b:ByteArray}(h:a.size=b.size)(h2:∀j,j<a.size->bAt a j=bAt b j):a=b:=by
 apply ByteArray.ext;apply Array.ext (by exact h);intro i h1 h3;have h1':i<a.size:=h1;have:=h2 i h1';rw[ZbB h1',ZbB (h ▸ h1'),Qi]at this;simpa[Qx]using this
theorem ZiO {i e j:Nat}(he:e<=s.size)(h:j<e-i):bAt (s.extract i e) j=bAt s (i+j):=by
 have hz:(s.extract i e).size=e-i:=by rw[Ql];omega
 rw[ZbB (by omega),ZbB (by omega),ZiN]
def Zkd (c:UInt8):Bool:=!Zar c && decide (c≠61) && decide (c≠38) && decide (c≠124) && decide (c≠35)
theorem Zps {c:UInt8}(h:Zkd c=true):Zar c=false:=by
 unfold Zkd at h;simp only[QI]at h;simpa using h.1.1.1.1
def Ends (s':ByteArray)(k':Nat)(s:ByteArray)(k:Nat):Prop:=bAt s' k'=bAt s k\/∀c,bAt s' k'=some c->Zkd c=true
theorem Zqc {s':ByteArray}{k':Nat}(h:bAt s' k'=none):Ends s' k' s k:=.inr λc hc=>by
 rw[h]at hc;exact absurd hc (by simp)
theorem ZlN {s s':ByteArray}:∀(d k k':Nat),wEnd s k=k+d->(∀j,j<d->bAt s' (k'+j)=bAt s (k+j))->Ends s' (k'+d) s (k+d)->wEnd s' k'=k'+d
 |
  0,k,k',h,_,hE=>by
  have zA:∀c,bAt s k=some c->Zar c=false:=λc hc=>by
   obtain⟨hk,rfl⟩:=Zc0 hc;cases hw:Zar s[k]
   ·rfl
   ·rw[ZbY hk hw]at h;have:=(ZgR s (k+1)).1;omega
  by_cases hk':k'<s'.size
  ·rcases hE with h1 | h1
   ·rw[Q0,Q0,ZbB hk']at h1;exact Zcr hk' (zA _ h1.symm)
   ·exact Zcr hk' (Zps (h1 _ (ZbB hk')))
  ·exact ZdJ (by omega)
 |
  d+1,k,k',h,hb,hE=>by
  have hk:k<s.size:=by
   apply Nat.lt_of_not_le;intro hn;rw[ZdJ hn]at h;omega
  have hw:Zar s[k]=true:=by
   cases hw:Zar s[k]
   ·rw[Zcr hk hw]at h;omega
   ·rfl
  rw[ZbY hk hw]at h;have h0:=hb 0 (by omega);rw[Q0,Q0,ZbB hk]at h0;obtain⟨hk',he⟩:=Zc0 h0;rw[ZbY hk' (by rw[he];exact hw)];have e1:k'+(d+1)=k'+1+d:=by omega
  have e2:k+(d+1)=k+1+d:=by omega
  rw[e1];refine ZlN (s:=s) (s':=s') d (k+1) (k'+1) (by omega) (λj hj=>?_) (by rw[←e1,←e2];exact hE);have:=hb (j+1) (by omega)
  rwa [show k'+(j+1)=k'+1+j by omega,show k+(j+1)=k+1+j by omega]at this
theorem Zoc {s s':ByteArray}(d:Nat):∀(k k':Nat),tClose s k=some (k+d)->(∀j,j<d->bAt s' (k'+j)=bAt s (k+j))->tClose s' k'=some (k'+d):=by
 induction d using Nat.strongRecOn with
 |
  ind d ih =>
  intro k k' h hb;have hs:=ZbA h;have hk:k<s.size:=by omega
  have h0:=hb 0 (by omega);rw[Q0,Q0,ZbB hk]at h0;obtain⟨hk',he⟩:=Zc0 h0;by_cases nR:s[k].toNat=34
  ·rw[ZbN hk nR,Qi]at h;rw[ZbN hk' (by rw[he];exact nR)];congr 1;omega
  ·by_cases mX:s[k].toNat=92
   ·rw[Zcs hk mX]at h;have bi:=ZbA h;rw[Zcs hk' (by rw[he];exact mX)]
    have:=ih (d-2) (by omega) (k+2) (k'+2) (by rw[h];congr 1;omega) (λj hj=>by
     have:=hb (j+2) (by omega)
     rwa [show k'+(j+2)=k'+2+j by omega,show k+(j+2)=k+2+j by omega]at this)
    rw[this];congr 1;omega
   ·rw[Zb6 hk nR mX]at h;have bi:=ZbA h;rw[Zb6 hk' (by rw[he];exact nR) (by rw[he];exact mX)]
    have:=ih (d-1) (by omega) (k+1) (k'+1) (by rw[h];congr 1;omega) (λj hj=>by
     have:=hb (j+1) (by omega)
     rwa [show k'+(j+1)=k'+1+j by omega,show k+(j+1)=k+1+j by omega]at this)
    rw[this];congr 1;omega
theorem ZkX (s:ByteArray)(k:Nat)(a b:UInt8):two s k a b=(decide (bAt s k=some a) && decide (bAt s (k+1)=some b)):=by
 have hd:∀j,s.data.toList[j]?=bAt s j:=λj=>by
  by_cases hj:j<s.size
  ·rw[ZbB hj,QJ (by simpa using hj)];simp[Qx]
  ·rw[Zih (by omega),List.getElem?_eq_none (by simpa using hj)]
 have hx:∀L:List UInt8,[a,b].isPrefixOf L=(decide (L[0]?=some a) && decide (L[1]?=some b)):=λL=>by
  match L with
  | []=>simp[List.isPrefixOf]
  | [x]=>simp[List.isPrefixOf]
  |
   x::y::L =>
   have e:∀u v:UInt8,(u==v)=decide (v=u):=λu v=>by
    by_cases h:v=u
    ·subst h;simp
    ·have h':¬u=v:=λe=>h e.symm;simp[h,h']
   simp[List.isPrefixOf,e]
 unfold two;rw[hx,List.getElem?_drop,List.getElem?_drop,hd,hd,Q0]
theorem Zke {s s':ByteArray}{k k':Nat}(h0:bAt s' k'=bAt s k)(h1:bAt s' (k'+1)=bAt s (k+1)):Zbg s' k'=Zbg s k:=by
 unfold Zbg;simp only[ZkX,h0,h1]
theorem twoAt_no (h:∀c,bAt s (k+1)=some c->Zkd c=true):Zbg s k=false:=by
 unfold Zbg;simp only[ZkX];cases hb:bAt s (k+1) with
 | none=>simp
 |
  some c =>
  have:=h c hb;unfold Zkd at this;simp only[QI,JT]at this;obtain⟨⟨⟨⟨_,h1⟩,h2⟩,h3⟩,h4⟩:=this;simp[h1,h2,h3,h4]
theorem Zqd {s s':ByteArray}{k k' d:Nat}(h:ZbK s k=d)(h0:d≠0)(hb:∀j,j<d->bAt s' (k'+j)=bAt s (k+j))(hE:Ends s' (k'+d) s (k+d)):ZbK s' k'=d:=by
 have b0:=hb 0 (by omega);rw[Q0,Q0]at b0;cases ht:Zbg s k
 ·have hk:k<s.size:=by
   apply Nat.lt_of_not_le;intro hn;unfold ZbK at h;rw[if_neg (by simp[ht]),dif_neg (by omega)]at h;omega
  unfold ZbK at h;rw[if_neg (by simp[ht]),dif_pos hk]at h;have hm:s[k]∈marks1:=by
   apply Classical.byContradiction;intro hn;rw[if_neg hn]at h;omega
  rw[if_pos hm]at h;subst h;have ht':Zbg s' k'=false:=by
   rcases hE with h1 | h1
   ·rw[Zke b0 h1,ht]
   ·exact twoAt_no h1
  rw[ZbB hk]at b0;obtain⟨hk',he⟩:=Zc0 b0;unfold ZbK;rw[if_neg (by simp[ht']),dif_pos hk',if_pos (by rw[he];exact hm)]
 ·unfold ZbK at h;rw[if_pos ht]at h;subst h;have b1:=hb 1 (by omega);unfold ZbK;rw[if_pos (by rw[Zke b0 b1];exact ht)]
theorem cut_same {s s':ByteArray}{k k' d:Nat}(h:ZaI s k=(k+d:Nat))(hb:∀j,j<d->bAt s' (k'+j)=bAt s (k+j))(hE:Ends s' (k'+d) s (k+d)):ZaI s' k'=(k'+d:Nat):=by
 have hr:=Zb7 (s:=s) (k:=k) (by omega);have hk:k<s.size:=hr.2.2;have gO:0<d:=by omega
 have b0:=hb 0 (by omega);rw[Q0,Q0,ZbB hk]at b0;obtain⟨hk',he⟩:=Zc0 b0;cases hw:Zar s[k]
 ·by_cases hq:s[k].toNat=34
  ·rw[ZcY hk hw hq]at h;cases hc:tClose s (k+1) with
   | none=>rw[hc]at h;simp only at h;omega
   |
    some e =>
    rw[hc]at h;replace h:(e:Int)=(k+d:Nat):=h
    have:=Zoc (s:=s) (s':=s') (d-1) (k+1) (k'+1) (by rw[hc];congr 1;omega) (λj hj=>by
     have:=hb (j+1) (by omega)
     rwa [show k'+(j+1)=k'+1+j by omega,show k+(j+1)=k+1+j by omega]at this)
    rw[ZcY hk' (by rw[he];exact hw) (by rw[he];exact hq),this];simp only;omega
  ·rw[ZcZ hk hw hq]at h;split at h
   ·omega
   ·rename_i h0;have:=Zqd (s:=s) (s':=s') (k:=k) (k':=k') (d:=d) (by omega) (by omega) hb hE;rw[ZcZ hk' (by rw[he];exact hw) (by rw[he];exact hq),this,if_neg (by omega)]
 ·rw[Zct hk hw]at h;split at h
  ·omega
  ·rename_i h0;have:=ZlN (s:=s) (s':=s') d k k' (by omega) hb hE;rw[Zct hk' (by rw[he];exact hw),this,if_neg (by omega)]
theorem Zqe {z:ByteArray}{ts:List Tok}(h:toks z 0 false 0=some (t::ts))(h0:0<z.size)(h32:¬z[0].toNat=32):ZaI z 0=(t.text.size:Nat):=by
 rw[toks,dif_pos h0,if_neg h32]at h;split at h
 ·simp at h
 ·rename_i hb;rw[Option.map_eq_some_iff]at h;obtain⟨l',_,h2⟩:=h;simp only[JH]at h2;have hr:=Zb7 (s:=z) (k:=0) (by omega);rw[←h2.1];show _=((z.extract 0 (ZaI z 0).toNat).size:Int);rw[Ql];omega
theorem ZgD (h:Zaj t=true):∃h0:0<t.text.size,t.text[0].toNat≠32/\ZaI t.text 0=(t.text.size:Nat)/\Za8 t.text=true:=by
 unfold Zaj at h;rw[QI]at h;obtain⟨u,hr,_,hx⟩:=Zkc h.1;obtain⟨h1,_⟩:=Zjc t.text u (by rw[hr];simp);obtain⟨h2,h3⟩:=Zdt hr;have h0:0<t.text.size:=by rw[←hx];exact h1
 have h32:¬t.text[0].toNat=32:=by
  intro h32;rw[toks,dif_pos h0,if_pos h32]at h2;have:=ZmK t.text 1 true 0 _ h2 (by omega) u (by simp);rw[hx]at this;omega
 refine⟨h0,h32,?_,h3⟩;have:=Zqe h2 h0 h32;rw[hx]at this;exact this
def AllOk (s:ByteArray):Prop:=∀j c,bAt s j=some c->ZfE c=true
theorem AllOk.app {a b:ByteArray}(ha:AllOk a)(hb:AllOk b):AllOk (a++b):=λj c h=>by
 by_cases hj:j<a.size
 ·rw[bAt_left hj]at h;exact ha j c h
 ·rw[Zqb (j:=j-a.size) (by omega)]at h;exact hb _ c h
theorem AllOk.of (h:Za8 s=true):AllOk s:=λj c hc=>by
 obtain⟨hj,rfl⟩:=Zc0 hc;unfold Za8 at h;rw[QI,Qk]at h;exact h.2 _ (by simp[Qx])
theorem AllOk.line (h:AllOk s)(hs:s.size<=200):Za8 s=true:=by
 rw[Zhj (k:=s.size) (λj hj _=>h j _ (ZbB hj)) (QA _)];exact JR hs
theorem ZoO (hs:Za8 s=true){k e:Nat}(hk:k<s.size)(h32:¬s[k].toNat=32)(hc:ZaI s k=(e:Nat))(sp:Bool):Zaj ⟨cutKind s[k],s.extract k e,sp,[]⟩=true:=by
 have hr:=Zb7 (s:=s) (k:=k) (by omega);have hz:(s.extract k e).size=e-k:=by rw[Ql];omega
 have hb:∀j,j<e-k->bAt (s.extract k e) (0+j)=bAt s (k+j):=λj hj=>by rw[QX];exact ZiO (by omega) hj
 have lB:=cut_same (s':=s.extract k e) (k':=0) (d:=e-k) (by rw[hc];omega) hb (Zqc (Zih (by omega)));have h0:0<(s.extract k e).size:=by omega
 have hf:(s.extract k e)[0]=s[k]:=ZiN s k e 0 h0;have hl:Za8 (s.extract k e)=true:=by
  refine AllOk.line (λj c hj=>?_) (by have:=Zi4 hs;omega);obtain⟨h1,_⟩:=Zc0 hj;rw[ZiO (by omega) (by omega)]at hj;exact AllOk.of hs _ c hj
 have ht:toks (s.extract k e) 0 false 0=some [⟨cutKind s[k],s.extract k e,false,[]⟩]:=by
  have hzz:((s.extract k e).extract 0 (e-k)).size=(s.extract k e).size:=by rw[Ql];omega
  have hx:(s.extract k e).extract 0 (e-k)=s.extract k e:=ZoN hzz λj hj=>by
   rw[ZiO (by omega) (by omega),QX]
  rw[toks,dif_pos h0,if_neg (by rw[hf];exact h32),lB,if_neg (by omega),QX,Int.toNat_natCast,Nat.max_eq_right (by omega),toks,dif_neg (by omega),hf,hx];rfl
 have hr:=ZgT hl ht;unfold Zaj;rw[QI];refine⟨?_,by show ZbO []=true;decide⟩;show Zap (s.extract k e) (cutKind s[k])=true;simp[Zap,hr]
structure DMacro where
 name:ByteArray
 function:Bool
 params:List ByteArray
 body:List Tok
def ZbD:ByteArray:=⟨#[100,101,102,105,110,101,100]⟩
def ZdF:ByteArray:=⟨#[35]⟩
def ZcE:ByteArray:=⟨#[35,35]⟩
def openB:ByteArray:=⟨#[40]⟩
def ZfI:ByteArray:=⟨#[41]⟩
def Zkf:ByteArray:=⟨#[44]⟩
def parFrom (ps:List ByteArray)(t:Tok)(k:Nat):Int:=if h:k<ps.length then (if t.kind=1/\ps[k]=t.text then (k:Int) else parFrom ps t (k+1)) else -1
termination_by ps.length-k
def parOf (ps:List ByteArray)(t:Tok):Int:=parFrom ps t 0
def Zfc (m:DMacro):Bool:=Zap m.name 1 && !decide (m.name=ZbD) && decide (m.params.length<=4) && (m.function || decide (m.params.length=0)) && decide (m.body.length<=20)
def ZcP (ps:List ByteArray)(k:Nat):Bool:=if h:k<ps.length then Zap ps[k] 1 && (List.range k).all (λj=>!decide (ps[j]?=some ps[k])) else true
def Zd4 (m:DMacro)(k:Nat):Bool:=
 if h:k<m.body.length then
  Zaj m.body[k] && decide (m.body[k].hidden.length=0) && !(decide (k=0) && m.body[k].spaced) &&
  !(decide (m.body[k].text=ZcE) && (decide (k=0) || decide (k+1=m.body.length) || decide ((m.body[k-1]'(by omega)).text=ZcE))) &&
  !(m.function && decide (m.body[k].text=ZdF) && (if h2:k+1<m.body.length then decide (parOf m.params m.body[k+1]<0) else true))
 else true
def Zaq (m:DMacro):Bool:=Zfc m && (List.range m.params.length).all (ZcP m.params) && (List.range m.body.length).all (Zd4 m)
def parsAt (l:List Tok)(k:Nat):Option (List ByteArray × Nat):=
 if h:k+1<l.length then
  (if l[k].kind=1 then (if l[k+1].text=ZfI then some ([l[k].text],k+2) else if l[k+1].text=Zkf then (parsAt l (k+2)).map (λp=>(l[k].text::p.1,p.2)) else none) else none)
 else none
termination_by l.length-k
def Zcd (l:List Tok):Option (List ByteArray × Nat):=if h:2<l.length then (if l[2].text=ZfI/\l[2].kind=4 then some ([],3) else parsAt l 2) else none
def Zbh (l:List Tok)(k:Nat):List Tok:=(l.drop k).mapIdx λi t=>⟨t.kind,t.text,t.spaced && decide (0<i),[]⟩
def Zc9:DMacro:=⟨⟨#[]⟩,false,[],[]⟩
def Zda (m:DMacro):DMacro × Bool:=if Zaq m=true then (m,true) else (Zc9,false)
def ZcQ (l:List Tok):Bool:=if h:1<l.length then decide (l[1].text=openB) && !l[1].spaced else false
def macOf (l:List Tok):DMacro × Bool:=
 if h:Zam l=true/\0<l.length then
  (
  if ZcQ l=true then (match Zcd l with | some p=>Zda ⟨l[0].text,true,p.1,Zbh l p.2⟩ | none=>(Zc9,false))
  else Zda ⟨l[0].text,false,[],Zbh l 1⟩)
 else (Zc9,false)
theorem Za0 {m:DMacro}(h:Zaq m=true):(Zap m.name 1=true/\m.name≠ZbD/\m.params.length<=4/\(m.function=true\/m.params=[])/\m.body.length<=20)/\(∀k,(hk:k<m.params.length)->Zap m.params[k] 1=true)/\(∀k,k<m.body.length->Zd4 m k=true):=by
 unfold Zaq Zfc at h;simp only[QI,Bool.not_eq_true',decide_eq_false_iff_not,JT,Q6,Qk,List.mem_range,QU]at h;obtain⟨⟨⟨⟨⟨⟨h1,h2⟩,h3⟩,h4⟩,h5⟩,h6⟩,h7⟩:=h;refine⟨⟨h1,h2,h3,h4,h5⟩,λk hk=>?_,h7⟩;have:=h6 k hk;unfold ZcP at this;rw[dif_pos hk,QI]at this;exact this.1
theorem Zc1 {m:DMacro}(hk:k<m.body.length)(h:Zd4 m k=true):Zaj m.body[k]=true/\m.body[k].hidden=[]/\(k=0->m.body[k].spaced=false):=by
 unfold Zd4 at h;rw[dif_pos hk]at h;simp only[QI,JT,QU,Bool.not_eq_true',Bool.and_eq_false_iff,decide_eq_false_iff_not]at h;obtain⟨⟨⟨⟨h1,h2⟩,h3⟩,_⟩,_⟩:=h;exact⟨h1,h2,λh=>h3.resolve_left (λh'=>h' h)⟩
end Go.Proofs.YtipfpppcbmpjiaaGreat
