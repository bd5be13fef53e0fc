/- Lemmas. -/
import Derived.Test.YtipfpppcbmpjiaaGreatZC15
import Derived.Shelf.Spec.SlicesInsertGrow
set_option linter.unusedVariables false
set_option maxHeartbeats 16000000
set_option maxRecDepth 100000
set_option linter.unusedSimpArgs false
namespace Go.Proofs.YtipfpppcbmpjiaaGreat
open Go.RowKit
theorem con_toL {x:ByteArray}{l:List UInt8}(h:x.toList=l):x=⟨l.toArray⟩:=by
 rw[QB]at h;subst h;simp
variable {t:Tok}
theorem ZnE (h:Zaj t=true){c:UInt8}{l:List UInt8}(e:t.text.toList=c::l):t.kind=cutKind c:=by
 have e2:=con_toL e;obtain⟨h0,hk⟩:=(Za9 h).1;obtain⟨k,x,s,hd⟩:=t;obtain rfl:x=⟨(c::l).toArray⟩:=e2;exact hk
theorem con_mk (h:Zaj t=true){c:UInt8}(hc:cutKind c=4):ZaS t [c]=(t.text.toList==[c]):=by
 unfold ZaS;cases e:(t.text.toList==[c])
 ·rw[JB]
 ·rw[ZnE h (beq_iff_eq.1 e),hc];rfl
theorem con_dfn (h:Zaj t=true):ZbJ t=(t.text.toList==[100,101,102,105,110,101,100]):=by
 unfold ZbJ;cases e:(t.text.toList==[100,101,102,105,110,101,100])
 ·rw[JB]
 ·rw[ZnE h (beq_iff_eq.1 e),show cutKind 100=1 from by decide];rfl
theorem con_has {T:List DMacro}(hT:ZaU T=true)(nm:ByteArray):ZdA T nm=isIn T nm:=by
 unfold ZdA;rw[Zgn hT];cases isIn T nm
 ·simp
 ·simp
def Zcf (W:List Tok):ByteArray × Nat:=
 if Za5 W 1=true then (ZbW W 1,2)
 else if Zan W 1 [40]=true/\Za5 W 2=true/\Zan W 3 [41]=true then (ZbW W 2,4)
 else (⟨#[]⟩,0)
variable {W:List Tok}
theorem Zpb (h:Za5 W 1=true):Zcf W=(ZbW W 1,2):=by unfold Zcf;rw[if_pos h]
theorem ask_in (h:Za5 W 1=false)(h1:Zan W 1 [40]=true)(h2:Za5 W 2=true)(h3:Zan W 3 [41]=true):Zcf W=(ZbW W 2,4):=by unfold Zcf;rw[if_neg (by rw[h];simp),if_pos ⟨h1,h2,h3⟩]
theorem Zgv (h:Za5 W 1=false)(h1:¬(Zan W 1 [40]=true/\Za5 W 2=true/\Zan W 3 [41]=true)):Zcf W=(⟨#[]⟩,0):=by unfold Zcf;rw[if_neg (by rw[h];simp),if_neg h1]
variable {l:List Tok}{s:List UInt8}
theorem ZfP {k j:Nat}:Zan (l.drop k) j s=Zan l (k+j) s:=by
 unfold Zan;by_cases h:k+j<l.length
 ·rw[dif_pos h,dif_pos (by rw[QM];omega),List.getElem_drop]
 ·rw[dif_neg h,dif_neg (by rw[QM];omega)]
theorem ZeJ {k j:Nat}:Za5 (l.drop k) j=Za5 l (k+j):=by
 unfold Za5;by_cases h:k+j<l.length
 ·rw[dif_pos h,dif_pos (by rw[QM];omega)];simp only[List.getElem_drop]
 ·rw[dif_neg h,dif_neg (by rw[QM];omega)]
theorem Zmk {k j:Nat}:ZbW (l.drop k) j=ZbW l (k+j):=by
 unfold ZbW;by_cases h:k+j<l.length
 ·rw[dif_pos h,dif_pos (by rw[QM];omega),List.getElem_drop]
 ·rw[dif_neg h,dif_neg (by rw[QM];omega)]
variable {k:Nat}
theorem nm_mk (h:Za5 l k=true):Zan l k s=false:=by
 unfold Za5 at h;split at h
 ·rename_i hk;rw[Zeb hk];have:=JW h;unfold ZaS;rw[this];rfl
 ·cases h
theorem nm_lt (h:Za5 l k=true):k<l.length:=by
 unfold Za5 at h;split at h
 ·assumption
 ·cases h
theorem mk_lt (h:Zan l k s=true):k<l.length:=by
 unfold Zan at h;split at h
 ·assumption
 ·cases h
theorem ask_len (W:List Tok):(Zcf W).2=0\/(2<=(Zcf W).2/\(Zcf W).2<=W.length):=by
 unfold Zcf;split
 ·rename_i h;have:=nm_lt h;exact .inr ⟨QA _,this⟩
 ·split
  ·rename_i h;have:=mk_lt h.2.2;exact .inr ⟨by show 2<=4;omega,this⟩
  ·exact .inl rfl
theorem rep_ask {T:List DMacro}{l acc:List Tok}(h:k<l.length)(hd:ZbJ l[k]=true):
  ZaY T l k acc=if (Zcf (l.drop k)).2=0 then ([],false) else ZaY T l (k+(Zcf (l.drop k)).2) (acc++[Zbw (ZdA T (Zcf (l.drop k)).1) l[k].spaced]):=by
 cases h1:Za5 l (k+1)
 ·cases h2:Zan l (k+1) [40]
  ·rw[Zgv (by rw[ZeJ];exact h1) (by rw[ZfP,h2];simp),if_pos rfl,Zew h hd h2 h1]
  ·by_cases h3:Zan l (k+3) [41]=true/\Za5 l (k+2)=true
   ·rw[ask_in (by rw[ZeJ];exact h1) (by rw[ZfP];exact h2) (by rw[ZeJ];exact h3.2) (by rw[ZfP];exact h3.1),if_neg (by simp),Ze0 h hd h2 h3.1 h3.2,Zmk]
   ·rw[Zgv (by rw[ZeJ];exact h1) (by rw[ZeJ,ZfP,ZfP];exact λh=>h3 ⟨h.2.2,h.2.1⟩),if_pos rfl,ZdP h hd h2 h3]
 ·rw[Zpb (by rw[ZeJ];exact h1),if_neg (by simp),ZcT h hd (nm_mk h1) h1,Zmk]
def Zlm (r:List Tok × Bool)(w:World)(e:Ending)(w':World):Prop:=
 ∃(v:Value) (fp:List Nat),e=.returned (.tuple #[v,.bool r.2])/\(Zaa sTok).R w' [v] r.1 fp/\Own w' w.heap.size fp/\Below w.heap.size w w'
theorem ZhK {r:List Tok × Bool}{w W:World}(h:r=([],false))(hb:Below w.heap.size w W):Zlm r w (.returned (.tuple #[.slice none 0 0,.bool false])) W:=
 ⟨_,[],by rw[h],by rw[h];exact Zao _ _ _ _ (by simp),Own.nil _ _,hb⟩
theorem Zfp {x:ByteArray}{n:Nat}{w:World}(h:Zcf W=(x,n)):(Ending.returned (.tuple #[.string x,.int .i64 (n:Nat)])=.returned (.tuple #[.string (Zcf W).1,.int .i64 ((Zcf W).2:Nat)]))/\w=w:=⟨by rw[h],rfl⟩
theorem Zln (v:Value)(W:List Tok)(fp:List Nat)(w:World)(h0:0<W.length)(hl:W.length<=1000000)(bQ:∀t∈W,Zaj t=true)(H:(Zaa sTok).R w [v] W fp):
  Calls Tryz.prog 37 #[v] w λe w'=>e=.returned (.tuple #[.string (Zcf W).1,.int .i64 ((Zcf W).2:Nat)])/\w'=w:=by
 have H0:=Qh H;obtain⟨a,cap,rfl,hc,hm,ai⟩:=Zac H;unfold maxLen at hm;obtain⟨b,o,-,rfl,-,-,-⟩:=ai h0;have HA:=Qh (λj (hj:j<W.length)=>ZaO H hj);have bC:=Qh (λj (hj:j<W.length)=>bQ W[j] (QE hj));clear H ai bQ;go_enter Tryz.func37,Tryz.ntmps37;by_cases h1:1<W.length;rotate_left
 ·have HF:Hid (Zcf W=(⟨#[]⟩,0)):=Zgv (Zhd (by omega)) (λh=>by rw[ZeF (by omega)]at h;exact absurd h.1 (by simp));have i1:¬(1:Int)<(W.length:Int):=by omega
  have i3:¬(3:Int)<(W.length:Int):=by omega
  go_wp2;go_ret2;exact Zfp HF.out
 have i1:(1:Int)<(W.length:Int):=by omega
 obtain⟨-,-,-,p0,p1,-,-,-,-,-⟩:=HA.out 1 h1;simp only[Nat.one_mul]at p0 p1;obtain⟨x1,dG⟩:∃x:Tok,Hid (x=W[1]):=⟨_,Qh rfl⟩;rw[show W[1]=x1 from dG.out.symm]at p0 p1;have km:Hid (Za5 W 1=decide (x1.kind=1)):=by show _=_;rw[Zdx h1,←dG.out]
 have eL:Hid (Zan W 1 [40]=(x1.text.toList==[40])):=by show _=_;rw[Zeb h1,←dG.out];exact con_mk (by rw[dG.out];exact bC.out 1 h1) (by decide)
 by_cases hk:x1.kind=1
 ·have HF:Hid (Zcf W=(x1.text,2)):=by show _=_;rw[Zpb (by rw[km.out];exact JR hk),ZeG h1,←dG.out]
  have e1:(x1.kind==1)=true:=by simp[hk]
  clear hk;go_wp2;go_ret2;exact Zfp HF.out
 have HN:Hid (Za5 W 1=false):=by show _=_;rw[km.out];exact JQ hk
 have e1:(x1.kind==1)=false:=by simp[hk]
 clear hk km;by_cases h3:3<W.length;rotate_left
 ·have HF:Hid (Zcf W=(⟨#[]⟩,0)):=Zgv HN.out (λh=>by rw[ZeF (k:=3) (by omega)]at h;exact absurd h.2.2 (by simp));have i3:¬(3:Int)<(W.length:Int):=by omega
  go_wp2;go_ret2;exact Zfp HF.out
 have i3:(3:Int)<(W.length:Int):=by omega
 have i2:(2:Int)<(W.length:Int):=by omega
 have h2:2<W.length:=by omega
 obtain⟨-,-,-,q0,q1,-,-,-,-,-⟩:=HA.out 2 h2;obtain⟨-,-,-,r0,r1,-,-,-,-,-⟩:=HA.out 3 h3;simp only[show 2*4=8 from rfl,show 3*4=12 from rfl]at q0 q1 r0 r1;obtain⟨x2,cJ⟩:∃x:Tok,Hid (x=W[2]):=⟨_,Qh rfl⟩;obtain⟨x3,bB⟩:∃x:Tok,Hid (x=W[3]):=⟨_,Qh rfl⟩;rw[show W[2]=x2 from cJ.out.symm]at q0 q1;rw[show W[3]=x3 from bB.out.symm]at r0 r1;have tj:Hid (Za5 W 2=decide (x2.kind=1)):=by show _=_;rw[Zdx h2,←cJ.out]
 have mG:Hid (Zan W 3 [41]=(x3.text.toList==[41])):=by show _=_;rw[Zeb h3,←bB.out];exact con_mk (by rw[bB.out];exact bC.out 3 h3) (by decide)
 cases li:(x1.text.toList==[40])
 ·have HF:Hid (Zcf W=(⟨#[]⟩,0)):=Zgv HN.out (λh=>by rw[eL.out,li]at h;exact absurd h.1 (by simp));go_wp2;go_ret2;exact Zfp HF.out
 by_cases bY:x2.kind=1;rotate_left
 ·have HF:Hid (Zcf W=(⟨#[]⟩,0)):=Zgv HN.out (λh=>by rw[tj.out,JQ bY]at h;exact absurd h.2.1 (by simp));have e2:(x2.kind==1)=false:=by simp[bY]
  clear bY;go_wp2;go_ret2;exact Zfp HF.out
 have e2:(x2.kind==1)=true:=by simp[bY]
 have oM:=Qh bY;clear bY;cases jK:(x3.text.toList==[41])
 ·have HF:Hid (Zcf W=(⟨#[]⟩,0)):=Zgv HN.out (λh=>by rw[mG.out,jK]at h;exact absurd h.2.2 (by simp));go_wp2;go_ret2;exact Zfp HF.out
 have HF:Hid (Zcf W=(x2.text,4)):=by show _=_;rw[ask_in HN.out (by rw[eL.out];exact li) (by rw[tj.out];exact JR oM.out) (by rw[mG.out];exact jK),ZeG h2,←cJ.out]
 go_wp2;go_ret2;exact Zfp HF.out
def AnsOf (b sp:Bool)(w:World)(e:Ending)(w':World):Prop:=e=.returned (.agg #[.int .i64 2,.string (if b=true then ⟨#[49]⟩ else ⟨#[48]⟩),.bool sp,.slice none 0 0])/\Below w.heap.size w w'
theorem Zow (vT:Value)(T:List DMacro)(cE:List Nat)(nm:ByteArray)(sp:Bool)(w:World)(hT:ZaU T=true)(HT:(Zaa sMacro).R w [vT] T cE):
  Calls Tryz.prog 38 #[vT,.string nm,.bool sp] w (AnsOf (isIn T nm) sp w):=by
 have b0:=Zab w (.cells #[.int .i64 0,.string ⟨#[]⟩,.bool false,.slice none 0 0] 32);have HX:=Qh (JS w (.cells #[.int .i64 0,.string ⟨#[]⟩,.bool false,.slice none 0 0] 32));have dD:=Qh (Zil vT T nm cE _ hT ((Zaa sMacro).below HT b0));obtain⟨lo,HLO⟩:∃lo:Nat,Hid (lo=lowAt T nm):=⟨_,Qh rfl⟩;rw[show lowAt T nm=lo from HLO.out.symm]at dD;clear HT hT;go_enter Tryz.func38,Tryz.ntmps38;go_upto_region 1 with fail
 generalize (w.alloc (.cells #[.int .i64 0,.string ⟨#[]⟩,.bool false,.slice none 0 0] 32))=W1 at *;cases bO:isIn T nm
 ·rw[bO]at dD;have cZ:=Qh bO;clear bO;go_wp2_with fail
  refine dD.out.mono ?_;rintro e w3⟨rfl,aC⟩;have bB:=Qh (Zag HX.out aC);have aQ:=b0.trans (aC.mono b0.size);clear dD;obtain⟨z0,dT,z1,dU,z2,dV,z3,dW⟩:=Q8 bB.out;have HS:=Qh (Za2 bB.out (.int .i64 2) (.string ⟨#[48]⟩) (.bool sp) (.slice none 0 0));have HB:=Qh (ZaJ (g:=w.heap.size) aQ (QA _) (.int .i64 2) (.string ⟨#[48]⟩) (.bool sp) (.slice none 0 0));unfold set4 at HS HB;go_wp2;refine JV (JX rfl _ _ (w.heap.size) _ _ _ _ rfl HS.out Tryz.underlying32 rfl (by kernel_rfl)) rfl ?_;exact⟨by rw[cZ.out];rfl,HB.out⟩
 ·rw[bO]at dD;have cZ:=Qh bO;clear bO;go_wp2_with fail
  refine dD.out.mono ?_;rintro e w3⟨rfl,aC⟩;have bB:=Qh (Zag HX.out aC);have aQ:=b0.trans (aC.mono b0.size);clear dD;obtain⟨z0,dT,z1,dU,z2,dV,z3,dW⟩:=Q8 bB.out;have HS:=Qh (Za2 bB.out (.int .i64 2) (.string ⟨#[49]⟩) (.bool sp) (.slice none 0 0));have HB:=Qh (ZaJ (g:=w.heap.size) aQ (QA _) (.int .i64 2) (.string ⟨#[49]⟩) (.bool sp) (.slice none 0 0));unfold set4 at HS HB;go_wp2;refine JV (JX rfl _ _ (w.heap.size) _ _ _ _ rfl HS.out Tryz.underlying32 rfl (by kernel_rfl)) rfl ?_;exact⟨by rw[cZ.out];rfl,HB.out⟩
def lenC:Value->Nat
 | .slice _ n _=>n
 | _=>0
theorem Zh7 (vT:Value)(T:List DMacro)(cE:List Nat)(v:Value)(l:List Tok)(fp:List Nat)(w:World)(HT:(Zaa sMacro).R w [vT] T cE)(H:(Zaa sTok).R w [v] l fp):
  Calls Tryz.prog 16 #[vT,v] w (Zlm (Za4 T l) w):=by
 have gg:=Qh (ZgE vT T cE w HT);have ip:=Qh (λ(U:World) (hU:Below w.heap.size w U)=>ZbZ v l fp U ((Zaa sTok).below H hU));have mP:=Qh HT;have xB:=Qh H;have gR:=Qh ((Zaa sTok).lt H);obtain⟨aT,cT,rfl,-⟩:=Zac HT;obtain⟨al,cl,rfl,-⟩:=Zac H;clear HT H;go_enter Tryz.func16,Tryz.ntmps16;cases ht:ZaU T
 ·have HF:=Qh (ZfY (T:=T) (l:=l) (λh=>by rw[ht]at h;exact absurd h.1 (by simp)));rw[ht]at gg;clear ht ip;go_wp2_with fail
  refine gg.out.mono ?_;rintro e w3⟨rfl,aC⟩;go_wp2;go_ret2;exact ZhK HF.out aC
 cases hv:Zam l
 ·have HF:=Qh (ZfY (T:=T) (l:=l) (λh=>by rw[hv]at h;exact absurd h.2 (by simp)));rw[ht]at gg;rw[hv]at ip;clear ht hv;go_wp2_with fail
  refine gg.out.mono ?_;rintro e w3⟨rfl,aC⟩;go_wp2_with fail
  refine(ip.out w3 aC).mono ?_;rintro e w4⟨rfl,aM⟩;go_wp2;go_ret2;exact ZhK HF.out (aC.trans (aM.mono aC.size))
 have je:=(Zay hv).1;have bC:Hid (∀t∈l,Zaj t=true):=λt ht=>by obtain⟨k,hk,rfl⟩:=QY ht;exact(Zay hv).2 k hk
 have kV:=Qh ht;obtain⟨r,HR⟩:∃r,Hid (r=ZaY T l 0 []):=⟨_,Qh rfl⟩;have HF:Hid (Za4 T l=r):=by show _=_;unfold Za4;rw[if_pos ⟨ht,hv⟩];exact HR.out.symm
 rw[ht]at gg;rw[hv]at ip;clear ht hv;go_wp2_with fail
 refine gg.out.mono ?_;rintro e w3⟨rfl,aC⟩;go_wp2_with fail
 refine(ip.out w3 aC).mono ?_;rintro e w4⟨rfl,aM⟩;have xC:=aC.trans (aM.mono aC.size);have kD:=Qh ((Zaa sTok).below xB.out xC);clear aC aM gg ip;go_wp2;go_loopw [6,7] (λvo vw wr=>∃(k:Nat) (L:List (Elem Tok)) (fpw:List Nat),k<=l.length/\L.length<=k/\Hid ((Zaa sTok).R wr [vw] (l.drop k) fpw)/\Hid (∀b∈fpw,b<w.heap.size)/\Hid (RowN sTok w.heap.size 32 vo L wr)/\Hid (Own wr w.heap.size (L.flatMap (·.fp)))/\Hid (ZaY T l k (L.map (·.d))=r)/\Below w.heap.size w wr) (λ_ vw _=>lenC vw)
 case atStart=>exact⟨0,[],fp,by omega,by simp,kD.out,gR.out,RowN.nil _ _ _ _,Own.nil _ _,Qh HR.out.symm,xC⟩
 case round =>
  clear kD HR xC;obtain⟨k,L,fpw,hk,pJ,HW,HWL,HG,HO,HI,hb⟩:=hrel;obtain⟨ao,co,mQ,-⟩:=HG.out.val;subst mQ;obtain⟨aw,cw,hvw,A8,A9,ef⟩:=Zac HW.out;subst hvw;unfold maxLen at A9;have ie:Hid (0<(l.drop k).length->∃bb ob,aw=some ⟨bb,ob,none⟩):=λh=>by obtain⟨b,o,-,e,-⟩:=ef h;exact⟨b,o,e⟩
  clear ef;obtain⟨NW,ff⟩:∃NW:Nat,Hid (NW=(l.drop k).length):=⟨_,Qh rfl⟩;rw[show(l.drop k).length=NW from ff.out.symm]at HW A8 ⊢;have jY:Hid (NW=l.length-k):=by show _=_;rw[ff.out,QM]
  obtain⟨NL,jH⟩:∃NL:Nat,Hid (NL=L.length):=⟨L.length,Qh rfl⟩;rw[show L.length=NL from jH.out.symm]at HG pJ ⊢;by_cases af:k<l.length;rotate_left
  ·have HE:Hid (Za4 T l=(L.map (·.d),true)):=(by show _=_;rw[HF.out,←HI.out,Zdw (by omega)]);obtain⟨fx,rx,-,ox⟩:=HG.out.read;have tD:=Qh rx;have vi:=Qh (ox HO.out);have i0:¬(0:Int)<(NW:Int):=(by have:=jY.out;omega);clear HI HF rx ox;go_wp2;go_ret2;exact⟨_,fx,by rw[HE.out];rfl,by rw[HE.out];exact tD.out,vi.out,hb⟩
  obtain⟨bw,ow,rfl⟩:=ie.out (by rw[QM];omega);have i0:(0:Int)<(NW:Int):=by have:=jY.out;omega
  have gO:0<(l.drop k).length:=by rw[QM];omega
  obtain⟨xa,xc,xf,x0,x1,x2,x3,xR,bu,kT⟩:=ZaO HW.out gO;obtain⟨tk,ez⟩:∃tk:Tok,Hid (tk=l[k]):=⟨_,Qh rfl⟩;have e0:(l.drop k)[0]=tk:=by rw[ez.out];simp
  rw[e0]at x0 x1 x2 x3 xR;simp only[Nat.zero_mul,Q0]at x0 x1 x2 x3;have bx:=Zab wr (.cells #[.int .i64 tk.kind,.string tk.text,.bool tk.spaced,.slice xa tk.hidden.length xc] 32);have HX:=Qh (JS wr (.cells #[.int .i64 tk.kind,.string tk.text,.bool tk.spaced,.slice xa tk.hidden.length xc] 32));have lr:=Qh (sTok.below xR bx);have ru:=Qh (HG.out.below bx);have vi:=Qh (HO.out.grow bx);have Ba:=Qh ((Zaa sTok).below HW.out bx);have po:=hb.trans (bx.mono hb.size);have gN:=hb.size;have gJ:=Qh HG.out.mine;have mS:Hid (Zaj tk=true):=by show _=_;rw[ez.out];exact bC.out _ (QE af)
  have pS:Hid (ZbJ l[k]=(tk.text.toList==[100,101,102,105,110,101,100])):=by show _=_;rw[←ez.out];exact con_dfn mS.out
  have HHL:tk.hidden.length<=2000000:=by have:=(ZdR (Zcx mS.out)).1;omega
  have HLTO:=Qh (λb hb=>HO.out.lt b hb);clear xR kT bu e0 HG HO HW gO;go_upto_region 7 with fail
  clear x0 x1 x2 x3;generalize (wr.alloc (.cells #[.int .i64 tk.kind,.string tk.text,.bool tk.spaced,.slice xa tk.hidden.length xc] 32))=W1 at *;have hW1:=bx.size;obtain⟨p0,p1,p2,p3⟩:=Q4 HX.out;cases hd:(tk.text.toList==[100,101,102,105,110,101,100])
  ·have HE:Hid (ZaY T l (k+1) (L.map (·.d)++[tk])=r):=(by show _=_;rw[ez.out,←ZcB af (by rw[pS.out];exact hd)];exact HI.out);have HC:=Qh (Zee _ tk _ W1 HHL lr.out);clear pS HI ez mS;go_wp2_with fail
   refine HC.out.mono ?_;rintro e w3⟨a3,c3,f3,rfl,R3,O3,-,aC⟩;clear p0 p1 p2 p3 HC;have kW:=bx.trans (aC.mono bx.size);have hW3:=kW.size;have dv:=hb.trans (kW.mono hb.size);have bl:=Zab w3 (.cells #[.int .i64 tk.kind,.string tk.text,.bool tk.spaced,.slice a3 tk.hidden.length c3] 32);have kD:=Qh (JS w3 (.cells #[.int .i64 tk.kind,.string tk.text,.bool tk.spaced,.slice a3 tk.hidden.length c3] 32));have gl:=Qh ((ru.out.below aC).below bl);have sN:=Qh ((vi.out.grow aC).grow bl);have pY:=Qh ((Zaa sTok).below ((Zaa sTok).below Ba.out aC) bl);have RX:=Qh (sTok.below R3 bl);have OX:=Qh (O3.grow bl);have fX:=dv.trans (bl.mono dv.size);have om:Hid (∀b∈f3,(Value.slice ao NL co).ownBlock≠some b):=λb hb h=>by
    have h1:=(gJ.out b h).2;have h2:=(O3.2 b hb).1;omega
   clear R3 O3 ru vi Ba lr HX bx aC kW po;clear hd;go_upto_region 9 with(at_builtin;refine ZaT (X:=[(⟨[.int .i64 tk.kind,.string tk.text,.bool tk.spaced,.slice a3 tk.hidden.length c3],tk,f3⟩:Elem Tok)]) ti_tok rfl (by decide) _ rfl (.tmp 29) (.tmp 32) rfl w.heap.size (.slice ao NL co) rfl gl.out ⟨w3.heap.size,0,none⟩ 1 1 rfl rfl (λx hx=>by obtain rfl:=Qm hx;exact⟨rfl,RX.out,om.out⟩) (λx hx=>by obtain rfl:=Qm hx;exact ZaX _ _ _ _ RX.out) (λj u hj=>by rw[ZaZ,QX,cell_of_row _ _ _ _ _ _ kD.out];simpa using hj) (by have:=jH.out;unfold maxLen;omega) (by have:=jH.out;omega) fX.size ?_;intro v5 w5 cz cG eq)
   have bg:=fX.grown cG fX.size (λb hb=>(gJ.out b hb).1);have nj:Hid (Own w5 w.heap.size ((L++[(⟨[.int .i64 tk.kind,.string tk.text,.bool tk.spaced,.slice a3 tk.hidden.length c3],tk,f3⟩:Elem Tok)]).flatMap (·.fp))):=by
    show Own _ _ _;rw[ZfN];have e1:([(⟨[.int .i64 tk.kind,.string tk.text,.bool tk.spaced,.slice a3 tk.hidden.length c3],tk,f3⟩:Elem Tok)]).flatMap (·.fp)=f3:=(by simp);rw[e1];refine Zcq (sN.out.app (OX.out.lower (by omega)) λb hb hx=>?_) (λb hb=>?_) cG
    ·have h1:=HLTO.out b hb;have h2:=(OX.out.2 b hx).1;omega
    ·rcases Qa hb with hb | hb
     ·obtain⟨x,hx,aE⟩:=QO.1 hb;exact gl.out.ap x hx b aE
     ·exact om.out b hb
   have vc:Hid ((Zaa sTok).R w5 [.slice (some ⟨bw,ow,none⟩) NW cw] (l.drop k) fpw):=(Zaa sTok).frame (λb aE=>cG.block b ((Zaa sTok).lt pY.out b aE) (λe=>by have:=HWL.out b aE;have:=(gJ.out b e.symm).1;omega)) pY.out;have eO:=Qh cz;obtain⟨a5,c5,mT,-⟩:=cz.val;rw[show(L++[(⟨[.int .i64 tk.kind,.string tk.text,.bool tk.spaced,.slice a3 tk.hidden.length c3],tk,f3⟩:Elem Tok)]).length=NL+1 by rw[QC,jH.out];rfl]at mT;subst mT;have Bb:(L++[(⟨[.int .i64 tk.kind,.string tk.text,.bool tk.spaced,.slice a3 tk.hidden.length c3],tk,f3⟩:Elem Tok)]).length<=k+1:=(by rw[QC,←jH.out];simp;omega);clear cz cG eq gl sN pY RX kD;have o1:(1:Int)<=(NW:Int):=(by have:=jY.out;omega);have o2:1<=NW:=(by have:=jY.out;omega);have o3:1<=cw:=(by omega);have o4:(1:Int)<=(cw:Int):=(by omega);obtain⟨bA,gf,gZ⟩:=Zbp 1 (by rw[←ff.out];exact o2:1<=(l.drop k).length) vc.out;rw[JM,JN,show sTok.m=4 from rfl,Nat.one_mul,List.drop_drop]at gf;have pq:Hid (∀b∈bA,b<w.heap.size):=λb aE=>HWL.out b (gZ b aE);have fc:=Qh gf;clear gf gZ vc;by_cases h1:cw=1
   ·have jn:Hid ((Zaa sTok).R w5 [.slice (some ⟨bw,ow,none⟩) (NW-1) (cw-1)] (l.drop (k+1)) bA):=(by have:=fc.out;rw[if_pos h1]at this;exact this);subst h1;obtain rfl:NW=1:=(by omega);clear o3 o4;go_wp2;go_roundw;case rel=>exact⟨k+1,_,bA,by have:=jY.out;omega,Bb,jn,pq.out,eO,nj,by show _=_;rw[QG];exact HE.out,bg⟩
    case measure=>simp[lenC] <;> omega
   ·have jn:Hid ((Zaa sTok).R w5 [.slice (some ⟨bw,ow+4,none⟩) (NW-1) (cw-1)] (l.drop (k+1)) bA):=(by have:=fc.out;rw[if_neg h1]at this;exact this);go_wp2;go_roundw;case rel=>exact⟨k+1,_,bA,by have:=jY.out;omega,Bb,jn,pq.out,eO,nj,by show _=_;rw[QG];exact HE.out,bg⟩
    case measure=>simp[lenC] <;> omega
  have HD:Hid (ZbJ l[k]=true):=by show _=_;rw[pS.out];exact hd
  have HAS:=Qh (Zln _ (l.drop k) fpw W1 (by rw[QM];omega) (by rw[QM];omega) (λt ht=>bC.out t (JG ht)) Ba.out);have xD:=Qh (ask_len (l.drop k));have dx:=Qh (rep_ask (T:=T) (acc:=L.map (·.d)) af HD.out);rcases ha:Zcf (l.drop k) with⟨nm,bh⟩;rw[ha]at HAS xD dx;try dsimp only at HAS xD dx
  clear ha pS HD p0 p3 lr;go_wp2_with fail
  refine HAS.out.mono ?_;rintro e w3⟨rfl,rfl⟩;clear HAS p1;by_cases bD:bh=0
  ·have HE:Hid (Za4 T l=([],false)):=(by show _=_;rw[HF.out,←HI.out,dx.out,if_pos bD]);subst bD;go_wp2;go_ret2;exact ZhK HE.out po
  have As:Hid (ZaY T l (k+bh) (L.map (·.d)++[Zbw (ZdA T nm) tk.spaced])=r):=by show _=_;rw[←HI.out,dx.out,if_neg bD,ez.out]
  have e2:((bh:Int)==0)=false:=by simp;omega
  obtain⟨aF,bK⟩:2<=bh/\bh<=NW:=by
   rcases xD.out with h | h
   ·exact absurd h bD
   ·rw[ff.out];exact h
  have yY:=Qh (Zow _ T cE nm tk.spaced w3 kV.out ((Zaa sMacro).below mP.out po));rw[con_has kV.out]at As;generalize isIn T nm=yes at *;clear HI dx xD bD ez mS;go_wp2_with fail
  refine yY.out.mono ?_;rintro e w6⟨rfl,bq⟩;obtain⟨tx,kC⟩:∃tx:ByteArray,Hid (tx=if yes=true then ⟨#[49]⟩ else ⟨#[48]⟩):=⟨_,Qh rfl⟩;rw[show(if yes=true then (⟨#[49]⟩:ByteArray) else ⟨#[48]⟩)=tx from kC.out.symm];have Bc:=po.trans (bq.mono po.size);have hW6:=bq.size;have bl:=Zab w6 (.cells #[.int .i64 2,.string tx,.bool tk.spaced,.slice none 0 0] 32);have kD:=Qh (JS w6 (.cells #[.int .i64 2,.string tx,.bool tk.spaced,.slice none 0 0] 32));have gl:=Qh ((ru.out.below bq).below bl);have sN:=Qh ((vi.out.grow bq).grow bl);have pY:=Qh ((Zaa sTok).below ((Zaa sTok).below Ba.out bq) bl);have RX:Hid (sTok.R (w6.alloc (.cells #[.int .i64 2,.string tx,.bool tk.spaced,.slice none 0 0] 32)) [.int .i64 2,.string tx,.bool tk.spaced,.slice none 0 0] (Zbw yes tk.spaced) []):=by rw[kC.out];exact num_R _ yes tk.spaced
  have fX:=Bc.trans (bl.mono Bc.size);have om:Hid (∀b∈([]:List Nat),(Value.slice ao NL co).ownBlock≠some b):=λb hb=>by simp at hb
  have HE:=As;clear ru vi Ba HX bx bq po yY p2 hd As kC;go_upto_region 14 with(at_builtin;refine ZaT (X:=[(⟨[.int .i64 2,.string tx,.bool tk.spaced,.slice none 0 0],Zbw yes tk.spaced,[]⟩:Elem Tok)]) ti_tok rfl (by decide) _ rfl (.tmp 43) (.tmp 49) rfl w.heap.size (.slice ao NL co) rfl gl.out ⟨w6.heap.size,0,none⟩ 1 1 rfl rfl (λx hx=>by obtain rfl:=Qm hx;exact⟨rfl,RX.out,om.out⟩) (λx hx=>by obtain rfl:=Qm hx;exact ZaX _ _ _ _ RX.out) (λj u hj=>by rw[ZaZ,QX,cell_of_row _ _ _ _ _ _ kD.out];simpa using hj) (by have:=jH.out;unfold maxLen;omega) (by have:=jH.out;omega) fX.size ?_;intro v5 w5 cz cG eq)
  have bg:=fX.grown cG fX.size (λb hb=>(gJ.out b hb).1);have nj:Hid (Own w5 w.heap.size ((L++[(⟨[.int .i64 2,.string tx,.bool tk.spaced,.slice none 0 0],Zbw yes tk.spaced,[]⟩:Elem Tok)]).flatMap (·.fp))):=by
   show Own _ _ _;rw[ZfN];have e1:([(⟨[.int .i64 2,.string tx,.bool tk.spaced,.slice none 0 0],Zbw yes tk.spaced,[]⟩:Elem Tok)]).flatMap (·.fp)=[]:=(by simp);rw[e1];rw[Q5];refine Zcq sN.out (λb hb=>?_) cG;obtain⟨x,hx,aE⟩:=QO.1 hb;exact gl.out.ap x hx b aE
  have vc:Hid ((Zaa sTok).R w5 [.slice (some ⟨bw,ow,none⟩) NW cw] (l.drop k) fpw):=(Zaa sTok).frame (λb aE=>cG.block b ((Zaa sTok).lt pY.out b aE) (λe=>by have:=HWL.out b aE;have:=(gJ.out b e.symm).1;omega)) pY.out;have eO:=Qh cz;obtain⟨a5,c5,mT,-⟩:=cz.val;rw[show(L++[(⟨[.int .i64 2,.string tx,.bool tk.spaced,.slice none 0 0],Zbw yes tk.spaced,[]⟩:Elem Tok)]).length=NL+1 by rw[QC,jH.out];rfl]at mT;subst mT;have Bb:(L++[(⟨[.int .i64 2,.string tx,.bool tk.spaced,.slice none 0 0],Zbw yes tk.spaced,[]⟩:Elem Tok)]).length<=k+bh:=by rw[QC,←jH.out];simp;omega
  clear cz cG eq gl sN pY RX kD;have o1:(bh:Int)<=(NW:Int):=by have:=jY.out;omega
  have o2:bh<=NW:=by have:=jY.out;omega
  have o3:bh<=cw:=by omega
  have o4:(bh:Int)<=(cw:Int):=by omega
  obtain⟨bA,gf,gZ⟩:=Zbp bh (by rw[←ff.out];exact o2:bh<=(l.drop k).length) vc.out;rw[JM,JN,show sTok.m=4 from rfl,List.drop_drop]at gf;have pq:Hid (∀b∈bA,b<w.heap.size):=λb aE=>HWL.out b (gZ b aE);have fc:=Qh gf;clear gf gZ vc;by_cases h1:cw=bh
  ·have jn:Hid ((Zaa sTok).R w5 [.slice (some ⟨bw,ow,none⟩) (NW-bh) 0] (l.drop (k+bh)) bA):=(by have:=fc.out;rw[if_pos h1,show cw-bh=0 by omega]at this;exact this);have mj:=Qh h1;go_wp2;go_roundw;case rel=>exact⟨k+bh,_,bA,by have:=jY.out;omega,Bb,jn,pq.out,eO,nj,by show _=_;rw[QG];exact HE.out,bg⟩
   case measure=>simp[lenC] <;> omega
  ·have jn:Hid ((Zaa sTok).R w5 [.slice (some ⟨bw,ow+bh*4,none⟩) (NW-bh) (cw-bh)] (l.drop (k+bh)) bA):=(by have:=fc.out;rw[if_neg h1]at this;exact this);go_wp2;go_roundw;case rel=>exact⟨k+bh,_,bA,by have:=jY.out;omega,Bb,jn,pq.out,eO,nj,by show _=_;rw[QG];exact HE.out,bg⟩
   case measure=>simp[lenC] <;> omega
def Zcl (p:Nat)(A:List (List Tok)):Nat:=if h:A.length=1 then (if p=0/\(A[0]'(by omega)).length=0 then 0 else 1) else A.length
def fits (m:DMacro)(A:List (List Tok)):Bool:=Zaq m && (m.function && decide (Zcl m.params.length A=m.params.length))
variable {m:DMacro}
theorem fits_no {A:List (List Tok)}(h:Zaq m=false):fits m A=false:=by unfold fits;rw[h];rfl
theorem fits_nf {A:List (List Tok)}(h:m.function=false):fits m A=false:=by unfold fits;rw[h,Bool.false_and,JB]
theorem Zpc {A:List (List Tok)}(h:Zaq m=true)(h2:m.function=true):fits m A=decide (Zcl m.params.length A=m.params.length):=by unfold fits;rw[h,h2];rfl
theorem Zgw {p:Nat}{A:List (List Tok)}(h:A.length=1):Zcl p A=if p=0/\(A[0]'(by omega)).length=0 then 0 else 1:=by unfold Zcl;rw[dif_pos h]
theorem Ze3 {p:Nat}{A:List (List Tok)}(h:A.length≠1):Zcl p A=A.length:=by unfold Zcl;rw[dif_neg h]
theorem ZnF (cs:List Value)(m:DMacro)(mD:List Nat)(v:Value)(A:List (List Tok))(mJ:List Nat)(w:World)(Hm:sMacro.R w cs m mD)(Ha:(Zaa sToks).R w [v] A mJ):
  Calls Tryz.prog 99 #[.agg cs.toArray,v] w λe w'=>e=.returned (.int .i64 (Zcl m.params.length A:Nat))/\Below w.heap.size w w':=by
 obtain⟨h2,h3,p2,p3,rfl,bQ,K2,K3,rfl⟩:=Hm;obtain⟨a2,c2,rfl,-⟩:=Zaf K2;obtain⟨a3,c3,rfl,-⟩:=Zac K3;obtain⟨a,cap,rfl,hc,hm,ai⟩:=Zac Ha;unfold maxLen at hm;have b0:=Zab w (.cells #[.string m.name,.bool m.function,.slice a2 m.params.length c2,.slice a3 m.body.length c3] 56);clear K2 K3 Ha;go_enter Tryz.func99,Tryz.ntmps99;by_cases hp:m.params.length=0
 ·have e0:((m.params.length:Int)==0)=true:=by simp[hp]
  by_cases h1:A.length=1
  ·have e1:((A.length:Int)==1)=true:=(by simp[h1]);obtain⟨b,off,bA,rfl,hb,-,he⟩:=ai (by omega);have oo:0<A.length:=(by omega);obtain⟨es,hE,hR⟩:=he 0 oo;obtain⟨q,d,rfl⟩:=ZgZ hR;replace hE:=hE.frame (b0.block b hb);have c0:=Znl hE;have c0':(w.alloc (.cells #[.string m.name,.bool m.function,.slice a2 m.params.length c2,.slice a3 m.body.length c3] 56)).cell? ⟨b,off,none⟩=some (.slice q (A[0]'oo).length d):=c0;have hl:(0:Int)<(A.length:Int):=(by omega);have HN:=Qh (Zgw (p:=m.params.length) h1);by_cases hz:(A[0]'oo).length=0
   ·have e2:(((A[0]'oo).length:Int)==0)=true:=(by simp[hz]);rw[if_pos ⟨hp,hz⟩]at HN;clear hz hp h1 hE hR he ai;go_wp2;go_ret;exact⟨by rw[HN.out];rfl,b0⟩
   ·have e2:(((A[0]'oo).length:Int)==0)=false:=(by simp;intro h;exact hz (by rw[h];rfl));rw[if_neg (λh=>hz h.2)]at HN;have HA:Hid ((A.length:Int)=((1:Nat):Int)):=(by show _=_;omega);clear hz hp h1 hE hR he ai;go_wp2;go_ret;exact⟨by rw[HN.out,HA.out];rfl,b0⟩
  ·have e1:((A.length:Int)==1)=false:=(by simp;omega);have HN:=Qh (Ze3 (p:=m.params.length) h1);clear hp h1 ai;go_wp2;go_ret;exact⟨by rw[HN.out];rfl,b0⟩
 ·have e0:((m.params.length:Int)==0)=false:=by simp;intro h;exact hp (by rw[h];rfl)
  have HN:Hid (Zcl m.params.length A=A.length):=by
   show _=_;by_cases h1:A.length=1
   ·rw[Zgw h1,if_neg (λh=>hp h.1),h1]
   ·exact Ze3 h1
  clear hp ai;go_wp2;go_ret;exact⟨by rw[HN.out];rfl,b0⟩
theorem Zi2 (cs:List Value)(m:DMacro)(mD:List Nat)(v:Value)(A:List (List Tok))(mJ:List Nat)(w:World)(Hm:sMacro.R w cs m mD)(Ha:(Zaa sToks).R w [v] A mJ):
  Calls Tryz.prog 119 #[.agg cs.toArray,v] w (Zbu (fits m A) w):=by
 have HC:=Qh (λW (hW:Below w.heap.size w W)=>ZeS cs m mD W (sMacro.below Hm hW));obtain⟨h2,h3,p2,p3,rfl,bQ,K2,K3,rfl⟩:=Hm;obtain⟨a2,c2,rfl,-⟩:=Zaf K2;obtain⟨a3,c3,rfl,-⟩:=Zac K3;obtain⟨a,cap,rfl,hc,hm,ai⟩:=Zac Ha;unfold maxLen at hm;have b0:=Zab w (.cells #[.string m.name,.bool m.function,.slice a2 m.params.length c2,.slice a3 m.body.length c3] 56);have HX:=Qh (JS w (.cells #[.string m.name,.bool m.function,.slice a2 m.params.length c2,.slice a3 m.body.length c3] 56));clear K2 K3 Ha;go_enter Tryz.func119,Tryz.ntmps119;cases hv:Zaq m
 ·rw[hv]at HC;have HF:=Qh (fits_no (A:=A) hv);clear hv ai;go_wp2_with fail
  refine(HC.out _ b0).mono ?_;rintro e w2⟨rfl,aF⟩;go_wp2;go_ret;exact⟨Zad HF.out.symm,b0.trans (aF.mono b0.size)⟩
 rw[hv]at HC;go_wp2_with fail
 refine(HC.out _ b0).mono ?_;rintro e w2⟨rfl,aF⟩;have cJ:=Qh ((aF.block _ (Qg HX.out).1).trans HX.out);have c1:=Qc 1 cJ.out;have Bd:=Qc 2 cJ.out;have bW:=b0.trans (aF.mono b0.size);clear HC HX aF b0;cases hf:m.function
 ·rw[hf]at c1;have HF:=Qh (fits_nf (A:=A) hf);clear hv hf ai;go_wp2;go_ret;exact⟨Zad HF.out.symm,bW⟩
 rw[hf]at c1;have HF:=Qh (Zpc (A:=A) hv hf);clear hv hf;by_cases hp:m.params.length=0
 ·have e0:((m.params.length:Int)==0)=true:=by simp[hp]
  by_cases h1:A.length=1
  ·have e1:((A.length:Int)==1)=true:=(by simp[h1]);obtain⟨b,off,bA,rfl,hb,-,he⟩:=ai (by omega);have oo:0<A.length:=(by omega);obtain⟨es,hE,hR⟩:=he 0 oo;obtain⟨q,d,rfl⟩:=ZgZ hR;replace hE:=hE.frame (bW.block b hb);have c0:=Znl hE;have c0':w2.cell? ⟨b,off,none⟩=some (.slice q (A[0]'oo).length d):=c0;have hl:(0:Int)<(A.length:Int):=(by omega);have HG:Hid (fits m A=(((A[0]'oo).length:Int)==0)):=by
    show _=_;rw[HF.out,Zgw h1,hp];by_cases hz:(A[0]'oo).length=0
    ·rw[if_pos ⟨rfl,hz⟩,hz];rfl
    ·rw[if_neg (λh=>hz h.2)];have:(((A[0]'oo).length:Int)==0)=false:=(by simp;intro h;exact hz (by rw[h];rfl));rw[this];rfl
   clear hp h1 hE hR he ai HF;generalize hg:(((A[0]'oo).length:Int)==0)=g at *;go_wp2;go_ret;exact⟨Zad HG.out.symm,bW⟩
  ·have e1:((A.length:Int)==1)=false:=(by simp;omega);have HG:Hid (fits m A=((A.length:Int)==(m.params.length:Int))):=by
    show _=_;rw[HF.out,Ze3 h1];by_cases hz:A.length=m.params.length
    ·rw[JR hz,hz];simp
    ·rw[JQ hz];symm;simp;omega
   clear hp h1 ai HF;generalize hg:((A.length:Int)==(m.params.length:Int))=g at *;go_wp2;go_ret;exact⟨Zad HG.out.symm,bW⟩
 ·have e0:((m.params.length:Int)==0)=false:=by simp;intro h;exact hp (by rw[h];rfl)
  have HG:Hid (fits m A=((A.length:Int)==(m.params.length:Int))):=by
   show _=_;have hN:Zcl m.params.length A=A.length:=by
    by_cases h1:A.length=1
    ·rw[Zgw h1,if_neg (λh=>hp h.1),h1]
    ·exact Ze3 h1
   rw[HF.out,hN];by_cases hz:A.length=m.params.length
   ·rw[JR hz,hz];simp
   ·rw[JQ hz];symm;simp;omega
  clear hp ai HF;generalize hg:((A.length:Int)==(m.params.length:Int))=g at *;go_wp2;go_ret;exact⟨Zad HG.out.symm,bW⟩
def ZbT (a b:List ByteArray):List ByteArray:=b.foldl ins a
def ZdB (h:List ByteArray)(t:Tok):Tok:=⟨t.kind,t.text,t.spaced,ZbT t.hidden h⟩
def Zbm (l:List Tok)(h:List ByteArray)(sp:Bool):List Tok:=spc sp (l.map (ZdB h))
def Zbk (T:List DMacro)(t:Tok):Option DMacro:=if t.kind=1/\Zdc t.hidden t.text=false/\0<=place T t.text then T[(place T t.text).toNat]? else none
def ZdS:List Tok->Bool
 | []=>false
 | u::_=>isM u [40]
def goM (T:List DMacro):List Tok->Option DMacro
 | []=>none
 |
  t::r=>match Zbk T t with
  | none=>none
  | some m=>if m.function=true/\ZdS r=false then none else some m
def Zbc (t:Tok):Int:=if isM t [40]=true then 1 else if isM t [41]=true then -1 else 0
def Zax:List Tok->Int->Zbe->List Tok->Nat->Zbe × Nat × Bool
 | [],_,args,_,_=>(args,0,false)
 |
  t::r,d,args,arg,k =>
  if d+Zbc t=0 then (args++[arg],k+1,true)
  else if d+Zbc t=1/\isM t [44]=true then Zax r (d+Zbc t) (args++[arg]) [] (k+1)
  else Zax r (d+Zbc t) args (arg++[t]) (k+1)
abbrev Zde:=List Tok × Nat × Int
def ZaL (f:List Tok->Nat->Zde):List (List Tok)->Nat->List (List Tok) × Nat × Int
 | [],s=>([],s,0)
 |
  a::r,s =>
  if (f a s).2.2=0 then (if (ZaL f r (f a s).2.1).2.2=0 then ((f a s).1::(ZaL f r (f a s).2.1).1,(ZaL f r (f a s).2.1).2) else ([],(ZaL f r (f a s).2.1).2))
  else ([],(f a s).2)
def ZaW (f:List Tok->Nat->Zde)(m:DMacro)(work:List Tok)(s:Nat):List Tok × Nat × Nat × Int:=
 if (Zax (work.drop 2) 1 [] [] 2).2.2=true/\Zcl m.params.length (Zax (work.drop 2) 1 [] [] 2).1=m.params.length then
  (if (ZaL f ((Zax (work.drop 2) 1 [] [] 2).1.take m.params.length) s).2.2=0 then
   (if (Zaz m ((Zax (work.drop 2) 1 [] [] 2).1.take m.params.length) (ZaL f ((Zax (work.drop 2) 1 [] [] 2).1.take m.params.length) s).1).2=true then
    (Zbm (Zaz m ((Zax (work.drop 2) 1 [] [] 2).1.take m.params.length) (ZaL f ((Zax (work.drop 2) 1 [] [] 2).1.take m.params.length) s).1).1
     (ins (both (work.headD Zaw).hidden (work.getD ((Zax (work.drop 2) 1 [] [] 2).2.1-1) Zaw).hidden) m.name) (work.headD Zaw).spaced,
    (Zax (work.drop 2) 1 [] [] 2).2.1,(ZaL f ((Zax (work.drop 2) 1 [] [] 2).1.take m.params.length) s).2.1,0)
   else ([],0,(ZaL f ((Zax (work.drop 2) 1 [] [] 2).1.take m.params.length) s).2.1,2))
  else ([],0,(ZaL f ((Zax (work.drop 2) 1 [] [] 2).1.take m.params.length) s).2))
 else ([],0,s,1)
def Zak (T:List DMacro):Nat->Nat->List Tok->List Tok->Zde
 | _,s,out,[]=>(out,s,0)
 |
  n,s,out,t::r =>
  match goM T (t::r) with
  | none=>if 60<out.length+1 then ([],s,3) else Zak T n s (out++[t]) r
  |
   some m =>
   match n,s with
   | 0,_=>([],0,3)
   | _+1,0=>([],0,3)
   |
    n+1,s+1 =>
    if m.function=true then
     (if (ZaW (λa k=>Zak T n k [] a) m (t::r) s).2.2.2=0 then
      (
      if 60<((ZaW (λa k=>Zak T n k [] a) m (t::r) s).1++(t::r).drop (ZaW (λa k=>Zak T n k [] a) m (t::r) s).2.1).length then ([],(ZaW (λa k=>Zak T n k [] a) m (t::r) s).2.2.1,3)
      else Zak T n (ZaW (λa k=>Zak T n k [] a) m (t::r) s).2.2.1 out ((ZaW (λa k=>Zak T n k [] a) m (t::r) s).1++(t::r).drop (ZaW (λa k=>Zak T n k [] a) m (t::r) s).2.1))
     else ([],(ZaW (λa k=>Zak T n k [] a) m (t::r) s).2.2))
    else
     (if (Zaz m [] []).2=true then
      (if 60<(Zbm (Zaz m [] []).1 (ins t.hidden m.name) t.spaced++r).length then ([],s,3) else Zak T n s out (Zbm (Zaz m [] []).1 (ins t.hidden m.name) t.spaced++r))
     else ([],s,2))
termination_by n _ _ w=>(n,w.length)
def Zbv (T:List DMacro)(l:List Tok):List Tok × Int:=
 if ZaU T=true/\Zam l=true then (if (Zak T 100 100 [] l).2.2=0 then ((Zak T 100 100 [] l).1,0) else ([],(Zak T 100 100 [] l).2.2)) else ([],-1)
section
variable {T:List DMacro}{n s:Nat}{out r:List Tok}{t:Tok}{m:DMacro}
theorem ZbG:Zak T n s out []=(out,s,0):=by rw[Zak]
theorem Za6 (h:goM T (t::r)=none)(hl:¬60<out.length+1):Zak T n s out (t::r)=Zak T n s (out++[t]) r:=by rw[Zak,h];simp only;rw[if_neg hl]
theorem Zbx (h:goM T (t::r)=none)(hl:60<out.length+1):Zak T n s out (t::r)=([],s,3):=by rw[Zak,h];simp only;rw[if_pos hl]
theorem ZdT (h:goM T (t::r)=some m):Zak T n 0 out (t::r)=([],0,3):=by
 rw[Zak,h];cases n <;> rfl
theorem Zdn (h:goM T (t::r)=some m)(hf:m.function=true){b:List Tok}{e l:Nat}(hc:ZaW (λa k=>Zak T n k [] a) m (t::r) s=(b,e,l,0))(hl:¬60<(b++(t::r).drop e).length):Zak T (n+1) (s+1) out (t::r)=Zak T n l out (b++(t::r).drop e):=by
 rw[Zak,h];simp only;rw[if_pos hf,hc,if_pos rfl,if_neg hl]
theorem Zdh (h:goM T (t::r)=some m)(hf:m.function=true){b:List Tok}{e l:Nat}(hc:ZaW (λa k=>Zak T n k [] a) m (t::r) s=(b,e,l,0))(hl:60<(b++(t::r).drop e).length):Zak T (n+1) (s+1) out (t::r)=([],l,3):=by
 rw[Zak,h];simp only;rw[if_pos hf,hc,if_pos rfl,if_pos hl]
theorem Zcy (h:goM T (t::r)=some m)(hf:m.function=true){b:List Tok}{e l:Nat}{c:Int}(hc:ZaW (λa k=>Zak T n k [] a) m (t::r) s=(b,e,l,c))(h0:c≠0):Zak T (n+1) (s+1) out (t::r)=([],l,c):=by
 rw[Zak,h];simp only;rw[if_pos hf,hc,if_neg h0]
theorem Zef (h:goM T (t::r)=some m)(hf:m.function=false){b:List Tok}(hc:Zaz m [] []=(b,true))(hl:¬60<(Zbm b (ins t.hidden m.name) t.spaced++r).length):Zak T (n+1) (s+1) out (t::r)=Zak T n s out (Zbm b (ins t.hidden m.name) t.spaced++r):=by
 rw[Zak,h];simp only;rw[if_neg (by simp[hf]),hc,if_pos rfl,if_neg hl]
theorem ZdU (h:goM T (t::r)=some m)(hf:m.function=false){b:List Tok}(hc:Zaz m [] []=(b,true))(hl:60<(Zbm b (ins t.hidden m.name) t.spaced++r).length):Zak T (n+1) (s+1) out (t::r)=([],s,3):=by
 rw[Zak,h];simp only;rw[if_neg (by simp[hf]),hc,if_pos rfl,if_pos hl]
theorem Zez (h:goM T (t::r)=some m)(hf:m.function=false){b:List Tok}(hc:Zaz m [] []=(b,false)):Zak T (n+1) (s+1) out (t::r)=([],s,2):=by
 rw[Zak,h];simp only;rw[if_neg (by simp[hf]),hc,if_neg (by simp)]
end
theorem Zlo {f:List Tok->Nat->Zde}(hf:∀a k,(f a k).2.1<=k):∀(A:List (List Tok)) (s:Nat),(ZaL f A s).2.1<=s
 | [],s=>QA s
 |
  a::r,s=>by
  have h1:=hf a s;have h2:=Zlo hf r (f a s).2.1;unfold ZaL;split
  ·split
   ·show(ZaL f r (f a s).2.1).2.1<=s;omega
   ·show(ZaL f r (f a s).2.1).2.1<=s;omega
  ·show(f a s).2.1<=s;omega
theorem Zpd {f:List Tok->Nat->Zde}(hf:∀a k,(f a k).2.1<=k)(m:DMacro)(w:List Tok)(s:Nat):(ZaW f m w s).2.2.1<=s:=by
 have h1:=Zlo hf ((Zax (w.drop 2) 1 [] [] 2).1.take m.params.length) s;unfold ZaW;split
 ·split
  ·split
   ·exact h1
   ·exact h1
  ·exact h1
 ·exact QA s
theorem ZkH (T:List DMacro):∀(n:Nat) (w:List Tok) (s:Nat) (out:List Tok),(Zak T n s out w).2.1<=s:=by
 intro n;induction n with
 |
  zero =>
  intro w;induction w with
  | nil=>intro s out;rw[ZbG];exact QA s
  |
   cons t r ih =>
   intro s out;cases hg:goM T (t::r) with
   |
    none =>
    by_cases hl:60<out.length+1
    ·rw[Zbx hg hl];exact QA s
    ·rw[Za6 hg hl];exact ih s _
   | some m=>rw[Zak,hg];exact JI s
 |
  succ n ihn =>
  intro w;induction w with
  | nil=>intro s out;rw[ZbG];exact QA s
  |
   cons t r ih =>
   intro s out;cases hg:goM T (t::r) with
   |
    none =>
    by_cases hl:60<out.length+1
    ·rw[Zbx hg hl];exact QA s
    ·rw[Za6 hg hl];exact ih s _
   |
    some m =>
    cases s with
    | zero=>rw[ZdT hg];exact JI 0
    |
     succ s =>
     cases hf:m.function
     ·rcases hc:Zaz m [] []with⟨b,ok⟩;cases ok
      ·rw[Zez hg hf hc];exact Nat.le_succ s
      ·by_cases hl:60<(Zbm b (ins t.hidden m.name) t.spaced++r).length
       ·rw[ZdU hg hf hc hl];exact Nat.le_succ s
       ·rw[Zef hg hf hc hl];exact Nat.le_succ_of_le (ihn _ _ _)
     ·have dK:=Zpd (f:=λa k=>Zak T n k [] a) (λa k=>ihn a k []) m (t::r) s;rcases hc:ZaW (λa k=>Zak T n k [] a) m (t::r) s with⟨b,e,l,c⟩;rw[hc]at dK;have Be:l<=s:=dK;by_cases h0:c=0
      ·subst h0;by_cases hl:60<(b++(t::r).drop e).length
       ·rw[Zdh hg hf hc hl];exact Nat.le_succ_of_le Be
       ·rw[Zdn hg hf hc hl];have:=ihn (b++(t::r).drop e) l out;omega
      ·rw[Zcy hg hf hc h0];exact Nat.le_succ_of_le Be
section
variable {r:List Tok}
theorem Ziv:∀(l:List Tok) (d:Int) (args:Zbe) (arg:List Tok) (k:Nat),(Zax l d args arg k).2.2=true->Zax (l++r) d args arg k=Zax l d args arg k
 | [],d,args,arg,k,h=>by simp[Zax]at h
 |
  t::l,d,args,arg,k,h=>by
  rw[List.cons_append];unfold Zax at h ⊢;by_cases h1:d+Zbc t=0
  ·rw[if_pos h1,if_pos h1]
  ·rw[if_neg h1]at h ⊢;rw[if_neg h1];by_cases h2:d+Zbc t=1/\isM t [44]=true
   ·rw[if_pos h2]at h ⊢;rw[if_pos h2];exact Ziv l _ _ _ _ h
   ·rw[if_neg h2]at h ⊢;rw[if_neg h2];exact Ziv l _ _ _ _ h
theorem Ziw:∀(l:List Tok) (d:Int) (args:Zbe) (arg:List Tok) (k:Nat),(Zax l d args arg k).2.2=true->k<(Zax l d args arg k).2.1/\(Zax l d args arg k).2.1<=k+l.length
 | [],d,args,arg,k,h=>by simp[Zax]at h
 |
  t::l,d,args,arg,k,h=>by
  unfold Zax at h ⊢;rw[QQ];by_cases h1:d+Zbc t=0
  ·rw[if_pos h1];exact⟨Nat.lt_succ_self k,(by omega:k+1<=k+(l.length+1))⟩
  ·rw[if_neg h1]at h ⊢;by_cases h2:d+Zbc t=1/\isM t [44]=true
   ·rw[if_pos h2]at h ⊢;have:=Ziw l _ _ _ _ h;omega
   ·rw[if_neg h2]at h ⊢;have:=Ziw l _ _ _ _ h;omega
theorem ZjM {T:List DMacro}{t:Tok}{l:List Tok}(hr:ZdS r=false):goM T (t::(l++r))=goM T (t::l):=by
 have:ZdS (l++r)=ZdS l:=by
  cases l with
  | nil=>rw[Q3,hr];rfl
  | cons u v=>rfl
 unfold goM;simp only[this]
theorem ZqR {f:List Tok->Nat->Zde}{m:DMacro}{t:Tok}{l:List Tok}{s:Nat}(h:(ZaW f m (t::l) s).2.2.2=0):ZaW f m (t::(l++r)) s=ZaW f m (t::l) s/\(ZaW f m (t::l) s).2.1<=(t::l).length:=by
 cases l with
 | nil=>simp[ZaW,Zax]at h
 |
  cons u v =>
  have ta:(t::(u::v++r)).drop 2=v++r:=rfl;have jD:(t::u::v).drop 2=v:=rfl;unfold ZaW at h ⊢;rw[jD]at h ⊢;rw[ta];by_cases hc:(Zax v 1 [] [] 2).2.2=true
  ·have he:=Ziw v 1 [] [] 2 hc;rw[Ziv (r:=r) v 1 [] [] 2 hc];have hg:(t::(u::v++r)).getD ((Zax v 1 [] [] 2).2.1-1) Zaw=(t::u::v).getD ((Zax v 1 [] [] 2).2.1-1) Zaw:=by
    rw[Qv,Qv,show t::(u::v++r)=(t::u::v)++r from rfl,List.getElem?_append_left (by simp only[QQ];omega)]
   refine⟨by rw[hg];rfl,?_⟩;have j8:(Zax v 1 [] [] 2).2.1<=(t::u::v).length:=(by simp only[QQ];omega);split
   ·split
    ·split
     ·exact j8
     ·exact JI _
    ·exact JI _
   ·exact JI _
  ·rw[if_neg (λe=>hc e.1)]at h;exact absurd h (by simp)
theorem exp_more {T:List DMacro}(hr:ZdS r=false):∀(n:Nat) (w:List Tok) (s:Nat) (out:List Tok),(Zak T n s out w).2.2=0 ->
  (Zak T n s out (w++r)).2.2≠0\/∃n',Zak T n s out (w++r)=Zak T n' (Zak T n s out w).2.1 (Zak T n s out w).1 r:=by
 intro n;induction n with
 |
  zero =>
  intro w;induction w with
  | nil=>intro s out _;right;rw[ZbG];exact⟨0,rfl⟩
  |
   cons t l ih =>
   intro s out h;rw[List.cons_append];cases hg:goM T (t::l) with
   |
    none =>
    by_cases hl:60<out.length+1
    ·rw[Zbx hg hl]at h;exact absurd h (show(3:Int)≠0 by decide)
    ·rw[Za6 hg hl]at h ⊢;rw[Za6 ((ZjM hr).trans hg) hl];exact ih s _ h
   | some m=>rw[Zak,hg]at h;exact absurd h (show(3:Int)≠0 by decide)
 |
  succ n ihn =>
  intro w;induction w with
  | nil=>intro s out _;right;rw[ZbG];exact⟨n+1,rfl⟩
  |
   cons t l ih =>
   intro s out h;rw[List.cons_append];cases hg:goM T (t::l) with
   |
    none =>
    by_cases hl:60<out.length+1
    ·rw[Zbx hg hl]at h;exact absurd h (show(3:Int)≠0 by decide)
    ·rw[Za6 hg hl]at h ⊢;rw[Za6 ((ZjM hr).trans hg) hl];exact ih s _ h
   |
    some m =>
    have kL:goM T (t::(l++r))=some m:=(ZjM hr).trans hg;cases s with
    | zero=>rw[ZdT hg]at h;exact absurd h (show(3:Int)≠0 by decide)
    |
     succ s =>
     cases hf:m.function with
     |
      true =>
      rcases hc:ZaW (λa k=>Zak T n k [] a) m (t::l) s with⟨b,e,f,c⟩;by_cases dm:c=0
      ·subst dm;have hm:=ZqR (r:=r) (f:=λa k=>Zak T n k [] a) (m:=m) (t:=t) (l:=l) (s:=s) (by rw[hc]);rw[hc]at hm;have hd:(t::(l++r)).drop e=(t::l).drop e++r:=by
        rw[show t::(l++r)=(t::l)++r from rfl,List.drop_append_of_le_length hm.2]
       by_cases hl:60<(b++(t::l).drop e).length
       ·rw[Zdh hg hf hc hl]at h;exact absurd h (show(3:Int)≠0 by decide)
       ·rw[Zdn hg hf hc hl]at h ⊢;by_cases gA:60<(b++(t::(l++r)).drop e).length
        ·left;rw[Zdh kL hf hm.1 gA];exact(show(3:Int)≠0 by decide)
        ·rw[Zdn kL hf hm.1 gA,hd,←Qn];exact ihn _ _ _ h
      ·rw[Zcy hg hf hc dm]at h;exact absurd h dm
     |
      false =>
      rcases hc:Zaz m [] []with⟨b,ok⟩;cases ok with
      | false=>rw[Zez hg hf hc]at h;exact absurd h (show(2:Int)≠0 by decide)
      |
       true =>
       by_cases hl:60<(Zbm b (ins t.hidden m.name) t.spaced++l).length
       ·rw[ZdU hg hf hc hl]at h;exact absurd h (show(3:Int)≠0 by decide)
       ·rw[Zef hg hf hc hl]at h ⊢;by_cases gA:60<(Zbm b (ins t.hidden m.name) t.spaced++(l++r)).length
        ·left;rw[ZdU kL hf hc gA];exact(show(3:Int)≠0 by decide)
        ·rw[Zef kL hf hc gA,←Qn];exact ihn _ _ _ h
end
def shQ (c:Nat):Ask->Ask
 | .one k=>.one (k+c)
 | .marks k rank=>.marks (k+c) rank
 | .more rank n e f=>.more rank n (e+c) f
 | .choice k=>.choice (k+c)
def posR:Ask->Prop
 | .marks _ rank=>1<=rank
 | .more rank _ _ _=>1<=rank
 | _=>True
section
variable {l pre suf:List Tok}{t:Tok}
theorem Zix:(pre++(l++t::suf)).length=pre.length+l.length+suf.length+1:=by simp;omega
theorem sh_at {k:Nat}(hk:k<l.length)(h:k+pre.length<(pre++(l++t::suf)).length):(pre++(l++t::suf))[k+pre.length]=l[k]:=by
 rw[JE (by omega)];simp only[Nat.add_sub_cancel];rw[List.getElem_append_left hk]
theorem sh_end (h:l.length+pre.length<(pre++(l++t::suf)).length):(pre++(l++t::suf))[l.length+pre.length]=t:=by
 rw[JE (by omega)];simp only[Nat.add_sub_cancel];rw[JE (QA _)];simp
theorem sh_mk {k:Nat}(hk:k<l.length)(s:List UInt8):Zan (pre++(l++t::suf)) (k+pre.length) s=Zan l k s:=by
 have h:k+pre.length<(pre++(l++t::suf)).length:=by rw[Zix];omega
 unfold Zan;rw[dif_pos h,dif_pos hk,sh_at hk]
theorem sh_mkE (s:List UInt8):Zan (pre++(l++t::suf)) (l.length+pre.length) s=ZaS t s:=by
 have h:l.length+pre.length<(pre++(l++t::suf)).length:=by rw[Zix];omega
 unfold Zan;rw[dif_pos h,sh_end]
theorem ZqS (h:ZaS t [41]=true):Zbq t=0:=by
 unfold ZaS at h;rw[QI,JT,beq_iff_eq]at h;unfold Zbq;rw[if_pos h.1,h.2];rfl
theorem shut_not (h:ZaS t [41]=true):ZaS t [63]=false:=by
 unfold ZaS at h ⊢;rw[QI,JT,beq_iff_eq]at h;rw[h.2,show(([41]:List UInt8)==[63])=false from rfl,JB]
theorem pv_shift (ht:ZaS t [41]=true):∀(d:Nat) (q:Ask) (r:ZbV),okQ l q->posR q->pv l d q=some r->r.2.2=0->pv (pre++(l++t::suf)) d (shQ pre.length q)=some (r.1,r.2.1+pre.length,0):=by
 intro d;induction d with
 | zero=>intro q r _ _ h;simp[pv]at h
 |
  succ d ih =>
  intro q r hq hp h h0;cases q with
  |
   one k =>
   unfold pv at h;unfold shQ;unfold pv;by_cases hk:k<l.length;rotate_left
   ·rw[dif_neg hk]at h;simp only[Qi]at h;subst h;exact absurd (show(1:Int)=0 from h0) (by decide)
   rw[dif_pos hk]at h;have bY:k+pre.length<(pre++(l++t::suf)).length:=(by rw[Zix];omega);rw[dif_pos bY,sh_at hk bY];have e1:k+pre.length+1=k+1+pre.length:=(by omega);rw[e1];by_cases h1:ZaS l[k] [33]=true
   ·rw[if_pos h1]at h ⊢;obtain⟨a,h2,h3⟩:=Zas h;simp only[Qi]at h3;subst h3;have:=ih _ _ (show okQ l (.one (k+1)) from hk) trivial h2 h0;rw[show shQ pre.length (.one (k+1))=.one (k+1+pre.length) from rfl]at this;rw[this];rfl
   rw[if_neg h1]at h ⊢;by_cases h2:ZaS l[k] [45]=true
   ·rw[if_pos h2]at h ⊢;obtain⟨a,h4,h3⟩:=Zas h;simp only[Qi]at h3;subst h3;have:=ih _ _ (show okQ l (.one (k+1)) from hk) trivial h4 h0;rw[show shQ pre.length (.one (k+1))=.one (k+1+pre.length) from rfl]at this;rw[this];rfl
   rw[if_neg h2]at h ⊢;by_cases h3:ZaS l[k] [40]=true
   ·rw[if_pos h3]at h ⊢;obtain⟨a,h4,h5⟩:=Zas h;simp only[Qi]at h5;subst h5;have gM:(if a.2.2=0/\Zan l a.2.1 [41]=false then (1:Int) else a.2.2)=0:=h0;split at gM
    ·simp at gM
    ·rename_i h6;have h7:Zan l a.2.1 [41]=true:=by
      cases hm:Zan l a.2.1 [41]
      ·exact absurd ⟨gM,hm⟩ h6
      ·rfl
     obtain⟨h8,-⟩:=Zb0 h7;have:=ih _ _ (show okQ l (.choice (k+1)) from hk) trivial h4 gM;rw[show shQ pre.length (.choice (k+1))=.choice (k+1+pre.length) from rfl]at this;rw[this];simp only[Q2];rw[sh_mk h8,if_neg (λh=>by rw[h7]at h;exact absurd h.2 (by simp))];show some (a.1,a.2.1+pre.length+1,(0:Int))=some (a.1,a.2.1+1+pre.length,0);rw[show a.2.1+pre.length+1=a.2.1+1+pre.length by omega]
   rw[if_neg h3]at h ⊢;by_cases h4:(l[k]).kind=1
   ·rw[if_pos h4]at h ⊢;simp only[Qi]at h;subst h;rfl
   rw[if_neg h4]at h ⊢;by_cases h5:(l[k]).kind=2/\0<=ZaM (l[k]).text.toList
   ·rw[if_pos h5]at h ⊢;simp only[Qi]at h;subst h;rfl
   rw[if_neg h5]at h;simp only[Qi]at h;subst h;exact absurd (show(1:Int)=0 from h0) (by decide)
  |
   marks k rank =>
   unfold pv at h;unfold shQ;unfold pv;obtain⟨a,h1,h2⟩:=Zas h;by_cases hf:a.2.2=0;rotate_left
   ·have:=Zex h2 hf;subst this;exact absurd h0 hf
   have h3:=ih _ _ (show okQ l (.one k) from hq) trivial h1 hf;rw[show shQ pre.length (.one k)=.one (k+pre.length) from rfl]at h3;rw[h3];obtain⟨g1,g2,g3,-,-⟩:=Zb1 l d _ _ (show okQ l (.one k) from hq) h1;rw[hf]at h2;exact ih (.more rank a.1 a.2.1 0) r ⟨rfl,(g3 hf).1,g1⟩ hp h2 h0
  |
   more rank n p f =>
   obtain⟨hf,hpl,hn⟩:=hq;have m6:1<=rank:=hp;subst hf;unfold pv at h;unfold shQ;unfold pv;by_cases hk:p<l.length;rotate_left
   ·rw[dif_neg (λh=>hk h.2)]at h;simp only[Qi]at h;subst h;have hpe:p=l.length:=(by omega);subst hpe;have bY:l.length+pre.length<(pre++(l++t::suf)).length:=(by rw[Zix];omega);rw[dif_pos ⟨rfl,bY⟩,sh_end,ZqS ht,if_pos (by omega)]
   have bY:p+pre.length<(pre++(l++t::suf)).length:=(by rw[Zix];omega);rw[dif_pos ⟨rfl,hk⟩]at h;rw[dif_pos ⟨rfl,bY⟩,sh_at hk bY];by_cases h1:Zbq l[p]<rank
   ·rw[if_pos h1]at h ⊢;simp only[Qi]at h;subst h;rfl
   rw[if_neg h1]at h ⊢;obtain⟨a,h2,h3⟩:=Zas h;by_cases h4:a.2.2≠0
   ·rw[if_pos h4]at h3;simp only[Qi]at h3;subst h3;exact absurd h0 h4
   rw[if_neg h4]at h3;have q9:a.2.2=0:=(by omega);have h5:=ih _ _ (show okQ l (.marks (p+1) (Zbq l[p]+1)) from hk) (show 1<=Zbq l[p]+1 by omega) h2 q9;rw[show shQ pre.length (.marks (p+1) (Zbq l[p]+1))=.marks (p+1+pre.length) (Zbq l[p]+1) from rfl]at h5;rw[show p+pre.length+1=p+1+pre.length by omega,h5];simp only[Q2];rw[if_neg (by simp)];obtain⟨g1,g2,g3,-,-⟩:=Zb1 l d _ _ (show okQ l (.marks (p+1) (Zbq l[p]+1)) from hk) h2;obtain⟨m1,m2,m3⟩:=ZfJ l[p].text.toList n a.1;by_cases hw:(Zal l[p].text.toList n a.1).2=0
   ·rw[hw]at h3 ⊢;exact ih (.more rank _ a.2.1 0) r ⟨rfl,(g3 q9).1,m1⟩ hp h3 h0
   ·have:=Zex h3 hw;subst this;exact absurd h0 hw
  |
   choice k =>
   unfold pv at h;unfold shQ;unfold pv;obtain⟨a,h1,h2⟩:=Zas h;by_cases hf:a.2.2=0;rotate_left
   ·rw[if_neg (λh=>hf h.1)]at h2;simp only[Qi]at h2;subst h2;exact absurd h0 hf
   have h3:=ih _ _ (show okQ l (.marks k 1) from hq) (show 1<=1 by omega) h1 hf;rw[show shQ pre.length (.marks k 1)=.marks (k+pre.length) 1 from rfl]at h3;rw[h3];simp only[Q2];obtain⟨g1,g2,g3,-,-⟩:=Zb1 l d _ _ (show okQ l (.marks k 1) from hq) h1;have g6:=(g3 hf).1;by_cases hm:Zan l a.2.1 [63]=true;rotate_left
   ·rw[if_neg (λh=>hm h.2)]at h2;simp only[Qi]at h2;subst h2;have e1:Zan (pre++(l++t::suf)) (a.2.1+pre.length) [63]=false:=by
     by_cases af:a.2.1<l.length
     ·rw[sh_mk af];simpa using hm
     ·have:a.2.1=l.length:=(by omega);rw[this,sh_mkE];exact shut_not ht
    rw[if_neg (λh=>by rw[e1]at h;exact absurd h.2 (by simp))]
   rw[if_pos ⟨hf,hm⟩]at h2;obtain⟨q1,-⟩:=Zb0 hm;rw[if_pos ⟨trivial,by rw[sh_mk q1];exact hm⟩];obtain⟨b,h4,h5⟩:=Zas h2;by_cases h6:b.2.2≠0
   ·rw[if_pos h6]at h5;simp only[Qi]at h5;subst h5;exact absurd h0 h6
   rw[if_neg h6]at h5;have nS:b.2.2=0:=(by omega);have h7:=ih _ _ (show okQ l (.choice (a.2.1+1)) from q1) trivial h4 nS;rw[show shQ pre.length (.choice (a.2.1+1))=.choice (a.2.1+1+pre.length) from rfl]at h7;rw[show a.2.1+pre.length+1=a.2.1+1+pre.length by omega,h7];simp only[Q2];rw[if_neg (by simp)];by_cases h8:Zan l b.2.1 [58]=true;rotate_left
   ·rw[if_neg h8]at h5;simp only[Qi]at h5;subst h5;exact absurd (show(1:Int)=0 from h0) (by decide)
   rw[if_pos h8]at h5;obtain⟨q2,-⟩:=Zb0 h8;rw[if_pos (by rw[sh_mk q2];exact h8)];obtain⟨c,h9,ss⟩:=Zas h5;simp only[Qi]at ss;subst ss;have h11:=ih _ _ (show okQ l (.choice (b.2.1+1)) from q2) trivial h9 h0;rw[show shQ pre.length (.choice (b.2.1+1))=.choice (b.2.1+1+pre.length) from rfl]at h11;rw[show b.2.1+pre.length+1=b.2.1+1+pre.length by omega,h11];rfl
end
def oT:Tok:=⟨4,⟨#[40]⟩,false,[]⟩
def cT:Tok:=⟨4,⟨#[41]⟩,false,[]⟩
def nT:Tok:=⟨4,⟨#[33]⟩,false,[]⟩
theorem ZhL (k:UInt8)(c:UInt8):ZaS ⟨4,⟨#[k]⟩,false,[]⟩ [c]=decide (k=c):=by
 unfold ZaS;rw[show((⟨#[k]⟩:ByteArray).toList)=[k] by rw[QB],JR rfl,Bool.true_and];by_cases h:k=c
 ·subst h;simp
 ·simp[h]
theorem oT_mk (c:UInt8):ZaS oT [c]=decide (40=c):=ZhL 40 c
theorem cT_mk:ZaS cT [41]=true:=by rw[show ZaS cT [41]=decide ((41:UInt8)=41) from ZhL 41 41];decide
theorem nT_mk:ZaS nT [33]=true:=by rw[show ZaS nT [33]=decide ((33:UInt8)=33) from ZhL 33 33];decide
variable {l:List Tok}{n:Int}
theorem val_good (h:Za1 l=(n,0))(hv:Zam l=true):pv l (4*l.length+4) (.choice 0)=some (n,l.length,0):=by
 unfold Za1 at h;rw[if_pos hv]at h;obtain⟨⟨m,e,f⟩,hp⟩:=Zhz l (4*l.length+4) (.choice 0) (JI _) (by show 4*(l.length-0)+4<=_;omega);rw[hp]at h ⊢;simp only at h;by_cases hf:f=0
 ·subst hf;rw[if_neg (by simp)]at h;by_cases he:e=l.length
  ·subst he;rw[if_neg (by simp)]at h;simp only[QS,and_true]at h;rw[h]
  ·rw[if_pos he]at h;simp at h
 ·rw[if_pos hf]at h;simp only[QS]at h;exact absurd h.2 hf
variable {d:Nat}
theorem val_of (hv:Zam l=true)(hp:pv l d (.choice 0)=some (n,l.length,0)):Za1 l=(n,0):=by
 obtain⟨r,hr⟩:=Zhz l (4*l.length+4) (.choice 0) (JI _) (by show 4*(l.length-0)+4<=_;omega);have e:r=(n,l.length,0):=by
  have h1:=Zo0 l d _ _ hp (d+(4*l.length+4)) (by omega);have h2:=Zo0 l (4*l.length+4) _ _ hr (d+(4*l.length+4)) (by omega);rw[h1]at h2;simpa using h2.symm
 subst e;unfold Za1;rw[if_pos hv,hr];simp
theorem ZqT {pre l:List Tok}(hp:pv l d (.choice 0)=some (n,l.length,0)):pv (pre++oT::(l++[cT])) (d+1) (.one pre.length)=some (n,(pre++oT::(l++[cT])).length,0):=by
 have hs:=pv_shift (pre:=pre++[oT]) (suf:=[]) (t:=cT) cT_mk d (.choice 0) _ (JI _) trivial hp rfl;rw[show pre++[oT]++(l++[cT])=pre++oT::(l++[cT]) by simp,show shQ (pre++[oT]).length (.choice 0)=.choice (pre.length+1) by unfold shQ;simp]at hs;have hl:(pre++oT::(l++[cT])).length=pre.length+l.length+2:=by simp;omega
 have hk:pre.length<(pre++oT::(l++[cT])).length:=by omega
 have h0:(pre++oT::(l++[cT]))[pre.length]=oT:=by rw[JE (QA _)];simp
 unfold pv;rw[dif_pos hk,h0,if_neg (by rw[oT_mk];decide),if_neg (by rw[oT_mk];decide),if_pos (by rw[oT_mk];decide),hs];simp only[Q2];have hm:Zan (pre++oT::(l++[cT])) (l.length+(pre++[oT]).length) [41]=true:=by
  have:=sh_mkE (l:=l) (pre:=pre++[oT]) (suf:=[]) (t:=cT) [41];rw[show pre++[oT]++(l++[cT])=pre++oT::(l++[cT]) by simp]at this;rw[this];exact cT_mk
 rw[if_neg (λh=>by rw[hm]at h;exact absurd h.2 (by simp)),hl];simp;omega
theorem ZpQ {L:List Tok}(h:pv L d (.one 0)=some (n,L.length,0)):pv L (d+2) (.choice 0)=some (n,L.length,0):=by
 have hm:pv L (d+1) (.marks 0 1)=some (n,L.length,0):=by
  unfold pv;rw[h];simp only[Q2];cases d with
  | zero=>simp[pv]at h
  |
   succ d =>
   unfold pv;rw[dif_neg (λh=>by have:=h.2;omega)]
 show pv L ((d+1)+1) (.choice 0)=_;unfold pv;rw[hm];simp only[Q2];rw[if_neg];rintro⟨-,h2⟩;obtain⟨h3,-⟩:=Zb0 h2;omega
theorem val_not (h:Za1 l=(n,0))(hv:Zam l=true)(jo:Zam (nT::oT::(l++[cT]))=true):Za1 (nT::oT::(l++[cT]))=(ZaV (decide (n=0)),0):=by
 have h1:=ZqT (pre:=[nT]) (val_good h hv);refine val_of (d:=_) jo (ZpQ (d:=(4*l.length+4+1)+1) ?_);unfold pv;rw[dif_pos (by simp),show(nT::oT::(l++[cT]))[0]=nT from rfl,if_pos nT_mk];rw[show [nT]++oT::(l++[cT])=nT::oT::(l++[cT]) from rfl,show [nT].length=0+1 from rfl]at h1;rw[h1];rfl
def Zb2 (T:List DMacro)(l:List Tok):Bool × Bool:=
 if (Za4 T l).2=true then
  (if (Zbv T (Za4 T l).1).2=0 then (decide ((Za1 (Zbv T (Za4 T l).1).1).1≠0),decide ((Za1 (Zbv T (Za4 T l).1).1).2=0)) else (false,false))
 else (false,false)
variable {T:List DMacro}
theorem Zel {l x:List Tok}(h:Za4 T l=(x,false)):Zb2 T l=(false,false):=by unfold Zb2;rw[h];simp
theorem Zem {l x y:List Tok}{c:Int}(h:Za4 T l=(x,true))(hx:Zbv T x=(y,c))(hc:c≠0):Zb2 T l=(false,false):=by
 unfold Zb2;rw[h];simp only[if_true];rw[hx];simp only;rw[if_neg hc]
theorem Zen {l x y:List Tok}{n f:Int}(h:Za4 T l=(x,true))(hx:Zbv T x=(y,0))(hv:Za1 y=(n,f)):Zb2 T l=(decide (n≠0),decide (f=0)):=by
 unfold Zb2;rw[h];simp only[if_true];rw[hx];simp only[if_true];rw[hv]
theorem exp_back (o:List Tok):∀(n:Nat) (w:List Tok) (s:Nat) (out:List Tok),(Zak T n s (o++out) w).2.2=0 ->
  Zak T n s (o++out) w=(o++(Zak T n s out w).1,(Zak T n s out w).2):=by
 intro n;induction n with
 |
  zero =>
  intro w;induction w with
  | nil=>intro s out _;rw[ZbG,ZbG]
  |
   cons t l ih =>
   intro s out h;cases hg:goM T (t::l) with
   |
    none =>
    by_cases gA:60<(o++out).length+1
    ·rw[Zbx hg gA]at h;exact absurd h (show(3:Int)≠0 by decide)
    ·have hl:¬60<out.length+1:=(by rw[QC]at gA;omega);rw[Za6 hg gA]at h ⊢;rw[Za6 hg hl];rw[Qn]at h ⊢;exact ih s _ h
   | some m=>rw[Zak,hg]at h;exact absurd h (show(3:Int)≠0 by decide)
 |
  succ n ihn =>
  intro w;induction w with
  | nil=>intro s out _;rw[ZbG,ZbG]
  |
   cons t l ih =>
   intro s out h;cases hg:goM T (t::l) with
   |
    none =>
    by_cases gA:60<(o++out).length+1
    ·rw[Zbx hg gA]at h;exact absurd h (show(3:Int)≠0 by decide)
    ·have hl:¬60<out.length+1:=(by rw[QC]at gA;omega);rw[Za6 hg gA]at h ⊢;rw[Za6 hg hl];rw[Qn]at h ⊢;exact ih s _ h
   |
    some m =>
    cases s with
    | zero=>rw[ZdT hg]at h;exact absurd h (show(3:Int)≠0 by decide)
    |
     succ s =>
     cases hf:m.function with
     |
      true =>
      rcases hc:ZaW (λa k=>Zak T n k [] a) m (t::l) s with⟨b,e,f,c⟩;by_cases dm:c=0
      ·subst dm;by_cases hl:60<(b++(t::l).drop e).length
       ·rw[Zdh hg hf hc hl]at h;exact absurd h (show(3:Int)≠0 by decide)
       ·rw[Zdn hg hf hc hl]at h ⊢;rw[Zdn hg hf hc hl];exact ihn _ _ _ h
      ·rw[Zcy hg hf hc dm]at h;exact absurd h dm
     |
      false =>
      rcases hc:Zaz m [] []with⟨b,ok⟩;cases ok with
      | false=>rw[Zez hg hf hc]at h;exact absurd h (show(2:Int)≠0 by decide)
      |
       true =>
       by_cases hl:60<(Zbm b (ins t.hidden m.name) t.spaced++l).length
       ·rw[ZdU hg hf hc hl]at h;exact absurd h (show(3:Int)≠0 by decide)
       ·rw[Zef hg hf hc hl]at h ⊢;rw[Zef hg hf hc hl];exact ihn _ _ _ h
variable {t:Tok}
theorem ZhM (h:t.kind≠1):goM T (t::l)=none:=by
 have:Zbk T t=none:=by unfold Zbk;rw[if_neg (λe=>h e.1)]
 unfold goM;simp only[this]
theorem opens_cT:ZdS [cT]=false:=by
 show isM cT [40]=false;have:ZaS cT [40]=decide ((41:UInt8)=40):=ZhL 41 40;exact(show isM cT [40]=ZaS cT [40] from rfl).trans (this.trans (by decide))
theorem exp_not {x y z:List Tok}(hx:Zbv T x=(y,0))(hz:Zbv T (nT::oT::(x++[cT]))=(z,0)):z=nT::oT::(y++[cT]):=by
 unfold Zbv at hx hz;by_cases h1:ZaU T=true/\Zam x=true;rotate_left
 ·rw[if_neg h1]at hx;simp at hx
 by_cases h2:ZaU T=true/\Zam (nT::oT::(x++[cT]))=true;rotate_left
 ·rw[if_neg h2]at hz;simp at hz
 rw[if_pos h1]at hx;rw[if_pos h2]at hz;by_cases g1:(Zak T 100 100 [] x).2.2=0;rotate_left
 ·rw[if_neg g1]at hx;exact absurd (JY Prod.snd hx) g1
 by_cases g2:(Zak T 100 100 [] (nT::oT::(x++[cT]))).2.2=0;rotate_left
 ·rw[if_neg g2]at hz;exact absurd (JY Prod.snd hz) g2
 rw[if_pos g1]at hx;rw[if_pos g2]at hz;have e1:Zak T 100 100 [] (nT::oT::(x++[cT]))=Zak T 100 100 [nT,oT] (x++[cT]):=by
  rw[Za6 (ZhM (by decide)) (by simp),Za6 (ZhM (by decide)) (by simp)];rfl
 rw[e1]at g2 hz;have e2:=exp_back (T:=T) [nT,oT] 100 (x++[cT]) 100 [] (by simpa using g2);simp only[Q5]at e2;have g3:(Zak T 100 100 [] (x++[cT])).2.2=0:=by rw[e2]at g2;exact g2
 rcases exp_more (r:=[cT]) (T:=T) opens_cT 100 x 100 [] g1 with h | ⟨n',h⟩
 ·exact absurd g3 h
 rw[h]at g3 e2;have kg:(Zak T 100 100 [] x).1=y:=JY Prod.fst hx;rw[kg]at g3 e2;by_cases hl:60<y.length+1
 ·rw[Zbx (ZhM (by decide)) hl]at g3;exact absurd g3 (show(3:Int)≠0 by decide)
 ·rw[Za6 (ZhM (by decide)) hl,ZbG]at e2;rw[e2]at hz;exact(JY Prod.fst hz).symm
theorem rep_more {l r:List Tok}{k:Nat}{acc:List Tok}(hr:∀t∈r,ZbJ t=false)(h:(ZaY T l k acc).2=true)(hk:k<=l.length):ZaY T (l++r) k acc=((ZaY T l k acc).1++r,true):=by
 have mk:∀{j:Nat} {s:List UInt8},j<l.length->Zan (l++r) j s=Zan l j s:=λ{j s} hj=>by
  rw[Zeb hj,Zeb (by rw[QC];omega),List.getElem_append_left hj]
 have nm:∀{j:Nat},j<l.length->Za5 (l++r) j=Za5 l j:=λ{j} hj=>by
  rw[Zdx hj,Zdx (by rw[QC];omega),List.getElem_append_left hj]
 have tx:∀{j:Nat},j<l.length->ZbW (l++r) j=ZbW l j:=λ{j} hj=>by
  rw[ZeG hj,ZeG (by rw[QC];omega),List.getElem_append_left hj]
 have inN:∀{j:Nat},Za5 l j=true->j<l.length:=λ{j} hj=>by
  by_cases h:j<l.length
  ·exact h
  ·rw[Zhd (by omega)]at hj;cases hj
 have inM:∀{j:Nat} {s:List UInt8},Zan l j s=true->j<l.length:=λ{j s} hj=>by
  by_cases h:j<l.length
  ·exact h
  ·rw[ZeF (by omega)]at hj;cases hj
 induction hn:l.length-k using Nat.strongRecOn generalizing k acc with
 |
  _ n ih =>
  subst hn;by_cases af:k<l.length
  ·have ce:k<(l++r).length:=(by rw[QC];omega);have er:(l++r)[k]=l[k]:=List.getElem_append_left af;cases hd:ZbJ l[k]with
   |
    false =>
    rw[ZcB af hd]at h ⊢;rw[ZcB ce (by rw[er];exact hd),er];exact ih _ (by omega) h (by omega) rfl
   |
    true =>
    cases ho:Zan l (k+1) [40]with
    |
     true =>
     by_cases hc:Zan l (k+3) [41]=true/\Za5 l (k+2)=true
     ·have h3:=inM hc.1;have h2:=inN hc.2;rw[Ze0 af hd ho hc.1 hc.2]at h ⊢;rw[Ze0 ce (by rw[er];exact hd) (by rw[mk (inM ho)];exact ho) (by rw[mk h3];exact hc.1) (by rw[nm h2];exact hc.2),er,tx h2];exact ih _ (by omega) h (by omega) rfl
     ·rw[ZdP af hd ho hc]at h;cases h
    |
     false =>
     cases d4:Za5 l (k+1) with
     |
      true =>
      have h1:=inN d4;rw[ZcT af hd ho d4]at h ⊢;rw[ZcT ce (by rw[er];exact hd) (by rw[mk h1];exact ho) (by rw[nm h1];exact d4),er,tx h1];exact ih _ (by omega) h (by omega) rfl
     | false=>rw[Zew af hd ho d4]at h;cases h
  ·have hkl:k=l.length:=(by omega);subst hkl;rw[Zdw (QA _)];have:∀j acc,l.length<=j->ZaY T (l++r) j acc=(acc++(l++r).drop j,true):=by
    intro j acc;induction hm:(l++r).length-j using Nat.strongRecOn generalizing j acc with
    |
     _ m ih2 =>
     subst hm;intro hj;by_cases iF:j<(l++r).length
     ·have hg:(l++r)[j]∈r:=by
       rw[JE hj];exact QE _
      rw[ZcB iF (hr _ hg),ih2 _ (by omega) _ _ rfl (by omega),Qn,Qj iF];rfl
     ·rw[Zdw (by omega),List.drop_of_length_le (by omega),Q5]
   rw[this _ _ (QA _),List.drop_left]
theorem ZpR {l p:List Tok}{k:Nat}{acc:List Tok}:ZaY T (p++l) (p.length+k) acc=ZaY T l k acc:=by
 have mk:∀{j:Nat} {s:List UInt8},Zan (p++l) (p.length+j) s=Zan l j s:=λ{j s}=>by
  by_cases h:j<l.length
  ·rw[Zeb h,Zeb (by rw[QC];omega),JE (by omega)];simp
  ·rw[ZeF (l:=p++l) (by rw[QC];omega),ZeF (by omega)]
 have nm:∀{j:Nat},Za5 (p++l) (p.length+j)=Za5 l j:=λ{j}=>by
  by_cases h:j<l.length
  ·rw[Zdx h,Zdx (by rw[QC];omega),JE (by omega)];simp
  ·rw[Zhd (l:=p++l) (by rw[QC];omega),Zhd (by omega)]
 have tx:∀{j:Nat},ZbW (p++l) (p.length+j)=ZbW l j:=λ{j}=>by
  by_cases h:j<l.length
  ·rw[ZeG h,ZeG (by rw[QC];omega),JE (by omega)];simp
  ·unfold ZbW;rw[dif_neg (by rw[QC];omega),dif_neg h]
 induction hn:l.length-k using Nat.strongRecOn generalizing k acc with
 |
  _ n ih =>
  subst hn;by_cases af:k<l.length
  ·have ce:p.length+k<(p++l).length:=(by rw[QC];omega);have er:(p++l)[p.length+k]=l[k]:=(by rw[JE (by omega)];simp);have yZ:∀j s,Zan (p++l) (p.length+k+j) s=Zan l (k+j) s:=λj s=>(by rw[Nat.add_assoc];exact mk);have xE:∀j,Za5 (p++l) (p.length+k+j)=Za5 l (k+j):=λj=>(by rw[Nat.add_assoc];exact nm);have tx1:∀j,ZbW (p++l) (p.length+k+j)=ZbW l (k+j):=λj=>(by rw[Nat.add_assoc];exact tx);cases hd:ZbJ l[k]with
   |
    false =>
    rw[ZcB af hd,ZcB ce (by rw[er];exact hd),er,Nat.add_assoc];exact ih _ (by omega) rfl
   |
    true =>
    cases ho:Zan l (k+1) [40]with
    |
     true =>
     by_cases hc:Zan l (k+3) [41]=true/\Za5 l (k+2)=true
     ·rw[Ze0 af hd ho hc.1 hc.2,Ze0 ce (by rw[er];exact hd) (by rw[yZ];exact ho) (by rw[yZ];exact hc.1) (by rw[xE];exact hc.2),er,tx1,Nat.add_assoc];exact ih _ (by omega) rfl
     ·rw[ZdP af hd ho hc,ZdP ce (by rw[er];exact hd) (by rw[yZ];exact ho) (by rw[yZ,xE];exact hc)]
    |
     false =>
     cases d4:Za5 l (k+1) with
     |
      true =>
      rw[ZcT af hd ho d4,ZcT ce (by rw[er];exact hd) (by rw[yZ];exact ho) (by rw[xE];exact d4),er,tx1,Nat.add_assoc];exact ih _ (by omega) rfl
     | false=>rw[Zew af hd ho d4,Zew ce (by rw[er];exact hd) (by rw[yZ];exact ho) (by rw[xE];exact d4)]
  ·rw[Zdw (l:=p++l) (by rw[QC];omega),Zdw (by omega)]
theorem rep_not {l x:List Tok}(h:ZaY T l 0 []=(x,true)):ZaY T (nT::oT::(l++[cT])) 0 []=(nT::oT::(x++[cT]),true):=by
 rw[ZcB (l:=nT::oT::(l++[cT])) (k:=0) (by simp) (show ZbJ nT=false from rfl),ZcB (l:=nT::oT::(l++[cT])) (k:=0+1) (by simp) (show ZbJ oT=false from rfl)];have hb:=ZpR (T:=T) (l:=l++[cT]) (p:=[nT,oT]) (k:=0) (acc:=[nT,oT]);have hf:∀acc,ZaY T l 0 acc=(acc++x,true):=by
  have eg:∀k a acc,(ZaY T l k a).2=true->ZaY T l k (acc++a)=(acc++(ZaY T l k a).1,true):=by
   intro k a acc;induction hn:l.length-k using Nat.strongRecOn generalizing k a with
   |
    _ n ih =>
    subst hn;intro h;by_cases af:k<l.length
    ·cases hd:ZbJ l[k]with
     |
      false =>
      rw[ZcB af hd]at h ⊢;rw[ZcB af hd,Qn];exact ih _ (by omega) _ _ rfl h
     |
      true =>
      cases ho:Zan l (k+1) [40]with
      |
       true =>
       by_cases hc:Zan l (k+3) [41]=true/\Za5 l (k+2)=true
       ·rw[Ze0 af hd ho hc.1 hc.2]at h ⊢;rw[Ze0 af hd ho hc.1 hc.2,Qn];exact ih _ (by omega) _ _ rfl h
       ·rw[ZdP af hd ho hc]at h;cases h
      |
       false =>
       cases d4:Za5 l (k+1) with
       |
        true =>
        rw[ZcT af hd ho d4]at h ⊢;rw[ZcT af hd ho d4,Qn];exact ih _ (by omega) _ _ rfl h
       | false=>rw[Zew af hd ho d4]at h;cases h
    ·rw[Zdw (by omega),Zdw (by omega)]
  intro acc;have:=eg 0 [] acc (by rw[h]);rw[Q5,h]at this;exact this
 have hm:=rep_more (T:=T) (l:=l) (r:=[cT]) (k:=0) (acc:=[nT,oT]) (by intro t ht;obtain rfl:=Qm ht;decide) (by rw[hf]) (JI _);rw[hf]at hm;exact hb.trans hm
theorem ZnG {c d:Bool}(h:Zb2 T l=(c,true))(h2:Zb2 T (nT::oT::(l++[cT]))=(d,true)):d≠c:=by
 rcases hr:Za4 T l with⟨x,ok⟩;cases ok with
 | false=>rw[Zel hr]at h;cases h
 |
  true =>
  rcases jE:Za4 T (nT::oT::(l++[cT])) with⟨x2,ok2⟩;cases ok2 with
  | false=>rw[Zel jE]at h2;cases h2
  |
   true =>
   have dp:x2=nT::oT::(x++[cT]):=by
    unfold Za4 at hr jE;by_cases g1:ZaU T=true/\Zam l=true
    ·by_cases g2:ZaU T=true/\Zam (nT::oT::(l++[cT]))=true
     ·rw[if_pos g1]at hr;rw[if_pos g2,rep_not hr]at jE;exact(JY Prod.fst jE).symm
     ·rw[if_neg g2]at jE;cases jE
    ·rw[if_neg g1]at hr;cases hr
   subst dp;rcases he:Zbv T x with⟨y,f⟩;by_cases hf:f=0;rotate_left
   ·rw[Zem hr he hf]at h;cases h
   subst hf;rcases pF:Zbv T (nT::oT::(x++[cT])) with⟨z,f2⟩;by_cases hf2:f2=0;rotate_left
   ·rw[Zem jE pF hf2]at h2;cases h2
   subst hf2;have hz:=exp_not he pF;subst hz;rcases hv:Za1 y with⟨n,g⟩;rcases jo:Za1 (nT::oT::(y++[cT])) with⟨n2,g2⟩;rw[Zen hr he hv]at h;rw[Zen jE pF jo]at h2;have hg:g=0:=JW (JY Prod.snd h);have kL:g2=0:=JW (JY Prod.snd h2);subst hg kL;have vj:∀{q:List Tok} {m:Int},Za1 q=(m,0)->Zam q=true:=λ{q m} hq=>by
    by_cases bQ:Zam q=true
    ·exact bQ
    ·unfold Za1 at hq;rw[if_neg bQ]at hq;exact absurd (JY Prod.snd hq) (show(1:Int)≠0 by decide)
   have hnn:=val_not hv (vj hv) (vj jo);rw[jo]at hnn;have e1:n2=ZaV (decide (n=0)):=JY Prod.fst hnn;have h1:decide (n≠0)=c:=JY Prod.fst h;have h3:decide (n2≠0)=d:=JY Prod.fst h2;rw[←h1,←h3,e1];by_cases ke:n=0
   ·subst ke;decide
   ·rw[JQ ke,JR ke];decide
theorem Zml:∀x y:List UInt8,Op.bytesLess x y=false->(x==y)=false->Op.bytesLess y x=true
 | [],[],_,h=>by simp at h
 | [],_::_,h,_=>by simp[Op.bytesLess]at h
 | _::_,[],_,_=>by simp[Op.bytesLess]
 |
  a::x,b::y,h,h2=>by
  have ih:=Zml x y;simp only[Op.bytesLess,JD,decide_eq_false_iff_not,Bool.and_eq_false_iff]at h;obtain⟨h3,h4⟩:=h;by_cases hab:a=b
  ·subst hab;have h5:Op.bytesLess x y=false:=by
    rcases h4 with h4 | h4
    ·simp at h4
    ·exact h4
   have h6:(x==y)=false:=by
    rw[beq_eq_false_iff_ne]at h2 ⊢;intro e;exact h2 (by rw[e])
   simp[Op.bytesLess,ih h5 h6]
  ·have h7:b<a:=by
    rcases UInt8.lt_or_lt_of_ne hab with h | h
    ·exact absurd h h3
    ·exact h
   simp[Op.bytesLess,h7]
theorem ZqU {a b:ByteArray}(h:ZaF a b=false)(h2:(a.toList==b.toList)=false):ZaF b a=true:=Zml _ _ h h2
theorem ZeK {x n:ByteArray}:∀{l:List ByteArray},x∈ins l n->x=n\/x∈l
 | [],h=>by simp only[ins,JA]at h;exact .inl h
 |
  y::r,h=>by
  unfold ins at h;split at h
  ·rcases Q7.1 h with rfl | h
   ·exact .inr (by simp)
   ·rcases ZeK h with h | h
    ·exact .inl h
    ·exact .inr (by simp[h])
  ·split at h
   ·exact .inr h
   ·rcases Q7.1 h with rfl | h
    ·exact .inl rfl
    ·exact .inr h
theorem ins_up {n:ByteArray}:∀{l:List ByteArray},Up l->Up (ins l n)
 | [],_=>by unfold ins Up;simp
 |
  y::r,h=>by
  have h':=h;unfold Up at h';rw[List.pairwise_cons]at h';unfold ins;split
  ·rename_i hs;unfold Up;rw[List.pairwise_cons];refine⟨λz hz=>?_,ins_up h'.2⟩;rcases ZeK hz with rfl | hz
   ·exact hs
   ·exact h'.1 z hz
  ·rename_i hs;split
   ·exact h
   ·rename_i he;have hn:ZaF n y=true:=ZqU (by simpa using hs) (by simpa using he);unfold Up;rw[List.pairwise_cons];refine⟨λz hz=>?_,h⟩;rcases Q7.1 hz with rfl | hz
    ·exact hn
    ·exact Zek hn (h'.1 z hz)
theorem ZjN:∀{b a:List ByteArray},Up a->Up (ZbT a b)
 | [],_,h=>h
 | _::r,_,h=>ZjN (b:=r) (ins_up h)
theorem Zmm {x:ByteArray}:∀{b a:List ByteArray},x∈ZbT a b->x∈a\/x∈b
 | [],_,h=>.inl h
 |
  y::r,a,h=>by
  rcases Zmm (b:=r) (a:=ins a y) h with h | h
  ·rcases ZeK h with rfl | h
   ·exact .inr (by simp)
   ·exact .inl h
  ·exact .inr (by simp[h])
theorem Zmn {α:Type}[DecidableEq α]:∀{l N:List α},l.Nodup->(∀x∈l,x∈N)->l.length<=N.length
 | [],_,_,_=>JI _
 |
  a::r,N,h,hs=>by
  rw[List.nodup_cons]at h;have hm:a∈N:=hs a (by simp);have h1:=Zmn (l:=r) (N:=N.erase a) h.2 λx hx=>by
   have cD:x≠a:=λe=>h.1 (e ▸ hx);exact(List.mem_erase_of_ne cD).2 (hs x (by simp[hx]))
  rw[List.length_erase_of_mem hm]at h1;have:=List.length_pos_of_mem hm;rw[QQ];omega
theorem up_nodup {l:List ByteArray}(h:Up l):l.Nodup:=List.Pairwise.imp (λ{a b} hab e=>by subst e;rw[ZeU]at hab;exact absurd hab (by simp)) h
def HidIn (N:List ByteArray)(t:Tok):Prop:=Up t.hidden/\∀x∈t.hidden,x∈N
variable {N:List ByteArray}
theorem HidIn.len (h:HidIn N t):t.hidden.length<=N.length:=Zmn (up_nodup h.1) h.2
theorem HidIn.bare (N:List ByteArray){t:Tok}(h:t.hidden=[]):HidIn N t:=by
 unfold HidIn;rw[h];exact⟨List.Pairwise.nil,by simp⟩
theorem HidIn.of {t u:Tok}(h:HidIn N t)(e:u.hidden=t.hidden):HidIn N u:=by unfold HidIn;rw[e];exact h
theorem HidIn.put {h:List ByteArray}(ht:HidIn N t)(hh:∀x∈h,x∈N):HidIn N (ZdB h t):=
 ⟨ZjN ht.1,λx hx=>by
  rcases Zmm hx with hx | hx
  ·exact ht.2 x hx
  ·exact hh x hx⟩
theorem HidIn.both {a b:Tok}(h:HidIn N a){k:Int}{s:ByteArray}{sp:Bool}:HidIn N ⟨k,s,sp,both a.hidden b.hidden⟩:=
 ⟨List.Pairwise.filter _ h.1,λx hx=>h.2 x (List.mem_filter.1 hx).1⟩
theorem HidIn.paste {a b:Tok}(h:HidIn N a):HidIn N (ZaD a b).1:=by
 rcases hp:ZaD a b with⟨u,ok⟩;cases ok
 ·rw[Zor hp];exact HidIn.bare N rfl
 ·obtain⟨-,-,t,-,rfl⟩:=Zkw hp;exact h.both
theorem ZnH {b:Bool}:∀{l:List Tok},(∀t∈l,HidIn N t)->∀t∈spc b l,HidIn N t
 | [],_,t,ht=>by simp[spc]at ht
 |
  x::r,h,t,ht=>by
  rcases Q7.1 ht with rfl | ht
  ·exact(h x (by simp)).of rfl
  ·exact h t (by simp[ht])
theorem ZiU {h:List ByteArray}{sp:Bool}(hl:∀t∈l,HidIn N t)(hh:∀x∈h,x∈N):∀t∈Zbm l h sp,HidIn N t:=by
 refine ZnH λt ht=>?_;obtain⟨u,hu,rfl⟩:=List.mem_map.1 ht;exact(hl u hu).put hh
theorem ZgM {a:List (List Tok)}{P:Tok->Prop}(h:∀l∈a,∀t∈l,P t)(n:Int):∀t∈Zcj a n,P t:=by
 unfold Zcj;by_cases hn:n.toNat<a.length
 ·rw[Qv,QJ hn];exact h _ (QE hn)
 ·rw[Qv,List.getElem?_eq_none (by omega)];simp
variable {m:DMacro}
theorem part_in {raw ready:List (List Tok)}(hv:Zaq m=true)(ha:∀l∈raw,∀t∈l,HidIn N t)(hy:∀l∈ready,∀t∈l,HidIn N t)(k:Nat):∀t∈(ZaP m raw ready k).1,HidIn N t:=by
 intro t ht;unfold ZaP at ht;split at ht
 ·rename_i hk;split at ht
  ·split at ht
   ·rw[Qm ht];rename_i bY;obtain⟨kk,s,b,hx,-⟩:=Zfo (Zcj raw (parOf m.params m.body[k+1]));exact HidIn.bare N (by show(Zbl _).1.hidden=[];rw[hx])
   ·simp at ht
  ·split at ht
   ·rw[Qm ht];exact HidIn.bare N (Zc1 hk ((Za0 hv).2.2 k hk)).2.1
   ·split at ht
    ·exact ZnH (ZgM ha _) t ht
    ·exact ZnH (ZgM hy _) t ht
 ·simp at ht
theorem subGo_in {raw ready:List (List Tok)}(hv:Zaq m=true)(ha:∀l∈raw,∀t∈l,HidIn N t)(hy:∀l∈ready,∀t∈l,HidIn N t):∀(d k:Nat) (out:List Tok) (emp paste:Bool),m.body.length-k<=d->(∀t∈out,HidIn N t)->∀t∈(ZaQ m raw ready k out emp paste).1,HidIn N t:=by
 intro d;induction d with
 | zero=>intro k out emp paste hd ho;rw[Zf5 (by omega)];exact ho
 |
  succ d ih =>
  intro k out emp paste hd ho;by_cases hk:k<m.body.length;rotate_left
  ·rw[Zf5 (by omega)];exact ho
  by_cases h1:isM m.body[k] [35,35]=true/\paste=false
  ·obtain⟨h1,rfl⟩:=h1;rw[ZhE hk h1];exact ih _ _ _ _ (by omega) ho
  have Bf:=part_in hv ha hy k;have jV:=ZgI m raw ready k;rcases hP:ZaP m raw ready k with⟨P,nx,ok⟩;rw[hP]at Bf jV;have hnx':k<nx:=jV;have ry:∀t∈P,HidIn N t:=Bf;cases ok
  ·rw[Zhg hk h1 hP];simp
  by_cases h2:paste=true/\emp=false/\0<P.length
  ·rcases hz:ZaD (out.getLastD Zaw) (P.headD Zaw) with⟨z,fw⟩;cases fw
   ·rw[Zkx hk h1 hP h2 hz];simp
   ·rw[ZiT hk h1 hP h2 hz];refine ih _ _ _ _ (by omega) λt ht=>?_;rcases Qa ht with ht | ht
    ·exact ho t ((List.dropLast_sublist out).subset ht)
    ·rcases Q7.1 ht with rfl | ht
     ·have hl:HidIn N (out.getLastD Zaw):=by
       rcases List.eq_nil_or_concat out with rfl | ⟨a,b,rfl⟩
       ·exact HidIn.bare N rfl
       ·rw[List.concat_eq_append,List.getLastD_concat];exact ho b (by simp)
      have:=hl.paste (b:=P.headD Zaw);rw[hz]at this;exact this
     ·exact ry t (List.mem_of_mem_tail ht)
  ·rw[Zf6 hk h1 hP h2];refine ih _ _ _ _ (by omega) λt ht=>?_;rcases Qa ht with ht | ht
   ·exact ho t ht
   ·exact ry t ht
theorem Ziy {raw ready:List (List Tok)}(ha:∀l∈raw,∀t∈l,HidIn N t)(hy:∀l∈ready,∀t∈l,HidIn N t):∀t∈(Zaz m raw ready).1,HidIn N t:=by
 unfold Zaz;split
 ·rename_i h;split
  ·simp
  ·exact subGo_in h.1 ha hy _ 0 [] true false (QA _) (by simp)
 ·simp
theorem Zgx {P:Tok->Prop}:∀(l:List Tok) (d:Int) (A:Zbe) (M:List Tok) (k:Nat),(∀t∈l,P t)->(∀a∈A,∀t∈a,P t)->(∀t∈M,P t)->∀a∈(Zax l d A M k).1,∀t∈a,P t
 | [],d,A,M,k,_,hA,_=>by unfold Zax;exact hA
 |
  t::r,d,A,M,k,hl,hA,hM=>by
  have hr:∀u∈r,P u:=λu hu=>hl u (by simp[hu]);have hAM:∀a∈A++[M],∀u∈a,P u:=λa ha=>by
   rcases Qa ha with ha | ha
   ·exact hA a ha
   ·rw[Qm ha];exact hM
  unfold Zax;split
  ·exact hAM
  ·split
   ·exact Zgx r _ _ _ _ hr hAM (by simp)
   ·exact Zgx r _ _ _ _ hr hA λu hu=>by
     rcases Qa hu with hu | hu
     ·exact hM u hu
     ·rw[Qm hu];exact hl t (by simp)
theorem Ziz {P:Tok->Prop}{f:List Tok->Nat->Zde}(hf:∀a k,(∀t∈a,P t)->∀t∈(f a k).1,P t):∀(A:List (List Tok)) (s:Nat),(∀a∈A,∀t∈a,P t)->∀a∈(ZaL f A s).1,∀t∈a,P t
 | [],s,_=>by unfold ZaL;simp
 |
  a::r,s,h=>by
  unfold ZaL;split
  ·split
   ·intro b hb;rcases Q7.1 hb with rfl | hb
    ·exact hf a s (h a (by simp))
    ·exact Ziz hf r _ (λc hc=>h c (by simp[hc])) b hb
   ·simp
  ·simp
theorem Zlp (h:Zbk T t=some m):m∈T:=by
 unfold Zbk at h;split at h
 ·exact List.mem_of_getElem? h
 ·simp at h
theorem go_in {w:List Tok}(h:goM T w=some m):m∈T:=by
 cases w with
 | nil=>simp[goM]at h
 |
  cons t r =>
  unfold goM at h;dsimp only at h;cases hf:Zbk T t with
  | none=>rw[hf]at h;simp at h
  |
   some m' =>
   rw[hf]at h;dsimp only at h;split at h
   ·simp at h
   ·simp only[Qi]at h;subst h;exact Zlp hf
section
variable {N:List ByteArray}{T:List DMacro}
theorem headD_in {w:List Tok}(h:∀t∈w,HidIn N t):HidIn N (w.headD Zaw):=by
 cases w with
 | nil=>exact HidIn.bare N rfl
 | cons t r=>exact h t (by simp)
theorem ZnI {f:List Tok->Nat->Zde}(hf:∀a k,(∀t∈a,HidIn N t)->∀t∈(f a k).1,HidIn N t){m:DMacro}(hm:m.name∈N){w:List Tok}(hw:∀t∈w,HidIn N t)(s:Nat):∀t∈(ZaW f m w s).1,HidIn N t:=by
 have hA:=Zgx (P:=HidIn N) (w.drop 2) 1 [] [] 2 (λt ht=>hw t (JG ht)) (by simp) (by simp);have hA':∀a∈(Zax (w.drop 2) 1 [] [] 2).1.take m.params.length,∀t∈a,HidIn N t:=λa ha=>hA a (JC ha);unfold ZaW;split
 ·split
  ·split
   ·refine ZiU (Ziy hA' (Ziz hf _ s hA')) λx hx=>?_;rcases ZeK hx with rfl | hx
    ·exact hm
    ·exact(headD_in hw).2 x (List.mem_filter.1 hx).1
   ·simp
  ·simp
 ·simp
theorem ZkI (hT:∀m∈T,m.name∈N):∀(n:Nat) (w:List Tok) (s:Nat) (out:List Tok),(∀t∈out,HidIn N t)->(∀t∈w,HidIn N t)->∀t∈(Zak T n s out w).1,HidIn N t:=by
 intro n;have app:∀{a b:List Tok},(∀t∈a,HidIn N t)->(∀t∈b,HidIn N t)->∀t∈a++b,HidIn N t:=λh1 h2 t ht=>by
  rcases Qa ht with h | h
  ·exact h1 t h
  ·exact h2 t h
 induction n with
 |
  zero =>
  intro w;induction w with
  | nil=>intro s out ho _;rw[ZbG];exact ho
  |
   cons t r ih =>
   intro s out ho hw;have hr:∀u∈r,HidIn N u:=λu hu=>hw u (by simp[hu]);cases hg:goM T (t::r) with
   |
    none =>
    by_cases hl:60<out.length+1
    ·rw[Zbx hg hl];simp
    ·rw[Za6 hg hl];exact ih s _ (app ho (λu hu=>by rw[Qm hu];exact hw t (by simp))) hr
   | some m=>rw[Zak,hg];simp
 |
  succ n ihn =>
  intro w;induction w with
  | nil=>intro s out ho _;rw[ZbG];exact ho
  |
   cons t r ih =>
   intro s out ho hw;have hr:∀u∈r,HidIn N u:=λu hu=>hw u (by simp[hu]);cases hg:goM T (t::r) with
   |
    none =>
    by_cases hl:60<out.length+1
    ·rw[Zbx hg hl];simp
    ·rw[Za6 hg hl];exact ih s _ (app ho (λu hu=>by rw[Qm hu];exact hw t (by simp))) hr
   |
    some m =>
    have hmN:=hT m (go_in hg);cases s with
    | zero=>rw[ZdT hg];simp
    |
     succ s =>
     cases hf:m.function
     ·have hs:=Ziy (N:=N) (m:=m) (raw:=[]) (ready:=[]) (by simp) (by simp);rcases hc:Zaz m [] []with⟨b,ok⟩;rw[hc]at hs;cases ok
      ·rw[Zez hg hf hc];simp
      ·by_cases hl:60<(Zbm b (ins t.hidden m.name) t.spaced++r).length
       ·rw[ZdU hg hf hc hl];simp
       ·rw[Zef hg hf hc hl];refine ihn _ _ _ ho (app (ZiU hs λx hx=>?_) hr);rcases ZeK hx with rfl | hx
        ·exact hmN
        ·exact(hw t (by simp)).2 x hx
     ·have hci:=ZnI (f:=λa k=>Zak T n k [] a) (λa k ha=>ihn a k [] (by simp) ha) hmN hw s;rcases hc:ZaW (λa k=>Zak T n k [] a) m (t::r) s with⟨b,e,l,c⟩;rw[hc]at hci;by_cases h0:c=0
      ·subst h0;by_cases hl:60<(b++(t::r).drop e).length
       ·rw[Zdh hg hf hc hl];simp
       ·rw[Zdn hg hf hc hl];exact ihn _ _ _ ho (app hci λu hu=>hw u (JG hu))
      ·rw[Zcy hg hf hc h0];simp
theorem Zpe (T:List DMacro):∀(n:Nat) (w:List Tok) (s:Nat) (out:List Tok),out.length<=60->(Zak T n s out w).1.length<=60:=by
 intro n;induction n with
 |
  zero =>
  intro w;induction w with
  | nil=>intro s out ho;rw[ZbG];exact ho
  |
   cons t r ih =>
   intro s out ho;cases hg:goM T (t::r) with
   |
    none =>
    by_cases hl:60<out.length+1
    ·rw[Zbx hg hl];simp
    ·rw[Za6 hg hl];exact ih s _ (by simp;omega)
   | some m=>rw[Zak,hg];simp
 |
  succ n ihn =>
  intro w;induction w with
  | nil=>intro s out ho;rw[ZbG];exact ho
  |
   cons t r ih =>
   intro s out ho;cases hg:goM T (t::r) with
   |
    none =>
    by_cases hl:60<out.length+1
    ·rw[Zbx hg hl];simp
    ·rw[Za6 hg hl];exact ih s _ (by simp;omega)
   |
    some m =>
    cases s with
    | zero=>rw[ZdT hg];simp
    |
     succ s =>
     cases hf:m.function
     ·rcases hc:Zaz m [] []with⟨b,ok⟩;cases ok
      ·rw[Zez hg hf hc];simp
      ·by_cases hl:60<(Zbm b (ins t.hidden m.name) t.spaced++r).length
       ·rw[ZdU hg hf hc hl];simp
       ·rw[Zef hg hf hc hl];exact ihn _ _ _ ho
     ·rcases hc:ZaW (λa k=>Zak T n k [] a) m (t::r) s with⟨b,e,l,c⟩;by_cases h0:c=0
      ·subst h0;by_cases hl:60<(b++(t::r).drop e).length
       ·rw[Zdh hg hf hc hl];simp
       ·rw[Zdn hg hf hc hl];exact ihn _ _ _ ho
      ·rw[Zcy hg hf hc h0];simp
end
open Go.RowKit Go.Shelf
def insLay_ren:Go.Shelf.Ren:=⟨fun | 17=>169 | 22=>135 | 29=>151 | 30=>152 | 36=>161 | n=>n,fun | 0=>0 | 3=>3 | 4=>4 | 9=>9 | 24=>30 | n=>n,fun | n=>n⟩
theorem ZiA:Go.Proofs.Lays2.n22 Tryz.prog insLay_ren:={
 mixed:=by kernel_rfl
 f17:=Tryz.func169.trans (JY some (by kernel_rfl))
 f22:=Tryz.func135.trans (JY some (by kernel_rfl))
 f29:=Tryz.func151.trans (JY some (by kernel_rfl))
 f30:=Tryz.func152.trans (JY some (by kernel_rfl))
 f36:=Tryz.func161.trans (JY some (by kernel_rfl))
 t0:=Tryz.underlying0
 a0:=Tryz.isAgg0
 z0:=Tryz.sizeOf0
 v0:=Tryz.zeroValue0
 t3:=Tryz.underlying3
 a3:=Tryz.isAgg3
 z3:=Tryz.sizeOf3
 v3:=Tryz.zeroValue3
 t4:=Tryz.underlying4
 a4:=Tryz.isAgg4
 z4:=Tryz.sizeOf4
 v4:=Tryz.zeroValue4
 t9:=Tryz.underlying9
 a9:=Tryz.isAgg9
 z9:=Tryz.sizeOf9
 v9:=Tryz.zeroValue9
 t24:=Tryz.underlying30
 a24:=Tryz.isAgg30
 z24:=Tryz.sizeOf30
 v24:=Tryz.zeroValue30
 i9:=by kernel_rfl }
def InsPostS (base k:Nat)(v:Value)(l:List ByteArray)(x:ByteArray)(w:World)(e:Ending)(w':World):Prop:=
 ∃v',e=.returned v'/\w'.ownsRow base 9 1 v' (l.take k++x::l.drop k).length ((l.take k++x::l.drop k).map Value.string)/\w.grownBy w' v.ownBlock
theorem Ze4 (w:World)(arr:Array Value)(T:TypeId):(w.alloc (.cells arr T)).heap[w.heap.size]?=some (.cells arr T (0,0)):=by show(w.heap.push _)[_]?=_;simp
theorem ZkJ {g:Nat}{w w':World}(hK:Kept [g] w w'):w.grownBy w' (some g):=
 ⟨hK.os,hK.tape,hK.output,hK.size,λb hb hn=>hK.block b hb (by simp;intro e;exact hn (by rw[e]))⟩
theorem one_str (l:List ByteArray):∀u∈l.map Value.string,u.oneCell'=true:=λu hu=>by
 obtain⟨s,_,rfl⟩:=List.mem_map.1 hu;rfl
theorem Zox (base vb:Nat)(v:Value)(l:List ByteArray)(x:ByteArray)(k:Nat)(w:World)(hn:l.length<=1000000)(hk:k<=l.length)(H:w.ownsRow base 9 1 v l.length (l.map Value.string))
  (ge:w.heap[vb]?=some (.cells #[.string x] 9 (0,0))) (cD:v.ownBlock≠some vb) (aK:base<=w.heap.size) :
  Calls Tryz.prog 135 #[v,.int .i64 k,.slice (some ⟨vb,0,none⟩) 1 1] w (InsPostS base k v l x w):=by
 have Bg:∀j u,([Value.string x]:List Value)[j]?=some u->w.cell? ⟨vb,0+j,none⟩=some u:=λj u hj=>by rw[QX,cell_of_row w vb j _ _ _ ge];simpa using hj
 have Bh:∀u∈([Value.string x]:List Value),u.oneCell'=true:=by simp[Value.oneCell']
 have bE:(l.take k++x::l.drop k).length=l.length+1:=by simp;omega
 have iB:(l.take k++x::l.drop k).map Value.string=(l.take k).map Value.string++(Value.string x::(l.drop k).map Value.string):=by simp
 obtain⟨cs,aS⟩:∃cs,cs=l.map Value.string:=⟨_,rfl⟩;have dK:cs.length=l.length:=by rw[aS];simp
 have htk:(l.take k).map Value.string=cs.take k:=by rw[aS,List.map_take]
 have Bi:(l.drop k).map Value.string=cs.drop k:=by rw[aS,List.map_drop]
 have h1c:∀u∈cs,u.oneCell'=true:=by rw[aS];exact one_str l
 rw[←aS]at H;have hg63:∀c,grownCap w (l.length+1) c 9<=maxLen:=λc=>grownCap_le_maxLen w (l.length+1) c 9 (by unfold maxLen;omega);have hgge:∀c,l.length+1<=grownCap w (l.length+1) c 9:=λc=>grownCap_ge w _ _ _;have rz:∀(W:World) (G:Nat) (cur:Array Value) (rest:List Value),W.heap[w.heap.size]?=some (.cells cur 9 (0,0))->l.length+1<=G->G<=maxLen->cur.size=G->cur.toList.take (l.length+1)=(l.take k++x::l.drop k).map Value.string ->
   W.ownsRow base 9 1 (.slice (some ⟨w.heap.size,0,none⟩) (l.length+1) G) (l.take k++x::l.drop k).length ((l.take k++x::l.drop k).map Value.string):=by
  intro W G cur _ h1 h2 h3 h4 h5;rw[bE];exact⟨by simp;omega,.inr ⟨w.heap.size,G,cur,rfl,aK,h1,h2,h3,by rw[h4];omega,by rw[Nat.mul_one];exact h5⟩⟩
 rcases H.2 with⟨hv0,h0⟩ | ⟨g,c,xF,hv0,q2,q3,q4,q5,q6,q7⟩
 ·subst hv0;have ur:l.length=0:=h0;have ek:k=0:=by omega
  subst ek;have C:=Any2.slices_Insert_string_end_grow ZiA (none:Option Addr) 0 0 vb 0 1 1 [] [Value.string x] w (by omega) (by omega) (by omega) (by omega) rfl rfl (λ_=>rfl) (λa h=>by cases h) Bg Bh;simp only[show insLay_ren.t 9=9 from rfl]at C;refine C.mono ?_;rintro e w'⟨rfl,rfl⟩;have hl:l=[]:=QU.1 ur;subst hl;have hG:0+1<=grownCap w (0+1) 0 9:=grownCap_ge w _ _ _;have hG2:grownCap w (0+1) 0 9<=maxLen:=grownCap_le_maxLen w (0+1) 0 9 (by unfold maxLen;omega);generalize grownCap w (0+1) 0 9=G at *;refine⟨_,rfl,rz _ _ _ [] (Ze4 w.drew _ _) hG hG2 (by simp[Builtin.zeroCells,Value.cells];omega) (by simp),?_⟩;have hK:Kept [] w (w.drew.alloc (.cells (([]++[Value.string x]).toArray++Builtin.zeroCells (Value.string ⟨#[]⟩).cells (G-(0+1))) 9)):=
   (Kept.of_below (Zah (QD _ _) 1)).trans (Kept.of_below (Zab _ _))
  exact⟨hK.os,hK.tape,hK.output,hK.size,λb hb hn=>hK.block b hb (by simp)⟩
 ·subst hv0;have ag:(Value.slice (some ⟨g,0,none⟩) l.length c).ownBlock=some g:=rfl;have hne':vb≠g:=λe=>cD (by rw[e];rfl);have hgl:g<w.heap.size:=(Qg q3).1;have q6':xF.size=c:=by simpa using q6
  have q7':xF.toList.take l.length=cs:=by simpa using q7
  have aJ:∀j u,cs[j]?=some u->w.cell? ⟨g,0+j,none⟩=some u:=λj u hj=>by
   have lj:j<cs.length:=(Qq.1 hj).1;rw[QX,H.cellAt j (by omega)];exact hj
  have vk:∀j,j<c->(w.cell? ⟨g,0+j,none⟩).isSome=true:=λj hj=>by
   rw[QX,cell_of_row w g j _ _ _ q3,Array.getElem?_eq_getElem (show j<xF.size by omega)];rfl
  have qa:∀j,w.frozen? ⟨g,0+j,none⟩=false:=λj=>frozen_of_row w g _ _ _ q3;have Bj:c<=9223372036854775807:=by unfold maxLen at q5;omega
  by_cases kz:l.length+1<=c
  ·obtain⟨Z,hZ,vz⟩:=ZqN H kz;by_cases yI:k<l.length
   ·have C:=Any2.slices_Insert_string_shift ZiA g 0 l.length c k vb 0 1 1 cs [Value.string x] w yI (by omega) kz Bj hne' dK rfl aJ (λj hj=>vk j (by omega)) (λj _=>qa j) Bg h1c Bh 9 9 1 c (by simp[World.shape?,ge]) (by simp[World.shape?,q3,q6']) (by omega) (frozen_of_row w vb 0 _ _ ge) (frozen_of_row w vb 1 _ _ ge);refine C.mono ?_;rintro e w'⟨rfl,rfl⟩;have r1:=ZcM (cs.drop k) w.drew (cs++Z) (0+(k+1)) vz;have r2:=ZcM [Value.string x] _ _ (0+k) r1;rw[Zce,Zce]at r2;have e1:Zch (Zch (cs++Z) (0+(k+1)) (cs.drop k)) (0+k) [Value.string x]=cs.take k++([Value.string x]++cs.drop k):=by
     have:=Zos (A:=cs.take k) (D:=cs.drop k) (X:=[Value.string x]) (Z:=Z) (by rw[hZ];rfl) (by simp[hZ];omega);rw[List.take_append_drop,Qd,Nat.min_eq_left (by omega)]at this;simpa using this
    rw[e1]at r2;refine⟨_,rfl,?_,ZkJ ?_⟩
    ·rw[bE,iB,htk,Bi];exact r2
    ·rw[←Zce,←Zce];exact((Kept.of_below (Zah (QD _ _) 1)).trans (Zcv _ _ _)).trans (Zcv _ _ _)
   ·have lh:k=l.length:=(by omega);subst lh;have C:=Any2.slices_Insert_string_end_room ZiA g 0 l.length c vb 0 1 1 [Value.string x] w (by omega) kz Bj rfl (λj hj=>by have:=vk (l.length+j) (by omega);rwa [QX]at this ⊢) (λj _=>by have:=qa (l.length+j);rwa [QX]at this ⊢) Bg Bh;refine C.mono ?_;rintro e w'⟨rfl,rfl⟩;have r1:=ZcM [Value.string x] w (cs++Z) (0+l.length) vz;rw[Zce]at r1;have e1:Zch (cs++Z) (0+l.length) [Value.string x]=cs++([Value.string x]++[]):=by
     have:=Zcu [Value.string x] cs Z [] (by rw[hZ];rfl);rw[Q5,dK]at this;rw[QX];exact this
    rw[e1]at r1;refine⟨_,rfl,?_,ZkJ ?_⟩
    ·rw[bE,iB,htk,Bi,Qe (by omega),List.drop_eq_nil_of_le (by omega)];exact r1
    ·rw[←Zce];exact Zcv _ _ _
  ·have hG:=hgge c;have hG2:=hg63 c;by_cases yI:k<l.length
   ·have C:=Any2.slices_Insert_string_grow ZiA g 0 l.length c k vb 0 1 1 cs [Value.string x] w yI (by omega) q4 (by omega) (by omega) dK rfl aJ Bg h1c Bh;simp only[show insLay_ren.t 9=9 from rfl]at C;refine C.mono ?_;rintro e w'⟨rfl,rfl⟩;obtain⟨nB,tT⟩:∃nB:Array Value,nB=(cs.take k).toArray++Builtin.zeroCells (Value.string ⟨#[]⟩).cells (l.length+1-k)++Builtin.zeroCells (Value.string ⟨#[]⟩).cells (grownCap w (l.length+1) c 9-(l.length+1)):=⟨_,rfl⟩;have hzc:∀m,(Builtin.zeroCells (Value.string ⟨#[]⟩).cells m).size=m:=λm=>(by simp[Builtin.zeroCells,Value.cells]);have y4:nB.size=grownCap w (l.length+1) c 9:=(by rw[tT,Array.size_append,Array.size_append,hzc,hzc];simp;omega);have kd:(w.alloc (.cells nB 9)).ownsRow base 9 1 (.slice (some ⟨w.heap.size,0,none⟩) (l.length+1) (grownCap w (l.length+1) c 9)) (l.length+1) (cs.take k++((nB.toList.drop k).take (l.length+1-k))):=by
     refine⟨by simp[y4];omega,.inr ⟨w.heap.size,_,nB,rfl,aK,by show(w.heap.push _)[_]?=_;simp,hG,hG2,by rw[y4];omega,?_⟩⟩;have ht:nB.toList.take k=cs.take k:=by
      rw[tT,Array.append_assoc,Array.toList_append,List.take_append_of_le_length (by simp;omega)];simp[List.take_take]
     rw[Nat.mul_one]
     conv=>lhs;rw[show l.length+1=k+(l.length+1-k) by omega,List.take_add,ht]
    have r1:=ZcM [Value.string x] _ _ k (by exact kd:((w.alloc (.cells nB 9)).drew).ownsRow base 9 1 _ _ _);have r2:=ZcM (cs.drop k) _ _ (k+1) (by exact r1:((Zgc (w.alloc (.cells nB 9)).drew w.heap.size k [Value.string x]).drew).ownsRow base 9 1 _ _ _);rw[Zce,Zce]at r2;have hZl:((nB.toList.drop k).take (l.length+1-k)).length=l.length+1-k:=(by simp[y4];omega);have e1:Zch (Zch (cs.take k++((nB.toList.drop k).take (l.length+1-k))) k [Value.string x]) (k+1) (cs.drop k)=cs.take k++([Value.string x]++cs.drop k):=by
     have h1:=List.take_append_drop 1 ((nB.toList.drop k).take (l.length+1-k));rw[←h1];have:=Zot (A:=cs.take k) (X:=[Value.string x]) (D:=cs.drop k) (Z1:=((nB.toList.drop k).take (l.length+1-k)).take 1) (Z2:=((nB.toList.drop k).take (l.length+1-k)).drop 1) (by rw[Qd,hZl];simp;omega) (by rw[QM,hZl];simp;omega);rw[Qd,Nat.min_eq_left (by omega)]at this;simpa using this
    rw[e1]at r2;refine⟨_,rfl,?_,?_⟩
    ·rw[bE,iB,htk,Bi];rw[tT]at r2;exact r2
    ·have hK:Kept [w.heap.size] w ((((w.alloc (.cells nB 9)).drew.setCells w.heap.size k [Value.string x]).drew).setCells w.heap.size (k+1) (cs.drop k)):=by
      rw[←Zce,←Zce];exact((((Kept.of_below (Zab _ _)).drewN 1).trans (Zcv _ _ _)).drewN 1).trans (Zcv _ _ _)
     rw[tT]at hK;exact⟨hK.os,hK.tape,hK.output,hK.size,λb hb _=>hK.block b hb (by simp;omega)⟩
   ·have lh:k=l.length:=(by omega);subst lh
    have C:=Any2.slices_Insert_string_end_grow ZiA (some ⟨g,0,none⟩) l.length c vb 0 1 1 cs [Value.string x] w (by omega) q4 (by omega) (by omega) dK rfl (λh=>by cases h) (λa h j u hj=>by
     simp only[Qi]at h;subst h
     rw[JN];exact aJ j u hj) Bg Bh
    simp only[show insLay_ren.t 9=9 from rfl]at C;refine C.mono ?_;rintro e w'⟨rfl,rfl⟩;refine⟨_,rfl,rz _ _ _ [] (Ze4 w.drew _ _) hG hG2 (by simp[Builtin.zeroCells,Value.cells,dK];omega) ?_,?_⟩
    ·rw[iB,htk,Bi,Qe (l:=cs) (by omega),List.drop_eq_nil_of_le (by omega)];rw[Array.toList_append,List.take_append_of_le_length (by simp;omega),Qe (by simp;omega)]
    ·have hK:Kept [] w (w.drew.alloc (.cells ((cs++[Value.string x]).toArray++Builtin.zeroCells (Value.string ⟨#[]⟩).cells (grownCap w (l.length+1) c 9-(l.length+1))) 9)):=
      (Kept.of_below (Zah (QD _ _) 1)).trans (Kept.of_below (Zab _ _))
     exact⟨hK.os,hK.tape,hK.output,hK.size,λb hb hn=>hK.block b hb (by simp)⟩
end Go.Proofs.YtipfpppcbmpjiaaGreat
