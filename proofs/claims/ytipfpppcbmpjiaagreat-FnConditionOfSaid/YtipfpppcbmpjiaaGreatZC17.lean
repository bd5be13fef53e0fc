/- Lemmas. -/
import Derived.Test.YtipfpppcbmpjiaaGreatZC16
import Derived.Deep.CutBlock
set_option linter.unusedVariables false
set_option maxHeartbeats 16000000
set_option maxRecDepth 100000
set_option linter.unusedSimpArgs false
namespace Go.Proofs.YtipfpppcbmpjiaaGreat
open Go.RowKit
theorem ZaA {w:World}{ops:Array Oper}{o:Oper}{a:Act}{K:Act->World->Prop}{Q:Exit->Act->World->Prop}{E:Prop}(d:Nat)(fN:o.dst=some d)(hg:o.guard=none)(s y:Operand)
  (ho:o.op=.call { callee:=.builtin .append,args:=#[s,y],argTypes:=#[30,30] })
  (base:Nat) (v u:Value) (L M:List ByteArray) (fp:List Nat) (hs:a.eval s=v) (ag:w.ownsRow base 9 1 v L.length (L.map Value.string)) (hy:a.eval y=u) (HM:(Zaa sStr).R w [u] M fp)
  (dz:L.length+M.length<=4000000) (aK:base<=w.heap.size)
  (h:∀v' w',w'.ownsRow base 9 1 v' (L++M).length ((L++M).map Value.string)->w.grownBy w' v.ownBlock->K (a.put (some d) v') w'):if Region.wanted o (yielded ops a.tmps)=true then Oper.wp Tryz.prog o a w K Q else E:=by
 have pI:Region.wanted o (yielded ops a.tmps)=true:=by simp[Region.wanted,hg]
 rw[if_pos pI];rw[←fN]at h;obtain⟨i,hi,cI,dQ,dZ⟩:=info_parts ti27.2;obtain⟨ad,cap,rfl,hc,hm,aJ,cC⟩:=Zaf HM;have eg:∀(b off:Nat),(0<M.length->∀j,(hj:j<M.length)->w.cell? ⟨b,off+j,none⟩=some (.string M[j]))->a.eval y=.slice (some ⟨b,off,none⟩) M.length cap->Oper.wp Tryz.prog o a w K Q:=by
  intro b off df hy';refine wp_append_own w s y 30 ho base 9 i _ 1 16 ti27.1 hi cI dQ dZ rfl (by decide) v L.length (L.map Value.string) hs ag ⟨b,off,none⟩ M.length cap (M.map Value.string) hy' (by simp) ?_ ?_ (by unfold maxLen;omega) (by omega) aK λv' w' h1 h2 _=>h v' w' ?_ h2
  ·intro j x hj;have le:j<M.length:=(by have:=(Qq.1 hj).1;simpa using this);rw[JN,df (by omega) j le,←hj];simp[QJ le]
  ·intro x hx;obtain⟨s,_,rfl⟩:=List.mem_map.1 hx;rfl
  ·simpa using h1
 by_cases h0:0<M.length
 ·obtain⟨b,off,rfl,_,_,dA⟩:=aJ h0;exact eg b off (λ_ j hj=>dA j hj) hy
 ·have hM:M=[]:=QU.1 (by omega);subst hM;cases ad with
  |
   none =>
   have gQ:=run_append_nil (P:=Tryz.prog) (w:=w) base 30 o.type 9 i 1 cap ti27.1 hi v L.length _ ag;have hK:=h v w (by simpa using ag) ⟨rfl,rfl,rfl,QA _,λ_ _ _=>rfl⟩;unfold Oper.wp;simp only[JO]at hy;simp[execOp,ho,resolve,invoke,builtin,hs,hy,gQ,Result.andThen];exact hK
  |
   some ad =>
   refine wp_append_own w s y 30 ho base 9 i _ 1 16 ti27.1 hi cI dQ dZ rfl (by decide) v L.length (L.map Value.string) hs ag ad 0 cap [] hy rfl (by simp) (by simp) (by unfold maxLen;omega) (by omega) aK λv' w' h1 h2 _=>h v' w' (by simpa using h1) h2
variable {w:World}
theorem Zc4 {g:Nat}{s:ByteArray}(h:w.heap[g]?=some (.cells #[.string s] 9 (0,0)))(hs:s.size<=maxLen):(Zaa sStr).R w [.slice (some ⟨g,0,none⟩) 1 1] [s] [g]:=by
 refine⟨_,_,rfl,QA _,by unfold maxLen;omega,.inr ⟨by simp,g,0,λ_=>[],rfl,by simp,(Qg h).1,λi hi=>?_⟩⟩;have hi0:i=0:=by simpa using hi
 subst hi0;refine⟨[.string s],⟨rfl,λj hj=>?_⟩,rfl,hs,rfl⟩;have hj0:j=0:=by simp[sStr,Zeo]at hj;exact hj
 subst hj0;exact Qc 0 h
variable {v:Value}{e:TypeId}{m n:Nat}{xs:List Value}
theorem ZcJ {base base':Nat}(h:w.ownsRow base e m v n xs)(hl:base'<=base):w.ownsRow base' e m v n xs:=by
 refine⟨h.1,?_⟩;rcases h.2 with h0 | ⟨g,cap,cur,h1,h2,h3⟩
 ·exact .inl h0
 ·exact .inr ⟨g,cap,cur,h1,QZ hl h2,h3⟩
theorem ZdV {w w':World}{base:Nat}(h:w.ownsRow base e m v n xs)(hb:Below w.heap.size w w'):w'.ownsRow base e m v n xs:=
 ZbR h λg hg=>hb.block g (h.lt g hg).2
def Zf8 (l:List ByteArray)(w:World)(e:Ending)(w':World):Prop:=
 ∃(ao:Option Addr) (c:Nat) (fp:List Nat),e=.returned (.slice ao l.length c)/\(Zaa sStr).R w' [.slice ao l.length c] l fp/\Own w' w.heap.size fp/\(∀b∈fp,∃cur t fr,w'.heap[b]?=some (.cells cur t fr)/\t=9)/\Below w.heap.size w w'
variable {l:List ByteArray}
theorem ZjO {w w':World}(h:w'.ownsRow w.heap.size 9 1 v l.length (l.map Value.string))(hs:∀x∈l,x.size<=maxLen)(hb:Below w.heap.size w w'):Zf8 l w (.returned v) w':=by
 obtain⟨fp,R,O,eY⟩:=ZbM (ok:=ZaC) h λi hi=>hs _ (QE hi);obtain⟨a,cap,rfl,-⟩:=Zaf R;refine⟨a,cap,fp,rfl,R,O,λb aE=>?_,hb⟩;have hv:=eY b aE;rcases h.2 with⟨h',_⟩ | ⟨g,oL,cur,h',_,hg,_⟩
 ·rw[h']at hv;simp[Value.ownBlock]at hv
 ·rw[h']at hv;simp only[Value.ownBlock,Qi]at hv;subst hv;exact⟨_,_,_,hg,rfl⟩
theorem ins_ok {nm:ByteArray}(h:∀x∈l,x.size<=maxLen)(hn:nm.size<=maxLen):∀x∈ins l nm,x.size<=maxLen:=by
 induction l with
 | nil=>intro x hx;rw[ins]at hx;rw[Qm hx];exact hn
 |
  cons y r ih =>
  intro x hx;rw[ins]at hx;split at hx
  ·rcases Q7.1 hx with rfl | hx
   ·exact h _ (by simp)
   ·exact ih (λz hz=>h z (by simp[hz])) x hx
  ·split at hx
   ·exact h x hx
   ·rcases Q7.1 hx with rfl | hx
    ·exact hn
    ·exact h x hx
theorem ZkK (h:∀i,(hi:i<l.length)->l[i].size<=maxLen):∀x∈l,x.size<=maxLen:=λx hx=>by
 obtain⟨i,hi,rfl⟩:=QY hx;exact h i hi
theorem ZfS (v:Value)(l:List ByteArray)(nm:ByteArray)(fp:List Nat)(w:World)(hu:Up l)(hl:l.length<=1000000)(tU:nm.size<=maxLen)(H:(Zaa sStr).R w [v] l fp):
  Calls Tryz.prog 117 #[v,.string nm] w (Zf8 (ins l nm) w):=by
 obtain⟨a0,cK,rfl,-,-,-,cC⟩:=Zaf H;have fL:=Qh (ins_ok (nm:=nm) (ZkK cC) tU);have bC:=Qh (ZkK cC);have HU:=Qh hu;have te:=Qh (Zlk l nm);clear cC hu;cases hs:isS l nm
 ·have HI:=Qh (ins_no HU.out hs);go_enter Tryz.func117,Tryz.ntmps117
  go_wp2_with (
        at_builtin;refine ZbS rfl (.tmp 8) (.tmp 9) rfl w.heap.size (.slice none 0 0) (.slice a0 l.length cK) [] l _ rfl (World.ownsRow_nil _ _ _ _) rfl H (by simp;omega) (QA _) ?_;intro v5 w1 ag aX;rw[Q3]at ag;have aG:Below w.heap.size w w1:=(QD _ _).grown aX (QA _) (λb hb=>by simp[Value.ownBlock]at hb);obtain⟨de,R1,O1,-⟩:=ZbM (ok:=ZaC) ag (λi hi=>bC.out _ (QE hi));have HC:=Qh (Zg1 _ l nm de w1 HU.out hl R1);rw[hs]at HC;obtain⟨a1,aN,rfl,-⟩:=Zaf R1;have HO:=Qh ag
        clear ag aX R1 O1)
  refine HC.out.mono ?_;rintro e w2⟨rfl,rfl⟩;clear HC;have bH:=Zab w2 (.cells #[.string nm] 9);have cD:(Value.slice a1 l.length aN).ownBlock≠some w2.heap.size:=λh=>by have:=(HO.out.lt _ h).2;omega
  have HINS:=Qh (Zox w.heap.size w2.heap.size _ l nm (lowS l nm) (w2.alloc (.cells #[.string nm] 9)) hl te.out (ZdV HO.out bH) (Ze4 w2 _ _) cD (by have:=aG.size;simp;omega));have HR:=Qh (ZdV HO.out bH);have cV:∀b,(Value.slice a1 l.length aN).ownBlock=some b->w.heap.size<=b:=λb hb=>(HO.out.lt b hb).1;generalize lowS l nm=lo at *;clear hs cD;go_wp2_with fail
  refine HINS.out.mono ?_;rintro e w3⟨v3,rfl,tc,cX⟩;have aC:Below w.heap.size w w3:=(aG.trans (bH.mono aG.size)).grown cX (by have:=aG.size;simp;omega) cV;have HF:=Qh (ZjO (l:=ins l nm) (w:=w) (by rw[HI.out];exact tc) fL.out aC);clear tc cX aC;go_wp2;go_ret;exact HF.out
 ·have HI:=Qh (ins_yes HU.out hs);go_enter Tryz.func117,Tryz.ntmps117
  go_wp2_with (
        at_builtin;refine ZbS rfl (.tmp 8) (.tmp 9) rfl w.heap.size (.slice none 0 0) (.slice a0 l.length cK) [] l _ rfl (World.ownsRow_nil _ _ _ _) rfl H (by simp;omega) (QA _) ?_;intro v5 w1 ag aX;rw[Q3]at ag;have aG:Below w.heap.size w w1:=(QD _ _).grown aX (QA _) (λb hb=>by simp[Value.ownBlock]at hb);obtain⟨de,R1,O1,-⟩:=ZbM (ok:=ZaC) ag (λi hi=>bC.out _ (QE hi));have HC:=Qh (Zg1 _ l nm de w1 HU.out hl R1);rw[hs]at HC;obtain⟨a1,aN,rfl,-⟩:=Zaf R1;have HO:=Qh ag
        clear ag aX R1 O1)
  refine HC.out.mono ?_;rintro e w2⟨rfl,rfl⟩;have HF:=Qh (ZjO (l:=ins l nm) (w:=w) (by rw[HI.out];exact HO.out) fL.out aG);clear HC HO;generalize lowS l nm=lo at *;go_wp2;go_ret;exact HF.out
theorem Zbz {base:Nat}(h:w.ownsRow base e m v n xs):∃a c,v=.slice a n c:=by
 rcases h.2 with⟨rfl,h0⟩ | ⟨g,cap,cur,rfl,_⟩
 ·exact⟨none,0,by rw[h0]⟩
 ·exact⟨_,_,rfl⟩
theorem Zh1 (va vb:Value)(z b:List ByteArray)(mJ jf:List Nat)(w:World)(hl:z.length+b.length<=1000000)(Ha:(Zaa sStr).R w [va] z mJ)(Hb:(Zaa sStr).R w [vb] b jf):
  Calls Tryz.prog 73 #[va,vb] w (Zf8 (b.foldl ins z) w):=by
 obtain⟨a0,cK,rfl,-,-,-,cC⟩:=Zaf Ha;obtain⟨ab,capb,rfl,hcb,hmb,rB,Bk⟩:=Zaf Hb;have bC:=Qh (ZkK cC);have HOB:=Qh (ZkK Bk);have HCB0:Hid (∀h:0<b.length,∃bb bn,ab=some ⟨bb,bn,none⟩/\bb<w.heap.size/\∀j,(hj:j<b.length)->w.cell? ⟨bb,bn+j,none⟩=some (.string b[j])):=λh=>by
  obtain⟨bb,bn,e,bu,-,hc⟩:=rB h;exact⟨bb,bn,e,bu,hc⟩
 have bo:Hid ((w.alloc (.cells #[] 9)).ownsRow w.heap.size 9 1 (.slice (some ⟨w.heap.size,0,none⟩) 0 0) ([]:List ByteArray).length (([]:List ByteArray).map Value.string)):=
  Q1 (base:=w.heap.size) (e:=9) (size:=1) w #[] 0 (QA _) (by simp) rfl
 have bH:=Zab w (.cells #[] 9);have HA:=Qh ((Zaa sStr).below Ha bH);have jC:=bH.size;unfold maxLen at hmb;clear Ha Hb cC Bk rB;go_enter Tryz.func73,Tryz.ntmps73
 go_upto_region 2 with(
            at_builtin;refine ZbS rfl (.tmp 8) (.tmp 9) rfl w.heap.size (.slice (some ⟨w.heap.size,0,none⟩) 0 0) (.slice a0 z.length cK) [] z _ rfl bo.out rfl HA.out (by simp;omega) jC ?_;intro v5 w1 ag aX;rw[Q3]at ag;have aG:=bH.grown aX jC (λb hb=>by simp[Value.ownBlock]at hb;omega);obtain⟨a8,c8,rfl⟩:=Zbz ag;have HO:=Qh ag
            clear ag aX)
 clear bo HA bH jC;go_wp2;go_loopw [5,6] (λo i wr=>∃(k:Nat) (a:List ByteArray),k<=b.length/\i=.int .i64 k/\Hid (b.foldl ins z=(b.drop k).foldl ins a)/\Hid (wr.ownsRow w.heap.size 9 1 o a.length (a.map Value.string))/\Hid (∀x∈a,x.size<=maxLen)/\a.length<=z.length+k/\Below w.heap.size w wr) (λ_ i _=>b.length-(intOf i).toNat)
 case atStart=>exact⟨0,z,by omega,rfl,rfl,HO.out,bC.out,by omega,aG⟩
 case round =>
  clear HO aG;obtain⟨k0,a,ek,rfl,tV,HE,xG,tI,aG⟩:=hrel;obtain⟨a1,aN,hov⟩:=Zbz HE.out;subst hov;by_cases hkb:k0<b.length;rotate_left
  ·have HF:Hid (Zf8 (b.foldl ins z) w (.returned (.slice a1 a.length aN)) wr):=by
    show Zf8 _ _ _ _;rw[tV.out,List.drop_of_length_le (by omega)];exact ZjO HE.out xG.out aG
   go_wp2;go_ret;exact HF.out
  ·obtain⟨bb,bn,rfl,bu,Bl⟩:=HCB0.out (by omega);obtain⟨nm,iS⟩:∃nm,Hid (nm=b[k0]):=⟨b[k0],Qh rfl⟩;have cb0:w.cell? ⟨bb,bn+k0,none⟩=some (.string nm):=(by rw[iS.out];exact Bl k0 hkb);have tU:nm.size<=maxLen:=HOB.out nm (by rw[iS.out];exact QE hkb);have nC:Hid (b.foldl ins z=(b.drop (k0+1)).foldl ins (ins a nm)):=(by show _=_;rw[tV.out,Qj hkb,List.foldl_cons,iS.out]);have fL:=Qh (ins_ok xG.out tU);have jp:(ins a nm).length<=z.length+(k0+1):=(by have:=ZhB nm a;omega);have kG:a.length<=1000000:=(by omega);have j0:(0:Int)<=(k0:Int):=(by omega);have j1:(k0:Int)<(b.length:Int):=(by omega);obtain⟨de,R1,O1,-⟩:=ZbM (ok:=ZaC) HE.out (λi hi=>xG.out _ (QE hi));have iG:=Qh R1;have HU1:=Qh ((Zaa sStr).lt R1);obtain⟨a9,cap9,ha9,fJ,li,nD,-⟩:=Zaf R1;simp only[QT,true_and]at ha9;obtain⟨rfl,rfl⟩:=ha9;unfold maxLen at li;have HO:=HE;clear R1 O1 Bl;go_wp2;generalize wr=w1 at *;go_loopw [7] (λi wi=>∃n:Nat,n<=a.length/\i=.int .i64 n/\Hid (∀j,(hj:j<a.length)->j<n->ZaF a[j] nm=true)/\Below w1.heap.size w1 wi) (λi _=>a.length-(intOf i).toNat)
   case atStart=>exact⟨0,by omega,rfl,λj _ h=>by omega,QD _ _⟩
   case round =>
    obtain⟨n,hn,rfl,d7,nE⟩:=hrel;have xH:=aG.trans (nE.mono aG.size);have cbr:wr.cell? ⟨bb,bn+k0,none⟩=some (.string nm):=(xH.cell (p:=⟨bb,bn+k0,none⟩) bu).trans cb0;have jJ:(0:Int)<=(n:Int):=(by omega);by_cases af:n<a.length
    ·obtain⟨b1,ae,rfl,hbl1,-,bj⟩:=nD (by omega);have dg:wr.cell? ⟨b1,ae+n,none⟩=some (.string a[n]):=(nE.cell (p:=⟨b1,ae+n,none⟩) hbl1).trans (bj n af);have h0:decide ((n:Int)<(a.length:Int))=true:=JR (by omega);have h1:decide (n<a.length)=true:=JR af;have kc:(n:Int)<(a.length:Int):=(by omega);clear bj nD;cases hs:ZaF a[n] nm
     ·have vC:Op.bytesLess a[n].toList nm.toList=false:=hs;go_wp2_with fail
      go_quiet (fail)
      have pr:=Zah nE nq;have Bm:(wr.drewN nq).cell? ⟨bb,bn+k0,none⟩=some (.string nm):=cbr;have c1q:(wr.drewN nq).cell? ⟨b1,ae+n,none⟩=some (.string a[n]):=dg;clear dg cbr xH nE;generalize wr.drewN nq=Bn at *;have e0:((n:Int)==(a.length:Int))=false:=(by simp;omega);have e1:(n==a.length)=false:=(by simp;omega);cases he:(a[n].toList==nm.toList)
      ·have HI:=Qh (Zkv nm a n hn d7.out (λ_=>⟨hs,he⟩));go_wp2_with fail
       go_quiet (fail)
       have jZ:=Zah pr nq;have cb:(Bn.drewN nq).cell? ⟨bb,bn+k0,none⟩=some (.string nm):=Bm;clear pr Bm c1q hs vC he h0 h1 e0 e1;generalize Bn.drewN nq=wq at *;have cc:=aG.trans (jZ.mono aG.size);have ng:=Qh ((Zaa sStr).below iG.out jZ);have xI:Hid (∀b∈de,b<wq.heap.size):=λb hb=>(by have:=HU1.out b hb;have:=jZ.size;omega);have xJ:bb<wq.heap.size:=(by have:=cc.size;omega);go_wp2_with fail
       obtain⟨fa,RA,mF⟩:=Zcp n (by omega) ng.out;obtain⟨fb,RB,l0⟩:=Zbp n (by omega) ng.out;rw[show n*sStr.m=n from Nat.mul_one n]at RB;obtain⟨M1,eL⟩:∃M1:List ByteArray,Hid (M1=a.take n):=⟨_,rfl⟩;have et:Hid (M1.length=n):=(by show _=_;rw[eL.out,Qd];omega);have hd:Below wq.heap.size wq wq.drew:=Zah (QD _ _) 1;have eM:Hid ((Zaa sStr).R wq.drew [.slice (some ⟨b1,ae,none⟩) n aN] M1 fa):=(by show(Zaa sStr).R _ _ _ _;rw[eL.out];exact(Zaa sStr).below RA hd);obtain⟨sv,fQ⟩:∃sv:Value,Hid (sv=.slice (if aN=n then (some ⟨b1,ae,none⟩) else ((some ⟨b1,ae,none⟩):Option Addr).map (·.add n)) (a.length-n) (aN-n)):=⟨_,rfl⟩;have eN:Hid ((Zaa sStr).R wq.drew [sv] (a.drop n) fb):=(by show(Zaa sStr).R _ _ _ _;rw[fQ.out];exact(Zaa sStr).below RB hd);have da:Hid ((∀b∈fa,b<wq.drew.heap.size)/\(∀b∈fb,b<wq.drew.heap.size)):=⟨λb hb=>xI.out b (mF b hb),λb hb=>xI.out b (l0 b hb)⟩;have dX:=Qh (cc.trans (hd.mono cc.size));have tu:w.heap.size<=wq.drew.heap.size:=dX.out.size;have oq:Hid (wq.drew.cell? ⟨bb,bn+k0,none⟩=some (.string nm)):=cb;have hbb3:bb<wq.drew.heap.size:=xJ;have dE:Hid ((a.take n).length=n/\(a.drop n).length=a.length-n):=⟨by rw[Qd];omega,QM⟩;clear RA RB mF l0 hd ng xI;refine wp_region_noPanic ?_;refine JU (S:=λw'=>w'.cell? ⟨bb,bn+k0,none⟩=some (.string nm)) (by kernel_rfl) (by exact oq.out) (λac=>?_);generalize wq.drew=wd at *;have m6:(0:Int)<=(n:Int):=(by omega);have yC:(n:Int)<=(a.length:Int):=(by omega);have yJ:n<=a.length:=(by omega);have Al:n<=aN:=(by omega);have eq:(n:Int)<=(aN:Int):=(by omega);refine Qt 1 50 rfl rfl ?_;try simp only[Qp]
       refine Qt 2 51 rfl rfl ?_;try simp only[Qp]
       refine Zkp 3 52 (v:=.slice (some ⟨b1,ae,none⟩) n aN) rfl rfl (by kernel_rfl) (by kernel_rfl) (by kernel_rfl) (λ_ _ _ h=>h) (by rfl) (by assumption) ?_ ?_
       ·intro w aI;go_simp;(first | done | with_reducible rfl | rfl)
       try simp only[Qp]
       refine Qt 5 54 rfl rfl ?_;try simp only[Qp]
       refine Qt 6 55 rfl rfl ?_;try simp only[Qp]
       refine Qt 7 56 rfl rfl ?_;try simp only[Qp]
       refine Qt 8 57 rfl rfl ?_;try simp only[Qp]
       refine Qt 11 60 rfl rfl ?_;try simp only[Qp]
       refine Qt 12 61 rfl rfl ?_;try simp only[Qp]
       refine Zkp 13 62 (v:=sv) rfl rfl (by kernel_rfl) (by kernel_rfl) (by kernel_rfl) (λ_ _ _ h=>h) (by rfl) (by assumption) ?_ ?_
       ·intro w aI;rw[fQ.out];go_simp;(first | done | with_reducible rfl | rfl)
       try simp only[Qp]
       have Bo:=oq;refine wpAnyH_ready (rs:=[0,9]) (by decide +kernel) (by simp) ?_;refine JP rfl (λK hK=>?_) (JP rfl (λK hK=>?_) AllReadyH.nil)
       ·have bl:=Zab wd (.cells #[] 9);have wE:wd.heap.size+1<=(wd.alloc (.cells #[] 9)).heap.size:=JJ (QR _).symm;have gp:Hid ((wd.alloc (.cells #[] 9)).ownsRow wd.heap.size 9 1 (.slice (some ⟨wd.heap.size,0,none⟩) 0 0) ([]:List ByteArray).length (([]:List ByteArray).map Value.string)):=Q1 (base:=wd.heap.size) (e:=9) (size:=1) wd #[] 0 (by omega) (by simp) rfl;go_simp;have jq:Hid ((wd.alloc (.cells #[] 9)).cell? ⟨bb,bn+k0,none⟩=some (.string nm)):=(bl.cell (p:=⟨bb,bn+k0,none⟩) (by show bb<_;omega)).trans oq.out;have ey:=Qh ((Zaa sStr).below eM.out bl);have fC:=Qh ((Zaa sStr).below eN.out bl);have gq:=Qh (dX.out.trans (bl.mono dX.out.size));refine hK.out _ _ jq.out (λac=>?_);clear hK K bl;try simp only[Qp]
        generalize (wd.alloc (.cells #[] 9))=x0 at *;refine wpAnyH_ready (rs:=[4,9]) (by decide +kernel) (by simp) ?_;refine JP rfl (λK hK=>?_) (JP rfl (λK hK=>?_) AllReadyH.nil)
        ·refine ZaA 53 rfl rfl (.tmp 49) (.tmp 52) rfl wd.heap.size (.slice (some ⟨wd.heap.size,0,none⟩) 0 0) (.slice (some ⟨b1,ae,none⟩) n aN) [] M1 fa rfl gp.out rfl ey.out (by rw[et.out];simp;omega) (by omega) ?_;intro vqx1 x1 hG bz;have aD:Below wd.heap.size x0 x1:=(QD wd.heap.size x0).grown bz (by omega) (λb hb=>(gp.out.lt b hb).1);have zV:=aD.size;have ml:=Qh ((aD.cell (p:=⟨bb,bn+k0,none⟩) (by show bb<_;omega)).trans jq.out);have lF:=Qh ((Zaa sStr).frame (w':=x1) (λb hb=>aD.block b (da.out.2 b hb)) fC.out);have lG:=Qh (gq.out.trans (aD.mono (by omega)));rw[Q3]at hG;have lH:=Qh hG;obtain⟨qp,qq,rfl⟩:=Zbz lH.out;refine hK.out _ _ ml.out (λac=>?_);clear hK K bz hG aD;try simp only[Qp]
         refine Qr 9 rfl (λK hK=>?_) (by decide +kernel);have bl:=Zab x1 (.cells #[.string nm] 9);have zW:x1.heap.size+1<=(x1.alloc (.cells #[.string nm] 9)).heap.size:=JJ (QR _).symm;have qr:=Qh (Ze4 x1 #[.string nm] 9);have lI:=Qh (ZdV lH.out bl);go_simp;have mn:Hid ((x1.alloc (.cells #[.string nm] 9)).cell? ⟨bb,bn+k0,none⟩=some (.string nm)):=(bl.cell (p:=⟨bb,bn+k0,none⟩) (by show bb<_;omega)).trans ml.out;have lJ:=Qh ((Zaa sStr).below lF.out bl);have qs:=Qh (lG.out.trans (bl.mono lG.out.size));refine hK.out _ _ mn.out (λac=>?_);clear hK K bl;try simp only[Qp]
         generalize (x1.alloc (.cells #[.string nm] 9))=x2 at *;refine Qr 10 rfl (λK hK=>?_) (by decide +kernel);refine ZaA 59 rfl rfl (.tmp 53) (.tmp 58) rfl wd.heap.size (.slice qp M1.length qq) (.slice (some ⟨x1.heap.size,0,none⟩) 1 1) M1 [nm] _ rfl lI.out rfl (Zc4 qr.out tU) (by rw[et.out];simp;omega) (by omega) ?_;intro vqx3 x3 hG bz;have aD:Below wd.heap.size x2 x3:=(QD wd.heap.size x2).grown bz (by omega) (λb hb=>(lI.out.lt b hb).1);have zX:=aD.size;have mo:=Qh ((aD.cell (p:=⟨bb,bn+k0,none⟩) (by show bb<_;omega)).trans mn.out);have lK:=Qh ((Zaa sStr).frame (w':=x3) (λb hb=>aD.block b (da.out.2 b hb)) lJ.out);have qt:=Qh (qs.out.trans (aD.mono (by omega)));have iT:=Qh hG;obtain⟨qu,qv,rfl⟩:=Zbz iT.out;refine hK.out _ _ mo.out (λac=>?_);clear hK K bz hG aD;try simp only[Qp]
         refine Qr 14 rfl (λK hK=>?_) (by decide +kernel);refine ZaA 63 rfl rfl (.tmp 59) (.tmp 62) rfl wd.heap.size (.slice qu (M1++[nm]).length qv) sv (M1++[nm]) (a.drop n) fb rfl iT.out rfl lK.out (by rw[QC,et.out,dE.out.2];simp;omega) (by omega) ?_;intro xK x4 hG bz;have aD:Below wd.heap.size x3 x4:=(QD wd.heap.size x3).grown bz (by omega) (λb hb=>(iT.out.lt b hb).1);have zY:=aD.size;have rC:=Qh ((aD.cell (p:=⟨bb,bn+k0,none⟩) (by show bb<_;omega)).trans mo.out);have qw:=Qh (qt.out.trans (aD.mono (by omega)));have qx:=Qh hG;refine hK.out _ _ rC.out (λac=>?_);clear hK K bz hG aD;try simp only[Qp]
         refine Qt 15 5 rfl rfl ?_;try simp only[Qp]
         refine wpAnyH_done (by kernel_rfl) ?_ _;refine QP ?_;clear ac;have dY:Hid (x4.ownsRow w.heap.size 9 1 xK (ins a nm).length ((ins a nm).map Value.string)):=by
          show World.ownsRow _ _ _ _ _ _ _;rw[HI.out];have:=ZcJ qx.out tu;rw[eL.out]at this;simpa using this
         go_wp2;go_roundw;case rel=>exact⟨k0+1,ins a nm,by omega,by go_num,nC.out,dY.out,fL.out,jp,qw.out⟩
         case measure=>simp[intOf];omega
        ·have bl:=Zab x0 (.cells #[.string nm] 9);have wG:x0.heap.size+1<=(x0.alloc (.cells #[.string nm] 9)).heap.size:=JJ (QR _).symm;have oR:=Qh (Ze4 x0 #[.string nm] 9);have jP:=Qh (ZdV gp.out bl);go_simp;have mp:Hid ((x0.alloc (.cells #[.string nm] 9)).cell? ⟨bb,bn+k0,none⟩=some (.string nm)):=(bl.cell (p:=⟨bb,bn+k0,none⟩) (by show bb<_;omega)).trans jq.out;have ik:=Qh ((Zaa sStr).below ey.out bl);have kp:=Qh ((Zaa sStr).below fC.out bl);have oS:=Qh (gq.out.trans (bl.mono gq.out.size));refine hK.out _ _ mp.out (λac=>?_);clear hK K bl;try simp only[Qp]
         generalize (x0.alloc (.cells #[.string nm] 9))=x5 at *;refine Qr 4 rfl (λK hK=>?_) (by decide +kernel);refine ZaA 53 rfl rfl (.tmp 49) (.tmp 52) rfl wd.heap.size (.slice (some ⟨wd.heap.size,0,none⟩) 0 0) (.slice (some ⟨b1,ae,none⟩) n aN) [] M1 fa rfl jP.out rfl ik.out (by rw[et.out];simp;omega) (by omega) ?_;intro vqx6 x6 hG bz;have aD:Below wd.heap.size x5 x6:=(QD wd.heap.size x5).grown bz (by omega) (λb hb=>(jP.out.lt b hb).1);have zZ:=aD.size;have mq:=Qh ((aD.cell (p:=⟨bb,bn+k0,none⟩) (by show bb<_;omega)).trans mp.out);have lU:=Qh ((Zaa sStr).frame (w':=x6) (λb hb=>aD.block b (da.out.2 b hb)) kp.out);have qy:=Qh ((bz.block (x0.heap.size) (by omega) (by simp[Value.ownBlock];omega)).trans oR.out);have qz:=Qh (oS.out.trans (aD.mono (by omega)));rw[Q3]at hG;have iW:=Qh hG;obtain⟨qA,qB,rfl⟩:=Zbz iW.out;refine hK.out _ _ mq.out (λac=>?_);clear hK K bz hG aD;try simp only[Qp]
         refine Qr 10 rfl (λK hK=>?_) (by decide +kernel);refine ZaA 59 rfl rfl (.tmp 53) (.tmp 58) rfl wd.heap.size (.slice qA M1.length qB) (.slice (some ⟨x0.heap.size,0,none⟩) 1 1) M1 [nm] _ rfl iW.out rfl (Zc4 qy.out tU) (by rw[et.out];simp;omega) (by omega) ?_;intro vqx7 x7 hG bz;have aD:Below wd.heap.size x6 x7:=(QD wd.heap.size x6).grown bz (by omega) (λb hb=>(iW.out.lt b hb).1);have z8:=aD.size;have mr:=Qh ((aD.cell (p:=⟨bb,bn+k0,none⟩) (by show bb<_;omega)).trans mq.out);have lV:=Qh ((Zaa sStr).frame (w':=x7) (λb hb=>aD.block b (da.out.2 b hb)) lU.out);have qC:=Qh (qz.out.trans (aD.mono (by omega)));have iX:=Qh hG;obtain⟨qD,qE,rfl⟩:=Zbz iX.out;refine hK.out _ _ mr.out (λac=>?_);clear hK K bz hG aD;try simp only[Qp]
         refine Qr 14 rfl (λK hK=>?_) (by decide +kernel);refine ZaA 63 rfl rfl (.tmp 59) (.tmp 62) rfl wd.heap.size (.slice qD (M1++[nm]).length qE) sv (M1++[nm]) (a.drop n) fb rfl iX.out rfl lV.out (by rw[QC,et.out,dE.out.2];simp;omega) (by omega) ?_;intro xL x8 hG bz;have aD:Below wd.heap.size x7 x8:=(QD wd.heap.size x7).grown bz (by omega) (λb hb=>(iX.out.lt b hb).1);have Aa:=aD.size;have rD:=Qh ((aD.cell (p:=⟨bb,bn+k0,none⟩) (by show bb<_;omega)).trans mr.out);have qF:=Qh (qC.out.trans (aD.mono (by omega)));have qG:=Qh hG;refine hK.out _ _ rD.out (λac=>?_);clear hK K bz hG aD;try simp only[Qp]
         refine Qt 15 5 rfl rfl ?_;try simp only[Qp]
         refine wpAnyH_done (by kernel_rfl) ?_ _;refine QP ?_;clear ac;have dY:Hid (x8.ownsRow w.heap.size 9 1 xL (ins a nm).length ((ins a nm).map Value.string)):=by
          show World.ownsRow _ _ _ _ _ _ _;rw[HI.out];have:=ZcJ qG.out tu;rw[eL.out]at this;simpa using this
         go_wp2;go_roundw;case rel=>exact⟨k0+1,ins a nm,by omega,by go_num,nC.out,dY.out,fL.out,jp,qF.out⟩
         case measure=>simp[intOf];omega
       ·have bl:=Zab wd (.cells #[.string nm] 9);have wH:wd.heap.size+1<=(wd.alloc (.cells #[.string nm] 9)).heap.size:=JJ (QR _).symm;have nh:=Qh (Ze4 wd #[.string nm] 9);go_simp;have ms:Hid ((wd.alloc (.cells #[.string nm] 9)).cell? ⟨bb,bn+k0,none⟩=some (.string nm)):=(bl.cell (p:=⟨bb,bn+k0,none⟩) (by show bb<_;omega)).trans oq.out;have jb:=Qh ((Zaa sStr).below eM.out bl);have jc:=Qh ((Zaa sStr).below eN.out bl);have jd:=Qh (dX.out.trans (bl.mono dX.out.size));refine hK.out _ _ ms.out (λac=>?_);clear hK K bl;try simp only[Qp]
        generalize (wd.alloc (.cells #[.string nm] 9))=x9 at *;refine Qr 0 rfl (λK hK=>?_) (by decide +kernel);have bl:=Zab x9 (.cells #[] 9);have qM:x9.heap.size+1<=(x9.alloc (.cells #[] 9)).heap.size:=JJ (QR _).symm;have fD:Hid ((x9.alloc (.cells #[] 9)).ownsRow wd.heap.size 9 1 (.slice (some ⟨x9.heap.size,0,none⟩) 0 0) ([]:List ByteArray).length (([]:List ByteArray).map Value.string)):=Q1 (base:=wd.heap.size) (e:=9) (size:=1) x9 #[] 0 (by omega) (by simp) rfl;have kn:=Qh ((bl.block _ (by omega)).trans nh.out);go_simp;have jr:Hid ((x9.alloc (.cells #[] 9)).cell? ⟨bb,bn+k0,none⟩=some (.string nm)):=(bl.cell (p:=⟨bb,bn+k0,none⟩) (by show bb<_;omega)).trans ms.out;have eI:=Qh ((Zaa sStr).below jb.out bl);have gS:=Qh ((Zaa sStr).below jc.out bl);have ko:=Qh (jd.out.trans (bl.mono jd.out.size));refine hK.out _ _ jr.out (λac=>?_);clear hK K bl;try simp only[Qp]
        generalize (x9.alloc (.cells #[] 9))=aV at *;refine Qr 4 rfl (λK hK=>?_) (by decide +kernel);refine ZaA 53 rfl rfl (.tmp 49) (.tmp 52) rfl wd.heap.size (.slice (some ⟨x9.heap.size,0,none⟩) 0 0) (.slice (some ⟨b1,ae,none⟩) n aN) [] M1 fa rfl fD.out rfl eI.out (by rw[et.out];simp;omega) (by omega) ?_;intro Bp aU hG bz;have aD:Below wd.heap.size aV aU:=(QD wd.heap.size aV).grown bz (by omega) (λb hb=>(fD.out.lt b hb).1);have uy:=aD.size;have js:=Qh ((aD.cell (p:=⟨bb,bn+k0,none⟩) (by show bb<_;omega)).trans jr.out);have iU:=Qh ((Zaa sStr).frame (w':=aU) (λb hb=>aD.block b (da.out.2 b hb)) gS.out);have lL:=Qh ((bz.block (wd.heap.size) (by omega) (by simp[Value.ownBlock];omega)).trans kn.out);have lM:=Qh (ko.out.trans (aD.mono (by omega)));rw[Q3]at hG;have eJ:=Qh hG;obtain⟨lN,lO,rfl⟩:=Zbz eJ.out;refine hK.out _ _ js.out (λac=>?_);clear hK K bz hG aD;try simp only[Qp]
        refine Qr 10 rfl (λK hK=>?_) (by decide +kernel);refine ZaA 59 rfl rfl (.tmp 53) (.tmp 58) rfl wd.heap.size (.slice lN M1.length lO) (.slice (some ⟨wd.heap.size,0,none⟩) 1 1) M1 [nm] _ rfl eJ.out rfl (Zc4 lL.out tU) (by rw[et.out];simp;omega) (by omega) ?_;intro Bq aW hG bz;have aD:Below wd.heap.size aU aW:=(QD wd.heap.size aU).grown bz (by omega) (λb hb=>(eJ.out.lt b hb).1);have uA:=aD.size;have jt:=Qh ((aD.cell (p:=⟨bb,bn+k0,none⟩) (by show bb<_;omega)).trans js.out);have iV:=Qh ((Zaa sStr).frame (w':=aW) (λb hb=>aD.block b (da.out.2 b hb)) iU.out);have lP:=Qh (lM.out.trans (aD.mono (by omega)));have eK:=Qh hG;obtain⟨lQ,lR,rfl⟩:=Zbz eK.out;refine hK.out _ _ jt.out (λac=>?_);clear hK K bz hG aD;try simp only[Qp]
        refine Qr 14 rfl (λK hK=>?_) (by decide +kernel);refine ZaA 63 rfl rfl (.tmp 59) (.tmp 62) rfl wd.heap.size (.slice lQ (M1++[nm]).length lR) sv (M1++[nm]) (a.drop n) fb rfl eK.out rfl iV.out (by rw[QC,et.out,dE.out.2];simp;omega) (by omega) ?_;intro rE aZ hG bz;have aD:Below wd.heap.size aW aZ:=(QD wd.heap.size aW).grown bz (by omega) (λb hb=>(eK.out.lt b hb).1);have uB:=aD.size;have nF:=Qh ((aD.cell (p:=⟨bb,bn+k0,none⟩) (by show bb<_;omega)).trans jt.out);have lS:=Qh (lP.out.trans (aD.mono (by omega)));have lT:=Qh hG;refine hK.out _ _ nF.out (λac=>?_);clear hK K bz hG aD;try simp only[Qp]
        refine Qt 15 5 rfl rfl ?_;try simp only[Qp]
        refine wpAnyH_done (by kernel_rfl) ?_ _;refine QP ?_;clear ac;have dY:Hid (aZ.ownsRow w.heap.size 9 1 rE (ins a nm).length ((ins a nm).map Value.string)):=by
         show World.ownsRow _ _ _ _ _ _ _;rw[HI.out];have:=ZcJ lT.out tu;rw[eL.out]at this;simpa using this
        go_wp2;go_roundw;case rel=>exact⟨k0+1,ins a nm,by omega,by go_num,nC.out,dY.out,fL.out,jp,lS.out⟩
        case measure=>simp[intOf];omega
      ·have HI:=Qh (Znx nm a n af (λj hj h=>d7.out j hj h) he);go_wp2_with fail
       go_quiet (fail)
       have jZ:=Zah pr nq;go_wp2;go_roundw;case rel=>exact⟨k0+1,ins a nm,by omega,by go_num,nC.out,(by show World.ownsRow _ _ _ _ _ _ _;rw[HI.out];exact ZdV HO.out jZ),fL.out,jp,aG.trans (jZ.mono aG.size)⟩
       case measure=>simp[intOf];omega
     ·have HLT2:Hid (∀j,(hj:j<a.length)->j<n+1->ZaF a[j] nm=true):=λj hj h=>by
       by_cases e:j=n
       ·subst e;exact hs
       ·exact d7.out j hj (by omega)
      have vC:Op.bytesLess a[n].toList nm.toList=true:=hs;go_wp2_with fail
      go_quiet (fail)
      go_wp2;go_roundw;case rel=>exact⟨n+1,by omega,by go_num,HLT2,Zah nE _⟩
      case measure=>simp[intOf];omega
    ·have HI:=Qh (Zkv nm a n hn d7.out (λh=>absurd h af));have h0:decide ((n:Int)<(a.length:Int))=false:=JQ (by omega);have h1:decide (n<a.length)=false:=JQ af;have e0:((n:Int)==(a.length:Int))=true:=(by simp;omega);have e1:(n==a.length)=true:=(by simp;omega);clear nD;go_wp2_with fail
     go_quiet (fail)
     have pr:=Zah nE nq;have Bm:(wr.drewN nq).cell? ⟨bb,bn+k0,none⟩=some (.string nm):=cbr;clear cbr xH nE;generalize wr.drewN nq=Bn at *;go_wp2_with fail
     go_quiet (fail)
     have jZ:=Zah pr nq;have cb:(Bn.drewN nq).cell? ⟨bb,bn+k0,none⟩=some (.string nm):=Bm;clear pr Bm h0 h1 e0 e1;generalize Bn.drewN nq=wq at *;have cc:=aG.trans (jZ.mono aG.size);have ng:=Qh ((Zaa sStr).below iG.out jZ);have xI:Hid (∀b∈de,b<wq.heap.size):=λb hb=>(by have:=HU1.out b hb;have:=jZ.size;omega);have xJ:bb<wq.heap.size:=(by have:=cc.size;omega);go_wp2_with fail
     obtain⟨fa,RA,mF⟩:=Zcp n (by omega) ng.out;obtain⟨fb,RB,l0⟩:=Zbp n (by omega) ng.out;rw[show n*sStr.m=n from Nat.mul_one n]at RB;obtain⟨M1,eL⟩:∃M1:List ByteArray,Hid (M1=a.take n):=⟨_,rfl⟩;have et:Hid (M1.length=n):=(by show _=_;rw[eL.out,Qd];omega);have hd:Below wq.heap.size wq wq.drew:=Zah (QD _ _) 1;have eM:Hid ((Zaa sStr).R wq.drew [.slice a1 n aN] M1 fa):=(by show(Zaa sStr).R _ _ _ _;rw[eL.out];exact(Zaa sStr).below RA hd);obtain⟨sv,fQ⟩:∃sv:Value,Hid (sv=.slice (if aN=n then a1 else (a1:Option Addr).map (·.add n)) (a.length-n) (aN-n)):=⟨_,rfl⟩;have eN:Hid ((Zaa sStr).R wq.drew [sv] (a.drop n) fb):=(by show(Zaa sStr).R _ _ _ _;rw[fQ.out];exact(Zaa sStr).below RB hd);have da:Hid ((∀b∈fa,b<wq.drew.heap.size)/\(∀b∈fb,b<wq.drew.heap.size)):=⟨λb hb=>xI.out b (mF b hb),λb hb=>xI.out b (l0 b hb)⟩;have dX:=Qh (cc.trans (hd.mono cc.size));have tu:w.heap.size<=wq.drew.heap.size:=dX.out.size;have oq:Hid (wq.drew.cell? ⟨bb,bn+k0,none⟩=some (.string nm)):=cb;have hbb3:bb<wq.drew.heap.size:=xJ;have dE:Hid ((a.take n).length=n/\(a.drop n).length=a.length-n):=⟨by rw[Qd];omega,QM⟩;clear RA RB mF l0 hd ng xI;refine wp_region_noPanic ?_;refine JU (S:=λw'=>w'.cell? ⟨bb,bn+k0,none⟩=some (.string nm)) (by kernel_rfl) (by exact oq.out) (λac=>?_);generalize wq.drew=wd at *;have m6:(0:Int)<=(n:Int):=(by omega);have yC:(n:Int)<=(a.length:Int):=(by omega);have yJ:n<=a.length:=(by omega);have Al:n<=aN:=(by omega);have eq:(n:Int)<=(aN:Int):=(by omega);refine Qt 1 50 rfl rfl ?_;try simp only[Qp]
     refine Qt 2 51 rfl rfl ?_;try simp only[Qp]
     refine Zkp 3 52 (v:=.slice a1 n aN) rfl rfl (by kernel_rfl) (by kernel_rfl) (by kernel_rfl) (λ_ _ _ h=>h) (by rfl) (by assumption) ?_ ?_
     ·intro w aI;go_simp;(first | done | with_reducible rfl | rfl)
     try simp only[Qp]
     refine Qt 5 54 rfl rfl ?_;try simp only[Qp]
     refine Qt 6 55 rfl rfl ?_;try simp only[Qp]
     refine Qt 7 56 rfl rfl ?_;try simp only[Qp]
     refine Qt 8 57 rfl rfl ?_;try simp only[Qp]
     refine Qt 11 60 rfl rfl ?_;try simp only[Qp]
     refine Qt 12 61 rfl rfl ?_;try simp only[Qp]
     refine Zkp 13 62 (v:=sv) rfl rfl (by kernel_rfl) (by kernel_rfl) (by kernel_rfl) (λ_ _ _ h=>h) (by rfl) (by assumption) ?_ ?_
     ·intro w aI;rw[fQ.out];go_simp;(first | done | with_reducible rfl | rfl)
     try simp only[Qp]
     have Bo:=oq;refine wpAnyH_ready (rs:=[0,9]) (by decide +kernel) (by simp) ?_;refine JP rfl (λK hK=>?_) (JP rfl (λK hK=>?_) AllReadyH.nil)
     ·have bl:=Zab wd (.cells #[] 9);have wE:wd.heap.size+1<=(wd.alloc (.cells #[] 9)).heap.size:=JJ (QR _).symm;have gp:Hid ((wd.alloc (.cells #[] 9)).ownsRow wd.heap.size 9 1 (.slice (some ⟨wd.heap.size,0,none⟩) 0 0) ([]:List ByteArray).length (([]:List ByteArray).map Value.string)):=Q1 (base:=wd.heap.size) (e:=9) (size:=1) wd #[] 0 (by omega) (by simp) rfl;go_simp;have jq:Hid ((wd.alloc (.cells #[] 9)).cell? ⟨bb,bn+k0,none⟩=some (.string nm)):=(bl.cell (p:=⟨bb,bn+k0,none⟩) (by show bb<_;omega)).trans oq.out;have ey:=Qh ((Zaa sStr).below eM.out bl);have fC:=Qh ((Zaa sStr).below eN.out bl);have gq:=Qh (dX.out.trans (bl.mono dX.out.size));refine hK.out _ _ jq.out (λac=>?_);clear hK K bl;try simp only[Qp]
      generalize (wd.alloc (.cells #[] 9))=x0 at *;refine wpAnyH_ready (rs:=[4,9]) (by decide +kernel) (by simp) ?_;refine JP rfl (λK hK=>?_) (JP rfl (λK hK=>?_) AllReadyH.nil)
      ·refine ZaA 53 rfl rfl (.tmp 49) (.tmp 52) rfl wd.heap.size (.slice (some ⟨wd.heap.size,0,none⟩) 0 0) (.slice a1 n aN) [] M1 fa rfl gp.out rfl ey.out (by rw[et.out];simp;omega) (by omega) ?_;intro vqx1 x1 hG bz;have aD:Below wd.heap.size x0 x1:=(QD wd.heap.size x0).grown bz (by omega) (λb hb=>(gp.out.lt b hb).1);have zV:=aD.size;have ml:=Qh ((aD.cell (p:=⟨bb,bn+k0,none⟩) (by show bb<_;omega)).trans jq.out);have lF:=Qh ((Zaa sStr).frame (w':=x1) (λb hb=>aD.block b (da.out.2 b hb)) fC.out);have lG:=Qh (gq.out.trans (aD.mono (by omega)));rw[Q3]at hG;have lH:=Qh hG;obtain⟨qp,qq,rfl⟩:=Zbz lH.out;refine hK.out _ _ ml.out (λac=>?_);clear hK K bz hG aD;try simp only[Qp]
       refine Qr 9 rfl (λK hK=>?_) (by decide +kernel);have bl:=Zab x1 (.cells #[.string nm] 9);have zW:x1.heap.size+1<=(x1.alloc (.cells #[.string nm] 9)).heap.size:=JJ (QR _).symm;have qr:=Qh (Ze4 x1 #[.string nm] 9);have lI:=Qh (ZdV lH.out bl);go_simp;have mn:Hid ((x1.alloc (.cells #[.string nm] 9)).cell? ⟨bb,bn+k0,none⟩=some (.string nm)):=(bl.cell (p:=⟨bb,bn+k0,none⟩) (by show bb<_;omega)).trans ml.out;have lJ:=Qh ((Zaa sStr).below lF.out bl);have qs:=Qh (lG.out.trans (bl.mono lG.out.size));refine hK.out _ _ mn.out (λac=>?_);clear hK K bl;try simp only[Qp]
       generalize (x1.alloc (.cells #[.string nm] 9))=x2 at *;refine Qr 10 rfl (λK hK=>?_) (by decide +kernel);refine ZaA 59 rfl rfl (.tmp 53) (.tmp 58) rfl wd.heap.size (.slice qp M1.length qq) (.slice (some ⟨x1.heap.size,0,none⟩) 1 1) M1 [nm] _ rfl lI.out rfl (Zc4 qr.out tU) (by rw[et.out];simp;omega) (by omega) ?_;intro vqx3 x3 hG bz;have aD:Below wd.heap.size x2 x3:=(QD wd.heap.size x2).grown bz (by omega) (λb hb=>(lI.out.lt b hb).1);have zX:=aD.size;have mo:=Qh ((aD.cell (p:=⟨bb,bn+k0,none⟩) (by show bb<_;omega)).trans mn.out);have lK:=Qh ((Zaa sStr).frame (w':=x3) (λb hb=>aD.block b (da.out.2 b hb)) lJ.out);have qt:=Qh (qs.out.trans (aD.mono (by omega)));have iT:=Qh hG;obtain⟨qu,qv,rfl⟩:=Zbz iT.out;refine hK.out _ _ mo.out (λac=>?_);clear hK K bz hG aD;try simp only[Qp]
       refine Qr 14 rfl (λK hK=>?_) (by decide +kernel);refine ZaA 63 rfl rfl (.tmp 59) (.tmp 62) rfl wd.heap.size (.slice qu (M1++[nm]).length qv) sv (M1++[nm]) (a.drop n) fb rfl iT.out rfl lK.out (by rw[QC,et.out,dE.out.2];simp;omega) (by omega) ?_;intro xK x4 hG bz;have aD:Below wd.heap.size x3 x4:=(QD wd.heap.size x3).grown bz (by omega) (λb hb=>(iT.out.lt b hb).1);have zY:=aD.size;have rC:=Qh ((aD.cell (p:=⟨bb,bn+k0,none⟩) (by show bb<_;omega)).trans mo.out);have qw:=Qh (qt.out.trans (aD.mono (by omega)));have qx:=Qh hG;refine hK.out _ _ rC.out (λac=>?_);clear hK K bz hG aD;try simp only[Qp]
       refine Qt 15 5 rfl rfl ?_;try simp only[Qp]
       refine wpAnyH_done (by kernel_rfl) ?_ _;refine QP ?_;clear ac;have dY:Hid (x4.ownsRow w.heap.size 9 1 xK (ins a nm).length ((ins a nm).map Value.string)):=by
        show World.ownsRow _ _ _ _ _ _ _;rw[HI.out];have:=ZcJ qx.out tu;rw[eL.out]at this;simpa using this
       go_wp2;go_roundw;case rel=>exact⟨k0+1,ins a nm,by omega,by go_num,nC.out,dY.out,fL.out,jp,qw.out⟩
       case measure=>simp[intOf];omega
      ·have bl:=Zab x0 (.cells #[.string nm] 9);have wG:x0.heap.size+1<=(x0.alloc (.cells #[.string nm] 9)).heap.size:=JJ (QR _).symm;have oR:=Qh (Ze4 x0 #[.string nm] 9);have jP:=Qh (ZdV gp.out bl);go_simp;have mp:Hid ((x0.alloc (.cells #[.string nm] 9)).cell? ⟨bb,bn+k0,none⟩=some (.string nm)):=(bl.cell (p:=⟨bb,bn+k0,none⟩) (by show bb<_;omega)).trans jq.out;have ik:=Qh ((Zaa sStr).below ey.out bl);have kp:=Qh ((Zaa sStr).below fC.out bl);have oS:=Qh (gq.out.trans (bl.mono gq.out.size));refine hK.out _ _ mp.out (λac=>?_);clear hK K bl;try simp only[Qp]
       generalize (x0.alloc (.cells #[.string nm] 9))=x5 at *;refine Qr 4 rfl (λK hK=>?_) (by decide +kernel);refine ZaA 53 rfl rfl (.tmp 49) (.tmp 52) rfl wd.heap.size (.slice (some ⟨wd.heap.size,0,none⟩) 0 0) (.slice a1 n aN) [] M1 fa rfl jP.out rfl ik.out (by rw[et.out];simp;omega) (by omega) ?_;intro vqx6 x6 hG bz;have aD:Below wd.heap.size x5 x6:=(QD wd.heap.size x5).grown bz (by omega) (λb hb=>(jP.out.lt b hb).1);have zZ:=aD.size;have mq:=Qh ((aD.cell (p:=⟨bb,bn+k0,none⟩) (by show bb<_;omega)).trans mp.out);have lU:=Qh ((Zaa sStr).frame (w':=x6) (λb hb=>aD.block b (da.out.2 b hb)) kp.out);have qy:=Qh ((bz.block (x0.heap.size) (by omega) (by simp[Value.ownBlock];omega)).trans oR.out);have qz:=Qh (oS.out.trans (aD.mono (by omega)));rw[Q3]at hG;have iW:=Qh hG;obtain⟨qA,qB,rfl⟩:=Zbz iW.out;refine hK.out _ _ mq.out (λac=>?_);clear hK K bz hG aD;try simp only[Qp]
       refine Qr 10 rfl (λK hK=>?_) (by decide +kernel);refine ZaA 59 rfl rfl (.tmp 53) (.tmp 58) rfl wd.heap.size (.slice qA M1.length qB) (.slice (some ⟨x0.heap.size,0,none⟩) 1 1) M1 [nm] _ rfl iW.out rfl (Zc4 qy.out tU) (by rw[et.out];simp;omega) (by omega) ?_;intro vqx7 x7 hG bz;have aD:Below wd.heap.size x6 x7:=(QD wd.heap.size x6).grown bz (by omega) (λb hb=>(iW.out.lt b hb).1);have z8:=aD.size;have mr:=Qh ((aD.cell (p:=⟨bb,bn+k0,none⟩) (by show bb<_;omega)).trans mq.out);have lV:=Qh ((Zaa sStr).frame (w':=x7) (λb hb=>aD.block b (da.out.2 b hb)) lU.out);have qC:=Qh (qz.out.trans (aD.mono (by omega)));have iX:=Qh hG;obtain⟨qD,qE,rfl⟩:=Zbz iX.out;refine hK.out _ _ mr.out (λac=>?_);clear hK K bz hG aD;try simp only[Qp]
       refine Qr 14 rfl (λK hK=>?_) (by decide +kernel);refine ZaA 63 rfl rfl (.tmp 59) (.tmp 62) rfl wd.heap.size (.slice qD (M1++[nm]).length qE) sv (M1++[nm]) (a.drop n) fb rfl iX.out rfl lV.out (by rw[QC,et.out,dE.out.2];simp;omega) (by omega) ?_;intro xL x8 hG bz;have aD:Below wd.heap.size x7 x8:=(QD wd.heap.size x7).grown bz (by omega) (λb hb=>(iX.out.lt b hb).1);have Aa:=aD.size;have rD:=Qh ((aD.cell (p:=⟨bb,bn+k0,none⟩) (by show bb<_;omega)).trans mr.out);have qF:=Qh (qC.out.trans (aD.mono (by omega)));have qG:=Qh hG;refine hK.out _ _ rD.out (λac=>?_);clear hK K bz hG aD;try simp only[Qp]
       refine Qt 15 5 rfl rfl ?_;try simp only[Qp]
       refine wpAnyH_done (by kernel_rfl) ?_ _;refine QP ?_;clear ac;have dY:Hid (x8.ownsRow w.heap.size 9 1 xL (ins a nm).length ((ins a nm).map Value.string)):=by
        show World.ownsRow _ _ _ _ _ _ _;rw[HI.out];have:=ZcJ qG.out tu;rw[eL.out]at this;simpa using this
       go_wp2;go_roundw;case rel=>exact⟨k0+1,ins a nm,by omega,by go_num,nC.out,dY.out,fL.out,jp,qF.out⟩
       case measure=>simp[intOf];omega
     ·have bl:=Zab wd (.cells #[.string nm] 9);have wH:wd.heap.size+1<=(wd.alloc (.cells #[.string nm] 9)).heap.size:=JJ (QR _).symm;have nh:=Qh (Ze4 wd #[.string nm] 9);go_simp;have ms:Hid ((wd.alloc (.cells #[.string nm] 9)).cell? ⟨bb,bn+k0,none⟩=some (.string nm)):=(bl.cell (p:=⟨bb,bn+k0,none⟩) (by show bb<_;omega)).trans oq.out;have jb:=Qh ((Zaa sStr).below eM.out bl);have jc:=Qh ((Zaa sStr).below eN.out bl);have jd:=Qh (dX.out.trans (bl.mono dX.out.size));refine hK.out _ _ ms.out (λac=>?_);clear hK K bl;try simp only[Qp]
      generalize (wd.alloc (.cells #[.string nm] 9))=x9 at *;refine Qr 0 rfl (λK hK=>?_) (by decide +kernel);have bl:=Zab x9 (.cells #[] 9);have qM:x9.heap.size+1<=(x9.alloc (.cells #[] 9)).heap.size:=JJ (QR _).symm;have fD:Hid ((x9.alloc (.cells #[] 9)).ownsRow wd.heap.size 9 1 (.slice (some ⟨x9.heap.size,0,none⟩) 0 0) ([]:List ByteArray).length (([]:List ByteArray).map Value.string)):=Q1 (base:=wd.heap.size) (e:=9) (size:=1) x9 #[] 0 (by omega) (by simp) rfl;have kn:=Qh ((bl.block _ (by omega)).trans nh.out);go_simp;have jr:Hid ((x9.alloc (.cells #[] 9)).cell? ⟨bb,bn+k0,none⟩=some (.string nm)):=(bl.cell (p:=⟨bb,bn+k0,none⟩) (by show bb<_;omega)).trans ms.out;have eI:=Qh ((Zaa sStr).below jb.out bl);have gS:=Qh ((Zaa sStr).below jc.out bl);have ko:=Qh (jd.out.trans (bl.mono jd.out.size));refine hK.out _ _ jr.out (λac=>?_);clear hK K bl;try simp only[Qp]
      generalize (x9.alloc (.cells #[] 9))=aV at *;refine Qr 4 rfl (λK hK=>?_) (by decide +kernel);refine ZaA 53 rfl rfl (.tmp 49) (.tmp 52) rfl wd.heap.size (.slice (some ⟨x9.heap.size,0,none⟩) 0 0) (.slice a1 n aN) [] M1 fa rfl fD.out rfl eI.out (by rw[et.out];simp;omega) (by omega) ?_;intro Bp aU hG bz;have aD:Below wd.heap.size aV aU:=(QD wd.heap.size aV).grown bz (by omega) (λb hb=>(fD.out.lt b hb).1);have uy:=aD.size;have js:=Qh ((aD.cell (p:=⟨bb,bn+k0,none⟩) (by show bb<_;omega)).trans jr.out);have iU:=Qh ((Zaa sStr).frame (w':=aU) (λb hb=>aD.block b (da.out.2 b hb)) gS.out);have lL:=Qh ((bz.block (wd.heap.size) (by omega) (by simp[Value.ownBlock];omega)).trans kn.out);have lM:=Qh (ko.out.trans (aD.mono (by omega)));rw[Q3]at hG;have eJ:=Qh hG;obtain⟨lN,lO,rfl⟩:=Zbz eJ.out;refine hK.out _ _ js.out (λac=>?_);clear hK K bz hG aD;try simp only[Qp]
      refine Qr 10 rfl (λK hK=>?_) (by decide +kernel);refine ZaA 59 rfl rfl (.tmp 53) (.tmp 58) rfl wd.heap.size (.slice lN M1.length lO) (.slice (some ⟨wd.heap.size,0,none⟩) 1 1) M1 [nm] _ rfl eJ.out rfl (Zc4 lL.out tU) (by rw[et.out];simp;omega) (by omega) ?_;intro Bq aW hG bz;have aD:Below wd.heap.size aU aW:=(QD wd.heap.size aU).grown bz (by omega) (λb hb=>(eJ.out.lt b hb).1);have uA:=aD.size;have jt:=Qh ((aD.cell (p:=⟨bb,bn+k0,none⟩) (by show bb<_;omega)).trans js.out);have iV:=Qh ((Zaa sStr).frame (w':=aW) (λb hb=>aD.block b (da.out.2 b hb)) iU.out);have lP:=Qh (lM.out.trans (aD.mono (by omega)));have eK:=Qh hG;obtain⟨lQ,lR,rfl⟩:=Zbz eK.out;refine hK.out _ _ jt.out (λac=>?_);clear hK K bz hG aD;try simp only[Qp]
      refine Qr 14 rfl (λK hK=>?_) (by decide +kernel);refine ZaA 63 rfl rfl (.tmp 59) (.tmp 62) rfl wd.heap.size (.slice lQ (M1++[nm]).length lR) sv (M1++[nm]) (a.drop n) fb rfl eK.out rfl iV.out (by rw[QC,et.out,dE.out.2];simp;omega) (by omega) ?_;intro rE aZ hG bz;have aD:Below wd.heap.size aW aZ:=(QD wd.heap.size aW).grown bz (by omega) (λb hb=>(eK.out.lt b hb).1);have uB:=aD.size;have nF:=Qh ((aD.cell (p:=⟨bb,bn+k0,none⟩) (by show bb<_;omega)).trans jt.out);have lS:=Qh (lP.out.trans (aD.mono (by omega)));have lT:=Qh hG;refine hK.out _ _ nF.out (λac=>?_);clear hK K bz hG aD;try simp only[Qp]
      refine Qt 15 5 rfl rfl ?_;try simp only[Qp]
      refine wpAnyH_done (by kernel_rfl) ?_ _;refine QP ?_;clear ac;have dY:Hid (aZ.ownsRow w.heap.size 9 1 rE (ins a nm).length ((ins a nm).map Value.string)):=by
       show World.ownsRow _ _ _ _ _ _ _;rw[HI.out];have:=ZcJ lT.out tu;rw[eL.out]at this;simpa using this
      go_wp2;go_roundw;case rel=>exact⟨k0+1,ins a nm,by omega,by go_num,nC.out,dY.out,fL.out,jp,lS.out⟩
      case measure=>simp[intOf];omega
theorem ZiB (va vb:Value)(a:List ByteArray)(nm:ByteArray)(mJ jf:List Nat)(w:World)(hl:a.length<=900000)(Ha:(Zaa sStr).R w [va] a mJ)(Hb:(Zaa sStr).R w [vb] [nm] jf):
  Calls Tryz.prog 73 #[va,vb] w (Zf8 (ins a nm) w):=Zh1 va vb a [nm] mJ jf w (by simp;omega) Ha Hb
variable {T:List DMacro}
theorem ZqV {x:ByteArray}(h:0<=place T x):∃k:Nat,place T x=k/\k<T.length:=by
 have eg:∀d k,T.length-k=d->-1<=plFrom T x k/\plFrom T x k<(T.length:Int):=by
  intro d;induction d with
  | zero=>intro k hk;rw[Zki (by omega)];omega
  |
   succ d ih =>
   intro k hk;have af:k<T.length:=(by omega);cases e:(T[k].name.toList==x.toList)
   ·rw[ZiQ af e];exact ih (k+1) (by omega)
   ·rw[ZmZ af e];omega
 have:=eg _ 0 rfl;have h2:-1<=place T x/\place T x<(T.length:Int):=this;exact⟨(place T x).toNat,by omega,by omega⟩
theorem mac_at {b off n cap:Nat}{l:List DMacro}{fp:List Nat}(H:(Zaa sMacro).R w [.slice (some ⟨b,off,none⟩) n cap] l fp){j:Nat}(hj:j<l.length):
  ∃(a2 a3:Option Addr) (c2 c3:Nat) (fj:List Nat),w.cell? ⟨b,off+j*4,none⟩=some (.string l[j].name)/\w.cell? ⟨b,off+j*4+1,none⟩=some (.bool l[j].function)/\w.cell? ⟨b,off+j*4+2,none⟩=some (.slice a2 l[j].params.length c2)/\w.cell? ⟨b,off+j*4+3,none⟩=some (.slice a3 l[j].body.length c3) /\
   sMacro.R w [.string l[j].name,.bool l[j].function,.slice a2 l[j].params.length c2,.slice a3 l[j].body.length c3] l[j] fj/\b<w.heap.size/\∀x∈fj,x∈fp:=by
 obtain⟨a,dF,hv,hc,hm,ai⟩:=Zac H;obtain⟨b',AQ,bA,ha,hb,eY,he⟩:=ai (by omega);simp only[QT]at hv;obtain⟨rfl,rfl,rfl⟩:=hv;simp only[Qi,Addr.mk.injEq,and_true]at ha;obtain⟨rfl,rfl⟩:=ha;obtain⟨es,hE,hR⟩:=he j hj;have bN:=hR;obtain⟨h2,h3,q2,q3,rfl,-,K2,K3,-⟩:=bN;obtain⟨a2,c2,rfl,-⟩:=Zaf K2;obtain⟨a3,c3,rfl,-⟩:=Zac K3;have c0:w.cell? ⟨b,off+j*4,none⟩=some _:=ZaB hE (by decide) rfl;have c1':w.cell? ⟨b,off+j*4+1,none⟩=some _:=Zae (j:=1) hE (by decide) rfl;have Bd:w.cell? ⟨b,off+j*4+2,none⟩=some _:=Zae (j:=2) hE (by decide) rfl;have c3':w.cell? ⟨b,off+j*4+3,none⟩=some _:=Zae (j:=3) hE (by decide) rfl;exact⟨a2,a3,c2,c3,bA j,c0,c1',Bd,c3',hR,hb,λx hx=>by rw[eY];exact List.mem_cons_of_mem _ (QO.2 ⟨j,List.mem_range.2 hj,hx⟩)⟩
variable {t:Tok}
theorem ZqW (h:t.kind≠1):Zbk T t=none:=by unfold Zbk;rw[if_neg (λh'=>h h'.1)]
theorem ZqX (h:place T t.text<0):Zbk T t=none:=by unfold Zbk;rw[if_neg (λh'=>by have:=h'.2.2;omega)]
theorem ZnJ (h:Zdc t.hidden t.text=true):Zbk T t=none:=by unfold Zbk;rw[if_neg (λh'=>by rw[h]at h';exact absurd h'.2.1 (by simp))]
variable {k:Nat}
theorem find_yes (h1:t.kind=1)(h2:Zdc t.hidden t.text=false)(h3:place T t.text=k)(hk:k<T.length):Zbk T t=some T[k]:=by
 unfold Zbk;rw[if_pos ⟨h1,h2,by omega⟩,h3];exact QJ hk
def FindOf (T:List DMacro)(cE:List Nat)(t:Tok)(w:World)(e:Ending)(w':World):Prop:=
 (Zbk T t=none/\e=.returned (.tuple #[.agg #[.string ⟨#[]⟩,.bool false,.slice none 0 0,.slice none 0 0],.bool false])/\Below w.heap.size w w') \/
 ∃(m:DMacro) (a2 a3:Option Addr) (c2 c3:Nat) (fp:List Nat),Zbk T t=some m/\e=.returned (.tuple #[.agg #[.string m.name,.bool m.function,.slice a2 m.params.length c2,.slice a3 m.body.length c3],.bool true]) /\
  sMacro.R w' [.string m.name,.bool m.function,.slice a2 m.params.length c2,.slice a3 m.body.length c3] m fp/\(∀b∈fp,b∈cE)/\Below w.heap.size w w'
theorem Y17A1 {g:Prop}(h:g:=by
 generalize place T t.text=pl at *;obtain⟨z0,dT,z1,dU,z2,dV,z3,dW⟩:=Q8 bB.out.2;have HS:=Qh (Za2 bB.out.2 (.string ⟨#[]⟩) (.bool false) (.slice none 0 0) (.slice none 0 0));have HB:=Qh (ZaJ (g:=w.heap.size+1) aQ (by omega) (.string ⟨#[]⟩) (.bool false) (.slice none 0 0) (.slice none 0 0));unfold set4 at HS HB;clear h1;go_wp2;refine JV (Zat rfl _ _ (w.heap.size+1) _ _ _ _ rfl HS.out Tryz.underlying56 rfl (by kernel_rfl)) rfl ?_
 exact .inl ⟨HF.out,rfl,HB.out⟩):g:=h
theorem ZnK (vT:Value)(T:List DMacro)(cE:List Nat)(ct:List Value)(t:Tok)(yy:List Nat)(w:World)(HT:(Zaa sMacro).R w [vT] T cE)(H:sTok.R w ct t yy):
  Calls Tryz.prog 69 #[vT,.agg ct.toArray] w (FindOf T cE t w):=by
 have mP:=HT;have Br:=(Zaa sMacro).lt HT;obtain⟨aT,cT,rfl,-,gL,mu⟩:=Zac HT;unfold maxLen at gL;obtain⟨hv,rfl,-,-,KT⟩:=H;obtain⟨ah,ch,rfl,-⟩:=Zaf KT;have b0:=Zab w (.cells #[.int .i64 t.kind,.string t.text,.bool t.spaced,.slice ah t.hidden.length ch] 32);have b2:=b0.trans ((Zab (w.alloc (.cells #[.int .i64 t.kind,.string t.text,.bool t.spaced,.slice ah t.hidden.length ch] 32)) (.cells #[.string ⟨#[]⟩,.bool false,.slice none 0 0,.slice none 0 0] 56)).mono b0.size);have HX:=Qh (Zdj w #[.int .i64 t.kind,.string t.text,.bool t.spaced,.slice ah t.hidden.length ch] #[.string ⟨#[]⟩,.bool false,.slice none 0 0,.slice none 0 0] 32 56);have gC:=Qh ((Zaa sMacro).below mP b2);have oM:=Qh ((Zaa sStr).below KT b2);have d7:=Qh Br;have ie:Hid (0<T.length->∃bb ob,aT=some ⟨bb,ob,none⟩):=λh=>by obtain⟨b,o,-,e,-⟩:=mu h;exact⟨b,o,e⟩
 clear mP Br KT mu b0;go_enter Tryz.func69,Tryz.ntmps69;go_upto_region 1 with fail
 generalize ((w.alloc (.cells #[.int .i64 t.kind,.string t.text,.bool t.spaced,.slice ah t.hidden.length ch] 32)).alloc (.cells #[.string ⟨#[]⟩,.bool false,.slice none 0 0,.slice none 0 0] 56))=W2 at *;have p1:=Qc 1 HX.out.1;have dD:=Qh (ZeV _ T t.text cE W2 gC.out);go_wp2_with fail
 refine dD.out.mono ?_;rintro e W3⟨rfl,aC⟩;clear p1 dD;have bB:=Qh (And.intro (Zag HX.out.1 aC) (Zag HX.out.2 aC));have aQ:=b2.trans (aC.mono b2.size);have nG:=Qh ((Zaa sMacro).below gC.out aC);have jF:=Qh ((Zaa sStr).below oM.out aC);have q0:=Qc 0 bB.out.1;have q1:=Qc 1 bB.out.1;have q3:=Qc 3 bB.out.1;clear gC oM HX aC b2;by_cases h1:t.kind=1;rotate_left
 ·have HF:=Qh (ZqW (T:=T) h1);have e1:(t.kind != 1)=true:=by simp[h1]
  exact Y17A1
 have e1:(t.kind != 1)=false:=by simp[h1]
 by_cases h2:place T t.text<0
 ·have HF:=Qh (ZqX h2);exact Y17A1
 obtain⟨n,hn,yH⟩:=ZqV (by omega:0<=place T t.text);have HN:=Qh hn;have H1:=Qh h1;rw[hn];have ke:¬((n:Int)<0):=by omega
 clear h1 h2 hn;have y5:=Qh (ZkB _ t.hidden t.text _ W3 jF.out);cases hh:Zdc t.hidden t.text;rotate_left
 ·have HF:=Qh (ZnJ (T:=T) hh);rw[hh]at y5;clear hh;go_wp2_with fail
  refine y5.out.mono ?_;rintro e W4⟨rfl,aM⟩;have dJ:=Qh (Zag bB.out.2 aM);have hB4:=aQ.trans (aM.mono aQ.size);obtain⟨z0,dT,z1,dU,z2,dV,z3,dW⟩:=Q8 dJ.out;have HS:=Qh (Za2 dJ.out (.string ⟨#[]⟩) (.bool false) (.slice none 0 0) (.slice none 0 0));have HB:=Qh (ZaJ (g:=w.heap.size+1) hB4 (by omega) (.string ⟨#[]⟩) (.bool false) (.slice none 0 0) (.slice none 0 0));unfold set4 at HS HB;clear q0 q1 q3 y5;go_wp2;refine JV (Zat rfl _ _ (w.heap.size+1) _ _ _ _ rfl HS.out Tryz.underlying56 rfl (by kernel_rfl)) rfl ?_;exact .inl ⟨HF.out,rfl,HB.out⟩
 have HF:=Qh (find_yes H1.out hh HN.out yH);rw[hh]at y5;clear hh;obtain⟨bb,ob,rfl⟩:=ie.out (by omega);go_wp2_with fail
 refine y5.out.mono ?_;rintro e W4⟨rfl,aM⟩;have dJ:=Qh (Zag bB.out.2 aM);have hB4:=aQ.trans (aM.mono aQ.size);obtain⟨a2,a3,c2,c3,fm,m0,m1,m2,m3,RM,bu,pZ⟩:=mac_at ((Zaa sMacro).below nG.out aM) yH;have HLM:Hid (w.heap.size+1∉fm):=λh=>by have:=d7.out _ (pZ _ h);omega
 have rF:=Qh pZ;generalize hM:T[n]=M at *;obtain⟨z0,dT,z1,dU,z2,dV,z3,dW⟩:=Q8 dJ.out;have HS:=Qh (Za2 dJ.out (.string M.name) (.bool M.function) (.slice a2 M.params.length c2) (.slice a3 M.body.length c3));have HB:=Qh (ZaJ (g:=w.heap.size+1) hB4 (by omega) (.string M.name) (.bool M.function) (.slice a2 M.params.length c2) (.slice a3 M.body.length c3));have uZ:=Qh (sMacro.set4R RM HLM.out (.string M.name) (.bool M.function) (.slice a2 M.params.length c2) (.slice a3 M.body.length c3));unfold set4 at HS HB uZ;have i0:(0:Int)<=(n:Int):=by omega
 have i1:(n:Int)<(T.length:Int):=by omega
 clear q0 q1 q3 y5 hM RM pZ;go_wp2;refine JV (Zat rfl _ _ (w.heap.size+1) _ _ _ _ rfl HS.out Tryz.underlying56 rfl (by kernel_rfl)) rfl ?_;exact .inr ⟨M,a2,a3,c2,c3,fm,HF.out,rfl,uZ.out,rF.out,HB.out⟩
def NewN (l:List Tok)(w:World)(e:Ending)(w':World):Prop:=
 ∃(v:Value) (L:List (Elem Tok)),e=.returned v/\RowN sTok w.heap.size 32 v L w'/\L.map (·.d)=l/\(∀x∈L,∀b∈x.fp,w.heap.size<=b)/\Below w.heap.size w w'
theorem Zjn (v:Value)(l:List Tok)(fp:List Nat)(vh:Value)(h:List ByteArray)(fph:List Nat)(sp:Bool)(w:World)(hl:l.length<=100000)(hh:∀k,(hk:k<l.length)->l[k].hidden.length+h.length<=1000000)(H:(Zaa sTok).R w [v] l fp)(HH:(Zaa sStr).R w [vh] h fph):
  Calls Tryz.prog 72 #[v,vh,.bool sp] w (NewN (Zbm l h sp) w):=by
 obtain⟨a,cap,rfl,hc,hm,ai⟩:=Zac H;unfold maxLen at hm;have HK:=Qh H;have xM:=Qh HH;have HHN:=Qh hh;have bH:=Zab w (.cells #[] 32);have HG:=Qh (RowN.lit0 sTok 32 w (QA _));clear H HH hh;go_enter Tryz.func72,Tryz.ntmps72;go_upto_region 3 with fail
 generalize (w.alloc (.cells #[] 32))=W1 at *;go_wp2;go_loopw [7,8] (λvo i wr=>∃(k:Nat) (O:List (Elem Tok)),k<=l.length/\i=.int .i64 k/\Hid (O.map (·.d)=(l.take k).map (ZdB h))/\Hid (RowN sTok w.heap.size 32 vo O wr)/\Hid (∀x∈O,∀b∈x.fp,w.heap.size<=b)/\Below w.heap.size w wr) (λ_ i _=>l.length-(intOf i).toNat)
 case atStart=>exact⟨0,[],by omega,rfl,rfl,HG.out,(λx hx=>by simp at hx),bH⟩
 case round =>
  clear HG bH;obtain⟨k,O,hk,rfl,HD,HR,HLO,hb⟩:=hrel;have hOk:O.length=k:=by have:=JY List.length HD.out;rw[QH,QH,Qd]at this;omega
  have bC:=Qh hOk;obtain⟨ao,co,mQ,-⟩:=HR.out.val;rw[hOk]at mQ;subst mQ;clear hOk;by_cases af:k<l.length
  ·obtain⟨b1,o1,-,rfl,-,-,-⟩:=ai (by omega);obtain⟨xa,xc,xf,x0,x1,x2,x3,xR,bu,-⟩:=ZaO HK.out af;replace x0:=(hb.cell (p:=⟨b1,o1+k*4,none⟩) bu).trans x0;replace x1:=(hb.cell (p:=⟨b1,o1+k*4+1,none⟩) bu).trans x1;replace x2:=(hb.cell (p:=⟨b1,o1+k*4+2,none⟩) bu).trans x2;replace x3:=(hb.cell (p:=⟨b1,o1+k*4+3,none⟩) bu).trans x3;have XR:=Qh (sTok.below xR hb);have bx:=Zab wr (.cells #[.int .i64 l[k].kind,.string l[k].text,.bool l[k].spaced,.slice xa l[k].hidden.length xc] 32);have cJ:=Qh (JS wr (.cells #[.int .i64 l[k].kind,.string l[k].text,.bool l[k].spaced,.slice xa l[k].hidden.length xc] 32));have y6:=Qh (HHN.out k af);have gN:=hb.size;clear xR ai;go_upto_region 6 with fail
   clear x0 x1 x2 x3;generalize (wr.alloc (.cells #[.int .i64 l[k].kind,.string l[k].text,.bool l[k].spaced,.slice xa l[k].hidden.length xc] 32))=W2 at *;obtain⟨y,HY⟩:∃y,Hid (y=l[k]):=⟨l[k],Qh rfl⟩;rw[show l[k]=y from HY.out.symm]at XR cJ y6;have p3:=Qc 3 cJ.out;have aF:=hb.trans (bx.mono hb.size);obtain⟨hv',aS,pc,pd,KH⟩:=XR.out;simp only[JH,and_true,true_and]at aS;subst aS;have rG:=Qh (And.intro pc pd);have HU:=Qh (Zh1 _ _ y.hidden h _ _ W2 y6.out ((Zaa sStr).below KH bx) ((Zaa sStr).below xM.out aF));clear KH pc pd XR
   go_upto_region 7 with(
              go_at_call 73;refine(HU.out).mono ?_;rintro e w3⟨an,cn,fn,rfl,Rn,On,-,aC⟩
              have bB:=Qh (Zag cJ.out aC);have p0':=Qc 0 bB.out;have pf3:=Qf 3 bB.out
              have p3':=Qc 3 bB.out)
   have hwn:wr.heap.size∉fn:=λh=>(by have:=(On.2 _ h).1;have:=mlt cJ.out;omega);have HN4:=Qh ((Zaa sStr).setB Rn hwn 3 (.slice an (h.foldl ins y.hidden).length cn));have Bs:Below wr.heap.size wr w3:=bx.trans (aC.mono bx.size);have tW:=Bs.setCell (p:=⟨wr.heap.size,3,none⟩) (QA _) (.slice an (h.foldl ins y.hidden).length cn);have dJ:=Qh (Zai bB.out 3 (.slice an (h.foldl ins y.hidden).length cn));have dY:Hid (∀b∈fn,W2.heap.size<=b):=λb hb=>(On.2 b hb).1;have hW2:wr.heap.size<W2.heap.size:=mlt cJ.out;clear p3 p0' pf3 p3' HU cJ bB Rn On aC Bs;generalize w3.setCell ⟨wr.heap.size,3,none⟩ (.slice an (h.foldl ins y.hidden).length cn)=w4 at *;obtain⟨t0,t1,t2,t3⟩:=Q4 dJ.out;have bl:=Zab w4 (.cells #[.int .i64 y.kind,.string y.text,.bool y.spaced,.slice an (h.foldl ins y.hidden).length cn] 32);have fW:=Qh (JS w4 (.cells #[.int .i64 y.kind,.string y.text,.bool y.spaced,.slice an (h.foldl ins y.hidden).length cn] 32));have eO:=Qh ((HR.out.below tW).below bl);have gJ:=Qh HR.out.mine;have RX:Hid (sTok.R (w4.alloc (.cells #[.int .i64 y.kind,.string y.text,.bool y.spaced,.slice an (h.foldl ins y.hidden).length cn] 32)) [.int .i64 y.kind,.string y.text,.bool y.spaced,.slice an (h.foldl ins y.hidden).length cn] (ZdB h y) fn):=⟨_,rfl,rG.out.1,rG.out.2,(Zaa sStr).below HN4.out bl⟩;have bg:=(hb.trans (tW.mono hb.size)).trans (bl.mono (hb.trans (tW.mono hb.size)).size);have om:Hid (∀b∈fn,(Value.slice ao k co).ownBlock≠some b):=λb hb h=>by
    have h1:=(gJ.out b h).2;have h2:=dY.out b hb;omega
   clear HR HN4 bx tW bl;go_wp2_with (at_builtin;refine ZaT (X:=[(⟨[.int .i64 y.kind,.string y.text,.bool y.spaced,.slice an (h.foldl ins y.hidden).length cn],ZdB h y,fn⟩:Elem Tok)]) ti_tok rfl (by decide) _ rfl (.tmp 26) (.tmp 28) rfl w.heap.size (.slice ao k co) rfl eO.out ⟨w4.heap.size,0,none⟩ 1 1 rfl rfl (λx hx=>by obtain rfl:=Qm hx;exact⟨rfl,RX.out,om.out⟩) (λx hx=>by obtain rfl:=Qm hx;exact ZaX _ _ _ _ RX.out) (λj u hj=>by rw[ZaZ,QX,cell_of_row _ _ _ _ _ _ fW.out];simpa using hj) (by have:=bC.out;unfold maxLen;omega) (by have:=bC.out;omega) bg.size ?_;intro v6 w6 kr d9 pV)
   have bq:=bg.grown d9 bg.size (λb hb=>(gJ.out b hb).1);have jQ:=Qh kr;have HLO6:Hid (∀x∈O++[(⟨[.int .i64 y.kind,.string y.text,.bool y.spaced,.slice an (h.foldl ins y.hidden).length cn],ZdB h y,fn⟩:Elem Tok)],∀b∈x.fp,w.heap.size<=b):=λx hx b aE=>by
    rcases Qa hx with hx | hx
    ·exact HLO.out x hx b aE
    ·rw[Qm hx]at aE;have:=dY.out b aE;omega
   have Av:Hid ((O++[(⟨[.int .i64 y.kind,.string y.text,.bool y.spaced,.slice an (h.foldl ins y.hidden).length cn],ZdB h y,fn⟩:Elem Tok)]).map (·.d)=(l.take (k+1)).map (ZdB h)):=by
    show _=_;rw[QG,HD.out,Qb af,QG,HY.out];rfl
   clear kr d9 pV;go_roundw;case rel=>exact⟨k+1,_,by omega,by go_num,Av,jQ,HLO6,bq⟩
   case measure=>simp[intOf];omega
  ·have hkl:k=l.length:=(by omega);obtain⟨An,rO,sO,-⟩:=HR.out.read;have xN:Hid (O.map (·.d)=l.map (ZdB h)):=(by show _=_;rw[HD.out,Qe (by omega)]);have nd:Hid (∀b∈An,w.heap.size<=b):=λb aE=>by
    rcases sO b aE with h1 | ⟨x,hx,h1⟩
    ·exact(HR.out.mine b h1).1
    ·exact HLO.out x hx b h1
   have yu:=Zfn _ _ An wr sp (by rw[QH];have:=bC.out;omega) rO;have jU:=Qh yu;clear yu rO sO hkl HR HD HLO;go_wp2_with fail
   refine jU.out.mono ?_;rintro e w5⟨v5,L5,rfl,eO,y7,sD,bg⟩;have fM:=Qh (eO.lower (base':=w.heap.size) hb.size);have pS:Hid (L5.map (·.d)=Zbm l h sp):=(by show _=_;rw[y7,xN.out];rfl);have tB:Hid (∀x∈L5,∀b∈x.fp,w.heap.size<=b):=λx hx b aE=>nd.out b (sD x hx b aE);have kf:=hb.trans (bg.mono hb.size);obtain⟨a5,c5,mT,-⟩:=eO.val;subst mT;clear eO y7 sD jU;go_wp2;go_ret;exact⟨_,L5,rfl,fM.out,pS.out,tB.out,kf⟩
theorem ZqY {l:List Tok}(hk:k<l.length)(d:Int)(A:Zbe)(M:List Tok):
  Zax (l.drop k) d A M k=if d+Zbc l[k]=0 then (A++[M],k+1,true) else if d+Zbc l[k]=1/\isM l[k] [44]=true then Zax (l.drop (k+1)) (d+Zbc l[k]) (A++[M]) [] (k+1) else Zax (l.drop (k+1)) (d+Zbc l[k]) A (M++[l[k]]) (k+1):=by
 rw[Qj hk];rfl
theorem splK_end {l:List Tok}(hk:l.length<=k)(d:Int)(A:Zbe)(M:List Tok):Zax (l.drop k) d A M k=(A,0,false):=by rw[List.drop_of_length_le hk];rfl
theorem ZiC (h:isM t [40]=true):Zbc t=1:=by unfold Zbc;rw[if_pos h]
theorem ZqZ (h:isM t [40]=false)(h2:isM t [41]=true):Zbc t=-1:=by unfold Zbc;rw[if_neg (by simp[h]),if_pos h2]
theorem Zq0 (h:isM t [40]=false)(h2:isM t [41]=false):Zbc t=0:=by unfold Zbc;rw[if_neg (by simp[h]),if_neg (by simp[h2])]
theorem opnK_ge (t:Tok):-1<=Zbc t/\Zbc t<=1:=by unfold Zbc;split;omega;split <;> omega
theorem open_com (h:isM t [40]=true):isM t [44]=false:=by
 have e:=ZhG h;cases h2:isM t [44]
 ·rfl
 ·have e2:=ZhG h2;rw[e]at e2;exact absurd e2 (by decide)
structure SplN (base:Nat)(fp:List Nat)(va:Value)(A:List (Elem (List Tok)))(vm:Value)(M:List (Elem Tok))(w:World):Prop where
 a:RowN sToks base 24 va A w
 m:RowN sTok base 32 vm M w
 ne:∀g,va.ownBlock=some g->vm.ownBlock≠some g
 am:∀x∈A,∀b∈x.fp,vm.ownBlock≠some b
 mlo:∀x∈M,∀b∈x.fp,b<base/\b∈fp
 alo:∀x∈A,∀b∈x.fp,b∈fp\/base<=b
section
variable {base:Nat}{fp:List Nat}{va vm va' vm':Value}{A:List (Elem (List Tok))}{M:List (Elem Tok)}{w w':World}
theorem SplN.below (h:SplN base fp va A vm M w)(hb:Below w.heap.size w w'):SplN base fp va A vm M w':=⟨h.a.below hb,h.m.below hb,h.ne,h.am,h.mlo,h.alo⟩
theorem SplN.arg (h:SplN base fp va A vm M w):∃mD,sToks.R w [vm] (M.map (·.d)) mD/\(∀b∈mD,va.ownBlock≠some b)/\∀b∈mD,b∈fp\/base<=b:=by
 obtain⟨mD,h1,h2,-⟩:=h.m.read;refine⟨mD,h1,λb hb hv=>?_,λb hb=>?_⟩
 ·rcases h2 b hb with h0 | ⟨x,hx,h0⟩
  ·exact h.ne b hv h0
  ·have:=(h.mlo x hx b h0).1;have:=(h.a.mine b hv).1;omega
 ·rcases h2 b hb with h0 | ⟨x,hx,h0⟩
  ·exact .inr (h.m.mine b h0).1
  ·exact .inl (h.mlo x hx b h0).2
theorem SplN.push (h:SplN base fp va A vm M w){x:Elem Tok}(hr:RowN sTok base 32 vm' (M++[x]) w')(hg:w.grownBy w' vm.ownBlock)(hp:vm'.ownBlock=vm.ownBlock\/vm'.ownBlock=some w.heap.size)(hx:∀b∈x.fp,b<base/\b∈fp):SplN base fp va A vm' (M++[x]) w' where
 a:=h.a.same (λg hgv=>hg.block g (h.a.mine g hgv).2 λe=>h.ne g hgv e.symm) (λy hy b hb=>hg.block b (sToks.lt (h.a.el y hy) b hb) λe=>h.am y hy b hb e.symm)
 m:=hr
 ne:=λg h1 h2=>by
  rcases hp with e | e
  ·exact h.ne g h1 (by rw[←e];exact h2)
  ·rw[e,Qi]at h2;have:=(h.a.mine g h1).2;omega
 am:=λy hy b hb h2=>by
  rcases hp with e | e
  ·exact h.am y hy b hb (by rw[←e];exact h2)
  ·rw[e,Qi]at h2;have:=sToks.lt (h.a.el y hy) b hb;omega
 mlo:=λy hy b hb=>by
  rcases Qa hy with hy | hy
  ·exact h.mlo y hy b hb
  ·rw[Qm hy]at hb;exact hx b hb
 alo:=h.alo
theorem SplN.next (h:SplN base fp va A vm M w){y:Elem (List Tok)}(hr:RowN sToks base 24 va' (A++[y]) w')(hy:∀b∈y.fp,b∈fp\/base<=b)(hs:base<=w'.heap.size):SplN base fp va' (A++[y]) (.slice (some ⟨w'.heap.size,0,none⟩) 0 0) [] (w'.alloc (.cells #[] 32)) where
 a:=hr.below (Zab _ _)
 m:=RowN.lit0 sTok 32 w' hs
 ne:=λg h1 h2=>by simp only[Value.ownBlock,Qi]at h2;have:=(hr.mine g h1).2;omega
 am:=λx hx b hb h2=>by simp only[Value.ownBlock,Qi]at h2;have:=sToks.lt (hr.el x hx) b hb;omega
 mlo:=by simp
 alo:=λx hx b hb=>by
  rcases Qa hx with hx | hx
  ·exact h.alo x hx b hb
  ·rw[Qm hx]at hb;exact hy b hb
end
def Zlq (fp:List Nat)(r:Zbe × Nat × Bool)(w:World)(e:Ending)(w':World):Prop:=
 ∃(v:Value) (A:List (Elem (List Tok))),e=.returned (.tuple #[v,.int .i64 (r.2.1:Nat),.bool r.2.2])/\RowN sToks w.heap.size 24 v A w'/\A.map (·.d)=r.1/\(∀x∈A,∀b∈x.fp,b∈fp\/w.heap.size<=b)/\Below w.heap.size w w'
theorem ZmD (v:Value)(l:List Tok)(fp:List Nat)(n:Nat)(w:World)(hl:l.length<=1000)(hn:n<l.length)(ho:isM l[n] [40]=true)(H:(Zaa sTok).R w [v] l fp):
  Calls Tryz.prog 98 #[v,.int .i64 n] w (Zlq fp (Zax (l.drop (n+1)) 1 [] [] (n+1)) w):=by
 have d7:=Qh ((Zaa sTok).lt H);obtain⟨a,cap,rfl,hc,hm,ai⟩:=Zac H;unfold maxLen at hm;have HK:=Qh H;have kw:=Qh ho;clear H ho;obtain⟨r,HR⟩:∃r,Hid (r=Zax (l.drop (n+1)) 1 [] [] (n+1)):=⟨_,rfl⟩;rw[←HR.out];have b0:=Zab w (.cells #[] 24);have b1:=b0.trans ((Zab (w.alloc (.cells #[] 24)) (.cells #[] 32)).mono b0.size);have cC:(w.alloc (.cells #[] 24)).heap.size=w.heap.size+1:=QR _;have vD:Hid (SplN w.heap.size fp (.slice (some ⟨w.heap.size,0,none⟩) 0 0) [] (.slice (some ⟨w.heap.size+1,0,none⟩) 0 0) [] ((w.alloc (.cells #[] 24)).alloc (.cells #[] 32))):=by
  have h1:=RowN.lit0 sToks 24 w (QA _);have h2:=RowN.lit0 sTok 32 (w.alloc (.cells #[] 24)) (base:=w.heap.size) b0.size;rw[cC]at h2;exact⟨h1.below (Zab _ _),h2,λg q1 q2=>by simp only[Value.ownBlock,Qi]at q1 q2;omega,by simp,by simp,by simp⟩
 clear b0 cC;go_enter Tryz.func98,Tryz.ntmps98;go_wp2;go_loopw [7,8,9,10] (λva vm d i wr=>∃(k:Nat) (dd:Int) (A:List (Elem (List Tok))) (M:List (Elem Tok)),n<=k/\k<=l.length/\i=.int .i64 k/\d=.int .i64 dd/\0<=dd/\dd<=k/\A.length<=k/\M.length<=k/\Hid (SplN w.heap.size fp va A vm M wr)/\Hid ((k=n/\dd=0/\A=[]/\M=[])\/(n<k/\1<=dd/\Zax (l.drop k) dd (A.map (·.d)) (M.map (·.d)) k=r))/\Below w.heap.size w wr) (λ_ _ _ i _=>l.length-(intOf i).toNat)
 case atStart=>exact⟨n,0,[],[],QA _,by omega,rfl,rfl,by omega,by omega,by simp,by simp,vD,.inl ⟨rfl,rfl,rfl,rfl⟩,b1⟩
 case round =>
  clear vD b1;obtain⟨k,dd,A,M,qO,hk,rfl,rfl,gO,Bi,hAk,hMk,HS,HI,hb⟩:=hrel;obtain⟨aa,ca,gU,-⟩:=HS.out.a.val;obtain⟨am,cm,hvm,-⟩:=HS.out.m.val;subst gU hvm;by_cases af:k<l.length
  ·obtain⟨b1,o1,-,rfl,-,-,-⟩:=ai (by omega);obtain⟨xa,xc,xf,x0,x1,x2,x3,xR,bu,kT⟩:=ZaO HK.out af;replace x0:=(hb.cell (p:=⟨b1,o1+k*4,none⟩) bu).trans x0;replace x1:=(hb.cell (p:=⟨b1,o1+k*4+1,none⟩) bu).trans x1;replace x2:=(hb.cell (p:=⟨b1,o1+k*4+2,none⟩) bu).trans x2;replace x3:=(hb.cell (p:=⟨b1,o1+k*4+3,none⟩) bu).trans x3;have XR:=Qh (sTok.below xR hb);have ls:Hid (∀b∈xf,b<w.heap.size/\b∈fp):=λb hb=>⟨d7.out b (kT b hb),kT b hb⟩;have bx:=Zab wr (.cells #[.int .i64 l[k].kind,.string l[k].text,.bool l[k].spaced,.slice xa l[k].hidden.length xc] 32);have HX:=Qh (JS wr (.cells #[.int .i64 l[k].kind,.string l[k].text,.bool l[k].spaced,.slice xa l[k].hidden.length xc] 32));have y8:Hid (n<k->Zax (l.drop k) dd (A.map (·.d)) (M.map (·.d)) k=r):=λh=>by
    rcases HI.out with⟨h1,-⟩ | ⟨-,-,h2⟩
    ·omega
    ·exact h2
   have hdn:n<k->1<=dd:=λh=>by
    rcases HI.out with⟨h1,-⟩ | ⟨-,h2,-⟩
    ·omega
    ·exact h2
   have tX:Hid (k=n->dd=0/\A=[]/\M=[]/\isM l[k] [40]=true):=λh=>by
    rcases HI.out with⟨-,h2,h3,h4⟩ | ⟨h1,-⟩
    ·subst h;exact⟨h2,h3,h4,kw.out⟩
    ·omega
   have jU:=Qh (ZqY af dd (A.map (·.d)) (M.map (·.d)));have hoge:=opnK_ge l[k];clear xR kT ai HI
   go_upto_block 2 with fail
   clear x0 x1 x2 x3;have gN:=hb.size;have oP:=Qh (HS.out.below bx);have aD:=hb.trans (bx.mono hb.size);have XR2:=Qh (sTok.below XR.out bx);have bK:=mlt HX.out;generalize (wr.alloc (.cells #[.int .i64 l[k].kind,.string l[k].text,.bool l[k].spaced,.slice xa l[k].hidden.length xc] 32))=W2 at *;generalize l[k]=y at *;clear XR HS bx hb;have HQ:=Qh (λ(s:ByteArray) (U:World) (hU:Below W2.heap.size W2 U)=>Zed _ y xf U s (sTok.below XR2.out hU));have rH:Hid ((decide (y.kind=4) && (y.text.toList==(⟨#[40]⟩:ByteArray).toList))=isM y [40]):=(by show _=_;rw[show(⟨#[40]⟩:ByteArray).toList=[40] by rw[QB]];rfl);have Bt:Hid ((decide (y.kind=4) && (y.text.toList==(⟨#[41]⟩:ByteArray).toList))=isM y [41]):=(by show _=_;rw[show(⟨#[41]⟩:ByteArray).toList=[41] by rw[QB]];rfl);have Bu:Hid ((decide (y.kind=4) && (y.text.toList==(⟨#[44]⟩:ByteArray).toList))=isM y [44]):=(by show _=_;rw[show(⟨#[44]⟩:ByteArray).toList=[44] by rw[QB]];rfl);have xO:=Qh (λ(U:World) (hU:Below W2.heap.size W2 U)=>HQ.out ⟨#[40]⟩ U hU);have pt:=Qh (λ(U:World) (hU:Below W2.heap.size W2 U)=>HQ.out ⟨#[41]⟩ U hU);have nH:=Qh (λ(U:World) (hU:Below W2.heap.size W2 U)=>HQ.out ⟨#[44]⟩ U hU);rw[rH.out]at xO;rw[Bt.out]at pt;rw[Bu.out]at nH;clear HQ rH Bt Bu;go_cut [9] from 15 to 63 (λd wx=>d=.int .i64 (dd+Zbc y)/\Below W2.heap.size W2 wx)
   case first =>
    obtain⟨t0,t1,t2,t3⟩:=Q4 HX.out
    go_upto_if 25 with(go_at_call 45;refine(xO.out _ (QD _ _)).mono ?_;rintro e u1⟨rfl,g1⟩)
    have dG:=Qh (Zag HX.out g1);clear t0 t1 t2 t3;obtain⟨t0,t1,t2,t3⟩:=Q4 dG.out;cases q9:isM y [40]
    ·cases y9:isM y [41]
     ·have HF:=Qh (Zq0 q9 y9);rw[y9]at pt;clear q9 y9;go_wp2_with fail
      refine(pt.out _ g1).mono ?_;rintro e u2⟨rfl,g2⟩;go_wp2;go_meet;case rel=>exact⟨by rw[HF.out];simp,g1.trans (g2.mono g1.size)⟩
     ·have HF:=Qh (ZqZ q9 y9);have hwr1:IntKind.i64.wrap (dd-1)=dd-1:=QF _ (by omega);rw[y9]at pt;clear q9 y9;go_wp2_with fail
      refine(pt.out _ g1).mono ?_;rintro e u2⟨rfl,g2⟩;go_wp2;go_meet;case rel=>exact⟨by rw[HF.out];rfl,g1.trans (g2.mono g1.size)⟩
    ·have HF:=Qh (ZiC q9);have hwr1:IntKind.i64.wrap (dd+1)=dd+1:=QF _ (by omega);clear q9;go_wp2;go_meet;case rel=>exact⟨by rw[HF.out],g1⟩
   obtain⟨rfl,ed⟩:=hcut;generalize wc=W3 at *;have bB:=Qh (Zag HX.out ed);have sq:=Qh (oP.out.below ed);have aC:=aD.trans (ed.mono aD.size);have XR3:=Qh (sTok.below XR2.out ed);have bG:IntKind.i64.wrap ((k:Int)+1)=(k:Int)+1:=QF _ (by omega);clear xO pt oP XR2 HX;obtain⟨mD,rm,xE,nm2⟩:=sq.out.arg;have RM:=Qh rm;have NM1:=Qh xE;have NM2:=Qh nm2;clear rm xE nm2;by_cases h0:dd+Zbc y=0
   ·have kX:n<k:=by
     rcases Nat.lt_or_eq_of_le qO with h | h
     ·exact h
     ·obtain⟨q1,-,-,q4⟩:=tX.out h.symm;rw[ZiC q4,q1]at h0;omega
    have HF:Hid (r=((A.map (·.d))++[M.map (·.d)],k+1,true)):=(by show _=_;rw[←y8.out kX,jU.out,if_pos h0]);have e0:(dd+Zbc y==0)=true:=(by simp[h0]);generalize dd+Zbc y=d1 at *;have bl:=Zab W3 (.cells #[.slice am M.length cm] 24);have HL:=Qh (JS W3 (.cells #[.slice am M.length cm] 24));have iM:=Qh (sq.out.below bl);have xP:=Qh (sToks.below RM.out bl);have aM:=aC.trans (bl.mono aC.size);clear jU y8 tX sq bl;go_wp2_with (at_builtin;refine ZaT (X:=[(⟨[.slice am M.length cm],M.map (·.d),mD⟩:Elem (List Tok))]) Zf4 rfl (by decide) _ rfl (.tmp 38) (.tmp 40) rfl w.heap.size (.slice aa A.length ca) rfl iM.out.a ⟨W3.heap.size,0,none⟩ 1 1 rfl rfl (λx hx=>by obtain rfl:=Qm hx;exact⟨rfl,xP.out,NM1.out⟩) (λx hx u hu=>by obtain rfl:=Qm hx;rw[Qm hu];rfl) (λj u hj=>by rw[ZaZ,QX,cell_of_row _ _ _ _ _ _ HL.out];simpa using hj) (by unfold maxLen;omega) (by omega) aM.size ?_;intro v5 w5 cz cG eq;have bg:=aM.grown cG aM.size (λb hb=>(iM.out.a.mine b hb).1);have eO:=Qh cz;obtain⟨a5,c5,mT,-⟩:=cz.val;rw[show(A++[(⟨[.slice am M.length cm],M.map (·.d),mD⟩:Elem (List Tok))]).length=A.length+1 by simp]at mT;subst mT;clear cz cG eq)
    go_ret3
    exact⟨.slice a5 (A.length+1) c5,_,by rw[HF.out];rfl,eO.out,by rw[HF.out,QG];rfl,(λx hx b hb=>by
     rcases Qa hx with hx | hx
     ·exact iM.out.alo x hx b hb
     ·rw[Qm hx]at hb;exact NM2.out b hb),bg⟩
   have e0:(dd+Zbc y==0)=false:=(by simpa using h0);by_cases gL:dd+Zbc y=1/\isM y [44]=true
   ·obtain⟨h1,vE⟩:=gL;have kX:n<k:=by
     rcases Nat.lt_or_eq_of_le qO with h | h
     ·exact h
     ·obtain⟨-,-,-,q4⟩:=tX.out h.symm;rw[open_com q4]at vE;exact absurd vE (by simp)
    have HF:Hid (Zax (l.drop (k+1)) 1 ((A.map (·.d))++[M.map (·.d)]) [] (k+1)=r):=(by show _=_;rw[←y8.out kX,jU.out,if_neg h0,if_pos ⟨h1,vE⟩,h1]);rw[vE]at nH;rw[h1]at e0 ⊢;clear h0 h1 vE jU y8 tX;obtain⟨t0,t1,t2,t3⟩:=Q4 bB.out;go_wp2_with fail
    refine(nH.out _ ed).mono ?_;rintro e u4⟨rfl,g4⟩;have bl:=Zab u4 (.cells #[.slice am M.length cm] 24);have HL:=Qh (JS u4 (.cells #[.slice am M.length cm] 24));have iM:=Qh ((sq.out.below g4).below bl);have xP:=Qh (sToks.below (sToks.below RM.out g4) bl);have aM:=(aC.trans (g4.mono aC.size)).trans (bl.mono (aC.trans (g4.mono aC.size)).size);clear t0 t1 t2 t3 sq bl g4 nH;go_wp2_with (at_builtin;refine ZaT (X:=[(⟨[.slice am M.length cm],M.map (·.d),mD⟩:Elem (List Tok))]) Zf4 rfl (by decide) _ rfl (.tmp 51) (.tmp 53) rfl w.heap.size (.slice aa A.length ca) rfl iM.out.a ⟨u4.heap.size,0,none⟩ 1 1 rfl rfl (λx hx=>by obtain rfl:=Qm hx;exact⟨rfl,xP.out,NM1.out⟩) (λx hx u hu=>by obtain rfl:=Qm hx;rw[Qm hu];rfl) (λj u hj=>by rw[ZaZ,QX,cell_of_row _ _ _ _ _ _ HL.out];simpa using hj) (by unfold maxLen;omega) (by omega) aM.size ?_;intro v5 w5 cz cG eq;have bg:=aM.grown cG aM.size (λb hb=>(iM.out.a.mine b hb).1);have fG:=Qh (iM.out.next cz NM2.out bg.size);have bq:=bg.trans ((Zab w5 (.cells #[] 32)).mono bg.size);clear cz cG eq)
    go_roundw;case rel=>exact⟨k+1,1,_,[],by omega,by omega,by go_num,rfl,by omega,by omega,by simp;omega,by simp,fG,.inr ⟨by omega,by omega,by rw[QG];exact HF.out⟩,bq⟩
    case measure=>simp[intOf];omega
   have HNC:Hid (¬(dd+Zbc y=1/\isM y [44]=true)):=gL;have HSE:Hid (n<k->Zax (l.drop (k+1)) (dd+Zbc y) (A.map (·.d)) ((M.map (·.d))++[y]) (k+1)=r):=λh=>(by rw[←y8.out h,jU.out,if_neg h0,if_neg gL]);have yB:Hid (k=n->dd+Zbc y=1/\A=[]/\M=[]):=λh=>by
    obtain⟨q1,q2,q3,q4⟩:=tX.out h;exact⟨by rw[q1,ZiC q4];rfl,q2,q3⟩
   have ta:1<=dd+Zbc y:=by
    rcases Nat.lt_or_eq_of_le qO with h | h
    ·have:=hdn h;omega
    ·have:=(yB.out h.symm).1;omega
   have xN:Hid (dd+Zbc y<=(k:Int)+1):=(by show _<=_;omega);clear jU y8 tX gL h0;go_upto_region 14 with fail
   go_cut [44] from 15 to 63 (λd wx=>d=.bool false/\Below W3.heap.size W3 wx)
   case first =>
    obtain⟨t0,t1,t2,t3⟩:=Q4 bB.out;by_cases h1:dd+Zbc y=1
    ·have e1:(dd+Zbc y==1)=true:=(by simp[h1]);have vE:isM y [44]=false:=by
      cases h:isM y [44]
      ·rfl
      ·exact absurd ⟨h1,h⟩ HNC.out
     rw[vE]at nH;clear vE h1;generalize dd+Zbc y=d1 at *;go_wp2_with fail
     refine(nH.out _ ed).mono ?_;rintro e u4⟨rfl,g4⟩;go_wp2;go_meet;case rel=>exact⟨by trivial,g4⟩
    ·have e1:(dd+Zbc y==1)=false:=(by simp[h1]);clear h1;generalize dd+Zbc y=d1 at *;go_wp2;go_meet;case rel=>exact⟨by trivial,QD _ _⟩
   obtain⟨rfl,dj⟩:=hcut;generalize wc=W4 at *;have dJ:=Qh (Zag bB.out dj);have iM:=Qh (sq.out.below dj);have aM:=aC.trans (dj.mono aC.size);have XR4:=Qh (sTok.below XR3.out dj);clear sq XR3 bB nH RM NM1 NM2;rcases Nat.lt_or_eq_of_le qO with kX | kX
   ·have HF:=Qh (HSE.out kX);have e3:((n:Int)<(k:Int)):=(by omega);obtain⟨t0,t1,t2,t3⟩:=Q4 dJ.out;have bl:=Zab W4 (.cells #[.int .i64 y.kind,.string y.text,.bool y.spaced,.slice xa y.hidden.length xc] 32);have HL:=Qh (JS W4 (.cells #[.int .i64 y.kind,.string y.text,.bool y.spaced,.slice xa y.hidden.length xc] 32));have fG:=Qh (iM.out.below bl);have sP:=Qh (sTok.below XR4.out bl);have bg:=aM.trans (bl.mono aM.size);have zb:=Qh (λb hb=>(iM.out.m.mine b hb).1);clear HSE yB iM XR4 bl;go_wp2_with (at_builtin;refine ZaT (X:=[(⟨[.int .i64 y.kind,.string y.text,.bool y.spaced,.slice xa y.hidden.length xc],y,xf⟩:Elem Tok)]) ti_tok rfl (by decide) _ rfl (.tmp 60) (.tmp 62) rfl w.heap.size (.slice am M.length cm) rfl fG.out.m ⟨W4.heap.size,0,none⟩ 1 1 rfl rfl (λx hx=>by obtain rfl:=Qm hx;exact⟨rfl,sP.out,λb hb h=>by have h1:=(ls.out b hb).1;have h2:=zb.out b h;omega⟩) (λx hx=>by obtain rfl:=Qm hx;exact ZaX _ _ _ _ sP.out) (λj u hj=>by rw[ZaZ,QX,cell_of_row _ _ _ _ _ _ HL.out];simpa using hj) (by unfold maxLen;omega) (by omega) bg.size ?_;intro v6 w6 kr d9 pV;have bq:=bg.grown d9 bg.size (λb hb=>(fG.out.m.mine b hb).1);have HS6:=Qh (fG.out.push kr d9 pV ls.out);clear kr d9 pV)
    go_roundw;case rel=>exact⟨k+1,dd+Zbc y,A,_,by omega,by omega,by go_num,rfl,by omega,by have:=xN.out;omega,by omega,by simp;omega,HS6,.inr ⟨by omega,by omega,by rw[QG];exact HF.out⟩,bq⟩
    case measure=>simp[intOf];omega
   ·obtain⟨q1,q2,q3⟩:=yB.out kX.symm;have e3:¬((n:Int)<(k:Int)):=(by omega);subst q2 q3;have fe:Hid (Zax (l.drop (k+1)) 1 (([]:List (Elem (List Tok))).map (·.d)) (([]:List (Elem Tok)).map (·.d)) (k+1)=r):=(by show _=_;rw[HR.out,kX];rfl);rw[q1];clear q1 HSE yB kX;go_wp2;go_roundw;case rel=>exact⟨k+1,1,[],[],by omega,by omega,by go_num,rfl,by omega,by omega,by simp,by simp,iM,.inr ⟨by omega,by omega,fe.out⟩,aM⟩
    case measure=>simp[intOf];omega
  ·have HF:Hid (r=(A.map (·.d),0,false)):=by
    rcases HI.out with⟨h1,-⟩ | ⟨_,_,h⟩
    ·omega
    ·rw[splK_end (by omega)]at h;exact h.symm
   have HA:=Qh HS.out.a;have HLO:=Qh HS.out.alo;clear HI HR;go_wp2
   go_ret3
   exact⟨_,A,by rw[HF.out];rfl,HA.out,by rw[HF.out],HLO.out,hb⟩
theorem ti_rows:TI Tryz.prog 116 24 (.slice none 0 0) 1 24:=⟨by kernel_rfl,by kernel_rfl⟩
def OwnRows (l:List (List Tok))(w:World)(e:Ending)(w':World):Prop:=∃v fp,e=.returned v/\(Zaa (Zaa sTok)).R w' [v] l fp/\(∀b∈fp,w.heap.size<=b)/\Below w.heap.size w w'
def ZiD (l:List (List Tok)):Prop:=∀k,(hk:k<l.length)->l[k].length<=1048576/\∀j,(hj:j<l[k].length)->l[k][j].hidden.length<=2000000
theorem Ze6 (v:Value)(l:List (List Tok))(fp:List Nat)(w:World)(hl:l.length<=1048576)(hx:ZiD l)(H:(Zaa (Zaa sTok)).R w [v] l fp):
  Calls Tryz.prog 101 #[v] w (OwnRows l w):=by
 have HH:=Qh H;obtain⟨a,cap,rfl,hc,hm,ai⟩:=Zac H;unfold maxLen at hm;clear H;have gX:=Qh (RowN.lit0 (Zaa sTok) 24 w (QA _));have bH:=Zab w (.cells #[] 24);have HX:=Qh hx;clear hx;go_enter Tryz.func101,Tryz.ntmps101;go_wp2;go_loopw [3,4] (λo i wr=>∃(k:Nat) (L:List (Elem (List Tok))),k<=l.length/\i=.int .i64 k/\Hid (RowN (Zaa sTok) w.heap.size 24 o L wr)/\Hid (L.map (·.d)=l.take k)/\Hid (∀x∈L,∀b∈x.fp,w.heap.size<=b)/\Below w.heap.size w wr) (λ_ i _=>l.length-(intOf i).toNat)
 case atStart=>exact⟨0,[],by omega,rfl,gX.out,rfl,(λx hx=>by simp at hx),bH⟩
 case round =>
  clear gX bH;obtain⟨k,L,hk,rfl,HR,HD,HLO,hb⟩:=hrel;obtain⟨ao,co,rfl,-⟩:=HR.out.val;by_cases af:k<l.length
  ·obtain⟨bb,ob,-,rfl,-,-,-⟩:=ai (by omega);obtain⟨aj,cj,fj,dq,Rj,bu,-⟩:=Zdd HH.out af;have c0:wr.cell? ⟨bb,ob+k,none⟩=some _:=(hb.cell (p:=⟨bb,ob+k,none⟩) bu).trans dq;have HC:=Qh (Zbd _ l[k] fj wr (HX.out k af).1 (HX.out k af).2 ((Zaa sTok).below Rj hb));have yA:Hid (L.length=k):=(by have:=JY List.length HD.out;simp at this;show _=_;omega);clear dq Rj ai;go_wp2_with fail
   refine HC.out.mono ?_;rintro e w2⟨v2,f2,rfl,R2,so,-,aF⟩;obtain⟨a2,c2,rfl,-⟩:=Zac R2;have jk:=HR.out.mine;have bH:=Zab w2 (.cells #[.slice a2 l[k].length c2] 24);have ij:=Qh (HR.out.below (aF.trans (bH.mono aF.size)));have aD:=hb.trans ((aF.trans (bH.mono aF.size)).mono hb.size);have HE:=Qh ((Zaa sTok).below R2 bH);have nn:Hid (∀b∈f2,(Value.slice ao L.length co).ownBlock≠some b):=λb aE h=>(by have h1:=jk b h;have h2:=so b aE;omega);have HLO2:Hid (∀b∈f2,w.heap.size<=b):=λb aE=>(by have h1:=so b aE;have h2:=hb.size;omega);obtain⟨N,HN⟩:∃N:Nat,Hid (N=l[k].length):=⟨l[k].length,Qh rfl⟩;clear c0 HC R2 so jk aF bH HR
   go_wp2_with (at_builtin;refine ZaT (X:=[(⟨[.slice a2 l[k].length c2],l[k],f2⟩:Elem (List Tok))]) ti_rows rfl (by decide) _ rfl (.tmp 12) (.tmp 18) rfl w.heap.size (.slice ao L.length co) rfl ij.out ⟨w2.heap.size,0,none⟩ 1 1 rfl rfl (λx hx=>by obtain rfl:=Qm hx;exact⟨rfl,HE.out,nn.out⟩) (λx hx=>by obtain rfl:=Qm hx;simp[Value.oneCell']) (λj u hj=>by
           rw[JN,QX,Qy _ _ _ _ rfl]
           simpa using hj) (by unfold maxLen;have:=yA.out;omega) (by have:=yA.out;omega) aD.size ?_;intro v3 w3 gj cX yJ)
   have aC:=aD.grown cX aD.size (λb hb=>(ij.out.mine b hb).1);have AI:=Qh gj;have lC:Hid ((L++[(⟨[.slice a2 l[k].length c2],l[k],f2⟩:Elem (List Tok))]).map (·.d)=l.take (k+1)):=by
    show _=_;rw[QG,HD.out,Qb af];rfl
   have HLO3:Hid (∀x∈L++[(⟨[.slice a2 l[k].length c2],l[k],f2⟩:Elem (List Tok))],∀b∈x.fp,w.heap.size<=b):=λx hx=>by
    rcases Qa hx with hx | hx
    ·exact HLO.out x hx
    ·obtain rfl:=Qm hx;exact HLO2.out
   clear gj cX yJ;go_roundw;case rel=>exact⟨k+1,_,by omega,by go_num,AI.out,lC.out,HLO3.out,aC⟩
   case measure=>simp[intOf];omega
  ·obtain⟨gm,hr,bO,-⟩:=HR.out.read;have hd:=HD.out;rw[Qe (by omega)]at hd;rw[hd]at hr;have fe:=Qh hr;have HF:Hid (∀b∈gm,w.heap.size<=b):=λb aE=>by
    rcases bO b aE with h | ⟨x,hx,h⟩
    ·exact(HR.out.mine b h).1
    ·exact HLO.out x hx b h
   clear hr bO hd;go_wp2;go_ret;exact⟨_,gm,rfl,fe.out,HF.out,hb⟩
def ZkL (m:DMacro)(raw ready:List (List Tok))(w:World)(e:Ending)(w':World):Prop:=
 ∃(v:Value) (fp:List Nat),e=.returned (.tuple #[v,.bool (Zaz m raw ready).2])/\(Zaa sTok).R w' [v] (Zaz m raw ready).1 fp/\(∀b∈fp,w.heap.size<=b)/\Below w.heap.size w w'
variable {m:DMacro}
theorem ZdW {raw ready:List (List Tok)}{w W:World}(h:Zaz m raw ready=([],false))(hb:Below w.heap.size w W):ZkL m raw ready w (.returned (.tuple #[.slice (some ⟨W.heap.size,0,none⟩) 0 0,.bool false])) (W.alloc (.cells #[] 32)):=
 ⟨_,[],by rw[h],by rw[h];exact Zao _ _ _ _ (by simp),by simp,hb.alloc hb.size _⟩
theorem ZjP {a:List (List Tok)}(h:a.length≠m.params.length):ZaG m a=false:=by unfold ZaG;rw[JQ h];rfl
theorem ZjQ {a:List (List Tok)}{k:Nat}(hk:k<a.length)(h:Zam a[k]=false):ZaG m a=false:=by
 unfold ZaG;rw[Bool.and_eq_false_iff];exact .inr (List.all_eq_false.2 ⟨_,QE hk,by simp[h]⟩)
theorem ZjR {a:List (List Tok)}(hl:a.length=m.params.length)(h:∀k,(hk:k<a.length)->Zam a[k]=true):ZaG m a=true:=by
 unfold ZaG;rw[QI,JT,Qk];exact⟨hl,λl hl=>by obtain⟨k,hk,rfl⟩:=QY hl;exact h k hk⟩
theorem ZgN (eE:List Value)(m:DMacro)(eV:List Nat)(vr vy:Value)(raw ready:List (List Tok))(gm ol:List Nat)(w:World)(hm:ZfX m)(rI:raw.length<=1048576)(hly:ready.length<=1048576)(wC:ZiD raw)(hsy:ZiD ready)
  (HM:sMacro.R w eE m eV) (Hr:(Zaa (Zaa sTok)).R w [vr] raw gm) (Hy:(Zaa (Zaa sTok)).R w [vy] ready ol) :
  Calls Tryz.prog 71 #[.agg eE.toArray,vr,vy] w (ZkL m raw ready w):=by
 have gb:=HM;obtain⟨h2,h3,q2,q3,rfl,-,K2,K3,-⟩:=HM;obtain⟨a2,c2,rfl,-⟩:=Zaf K2;obtain⟨a3,c3,rfl,-⟩:=Zac K3;have ky:=(Zaa (Zaa sTok)).lt Hr;have hyl:=(Zaa (Zaa sTok)).lt Hy;have b0:=Zab w (.cells #[.string m.name,.bool m.function,.slice a2 m.params.length c2,.slice a3 m.body.length c3] 56);have HX:=Qh (JS w (.cells #[.string m.name,.bool m.function,.slice a2 m.params.length c2,.slice a3 m.body.length c3] 56));have eL:=Qh (sMacro.below gb b0);have zd:=Qh ((Zaa (Zaa sTok)).below Hr b0);have ze:=Qh ((Zaa (Zaa sTok)).below Hy b0);have gP:(w.alloc (.cells #[.string m.name,.bool m.function,.slice a2 m.params.length c2,.slice a3 m.body.length c3] 56)).heap.size=w.heap.size+1:=QR _;have lm:=Qh gP;have hrn:w.heap.size∉gm:=λh=>Nat.lt_irrefl _ (ky _ h);have hyn:w.heap.size∉ol:=λh=>Nat.lt_irrefl _ (hyl _ h);clear K2 K3 gb Hr Hy gP ky hyl;go_enter Tryz.func71,Tryz.ntmps71;go_upto_region 1 with fail
 generalize (w.alloc (.cells #[.string m.name,.bool m.function,.slice a2 m.params.length c2,.slice a3 m.body.length c3] 56))=W1 at *;obtain⟨p0,p1,p2,p3⟩:=Q4 HX.out;go_wp2_with fail
 refine(ZeX _ m _ W1 hm.1 hm.2.1 hm.2.2 eL.out).mono ?_;rintro e w2⟨b2,b3,d2,d3,f2,rfl,R2,so,-,aF⟩;clear p0 p1 p2 p3;have cJ:=Qh (Zag HX.out aF);obtain⟨p0,pf0,p1,pf1,p2,pf2,p3,pf3⟩:=Q8 cJ.out;have bi:=lm.out;have iR:=aF.size;have jB:w.heap.size∉f2:=λh=>by have:=so _ h;omega
 have mG:=Qh (sMacro.set4R R2 jB (.string m.name) (.bool m.function) (.slice b2 m.params.length d2) (.slice b3 m.body.length d3));have Hr3:=Qh ((Zaa (Zaa sTok)).set4R ((Zaa (Zaa sTok)).below zd.out aF) hrn (.string m.name) (.bool m.function) (.slice b2 m.params.length d2) (.slice b3 m.body.length d3));have Hy3:=Qh ((Zaa (Zaa sTok)).set4R ((Zaa (Zaa sTok)).below ze.out aF) hyn (.string m.name) (.bool m.function) (.slice b2 m.params.length d2) (.slice b3 m.body.length d3));have bB:=Qh (Za2 cJ.out (.string m.name) (.bool m.function) (.slice b2 m.params.length d2) (.slice b3 m.body.length d3));have aQ:=ZaJ (b0.trans (aF.mono b0.size)) (QA w.heap.size) (.string m.name) (.bool m.function) (.slice b2 m.params.length d2) (.slice b3 m.body.length d3);unfold set4 at mG Hr3 Hy3 bB aQ;go_upto_region 2 with fail
 clear p0 p1 p2 p3 pf0 pf1 pf2 pf3 R2 so aF cJ HX eL zd ze b0 bi iR jB lm;generalize ((((w2.setCell ⟨w.heap.size,0,none⟩ (.string m.name)).setCell ⟨w.heap.size,1,none⟩ (.bool m.function)).setCell ⟨w.heap.size,2,none⟩ (.slice b2 m.params.length d2)).setCell ⟨w.heap.size,3,none⟩ (.slice b3 m.body.length d3))=W3 at *;go_wp2_with fail
 refine(Ze6 _ raw _ W3 rI wC Hr3.out).mono ?_;rintro e w4⟨vr2,fr2,rfl,RR4,-,aM⟩;obtain⟨ar,cr,rfl,-⟩:=Zac RR4;have hB4:=aQ.trans (aM.mono aQ.size);go_wp2_with fail
 refine(Ze6 _ ready _ w4 hly hsy ((Zaa (Zaa sTok)).below Hy3.out aM)).mono ?_;rintro e w5⟨vy2,fy2,rfl,RY5,-,bg⟩;obtain⟨ay,cy,rfl,hcy,hmy,Bv⟩:=Zac RY5;have fe:=Qh ((Zaa (Zaa sTok)).below RR4 bg);have rj:=Qh RY5;have xQ:=aM.trans (bg.mono aM.size);have pK:=Qh (sMacro.below mG.out xQ);have gy:=Qh (Zag bB.out xQ);have cg:=hB4.trans (bg.mono hB4.size);clear RR4 RY5 aM bg xQ hB4 aQ mG Hr3 Hy3 bB hrn hyn;have rJ:=Qh (ZdG _ m f2 w5 pK.out);obtain⟨p0,p1,p2,p3⟩:=Q4 gy.out;cases hv:Zaq m
 ·have HF:=Qh (ZcW (raw:=raw) (ready:=ready) (λh=>by rw[hv]at h;exact absurd h.1 (by simp):¬(Zaq m=true/\ZaG m raw=true/\ZaG m ready=true)));rw[hv]at rJ;clear hv;go_wp2_with fail
  refine rJ.out.mono ?_;rintro e w6⟨rfl,bq⟩;go_wp2;go_ret2;exact ZdW HF.out (cg.trans (bq.mono cg.size))
 have mE:=Qh hv;rw[hv]at rJ;clear hv;go_wp2_with fail
 refine rJ.out.mono ?_;rintro e w6⟨rfl,bq⟩;replace fe:=Qh ((Zaa (Zaa sTok)).below fe.out bq);replace rj:=Qh ((Zaa (Zaa sTok)).below rj.out bq);have kt:=Qh (sMacro.below pK.out bq);have lk:=Qh (Zag gy.out bq);have bU:=cg.trans (bq.mono cg.size);clear p0 p1 p2 p3 bq pK gy cg rJ;obtain⟨p0,p1,p2,p3⟩:=Q4 lk.out;by_cases h1:raw.length=m.params.length;rotate_left
 ·have HF:=Qh (ZcW (ready:=ready) (λh=>by rw[ZjP h1]at h;exact absurd h.2.1 (by simp):¬(Zaq m=true/\ZaG m raw=true/\ZaG m ready=true)));have e1:((raw.length:Int) != (m.params.length:Int))=true:=by simp;omega
  clear h1;go_wp2;go_ret2;exact ZdW HF.out bU
 by_cases h2:ready.length=m.params.length;rotate_left
 ·have HF:=Qh (ZcW (raw:=raw) (λh=>by rw[ZjP h2]at h;exact absurd h.2.2 (by simp):¬(Zaq m=true/\ZaG m raw=true/\ZaG m ready=true)));have e1:((raw.length:Int) != (m.params.length:Int))=false:=by simp;omega
  have e2:((ready.length:Int) != (m.params.length:Int))=true:=by simp;omega
  clear h1 h2;go_wp2;go_ret2;exact ZdW HF.out bU
 have e1:((raw.length:Int) != (m.params.length:Int))=false:=by simp;omega
 have e2:((ready.length:Int) != (m.params.length:Int))=false:=by simp;omega
 clear hcy hmy Bv hm hly wC hsy;have H1:=Qh h1;have H2:=Qh h2;clear h1 h2;go_wp2;clear p0 p1 p2 p3;go_loopw [8] (λi wr=>∃k:Nat,k<=raw.length/\i=.int .i64 k/\Hid (∀j,(hj:j<raw.length)->(iF:j<ready.length)->j<k->Zam raw[j]=true/\Zam ready[j]=true)/\Below w6.heap.size w6 wr) (λi _=>raw.length-(intOf i).toNat)
 case atStart=>exact⟨0,by omega,rfl,Qh (λj _ _ h=>absurd h (by omega)),QD _ _⟩
 case round =>
  obtain⟨k,hk,rfl,HA,hb⟩:=hrel;have h1:=H1.out;have h2:=H2.out;have ns:=bU.trans (hb.mono bU.size);by_cases af:k<raw.length
  ·have ce:k<ready.length:=(by omega);obtain⟨x1,y1,z1,-,-,u1⟩:=Zac fe.out;obtain⟨x2,y2,z2,-,-,u2⟩:=Zac rj.out;simp only[QT,true_and]at z1 z2;obtain⟨rfl,rfl⟩:=z1;obtain⟨rfl,rfl⟩:=z2;obtain⟨b1,o1,-,rfl,-,-⟩:=u1 (by omega);obtain⟨b2,o2,-,rfl,-,-⟩:=u2 (by omega);clear u1 u2 h1 h2;obtain⟨aj1,cj1,f1,q1,R1,l1,-⟩:=Zdd fe.out af;obtain⟨aj2,cj2,f2',zg,R2',l2,-⟩:=Zdd rj.out ce;replace q1:=(hb.cell (p:=⟨b1,o1+k,none⟩) l1).trans q1;replace zg:=(hb.cell (p:=⟨b2,o2+k,none⟩) l2).trans zg;have gh:=Qh (ZbC _ raw[k] f1 wr ((Zaa sTok).below R1 hb));cases mU:Zam raw[k]
   ·have HF:=Qh (ZcW (ready:=ready) (λh=>by rw[ZjQ af mU]at h;exact absurd h.2.1 (by simp):¬(Zaq m=true/\ZaG m raw=true/\ZaG m ready=true)));rw[mU]at gh;clear mU HA;go_wp2_with (go_at_call 44;refine(gh.out).mono ?_;rintro e w7⟨rfl,db⟩)
    go_ret2;exact ZdW HF.out (ns.trans (db.mono ns.size))
   ·have Bw:=Qh mU;rw[mU]at gh;clear mU;go_wp2_with fail
    refine(gh.out).mono ?_;rintro e w7⟨rfl,db⟩;replace q1:=(db.cell (p:=⟨b1,o1+k,none⟩) (QW l1 hb.size)).trans q1;replace zg:=(db.cell (p:=⟨b2,o2+k,none⟩) (QW l2 hb.size)).trans zg;have pu:=hb.trans (db.mono hb.size);have gC:=Qh (ZbC _ ready[k] f2' w7 ((Zaa sTok).below R2' pu));have lq:=bU.trans (pu.mono bU.size);cases jo:Zam ready[k]
    ·have HF:=Qh (ZcW (raw:=raw) (λh=>by rw[ZjQ ce jo]at h;exact absurd h.2.2 (by simp):¬(Zaq m=true/\ZaG m raw=true/\ZaG m ready=true)));rw[jo]at gC;clear jo HA;go_wp2_with fail
     refine(gC.out).mono ?_;rintro e w8⟨rfl,cN⟩;go_wp2;go_ret2;exact ZdW HF.out (lq.trans (cN.mono lq.size))
    ·have vF:=Qh jo;rw[jo]at gC;clear jo;go_wp2_with (go_at_call 44;refine(gC.out).mono ?_;rintro e w8⟨rfl,cN⟩)
     have HN:Hid (∀j,(hj:j<raw.length)->(iF:j<ready.length)->j<k+1->Zam raw[j]=true/\Zam ready[j]=true):=Qh (λj hj iF my=>by
      rcases Nat.lt_succ_iff_lt_or_eq.1 my with h | rfl
      ·exact HA.out j hj iF h
      ·exact⟨Bw.out,vF.out⟩)
     go_roundw;case rel=>first | exact⟨k+1,by omega,by go_num,HN,pu.trans (cN.mono pu.size)⟩ | ((repeat apply Exists.intro);exact⟨⟨k+1,by omega,by go_num,HN,pu.trans (cN.mono pu.size)⟩,rfl⟩)
     case measure=>simp[intOf];omega
  ·have HYr:=Qh (ZjR h1 λj hj=>(HA.out j hj (by omega) (by omega)).1);have HYy:=Qh (ZjR h2 λj hj=>(HA.out j (by omega) hj (by omega)).2);have iI:=Qh (Zag lk.out hb);have fP:=Qh (sMacro.below kt.out hb);have kM:=Qh ((Zaa (Zaa sTok)).below fe.out hb);have HY8:=Qh ((Zaa (Zaa sTok)).below rj.out hb);have HBD:=Qh (ZnC _ m _ _ _ raw ready _ _ wr mE.out HYr.out HYy.out fP.out kM.out HY8.out);obtain⟨p0,p1,p2,p3⟩:=Q4 iI.out;clear HA h1 h2;go_wp2_with fail
   refine(HBD.out).mono ?_;rintro e w9⟨v,L,rfl,RL,iB,bE,hsm,gc⟩;have tY:=ns.trans (gc.mono ns.size);obtain⟨fpL,RF,-⟩:=RL.read;obtain⟨aL,cL,rfl,-⟩:=Zac RF;rw[iB]at RF;have or:(ZaQ m raw ready 0 [] true false).1.length=L.length:=(by rw[←iB,QH]);rcases hP:ZaQ m raw ready 0 [] true false with⟨l,ok⟩;rw[hP]at iB or RF;dsimp only at iB or RF
   have HW:=Qh (Zbd _ l fpL w9 (by show l.length<=_;omega) (λk hk=>by
    have hk':k<L.length:=(by rw[←or];exact hk);have:=hsm L[k] (QE hk');have e:(L.map (·.d))[k]'(by simpa using hk')=l[k]:=List.getElem_of_eq iB _
    rw[←e,JF];omega) RF)
   have e3:(L.map (·.d)).length=l.length:=(by rw[iB]);rw[e3];cases ok
   ·have HF:=Qh (ZgJ hP);clear HW;go_wp2;go_ret2;exact ZdW HF.out tY
   ·by_cases h9:240<l.length
    ·have HF:=Qh (Zjj hP h9);clear HW;go_wp2;go_ret2;exact ZdW HF.out tY
    ·have HF:=Qh (Zky ⟨mE.out,HYr.out,HYy.out⟩ hP h9);have h9':¬(240:Int)<(l.length:Int):=(by omega);clear h9 hP or iB hsm bE e3 RL RF HBD HYr HYy iI fP kM HY8 mE p0 p1 p2 p3;go_wp2_with fail
     refine(HW.out).mono ?_;rintro e o9⟨v,An,rfl,RO,lo,-,xk⟩;go_wp2;go_ret2;exact⟨v,An,by rw[HF.out];rfl,by rw[HF.out];exact RO,λb hb=>QZ tY.size (lo b hb),tY.trans (xk.mono tY.size)⟩
theorem ZdX {fn:Func}{t u v x:Tmp}(h:fn.results=#[.tmp t,.tmp u,.tmp v,.tmp x])(tmps:Array Value)(P:Program)(w:World):
  (results fn tmps).run P w=.ok (.tuple #[tmps.getD t undef,tmps.getD u undef,tmps.getD v undef,tmps.getD x undef]) w:=by
 simp[results,h]
theorem Zq1 {f:List Tok->Nat->Zde}:∀(A:List (List Tok)) (s:Nat),(ZaL f A s).2.2≠0->(ZaL f A s).1=[]
 | [],s,h=>absurd rfl h
 |
  a::r,s,h=>by
  unfold ZaL at h ⊢;split at h
  ·rename_i h1;rw[if_pos h1];split at h
   ·rename_i h2;exact absurd h2 h
   ·rename_i h2;rw[if_neg h2]
  ·rename_i h1;rw[if_neg h1]
def AccA (f:List Tok->Nat->Zde)(P:List (List Tok))(s k s':Nat)(R:List (List Tok)):Prop:=
 ZaL f P s=if (ZaL f (P.drop k) s').2.2=0 then (R++(ZaL f (P.drop k) s').1,(ZaL f (P.drop k) s').2) else ([],(ZaL f (P.drop k) s').2)
section
variable {f:List Tok->Nat->Zde}{P:List (List Tok)}{s k s' l:Nat}{R:List (List Tok)}{x:List Tok}{c:Int}
theorem AccA.start (f:List Tok->Nat->Zde)(P:List (List Tok))(s:Nat):AccA f P s 0 s []:=by
 unfold AccA;rw[List.drop_zero];split
 ·rfl
 ·rename_i h;have:=Zq1 P s h;exact Prod.ext this rfl
theorem AccA.step (h:AccA f P s k s' R)(hk:k<P.length)(hf:f P[k] s'=(x,l,0)):AccA f P s (k+1) l (R++[x]):=by
 unfold AccA at h ⊢;rw[h,Qj hk];have e:ZaL f (P[k]::P.drop (k+1)) s'=if (ZaL f (P.drop (k+1)) l).2.2=0 then (x::(ZaL f (P.drop (k+1)) l).1,(ZaL f (P.drop (k+1)) l).2) else ([],(ZaL f (P.drop (k+1)) l).2):=by
  rw[ZaL];simp only[hf];rfl
 rw[e];split
 ·rw[Qn];rfl
 ·rfl
theorem AccA.stop (h:AccA f P s k s' R)(hk:k<P.length)(hf:f P[k] s'=(x,l,c))(hc:c≠0):ZaL f P s=([],l,c):=by
 unfold AccA at h;rw[h,Qj hk];have e:ZaL f (P[k]::P.drop (k+1)) s'=([],l,c):=by
  rw[ZaL];simp only[hf];rw[if_neg hc]
 rw[e,if_neg hc]
theorem AccA.done (h:AccA f P s k s' R)(hk:P.length<=k):ZaL f P s=(R,s',0):=by
 unfold AccA at h;rw[h,List.drop_of_length_le hk];show(if (0:Int)=0 then (R++[],s',(0:Int)) else _)=_;rw[if_pos rfl,Q5]
end
section
variable {f:List Tok->Nat->Zde}{m:DMacro}{work:List Tok}{s e l:Nat}{A R:List (List Tok)}{b:List Tok}{c:Int}
theorem Zpf (h:Zax (work.drop 2) 1 [] [] 2=(A,e,false)):ZaW f m work s=([],0,s,1):=by unfold ZaW;rw[h,if_neg (by simp)]
theorem ZnL (h:Zax (work.drop 2) 1 [] [] 2=(A,e,true))(hn:Zcl m.params.length A≠m.params.length):ZaW f m work s=([],0,s,1):=by unfold ZaW;rw[h,if_neg (λh'=>hn h'.2)]
theorem Zmo (h:Zax (work.drop 2) 1 [] [] 2=(A,e,true))(hn:Zcl m.params.length A=m.params.length)(ha:ZaL f (A.take m.params.length) s=(R,l,c))(hc:c≠0):ZaW f m work s=([],0,l,c):=by
 unfold ZaW;simp only[h];rw[if_pos ⟨trivial,hn⟩];simp only[ha];rw[if_neg hc]
theorem ZkM (h:Zax (work.drop 2) 1 [] [] 2=(A,e,true))(hn:Zcl m.params.length A=m.params.length)(ha:ZaL f (A.take m.params.length) s=(R,l,0))(hs:Zaz m (A.take m.params.length) R=(b,false)):ZaW f m work s=([],0,l,2):=by
 unfold ZaW;simp only[h];rw[if_pos ⟨trivial,hn⟩];simp only[ha];rw[if_pos trivial];simp only[hs];rw[if_neg (by simp)]
theorem ZnM (h:Zax (work.drop 2) 1 [] [] 2=(A,e,true))(hn:Zcl m.params.length A=m.params.length)(ha:ZaL f (A.take m.params.length) s=(R,l,0))(hs:Zaz m (A.take m.params.length) R=(b,true)):ZaW f m work s=(Zbm b (ins (both (work.headD Zaw).hidden (work.getD (e-1) Zaw).hidden) m.name) (work.headD Zaw).spaced,e,l,0):=by
 unfold ZaW;simp only[h];rw[if_pos ⟨trivial,hn⟩];simp only[ha];rw[if_pos trivial];simp only[hs];rw[if_pos trivial]
end
theorem Zdy:∀(l:List Tok) (d:Int) (A:Zbe) (M:List Tok) (k:Nat) {R:Zbe} {e:Nat},Zax l d A M k=(R,e,true)->k<e/\e<=k+l.length
 | [],d,A,M,k,R,e,h=>by unfold Zax at h;simp at h
 |
  t::r,d,A,M,k,R,e,h=>by
  unfold Zax at h;split at h
  ·simp only[QS]at h;rw[QQ];omega
  ·split at h
   ·have:=Zdy r _ _ _ _ h;rw[QQ];omega
   ·have:=Zdy r _ _ _ _ h;rw[QQ];omega
theorem ZhN:∀(l:List Tok) (d:Int) (A:Zbe) (M:List Tok) (k:Nat) {B:Nat},(∀a∈A,a.length<=B)->M.length+l.length<=B->(∀a∈(Zax l d A M k).1,a.length<=B)/\(Zax l d A M k).1.length<=A.length+l.length
 | [],d,A,M,k,B,hA,hM=>by unfold Zax;exact⟨hA,by simp⟩
 |
  t::r,d,A,M,k,B,hA,hM=>by
  rw[QQ]at hM;have zh:∀a∈A++[M],a.length<=B:=λa ha=>by
   rcases Qa ha with ha | ha
   ·exact hA a ha
   ·rw[Qm ha];omega
  unfold Zax;split
  ·exact⟨zh,by simp⟩
  ·split
   ·have:=ZhN r (d+Zbc t) (A++[M]) [] (k+1) zh (by simp;omega);refine⟨this.1,?_⟩;have h2:=this.2;rw[QC,List.length_singleton]at h2;rw[QQ];omega
   ·have:=ZhN r (d+Zbc t) A (M++[t]) (k+1) hA (by simp;omega);refine⟨this.1,?_⟩;have h2:=this.2;rw[QQ];omega
theorem ZjS:∀(l:List Tok) (d:Int) (A:Zbe) (M:List Tok) (k:Nat) {R:Zbe} {e:Nat},Zax l d A M k=(R,e,true)->0<R.length
 | [],d,A,M,k,R,e,h=>by unfold Zax at h;simp at h
 |
  t::r,d,A,M,k,R,e,h=>by
  unfold Zax at h;split at h
  ·simp only[QS]at h;rw[←h.1,QC];simp
  ·split at h
   ·exact ZjS r _ _ _ _ h
   ·exact ZjS r _ _ _ _ h
theorem Zpg {p:Nat}{A:List (List Tok)}(h:Zcl p A=p):p<=A.length:=by
 by_cases h1:A.length=1
 ·rw[Zgw h1]at h;split at h <;> omega
 ·rw[Ze3 h1]at h;omega
def XpOf (fp:List Nat)(r:Zde)(w:World)(e:Ending)(w':World):Prop:=
 ∃(v:Value) (L:List (Elem Tok)),e=.returned (.tuple #[v,.int .i64 (r.2.1:Nat),.int .i64 r.2.2])/\RowN sTok w.heap.size 32 v L w'/\L.map (·.d)=r.1/\(∀x∈L,∀b∈x.fp,b∈fp\/w.heap.size<=b)/\Below w.heap.size w w'
def ExpC (T:List DMacro)(N:List ByteArray)(n:Nat):Prop:=
 ∀(vT:Value) (cE:List Nat) (v:Value) (l:List Tok) (fp:List Nat) (s:Nat) (w:World),s<=n->l.length<=100->(∀t∈l,HidIn N t)->(Zaa sMacro).R w [vT] T cE->(Zaa sTok).R w [v] l fp ->
  Calls Tryz.prog 48 #[vT,v,.int .i64 s] w (XpOf fp (Zak T n s [] l) w)
def CallOf (r:List Tok × Nat × Nat × Int)(w:World)(e:Ending)(w':World):Prop:=
 ∃(v:Value) (L:List (Elem Tok)),e=.returned (.tuple #[v,.int .i64 (r.2.1:Nat),.int .i64 (r.2.2.1:Nat),.int .i64 r.2.2.2])/\RowN sTok w.heap.size 32 v L w'/\L.map (·.d)=r.1/\(∀x∈L,∀b∈x.fp,w.heap.size<=b)/\Below w.heap.size w w'
theorem CallOf.none {r:List Tok × Nat × Nat × Int}{l:Nat}{c:Int}{w W:World}(h:r=([],0,l,c))(hb:Below w.heap.size w W):CallOf r w (.returned (.tuple #[.slice (some ⟨W.heap.size,0,none⟩) 0 0,.int .i64 0,.int .i64 (l:Nat),.int .i64 c])) (W.alloc (.cells #[] 32)):=
 ⟨_,[],by rw[h];rfl,RowN.lit0 sTok 32 W hb.size,by rw[h];rfl,by simp,hb.alloc hb.size _⟩
theorem Zmp {m:DMacro}(h:Zaq m=true):ZfX m:=by
 have h1:=(Za0 h).1;exact⟨by omega,by omega,λk hk=>by rw[(Zc1 hk ((Za0 h).2.2 k hk)).2.1];simp⟩
theorem ZnN {T:List DMacro}{N:List ByteArray}{n:Nat}(HE:ExpC T N n)(hn:n<=1000)(hT:∀m∈T,m.name∈N)(hN:N.length<=5000)(vT:Value)(cE:List Nat)(eE:List Value)(m:DMacro)(eV:List Nat)(v:Value)(work:List Tok)(fp:List Nat)(s:Nat)(w:World)(hm:Zaq m=true)(hmN:m.name∈N)(hs:s<=n)
  (sZ:work.length<=100) (h1w:1<work.length) (ho:isM work[1] [40]=true) (hH:∀t∈work,HidIn N t) (HT:(Zaa sMacro).R w [vT] T cE) (HM:sMacro.R w eE m eV) (H:(Zaa sTok).R w [v] work fp) :
  Calls Tryz.prog 70 #[vT,.agg eE.toArray,v,.int .i64 s] w (CallOf (ZaW (λa k=>Zak T n k [] a) m work s) w):=by
 have gb:=HM;obtain⟨h2,h3,q2,q3,rfl,Bx,K2,K3,-⟩:=HM;obtain⟨a2,c2,rfl,-⟩:=Zaf K2;obtain⟨a3,c3,rfl,-⟩:=Zac K3;obtain⟨aw,cw,rfl,-,-,ef⟩:=Zac H;obtain⟨bw,ow,-,rfl,-,-,-⟩:=ef (by omega);clear ef K2 K3;have b0:=Zab w (.cells #[.string m.name,.bool m.function,.slice a2 m.params.length c2,.slice a3 m.body.length c3] 56);have HX:=Qh (JS w (.cells #[.string m.name,.bool m.function,.slice a2 m.params.length c2,.slice a3 m.body.length c3] 56));have eL:=Qh (sMacro.below gb b0);have gh:=Qh ((Zaa sMacro).below HT b0);have HW1:=Qh ((Zaa sTok).below H b0);have d7:=Qh ((Zaa sTok).lt H);clear gb HT H;go_enter Tryz.func70,Tryz.ntmps70;go_upto_region 1 with fail
 generalize (w.alloc (.cells #[.string m.name,.bool m.function,.slice a2 m.params.length c2,.slice a3 m.body.length c3] 56))=W1 at *;have gP:w.heap.size<W1.heap.size:=mlt HX.out;have rK:Hid (Calls Tryz.prog 98 #[.slice (some ⟨bw,ow,none⟩) work.length cw,.int .i64 1] W1 (Zlq fp (Zax (work.drop 2) 1 [] [] 2) W1)):=ZmD _ work fp 1 W1 (by omega) h1w ho HW1.out;have xS:=Zgx (P:=HidIn N) (work.drop 2) 1 [] [] 2 (λt ht=>hH t (JG ht)) (by simp) (by simp);have ou:=ZhN (work.drop 2) 1 [] [] 2 (B:=100) (by simp) (by rw[QM];simp;omega);have sQ:=λR e h=>Zdy (work.drop 2) 1 [] [] 2 (R:=R) (e:=e) h;rcases hS:Zax (work.drop 2) 1 [] [] 2 with⟨AA,en,ok⟩;rw[hS]at rK xS ou;have gK:=Qh hS;have p7:Hid (∀a∈AA,∀t∈a,HidIn N t):=xS;have xD:Hid ((∀a∈AA,a.length<=100)/\AA.length<=100):=⟨ou.1,by have:=ou.2;rw[QM]at this;simp at this;omega⟩;clear xS ou hS;unfold Zlq at rK;try dsimp only at rK
 go_wp2_with fail
 refine rK.out.mono ?_;rintro e w2⟨vA,A,rfl,RA,hAd,hAlo,aF⟩;have aY:=b0.trans (aF.mono b0.size);have cJ:=Qh (Zag HX.out aF);have nf:=Qh (sMacro.below eL.out aF);have gC:=Qh ((Zaa sMacro).below gh.out aF);have HW2:=Qh ((Zaa sTok).below HW1.out aF);obtain⟨aA,cA,hvA,-⟩:=RA.val;subst hvA;have By:A.length=AA.length:=by rw[←hAd,QH]
 obtain⟨fpA,rA,hfA,-⟩:=RA.read;rw[hAd,By]at rA;rw[By]at RA ⊢;have dx:=Qh RA;have fe:=Qh rA;have HAD:=Qh hAd;have HALO:Hid (∀x∈A,∀b∈x.fp,b<w2.heap.size):=λx hx b hb=>sToks.lt (RA.el x hx) b hb;have HAE:=Qh By;clear rK eL gh HW1 hAlo RA rA hAd By aF hfA HX;cases ok
 ·have HF:=Qh (Zpf (f:=λa k=>Zak T n k [] a) (m:=m) (s:=s) gK.out);have hBd:=Zah aY 1;go_wp2_with fail
  go_quiet (fail)
  have cc:=Zah aY nq;generalize w2.drewN nq=wq at *;go_wp2
  (try simp only[Exit.inBlock,Exit.then]);refine JV (ZdX rfl _ _ _) rfl ?_
  exact CallOf.none HF.out cc
 have xT:Hid (2<en/\en<=work.length):=by
  have:=sQ _ _ gK.out;show _/\_;rw[QM]at this;omega
 clear sQ;have hApos:0<AA.length:=ZjS _ _ _ _ _ gK.out;obtain⟨g,rfl,hcA⟩:∃g,aA=some ⟨g,0,none⟩/\AA.length<=cA:=by
  obtain⟨a8,c8,e8,h9,-,h8⟩:=dx.out.val;simp only[QT]at e8;obtain⟨rfl,-,rfl⟩:=e8;have hl:=HAE.out;obtain⟨g,hg,-,-⟩:=h8 (by omega);exact⟨g,hg,by omega⟩
 have HCN:=Qh (λ(U:World) (hU:Below w2.heap.size w2 U)=>ZnF _ m eV _ AA fpA U (sMacro.below nf.out hU) ((Zaa sToks).below fe.out hU));have eP:Hid (∀U:World,Below w2.heap.size w2 U->U.heap[w.heap.size]?=some (.cells #[.string m.name,.bool m.function,.slice a2 m.params.length c2,.slice a3 m.body.length c3] 56 (0,0))):=λU hU=>Zag cJ.out hU;have aS:Below w2.heap.size w2 w2.drew:=Zah (QD _ _) 1;obtain⟨an,yY⟩:∃an,Hid (an=Zcl m.params.length AA):=⟨Zcl m.params.length AA,Qh rfl⟩;rw[show Zcl m.params.length AA=an from yY.out.symm]at HCN;go_upto_region 2 with fail
 go_cut [39] from 23 (λd wx=>d=.bool ((an:Int) != (m.params.length:Int))/\Below w2.heap.size w2 wx)
 case first =>
  refine wp_region_noPanic ?_;refine JU (S:=λw'=>w'.heap[w.heap.size]?=some (.cells #[.string m.name,.bool m.function,.slice a2 m.params.length c2,.slice a3 m.body.length c3] 56 (0,0))) (by kernel_rfl) (by exact eP.out _ aS) (λac=>?_);generalize w2.drew=wd at *;refine Qt 0 29 rfl rfl ?_;try simp only[Qp]
  refine Qt 1 30 rfl rfl ?_;try simp only[Qp]
  refine Qt 2 31 rfl rfl ?_;try simp only[Qp]
  refine Qt 3 32 rfl rfl ?_ (by intro w aI;obtain⟨m0,m1,m2,m3⟩:=Q4 aI;go_simp;(first | done | with_reducible rfl | rfl));try simp only[Qp]
  refine Qt 4 33 rfl rfl ?_;try simp only[Qp]
  refine Qt 6 35 rfl rfl ?_;try simp only[Qp]
  refine Qt 7 36 rfl rfl ?_ (by intro w aI;obtain⟨m0,m1,m2,m3⟩:=Q4 aI;go_simp;(first | done | with_reducible rfl | rfl));try simp only[Qp]
  refine Qt 8 37 rfl rfl ?_;try simp only[Qp]
  refine Qr 5 rfl (λK hK=>?_);go_simp;refine(HCN.out _ aS).mono ?_;rintro e w9⟨rfl,gc⟩;have mv:=aS.trans (gc.mono aS.size);refine hK.out _ _ (eP.out _ mv) (λac=>?_);clear hK K;try simp only[Qp]
  refine Qt 9 38 rfl rfl ?_;try simp only[Qp]
  refine Qt 10 39 rfl rfl ?_;try simp only[Qp]
  refine wpAnyH_done (by kernel_rfl) ?_ _;refine QP ?_;clear ac;go_wp2;go_meet;case rel=>exact⟨rfl,mv⟩
 obtain⟨rfl,ed⟩:=hcut;generalize wc=w3 at *;have aQ:=aY.trans (ed.mono aY.size);by_cases gv:an=m.params.length;rotate_left
 ·have HF:=Qh (ZnL (f:=λa k=>Zak T n k [] a) (m:=m) (s:=s) gK.out (by rw[←yY.out];exact gv));have e1:((an:Int) != (m.params.length:Int))=true:=by simp;omega
  clear gv;go_wp2
  (try simp only[Exit.inBlock,Exit.then]);refine JV (ZdX rfl _ _ _) rfl ?_
  exact CallOf.none HF.out aQ
 have tZ:Hid (Zcl m.params.length AA=m.params.length):=by show _=_;rw[←yY.out];exact gv
 have e1:((an:Int) != (m.params.length:Int))=false:=by simp;omega
 rw[e1];have dD:Hid (m.params.length<=AA.length):=Zpg tZ.out;have Al:m.params.length<=4:=(Za0 hm).1.2.2.1;have bK:=Zab w3 (.cells #[] 24);have nX:=Qh (RowN.lit0 sToks 24 w3 (QA _));have eT:=ed;have hs23:=ed.size;have dJ:=Qh (Zag cJ.out eT);have wy:=Qh (sMacro.below nf.out eT);have lu:=Qh ((Zaa sMacro).below gC.out eT);have pY:=Qh ((Zaa sTok).below HW2.out eT);have HRR4:=Qh ((Zaa sToks).below fe.out eT);have t5:=Qh (dx.out.below eT);have hB4:=aY.trans (eT.mono aY.size);clear gv nf gC HW2 fe dx ed eT HCN eP aS cJ;go_upto_region 5 with fail
 clear e1;have hs34:=bK.size;generalize (w3.alloc (.cells #[] 24))=w4 at *;go_wp2;go_loopw [3,15,16] (λvs vr i wr=>∃(k s':Nat) (R:List (Elem (List Tok))),k<=m.params.length/\i=.int .i64 k/\vs=.int .i64 s'/\s'<=s/\Hid (AccA (λa k=>Zak T n k [] a) (AA.take m.params.length) s k s' (R.map (·.d)))/\Hid (RowN sToks w3.heap.size 24 vr R wr)/\Hid (R.length=k)/\Hid (∀x∈R,x.d.length<=60/\∀t∈x.d,HidIn N t)/\Below w3.heap.size w3 wr) (λ_ _ i _=>m.params.length-(intOf i).toNat)
 case atStart=>exact⟨0,s,[],by omega,rfl,rfl,QA _,AccA.start _ _ _,nX.out,rfl,(λx hx=>by simp at hx),bK⟩
 case round =>
  clear nX;obtain⟨k,s',R,hk,rfl,rfl,hss,nI,ov,iC,eP,hb⟩:=hrel;obtain⟨ar,cr,sK,-⟩:=ov.out.val;rw[iC.out]at sK;subst sK;have fi:=Qh (Zag dJ.out hb);have ns:=hB4.trans (hb.mono hB4.size);have m2:=Qc 2 fi.out;by_cases af:k<m.params.length
  ·have lv:k<A.length:=(by have:=dD.out;have:=HAE.out;omega);have xU:k<AA.length:=(by have:=dD.out;omega);have hkP:k<(AA.take m.params.length).length:=(by rw[Qd];omega);have HPK:Hid ((AA.take m.params.length)[k]=AA[k]):=List.getElem_take;have wu:Hid ((A[k]'lv).d=AA[k]):=by
    have:=List.getElem_of_eq HAD.out (i:=k) (by rw[QH];exact lv);rw[JF]at this;exact this
   have RX:=t5.out.el (A[k]'lv) (QE lv);have oy:=t5.out.len (A[k]'lv) (QE lv);have RX0:=RX
   obtain⟨ak,ck,kF,-⟩:=Zac (S:=sTok) (by
    have:(A[k]'lv).cells=[(A[k]'lv).cells[0]'(by rw[oy];decide)]:=by
     match hc:(A[k]'lv).cells,oy with
     | [u],_=>rfl
    rw[this]at RX
    exact RX)
   have aJ:(A[k]'lv).cells=[.slice ak (A[k]'lv).d.length ck]:=by
    match hc:(A[k]'lv).cells,oy with
    | [u],_=>simp only[hc,List.getElem_cons_zero]at kF;rw[kF]
   rw[aJ]at RX0;have q0:w3.cell? ⟨g,k,none⟩=some (.slice ak (A[k]'lv).d.length ck):=by
    have:=t5.out.cellAt lv (j:=0) (by decide) (u:=.slice ak (A[k]'lv).d.length ck) (by rw[aJ];rfl);rw[show k*sToks.m+0=k from by show k*1+0=k;omega]at this;exact this
   have q1:wr.cell? ⟨g,k,none⟩=some (.slice ak (A[k]'lv).d.length ck):=(hb.cell (p:=⟨g,k,none⟩) (t5.out.mine g rfl).2).trans q0;have ls:Hid (∀b∈(A[k]'lv).fp,b<w2.heap.size):=HALO.out _ (QE lv);rw[wu.out]at q1 RX0;have hal:=xD.out.1 _ (QE xU);have iq:=Qh (HE vT cE _ AA[k] _ s' wr (by omega) hal (p7.out _ (QE xU)) ((Zaa sMacro).below lu.out hb) (sToks.below RX0 hb));have zi:=Qh (Zpe T n AA[k] s' [] (by simp));have HXI:=Qh (ZkI hT n AA[k] s' [] (by simp) (p7.out _ (QE xU)));have zj:=Qh (ZkH T n AA[k] s' []);rcases hx:Zak T n s' [] AA[k]with⟨x,lf,c⟩;rw[hx]at iq zi HXI zj;have Bz:Hid ((λa k=>Zak T n k [] a) ((AA.take m.params.length)[k]'hkP) s'=(x,lf,c)):=(by show Zak T n s' [] _=_;rw[HPK.out];exact hx);unfold XpOf at iq;try dsimp only at iq
   have i0:(0:Int)<=(k:Int):=(by omega);have i1:(k:Int)<(AA.length:Int):=(by omega);clear hx q0 kF aJ RX RX0 oy;generalize AA[k]=ak_ at *;go_wp2_with fail
   refine iq.out.mono ?_;rintro e w5⟨vx,L,rfl,RL,mV,xV,bg⟩;clear m2 q1 iq;have cg:=ns.trans (bg.mono ns.size);have eC:=hb.trans (bg.mono hb.size);obtain⟨ax,cx,hvx,-⟩:=RL.val;subst hvx;obtain⟨fx,rx,hfx,-⟩:=RL.read;rw[mV]at rx;have hLx:L.length=x.length:=(by rw[←mV,QH]);rw[hLx]at rx ⊢;by_cases dm:c=0;rotate_left
   ·have HF:=Qh (Zmo (f:=λa k=>Zak T n k [] a) (m:=m) gK.out tZ.out (nI.out.stop hkP Bz.out dm) dm);have e2:(c != 0)=true:=(by simp[dm]);clear dm;go_wp2
    (try simp only[Exit.inBlock,Exit.then]);refine JV (ZdX rfl _ _ _) rfl ?_
    exact CallOf.none HF.out cg
   subst dm;have HN:=Qh (nI.out.step hkP Bz.out);have t6:=Qh (ov.out.below bg);have bl:=Zab w5 (.cells #[.slice ax x.length cx] 24);have im:=Qh (JS w5 (.cells #[.slice ax x.length cx] 24));have pw:=Qh (t6.out.below bl);have RX6:=Qh (sToks.below rx bl);have ju:=eC.trans (bl.mono eC.size);have hwr4:=hb.size;have HVX:Hid (∀b∈fx,(Value.slice ar k cr).ownBlock≠some b):=λb aE h=>by
    have h1:=(ov.out.mine b h);rcases hfx b aE with h2 | ⟨y,hy,h2⟩
    ·have:=(RL.mine b h2).1;omega
    ·rcases xV y hy b h2 with h3 | h3
     ·have:=ls.out b h3;omega
     ·omega
   have hlx:Hid (x.length<=60/\(∀t∈x,HidIn N t)/\lf<=s'):=⟨zi.out,HXI.out,zj.out⟩;clear RL mV xV hfx rx hLx zi HXI zj t6 bl;go_upto_region 7 with(at_builtin;refine ZaT (X:=[(⟨[.slice ax x.length cx],x,fx⟩:Elem (List Tok))]) Zf4 rfl (by decide) _ rfl (.tmp 67) (.tmp 69) rfl w3.heap.size (.slice ar k cr) rfl pw.out ⟨w5.heap.size,0,none⟩ 1 1 rfl rfl (λy hy=>by obtain rfl:=Qm hy;exact⟨rfl,RX6.out,HVX.out⟩) (λy hy u hu=>by obtain rfl:=Qm hy;rw[Qm hu];rfl) (λj u hj=>by rw[ZaZ,QX,cell_of_row _ _ _ _ _ _ im.out];simpa using hj) (by have:=iC.out;unfold maxLen;omega) (by have:=iC.out;omega) (by have:=ju.size;omega) ?_;intro v7 w7 eQ dc iA)
   have jk:=pw.out.mine;have gF:=Qh (ju.grown dc ju.size (λb aE=>(jk b aE).1));have fO:=Qh eQ;have HS7:Hid (∀y∈R++[(⟨[.slice ax x.length cx],x,fx⟩:Elem (List Tok))],y.d.length<=60/\∀t∈y.d,HidIn N t):=λy hy=>by
    rcases Qa hy with hy | hy
    ·exact eP.out y hy
    ·rw[Qm hy];exact⟨hlx.out.1,hlx.out.2.1⟩
   clear eQ dc iA;go_wp2;go_roundw;have HN7:Hid (AccA (λa k=>Zak T n k [] a) (AA.take m.params.length) s (k+1) lf ((R++[(⟨[.slice ax x.length cx],x,fx⟩:Elem (List Tok))]).map (·.d))):=(by show AccA _ _ _ _ _ _;rw[QG];exact HN.out);have mH:Hid ((R++[(⟨[.slice ax x.length cx],x,fx⟩:Elem (List Tok))]).length=k+1):=(by show _=_;rw[QC,iC.out];rfl);have hlf:lf<=s:=(by have:=hlx.out.2.2;omega);case rel=>first | exact⟨k+1,lf,_,by omega,by go_num,rfl,hlf,HN7,fO,mH,HS7,gF.out⟩ | ((repeat apply Exists.intro);exact⟨⟨k+1,lf,_,by omega,by go_num,rfl,hlf,HN7,fO,mH,HS7,gF.out⟩,rfl⟩)
   case measure=>simp[intOf];omega
  ·have lh:k=m.params.length:=(by omega);have iy:=Qh (nI.out.done (by rw[Qd];omega));obtain⟨fr,rr,-,-⟩:=ov.out.read;obtain⟨fT,rT,-⟩:=Zcp (S:=sToks) m.params.length dD.out HRR4.out;have zN:(R.map (·.d)).length<=1048576:=(by rw[QH,iC.out];omega);have pW:(AA.take m.params.length).length<=1048576:=(by rw[Qd];omega);have pX:ZiD (AA.take m.params.length):=λj hj=>by
    have di:=JC (QE hj);refine⟨by have:=xD.out.1 _ di;omega,λq hq=>?_⟩;have:=(p7.out _ di _ (QE hq)).len;omega
   have y4:ZiD (R.map (·.d)):=λj hj=>by
    obtain⟨y,hy,e⟩:=List.mem_map.1 (QE hj);rw[←e];obtain⟨h1,h2⟩:=eP.out y hy;refine⟨by omega,λq hq=>?_⟩;have:=(h2 _ (QE hq)).len;omega
   have lw:=Qh (λ(U:World) (hU:Below wr.heap.size wr U)=>ZgN _ m eV (.slice (some ⟨g,0,none⟩) m.params.length cA) (.slice ar k cr) (AA.take m.params.length) (R.map (·.d)) fT fr U (Zmp hm) pW zN pX y4 (sMacro.below (sMacro.below wy.out hb) hU) ((Zaa sToks).below ((Zaa sToks).below rT hb) hU) ((Zaa sToks).below rr hU));have px:Hid (∀t∈(Zaz m (AA.take m.params.length) (R.map (·.d))).1,HidIn N t):=Ziy (λl hl=>p7.out l (JC hl)) (λl hl=>by obtain⟨y,hy,rfl⟩:=List.mem_map.1 hl;exact(eP.out y hy).2);have py:Hid ((Zaz m (AA.take m.params.length) (R.map (·.d))).1.length<=240):=by
    show _<=_;unfold Zaz;split
    ·split
     ·simp
     ·rename_i h;omega
    ·simp
   rcases nJ:Zaz m (AA.take m.params.length) (R.map (·.d)) with⟨bd,qR⟩;unfold ZkL at lw;rw[nJ]at lw px py;try dsimp only at lw
   have pz:=Qh nJ;have HSX:Hid (∀U:World,Below wr.heap.size wr U->U.heap[w.heap.size]?=some (.cells #[.string m.name,.bool m.function,.slice a2 m.params.length c2,.slice a3 m.body.length c3] 56 (0,0))):=λU hU=>Zag fi.out hU;have aS:Below wr.heap.size wr wr.drew:=Zah (QD _ _) 1;have p1:(0:Int)<=(m.params.length:Int):=(by omega);have p2:(m.params.length:Int)<=(AA.length:Int):=(by have:=dD.out;omega);have p3:m.params.length<=AA.length:=dD.out;have p4:m.params.length<=cA:=(by omega);have p5:(m.params.length:Int)<=(cA:Int):=(by omega);clear nJ rr rT zN pW pX y4 lh;go_upto_region 13 with fail
   clear m2;go_cut [20,21] from 23 (λb o wx=>∃(v:Value) (fb:List Nat),b=v/\o=.bool qR/\(Zaa sTok).R wx [v] bd fb/\(∀b∈fb,wr.heap.size<=b)/\Below wr.heap.size wr wx)
   case first =>
    refine wp_region_noPanic ?_;refine JU (S:=λw'=>w'.heap[w.heap.size]?=some (.cells #[.string m.name,.bool m.function,.slice a2 m.params.length c2,.slice a3 m.body.length c3] 56 (0,0))) (by kernel_rfl) (by exact HSX.out _ aS) (λac=>?_);generalize wr.drew=wd at *;refine Qt 0 72 rfl rfl ?_ (by intro w aI;obtain⟨m0,m1,m2,m3⟩:=Q4 aI;go_simp;(first | done | with_reducible rfl | rfl));try simp only[Qp]
    refine Qt 1 73 rfl rfl ?_;try simp only[Qp]
    refine Qt 2 74 rfl rfl ?_;try simp only[Qp]
    refine Qt 3 75 rfl rfl ?_ (by intro w aI;obtain⟨m0,m1,m2,m3⟩:=Q4 aI;go_simp;(first | done | with_reducible rfl | rfl));try simp only[Qp]
    refine Qt 4 76 rfl rfl ?_;try simp only[Qp]
    refine Qt 5 77 rfl rfl ?_;try simp only[Qp]
    refine Qt 6 78 rfl rfl ?_;try simp only[Qp]
    refine Qr 7 rfl (λK hK=>?_);go_simp;refine(lw.out _ aS).mono ?_;rintro e w9⟨vb,fb,rfl,Rb,l0,gc⟩;have mv:=aS.trans (gc.mono aS.size);have xW:∀b∈fb,wr.heap.size<=b:=λb hb=>QZ aS.size (l0 b hb);refine hK.out _ _ (HSX.out _ mv) (λac=>?_);clear hK K;try simp only[Qp]
    refine Qt 8 71 rfl rfl ?_;try simp only[Qp]
    refine Qt 9 80 rfl rfl ?_;try simp only[Qp]
    refine Qt 10 81 rfl rfl ?_;try simp only[Qp]
    refine Qt 11 20 rfl rfl ?_;try simp only[Qp]
    refine Qt 12 21 rfl rfl ?_;try simp only[Qp]
    refine wpAnyH_done (by kernel_rfl) ?_ _;refine QP ?_;clear ac;go_wp2;go_meet;case rel=>exact⟨vb,fb,rfl,rfl,Rb,xW,mv⟩
   obtain⟨vb,fb,rfl,rfl,Rb,l0,bq⟩:=hcut;generalize wc=w6 at *;have xX:=ns.trans (bq.mono ns.size);have mw:=hb.trans (bq.mono hb.size);cases qR
   ·have HF:=Qh (ZkM (f:=λa k=>Zak T n k [] a) (m:=m) gK.out tZ.out iy.out pz.out);go_wp2
    (try simp only[Exit.inBlock,Exit.then]);refine JV (ZdX rfl _ _ _) rfl ?_
    exact CallOf.none HF.out xX
   obtain⟨ab,cb,rfl,-⟩:=Zac Rb;have sR:=Qh (ZnM (f:=λa k=>Zak T n k [] a) (m:=m) gK.out tZ.out iy.out pz.out);have xY:0<work.length:=(by omega);have xZ:en-1<work.length:=(by have:=xT.out;omega);have HF:Hid (ZaW (λa k=>Zak T n k [] a) m work s=(Zbm bd (ins (both (work[0]'xY).hidden (work[en-1]'xZ).hidden) m.name) (work[0]'xY).spaced,en,s',0)):=by
    show _=_;rw[sR.out];have e1:work.headD Zaw=work[0]'xY:=by
     cases work with
     | nil=>simp at xY
     | cons t r=>rfl
    have e2:work.getD (en-1) Zaw=work[en-1]'xZ:=(by rw[Qv,QJ xZ];rfl);rw[e1,e2]
   obtain⟨xa,xc,xf,-,-,x2,x3,xR,yb,-⟩:=ZaO pY.out xY;obtain⟨ya,yc,yf,-,-,-,y3,yR,-,-⟩:=ZaO pY.out xZ;have HI0:=Qh (hH _ (QE xY)).len;have zk:=Qh (hH _ (QE xZ)).len;generalize work[0]'xY=t0 at *;generalize work[en-1]'xZ=t1 at *;have KX:(Zaa sStr).R w3 [.slice xa t0.hidden.length xc] t0.hidden xf:=by
    obtain⟨hv,aS,-,-,K⟩:=xR;simp only[JH,and_true,true_and]at aS;subst aS;exact K
   have KY:(Zaa sStr).R w3 [.slice ya t1.hidden.length yc] t1.hidden yf:=by
    obtain⟨hv,aS,-,-,K⟩:=yR;simp only[JH,and_true,true_and]at aS;subst aS;exact K
   have kY:Hid (∀U:World,Below w6.heap.size w6 U->U.heap[w.heap.size]?=some (.cells #[.string m.name,.bool m.function,.slice a2 m.params.length c2,.slice a3 m.body.length c3] 56 (0,0))/\U.cell? ⟨bw,ow+3,none⟩=some (.slice xa t0.hidden.length xc)/\U.cell? ⟨bw,ow+(en-1)*4+3,none⟩=some (.slice ya t1.hidden.length yc)):=λU hU=>by
    have BA:=mw.trans (hU.mono mw.size);refine⟨Zag dJ.out BA,(BA.cell (p:=⟨bw,ow+3,none⟩) yb).trans ?_,(BA.cell (p:=⟨bw,ow+(en-1)*4+3,none⟩) yb).trans y3⟩;simpa using x3
   have dp:Hid (∀U:World,Below w6.heap.size w6 U->U.cell? ⟨bw,ow+2,none⟩=some (.bool t0.spaced)):=λU hU=>by
    have BA:=mw.trans (hU.mono mw.size);refine(BA.cell (p:=⟨bw,ow+2,none⟩) yb).trans ?_;simpa using x2
   have hbl9:(both t0.hidden t1.hidden).length<=5000:=(by have:=ZhA t0.hidden t1.hidden;have:=HI0.out;omega);have HBO:=Qh (λ(U:World) (hU:Below w6.heap.size w6 U)=>Zjl (.slice xa t0.hidden.length xc) (.slice ya t1.hidden.length yc) t0.hidden t1.hidden _ _ U (by have:=HI0.out;omega) ((Zaa sStr).below KX (mw.trans (hU.mono mw.size))) ((Zaa sStr).below KY (mw.trans (hU.mono mw.size))));have rL:=Qh (λ(U:World) (vu vn:Value) (fu fn:List Nat) (h1:(Zaa sStr).R U [vu] (both t0.hidden t1.hidden) fu) (h2:(Zaa sStr).R U [vn] [m.name] fn)=>ZiB vu vn (both t0.hidden t1.hidden) m.name fu fn U (by omega) h1 h2);have nK:Below w6.heap.size w6 w6.drew:=Zah (QD _ _) 1;have n1:IntKind.i64.wrap ((en:Int)-1)=(en:Int)-1:=QF _ (by have:=xT.out;omega);have n2:(0:Int)<=(en:Int)-1:=(by have:=xT.out;omega);have n3:(en:Int)-1<(work.length:Int):=(by have:=xT.out;omega);have n4:((en:Int)-1).toNat=en-1:=(by have:=xT.out;omega);have n5:(1:Int)<=(en:Int):=(by have:=xT.out;omega);have n6:(0:Int)<(work.length:Int):=(by omega);have rM:m.name.size<=maxLen:=Bx;clear x2 x3 y3 xR yR KX KY lw HSX aS p1 p2 p3 p4 p5;go_upto_region 16 with fail
   go_cut [22] from 23 (λd wx=>∃(au:Option Addr) (cu:Nat) (fh:List Nat),d=.slice au (ins (both t0.hidden t1.hidden) m.name).length cu/\(Zaa sStr).R wx [.slice au (ins (both t0.hidden t1.hidden) m.name).length cu] (ins (both t0.hidden t1.hidden) m.name) fh/\Below w6.heap.size w6 wx)
   case first =>
    refine wp_region_noPanic ?_;refine JU (S:=λw'=>w'.heap[w.heap.size]?=some (.cells #[.string m.name,.bool m.function,.slice a2 m.params.length c2,.slice a3 m.body.length c3] 56 (0,0))/\w'.cell? ⟨bw,ow+3,none⟩=some (.slice xa t0.hidden.length xc)/\w'.cell? ⟨bw,ow+(en-1)*4+3,none⟩=some (.slice ya t1.hidden.length yc)) (by kernel_rfl) (by exact kY.out _ nK) (λac=>?_);generalize w6.drew=wd at *;refine Qt 0 86 rfl rfl ?_;try simp only[Qp]
    refine Qt 1 87 rfl rfl ?_;try simp only[Qp]
    refine Qt 2 88 rfl rfl ?_;try simp only[Qp]
    refine Qt 3 89 rfl rfl ?_ (by intro w aI;obtain⟨sm,sx,sy⟩:=aI;have m0:=Qc 0 sm;go_simp;(first | done | with_reducible rfl | rfl));try simp only[Qp]
    refine Qt 4 90 rfl rfl ?_;try simp only[Qp]
    refine Qt 5 91 rfl rfl ?_;try simp only[Qp]
    refine Qt 6 92 rfl rfl ?_;try simp only[Qp]
    refine Qt 7 93 rfl rfl ?_;try simp only[Qp]
    refine Qt 8 94 rfl rfl ?_;try simp only[Qp]
    refine Qt 9 95 rfl rfl ?_ (by intro w aI;obtain⟨sm,sx,sy⟩:=aI;have m0:=Qc 0 sm;go_simp;(first | done | with_reducible rfl | rfl));try simp only[Qp]
    refine Qt 11 97 rfl rfl ?_;try simp only[Qp]
    refine Qt 12 98 rfl rfl ?_ (by intro w aI;obtain⟨sm,sx,sy⟩:=aI;have m0:=Qc 0 sm;go_simp;(first | done | with_reducible rfl | rfl));try simp only[Qp]
    refine wpAnyH_ready (rs:=[10,13]) (by kernel_rfl) (by simp) ?_;refine JP rfl (λK hK=>?_) ?_
    ·skip
     go_simp;refine(HBO.out _ nK).mono ?_;rintro e eR⟨vb_,fb_,rfl,RB,-,br⟩;have bZ:=nK.trans (br.mono nK.size);refine hK.out _ _ (kY.out _ bZ) (λac=>?_);clear hK K;try simp only[Qp]
     refine Qr 13 rfl (λK hK=>?_);go_simp;have bk:=Zab eR (.cells #[.string m.name] 9);have RL:=Zc4 (JS eR (.cells #[.string m.name] 9)) rM;have dp:=bZ.trans (bk.mono bZ.size);replace RB:=(Zaa sStr).below RB bk;refine hK.out _ _ (kY.out _ dp) (λac=>?_);clear hK K bk;try simp only[Qp]
     generalize (eR.alloc (.cells #[.string m.name] 9))=gw at *;refine Qr 14 rfl (λK hK=>?_);go_simp;refine(rL.out gw _ _ _ _ RB RL).mono ?_;rintro e wz⟨BB,BC,BD,rfl,t7,-,-,mi⟩;have BE:=dp.trans (mi.mono dp.size);refine hK.out _ _ (kY.out _ BE) (λac=>?_);clear hK K;try simp only[Qp]
     refine Qt 15 22 rfl rfl ?_;try simp only[Qp]
     refine wpAnyH_done (by kernel_rfl) ?_ _;refine QP ?_;clear ac;go_wp2;go_meet;case rel=>exact⟨BB,BC,BD,rfl,t7,BE⟩
    refine JP rfl (λK hK=>?_) AllReadyH.nil;go_simp;have bk:=Zab wd (.cells #[.string m.name] 9);have RL:=Zc4 (JS wd (.cells #[.string m.name] 9)) rM;have d8:=nK.trans (bk.mono nK.size);refine hK.out _ _ (kY.out _ d8) (λac=>?_);clear hK K bk;try simp only[Qp]
    generalize (wd.alloc (.cells #[.string m.name] 9))=sH at *;refine Qr 10 rfl (λK hK=>?_);go_simp;refine(HBO.out _ d8).mono ?_;rintro e xq⟨vb_,fb_,rfl,RB,-,br⟩;have iK:=d8.trans (br.mono d8.size);replace RL:=(Zaa sStr).below RL br;refine hK.out _ _ (kY.out _ iK) (λac=>?_);clear hK K;try simp only[Qp]
    refine Qr 14 rfl (λK hK=>?_);go_simp;refine(rL.out xq _ _ _ _ RB RL).mono ?_;rintro e wz⟨BB,BC,BD,rfl,t7,-,-,mi⟩;have BE:=iK.trans (mi.mono iK.size);refine hK.out _ _ (kY.out _ BE) (λac=>?_);clear hK K;try simp only[Qp]
    refine Qt 15 22 rfl rfl ?_;try simp only[Qp]
    refine wpAnyH_done (by kernel_rfl) ?_ _;refine QP ?_;clear ac;go_wp2;go_meet;case rel=>exact⟨BB,BC,BD,rfl,t7,BE⟩
   obtain⟨au,cu,fh,rfl,Rh,db⟩:=hcut;generalize wc=w7 at *;have t8:=xX.trans (db.mono xX.size);have x2:=dp.out _ db;have hil:(ins (both t0.hidden t1.hidden) m.name).length<=5001:=(by have:=ZhB m.name (both t0.hidden t1.hidden);omega);have jX:=Qh (Zjn (.slice ab bd.length cb) bd fb _ _ fh t0.spaced w7 (by have h240:bd.length<=240:=py.out;omega) (λq hq=>by have cU:HidIn N bd[q]:=px.out _ (QE hq);have:=cU.len;omega) ((Zaa sTok).below Rb db) Rh);clear HBO rL nK Rb;go_wp2_with fail
   refine jX.out.mono ?_;rintro e w8⟨v8,L8,rfl,R8,D8,F8,cN⟩;have hBr8:=t8.trans (cN.mono t8.size);have R8F:=Qh (R8.lower (base':=w.heap.size) t8.size);have D8F:=Qh D8;have F8F:Hid (∀x∈L8,∀b∈x.fp,w.heap.size<=b):=λx hx b aE=>QZ t8.size (F8 x hx b aE);obtain⟨a8,c8,qV,-⟩:=R8.val;subst qV;clear R8 D8 F8 jX;go_wp2
   (try simp only[Exit.inBlock,Exit.then]);refine JV (ZdX rfl _ _ _) rfl ?_
   exact⟨_,L8,by rw[HF.out];rfl,R8F.out,by rw[HF.out];exact D8F.out,F8F.out,hBr8⟩
end Go.Proofs.YtipfpppcbmpjiaaGreat
