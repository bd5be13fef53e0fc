/- Lemmas. -/
import Derived.Test.YtipfpppcbmpjiaaGreatZC8
import Derived.Laws.ResultCell
set_option linter.unusedVariables false
set_option maxHeartbeats 16000000
set_option maxRecDepth 100000
set_option linter.unusedSimpArgs false
namespace Go.Proofs.YtipfpppcbmpjiaaGreat
open Go.RowKit
def EqU {α β:Type}(f:α->β)(a b:List α)(k:Nat):Prop:=∀j,(h:j<a.length)->(h':j<b.length)->j<k->f a[j]=f b[j]
section
variable {α β:Type}{f:α->β}{a b:List α}{k:Nat}
theorem EqU.zero (f:α->β)(a b:List α):EqU f a b 0:=by intro j _ _ h;omega
theorem EqU.succ (h:EqU f a b k)(h1:k<a.length)(h2:k<b.length)(e:f a[k]=f b[k]):EqU f a b (k+1):=by
 intro j hj le my;by_cases e':j=k
 ·subst e';exact e
 ·exact h j hj le (by omega)
theorem EqU.yes (h:EqU f a b k)(hl:a.length=b.length)(hk:a.length<=k):a.map f=b.map f:=by
 refine List.ext_getElem (by simpa using hl) λi h1 h2=>?_;simp only[QH]at h1 h2;rw[JF,JF];exact h i h1 h2 (by omega)
theorem eqU_no (h1:k<a.length)(h2:k<b.length)(e:f a[k]≠f b[k]):a.map f≠b.map f:=by
 intro e';have:=List.getElem_of_eq e' (i:=k) (by simpa using h1);rw[JF,JF]at this;exact e this
end
def spOf (t:Tok):Bool:=t.spaced
def Zdk (a b:List Tok):Bool:=Zdq a b && decide (a.map spOf=b.map spOf)
def Zci (x y:DMacro):Bool:=decide (x.name=y.name) && decide (x.function=y.function) && decide (x.params=y.params) && Zdk x.body y.body
theorem ZpG {a b:List Tok}(h:Zdq a b=true):a.length=b.length:=by
 by_cases e:a.length=b.length
 ·exact e
 ·rw[ZmN e]at h;simp at h
variable {x y:DMacro}
theorem Zm3 (h:x.name≠y.name):Zci x y=false:=by unfold Zci;rw[JQ h];rfl
theorem Zoh (h:x.function≠y.function):Zci x y=false:=by unfold Zci;rw[JQ h,JB];rfl
theorem Zjg (h:x.params≠y.params):Zci x y=false:=by unfold Zci;rw[JQ h,JB];rfl
theorem Zjh (h:Zdk x.body y.body=false):Zci x y=false:=by unfold Zci;rw[h,JB]
theorem Zoi (h0:x.name=y.name)(h1:x.function=y.function)(h2:x.params=y.params)(h3:Zdk x.body y.body=true):Zci x y=true:=by
 unfold Zci;rw[h3,JR h0,JR h1,JR h2];rfl
theorem Zoj {a b:List Tok}(h:Zdq a b=false):Zdk a b=false:=by unfold Zdk;rw[h];rfl
theorem Zok {a b:List Tok}(h:a.map spOf≠b.map spOf):Zdk a b=false:=by unfold Zdk;rw[JQ h,JB]
theorem Zm4 {a b:List Tok}(h:Zdq a b=true)(h2:a.map spOf=b.map spOf):Zdk a b=true:=by unfold Zdk;rw[h,JR h2];rfl
theorem blk2 {w w':World}{a b:Nat}{x y:Obj}(h:w.heap[a]?=some x/\w.heap[b]?=some y)(hb:Below w.heap.size w w'):w'.heap[a]?=some x/\w'.heap[b]?=some y:=
 ⟨(hb.block _ (Qg h.1).1).trans h.1,(hb.block _ (Qg h.2).1).trans h.2⟩
theorem Zlb (cs1 cs2:List Value)(x y:DMacro)(de bv:List Nat)(w:World)(H1:sMacro.R w cs1 x de)(H2:sMacro.R w cs2 y bv):
  Calls Tryz.prog 75 #[.agg cs1.toArray,.agg cs2.toArray] w (Zbu (Zci x y) w):=by
 obtain⟨h2,h3,fpa2,fpa3,rfl,-,K2,K3,rfl⟩:=H1;obtain⟨g2,g3,fpb2,fpb3,rfl,-,L2,L3,rfl⟩:=H2;have HS:=Qh (λW (hW:Below w.heap.size w W)=>ZkW _ _ x.body y.body _ _ W ((Zaa sTok).below K3 hW) ((Zaa sTok).below L3 hW));obtain⟨a2,kH,rfl,dA,sg,jE,-⟩:=Zaf K2;obtain⟨a3,kI,rfl,wj,jK,tc⟩:=Zac K3;obtain⟨d2,cd2,rfl,hcd2,hmd2,bi,-⟩:=Zaf L2;obtain⟨d3,cd3,rfl,hcd3,hmd3,iR⟩:=Zac L3;unfold maxLen at sg jK hmd2 hmd3;have b0:=Zab w (.cells #[.string x.name,.bool x.function,.slice a2 x.params.length kH,.slice a3 x.body.length kI] 56);have b1:=b0.trans ((Zab (w.alloc (.cells #[.string x.name,.bool x.function,.slice a2 x.params.length kH,.slice a3 x.body.length kI] 56)) (.cells #[.string y.name,.bool y.function,.slice d2 y.params.length cd2,.slice d3 y.body.length cd3] 56)).mono b0.size);have HX:=Qh (Zdj w #[.string x.name,.bool x.function,.slice a2 x.params.length kH,.slice a3 x.body.length kI] #[.string y.name,.bool y.function,.slice d2 y.params.length cd2,.slice d3 y.body.length cd3] 56 56);clear K2 K3 L2 L3 b0;by_cases e0:x.name=y.name;rotate_left
 ·have g0:=Zcb e0;have HF:=Qh (Zm3 e0);clear e0;go_enter Tryz.func75,Tryz.ntmps75;go_wp2;go_ret;exact⟨Zad HF.out.symm,b1⟩
 have g0:=Zca e0;by_cases e1:x.function=y.function;rotate_left
 ·have g1:(x.function==y.function)=false:=by simp[e1]
  have HF:=Qh (Zoh e1);clear e0 e1;go_enter Tryz.func75,Tryz.ntmps75;go_wp2;go_ret;exact⟨Zad HF.out.symm,b1⟩
 have g1:(x.function==y.function)=true:=by simp[e1]
 by_cases e2:x.params.length=y.params.length;rotate_left
 ·have g2:((x.params.length:Int) != (y.params.length:Int))=true:=by simp;omega
  have HF:=Qh (Zjg (λh=>e2 (by rw[h]):x.params≠y.params));clear e0 e1 e2;go_enter Tryz.func75,Tryz.ntmps75;go_wp2;go_ret;exact⟨Zad HF.out.symm,b1⟩
 have g2:((x.params.length:Int) != (y.params.length:Int))=false:=by simp[e2]
 cases e3:Zdq x.body y.body
 ·rw[e3]at HS;have HF:=Qh (Zjh (Zoj e3));clear e0 e1 e2 e3;go_enter Tryz.func75,Tryz.ntmps75;go_wp2_with fail
  refine(HS.out _ b1).mono ?_;rintro e w2⟨rfl,c2⟩;go_wp2;go_ret;exact⟨Zad HF.out.symm,b1.trans (c2.mono b1.size)⟩
 rw[e3]at HS;have lE:=Qh e2;have qn:=Qh (ZpG e3);have HY:Hid (x.params=y.params->x.body.map spOf=y.body.map spOf->Zci x y=true):=λh h'=>Zoi e0 e1 h (Zm4 e3 h');clear e0 e1 e2 e3;go_enter Tryz.func75,Tryz.ntmps75;go_wp2_with fail
 refine(HS.out _ b1).mono ?_;rintro e w2⟨rfl,c2⟩;have d2':=b1.trans (c2.mono b1.size);replace HX:=Qh (blk2 HX.out c2);clear c2 HS b1 g0 g1 g2;go_wp2_with fail
 go_loopw [5] (λi wr=>∃k:Nat,k<=x.params.length/\i=.int .i64 k/\Hid (EqU id x.params y.params k)/\Below w2.heap.size w2 wr) (λi _=>x.params.length-(intOf i).toNat)
 case atStart=>exact⟨0,by omega,rfl,EqU.zero _ _ _,QD _ _⟩
 case round =>
  obtain⟨k,hk,rfl,az,hb⟩:=hrel;have fi:=Qh (blk2 HX.out hb);have qa2:=Qc 2 fi.out.1;have qb2:=Qc 2 fi.out.2;have zU:=d2'.trans (hb.mono d2'.size);by_cases af:k<x.params.length
  ·have ce:k<y.params.length:=(by have:=lE.out;omega);obtain⟨p1,o1,rfl,m6,-,bj⟩:=jE (by omega);obtain⟨p2,o2,rfl,yC,-,pF⟩:=bi (by omega);have c1:wr.cell? ⟨p1,o1+k,none⟩=some (.string x.params[k]):=(Qu (zU.block p1 m6)).trans (bj k af);have c2:wr.cell? ⟨p2,o2+k,none⟩=some (.string y.params[k]):=(Qu (zU.block p2 yC)).trans (pF k ce);clear jE bi bj pF;by_cases e:x.params[k]=y.params[k]
   ·have q:=Zca e;have hn:=Qh (az.out.succ af ce e);clear e az;go_wp2
    go_quiet (fail)
    go_wp2;go_roundw;case rel=>exact⟨k+1,by omega,by go_num,hn,Zah hb _⟩
    case measure=>simp[intOf];omega
   ·have q:=Zcb e;have HF:=Qh (Zjg (λh=>eqU_no (f:=id) af ce e (by rw[h])));clear e az;go_wp2
    go_quiet (fail)
    go_wp2;go_ret;exact⟨Zad HF.out.symm,Zah zU _⟩
  ·have wv:x.params.map id=y.params.map id:=az.out.yes lE.out (by omega);rw[List.map_id,List.map_id]at wv;replace HY:=Qh (HY.out wv);clear az wv jE bi;go_wp2;go_loopw [6] (λi w3=>∃k:Nat,k<=x.body.length/\i=.int .i64 k/\Hid (EqU spOf x.body y.body k)/\Below wr.heap.size wr w3) (λi _=>x.body.length-(intOf i).toNat)
   case atStart=>exact⟨0,by omega,rfl,EqU.zero _ _ _,QD _ _⟩
   case round =>
    clear qa2 qb2;obtain⟨j,hj,rfl,az,aF⟩:=hrel;have bB:=Qh (blk2 fi.out aF);have qa3:=Qc 3 bB.out.1;have qb3:=Qc 3 bB.out.2;have d3r:=zU.trans (aF.mono zU.size);by_cases af:j<x.body.length
    ·have ce:j<y.body.length:=(by have:=qn.out;omega);obtain⟨b1,ae,dt,rfl,aG,-,bj⟩:=tc (by omega);obtain⟨b2,sY,fps2,rfl,qo,-,pF⟩:=iR (by omega);obtain⟨lA,bf,bR⟩:=bj j af;obtain⟨up,cQ,bN⟩:=pF j ce;clear tc iR bj pF;obtain⟨h1,rfl,_,_,_⟩:=bR;obtain⟨h2,rfl,_,_,_⟩:=bN;replace bf:=bf.frame (d3r.block b1 aG);replace cQ:=cQ.frame (d3r.block b2 qo);have dh:wr.cell? ⟨b1,ae+j*4+2,none⟩=some _:=Zae (j:=2) bf (by decide) rfl;have c22:wr.cell? ⟨b2,sY+j*4+2,none⟩=some _:=Zae (j:=2) cQ (by decide) rfl;clear bf cQ;by_cases e:x.body[j].spaced=y.body[j].spaced
     ·have q1:(x.body[j].spaced==y.body[j].spaced)=true:=(by simp[e]);have hn:=Qh (az.out.succ af ce e);clear e az;go_wp2
      go_quiet (fail)
      go_wp2;go_roundw;case rel=>exact⟨j+1,by omega,by go_num,hn,Zah aF _⟩
      case measure=>simp[intOf];omega
     ·have q1:(x.body[j].spaced==y.body[j].spaced)=false:=(by simp[e]);have HF:=Qh (Zjh (Zok (eqU_no (f:=spOf) af ce e)));clear e az;go_wp2
      go_quiet (fail)
      go_wp2;go_ret;exact⟨Zad HF.out.symm,Zah d3r _⟩
    ·have HF:=Qh (HY.out (az.out.yes qn.out (by omega)));clear az;go_wp2;go_ret;exact⟨Zad HF.out.symm,d3r⟩
variable {w:World}{α:Type}{S:Shape α}
theorem Zbp {a:Option Addr}{len cap:Nat}{l:List α}{fp:List Nat}(i:Nat)(hi:i<=l.length)(H:(Zaa S).R w [.slice a len cap] l fp):
  ∃fp',(Zaa S).R w [.slice (if cap=i then a else a.map (·.add (i*S.m))) (len-i) (cap-i)] (l.drop i) fp'/\∀b∈fp',b∈fp:=by
 obtain⟨a',dF,hv,hc,hm,h⟩:=H;simp only[JH,QT,and_true]at hv;obtain⟨rfl,rfl,rfl⟩:=hv;have hl:(l.drop i).length=l.length-i:=by simp
 by_cases h0:i=l.length
 ·refine⟨[],⟨_,_,by rw[hl],by rw[hl];omega,by omega,.inl ⟨?_,rfl⟩⟩,by simp⟩;subst h0;simp
 ·rcases h with⟨rfl,_⟩ | ⟨_,b,off,bA,ha,rfl,hb,he⟩
  ·simp at hi;simp at h0;omega
  ·subst ha;refine⟨b::(List.range (l.length-i)).flatMap λj=>bA (i+j),⟨_,_,by rw[hl],by rw[hl];omega,by omega,.inr ⟨by omega,b,off+i*S.m,λj=>bA (i+j),?_,by rw[hl],hb,λj hj=>?_⟩⟩,?_⟩
   ·rw[if_neg (by omega),JM,JN]
   ·rw[hl]at hj;obtain⟨es,h1,h2⟩:=he (i+j) (by omega);refine⟨es,⟨h1.1,λx hx=>?_⟩,by rw[List.getElem_drop];exact h2⟩;rw[←h1.2 x hx];congr 2
    rw[Nat.add_mul];omega
   ·intro x hx;rcases Q7.1 hx with rfl | hx
    ·simp
    ·obtain⟨j,hj,hx⟩:=QO.1 hx;refine List.mem_cons_of_mem _ (QO.2 ⟨i+j,?_,hx⟩);simp only[List.mem_range]at hj ⊢;omega
variable {P:Program}
theorem Zdl {t e:TypeId}{z:Value}{bytes:Nat}(ti:TI P t e z S.m bytes)(ev:z.cells.size=S.m)(h0:0<S.m)(w:World){L X:List (Elem α)}{ops:Array Oper}{o:Oper}{a:Act}{K:Act->World->Prop}{Q:Exit->Act->World->Prop}{E:Prop}
  (d:Nat) (fN:o.dst=some d) (hg:o.guard=none) (s y:Operand) (ho:o.op=.call { callee:=.builtin .append,args:=#[s,y],argTypes:=#[t,t] })
  (base:Nat) (v:Value) (hs:a.eval s=v) (ag:RowG S base e v L w) (g off m c:Nat) (hy:a.eval y=.slice (some ⟨g,off,none⟩) m c) (hm:X.length=m)
  (hX:∀x∈X,x.cells.length=S.m/\S.R w x.cells x.d x.fp/\∀b∈x.fp,b<base) (h1:∀x∈X,∀u∈x.cells,u.oneCell'=true) (aJ:∀j u,(X.flatMap (·.cells))[j]?=some u->w.cell? ⟨g,off+j,none⟩=some u)
  (dz:L.length+m<=maxLen) (aO:(L.length+m)*bytes<=140737488355328) (aK:base<=w.heap.size)
  (h:∀v' w',RowG S base e v' (L++X) w'->w.grownBy w' v.ownBlock->K (a.put (some d) v') w'):if Region.wanted o (yielded ops a.tmps)=true then Oper.wp P o a w K Q else E:=by
 rw[←fN]at h;have pI:Region.wanted o (yielded ops a.tmps)=true:=by simp[Region.wanted,hg]
 obtain⟨i,hi,cI,dQ,dZ⟩:=info_parts ti.2;subst hm;rw[if_pos pI];refine wp_append_own w s y t ho base e i z S.m bytes ti.1 hi cI dQ dZ ev h0 v L.length _ hs ag.row ⟨g,off,none⟩ X.length c (X.flatMap (·.cells)) hy (ZaR (f:=Elem.cells) λx hx=>(hX x hx).1) ?_ ?_ dz aO aK λv' w' r1 r2 _=>h v' w' ?_ r2
 ·intro j u hj;rw[JN];exact aJ j u hj
 ·intro u hu;obtain⟨x,hx,hu⟩:=QO.1 hu;exact h1 x hx u hu
 ·refine ag.appended ?_ r2 hX;rw[QC,Qo];exact r1
theorem Zi0 (base:Nat)(t ty e:TypeId)(i:TypeInfo)(size c:Nat)(ht:P.underlying t=some (.slice e))(hi:P.info? e=some i)
  (v:Value) (n:Nat) (xs:List Value) (ag:w.ownsRow base e size v n xs):(Builtin.append_ #[t,t] ty #[v,.slice none 0 c]).run P w=.ok v w:=by
 rcases ag.2 with⟨rfl,rfl⟩ | ⟨g,cap,cur,rfl,_,_,j7,_⟩
 ·simp[Builtin.append_,run_underlying ht,sizeOf,typeInfo,hi,Builtin.lenOf,Builtin.firstCells]
 ·simp[Builtin.append_,run_underlying ht,sizeOf,typeInfo,hi,Builtin.lenOf,Builtin.firstCells,j7,storeCells]
theorem Zbj {t e:TypeId}{z:Value}{bytes:Nat}(ti:TI P t e z S.m bytes)(ev:z.cells.size=S.m)(h0:0<S.m)(cY:∀w cs x fp,S.R w cs x fp->∀u∈cs,u.oneCell'=true)(w:World){L:List (Elem α)}{ops:Array Oper}{o:Oper}{a:Act}{K:Act->World->Prop}{Q:Exit->Act->World->Prop}{E:Prop}
  (d:Nat) (fN:o.dst=some d) (hg:o.guard=none) (s y:Operand) (ho:o.op=.call { callee:=.builtin .append,args:=#[s,y],argTypes:=#[t,t] })
  (base:Nat) (v u:Value) (M:List α) (fp:List Nat) (hs:a.eval s=v) (ag:RowG S base e v L w) (hy:a.eval y=u) (HM:(Zaa S).R w [u] M fp) (eY:∀b∈fp,b<base)
  (dz:L.length+M.length<=maxLen) (aO:(L.length+M.length)*bytes<=140737488355328) (aK:base<=w.heap.size)
  (h:∀v' X w',X.map (·.d)=M->(∀x∈X,∀b∈x.fp,b∈fp)->RowG S base e v' (L++X) w'->w.grownBy w' v.ownBlock->K (a.put (some d) v') w'):if Region.wanted o (yielded ops a.tmps)=true then Oper.wp P o a w K Q else E:=by
 rw[←fN]at h;have pI:Region.wanted o (yielded ops a.tmps)=true:=by simp[Region.wanted,hg]
 obtain⟨X,ad,cap,qm,eH,rfl,hmm,hX,df⟩:=Zm2 HM;rw[←eH]at dz aO;by_cases hM:0<M.length
 ·obtain⟨b,off,rfl,hb,hE⟩:=df hM;refine Zdl ti ev h0 w (X:=X) d fN hg s y ho base v hs ag b off M.length cap hy eH (λx hx=>⟨(hX x hx).1,(hX x hx).2.1,λc hc=>eY c ((hX x hx).2.2 c hc)⟩) (λx hx=>cY _ _ _ _ (hX x hx).2.1) ?_ (by rw[←eH];exact dz) (by rw[←eH];exact aO) aK λv' w' r1 r2=>by rw[←fN];exact h v' X w' qm (λx hx=>(hX x hx).2.2) r1 r2
  intro j u hj;have lj:j<X.length*S.m:=by
   have:=(Qq.1 hj).1
   rwa [ZaR (f:=Elem.cells) λx hx=>(hX x hx).1]at this
  have hk:j / S.m<X.length:=Nat.div_lt_of_lt_mul (by rw[Nat.mul_comm];exact lj);have hr:j % S.m<S.m:=Nat.mod_lt _ h0;have iF:j / S.m*S.m+j % S.m=j:=Nat.div_add_mod' _ _;rw[←iF,Zb4 (f:=Elem.cells) (λx hx=>(hX x hx).1) hk hr]at hj;have:=(hE (j / S.m) hk).2 (j % S.m) hr;rw[Nat.add_assoc,iF]at this;rw[this];exact hj
 ·have qg:X=[]:=QU.1 (by omega);have zQ:M.length=0:=by omega
  subst qg;obtain⟨i,hi,cI,dQ,dZ⟩:=info_parts ti.2;have gn:K (a.put o.dst v) w:=h v [] w (by simpa using qm) (by simp) (by simpa using ag) ⟨rfl,rfl,rfl,QA _,λ_ _ _=>rfl⟩;rw[zQ]at hy;cases ad with
  |
   none =>
   have gQ:=Zi0 (P:=P) (w:=w) base _ o.type _ i S.m cap ti.1 hi v L.length _ ag.row;rw[if_pos pI];unfold Oper.wp;simp[execOp,ho,resolve,invoke,builtin,hs,hy,gQ,Result.andThen];exact gn
  |
   some ad =>
   rw[if_pos pI];refine wp_append_own w s y t ho base e i z S.m bytes ti.1 hi cI dQ dZ ev h0 v L.length _ hs ag.row ad 0 cap [] hy (by simp) (by simp) (by simp) (by omega) (by simpa using aO) aK λv' w' r1 r2 _=>h v' [] w' (by simpa using qm) (by simp) ?_ r2;exact ag.appended (X:=[]) (by have h1':=r1;simp only[Q0,Q5]at h1' ⊢;exact h1') r2 (by simp)
def Zhw (l:List DMacro)(m:DMacro)(k:Nat):List DMacro:=l.take k++[m]++l.drop k
def Zeh (l:List DMacro)(m:DMacro):List DMacro × Bool:=
 if ZaU l=true then
  (if Zaq m=true then
   (
   if isIn l m.name=true then (l,(if h:lowAt l m.name<l.length then Zci l[lowAt l m.name] m else false))
   else if l.length=10 then (l,false) else (Zhw l m (lowAt l m.name),true))
  else (l,false))
 else ([],false)
theorem isIn_lt2 {l:List DMacro}{nm:ByteArray}(hi:isIn l nm=true):lowAt l nm<l.length:=by
 by_cases h:lowAt l nm<l.length
 ·exact h
 ·unfold isIn at hi;rw[dif_neg h]at hi;exact absurd hi (by simp)
def RetDef (r:List DMacro × Bool)(w:World)(e:Ending)(w':World):Prop:=
 ∃(v:Value) (L:List (Elem DMacro)) (top:Nat),e=.returned (.tuple #[v,.bool r.2])/\RowG sMacro top 56 v L w'/\L.map (·.d)=r.1/\w.heap.size<=top/\top<=w'.heap.size/\(∀x∈L,∀b∈x.fp,w.heap.size<=b)/\Below w.heap.size w w'
variable {g:Prop}
theorem Y9A1 (h:g:=by
 intro vq X1 x1 gE dN hG bz;have aD:Below wd.heap.size x0 x1:=(QD wd.heap.size x0).grown bz (by omega) (λb hb=>by have:=gp.out.mine b hb;omega);have zV:=aD.size;have HXx1:=Qh ((aD.block w.heap.size (by omega)).trans oQ.out);have lF:=Qh ((Zaa sMacro).frame (w':=x1) (λb hb=>aD.block b (da.out.2.1 b hb).1) fC.out);have HMx1:=Qh (sMacro.frame (w':=x1) (λb hb=>aD.block b (da.out.2.2 b hb).1) tp.out);have HRAx1:=Qh ((Zaa sMacro).frame (w':=x1) (λb hb=>aD.block b (da.out.1 b hb).1) ey.out);have km:Hid (X1.length=n):=by show _=_;rw[←dE.out.1,←gE,QH]
 have HX1d:=Qh gE;have HX1f:=Qh dN;clear gE dN;have lG:=Qh (gq.out.trans (aD.mono (by omega)));have lH:=Qh (show RowG sMacro (wd.heap.size) 56 vq X1 x1 from hG);obtain⟨qp,qq,rfl,hq⟩:=lH.out.val;clear hq;refine hK.out _ _ HXx1.out (λac=>?_);clear hK K bz hG aD;try simp only[Qp]
 refine Qr 6 rfl (λK hK=>?_) (by decide +kernel);have bl:=Zab x1 (.cells #[.string m.name,.bool m.function,.slice b2 m.params.length d2,.slice b3 m.body.length d3] 56);have zW:x1.heap.size+1<=(x1.alloc (.cells #[.string m.name,.bool m.function,.slice b2 m.params.length d2,.slice b3 m.body.length d3] 56)).heap.size:=JJ (QR _).symm;have qr:=Qh (JS x1 (.cells #[.string m.name,.bool m.function,.slice b2 m.params.length d2,.slice b3 m.body.length d3] 56));have lI:=Qh (lH.out.below bl);go_simp;have HXx2:=Qh ((bl.block w.heap.size (by omega)).trans HXx1.out);have HRAx2:=Qh ((Zaa sMacro).below HRAx1.out bl);have lJ:=Qh ((Zaa sMacro).below lF.out bl);have HMx2:=Qh (sMacro.below HMx1.out bl);have qs:=Qh (lG.out.trans (bl.mono lG.out.size));refine hK.out _ _ HXx2.out (λac=>?_);clear hK K bl;try simp only[Qp]
 generalize (x1.alloc (.cells #[.string m.name,.bool m.function,.slice b2 m.params.length d2,.slice b3 m.body.length d3] 56))=x2 at *;refine Qr 7 rfl (λK hK=>?_) (by decide +kernel);refine Zdl (X:=[(⟨[.string m.name,.bool m.function,.slice b2 m.params.length d2,.slice b3 m.body.length d3],m,f2⟩:Elem DMacro)]) Zcm rfl (by decide) _ 73 rfl rfl (.tmp 70) (.tmp 72) rfl (wd.heap.size) (.slice qp X1.length qq) rfl lI.out (x1.heap.size) 0 1 1 rfl rfl (λx hx=>by obtain rfl:=Qm hx;exact⟨rfl,HMx2.out,λb hb=>by have:=(da.out.2.2 b hb).1;omega⟩) (λx hx=>by obtain rfl:=Qm hx;simp[Value.oneCell']) (λj u hj=>by rw[QX,cell_of_row _ _ _ _ _ _ qr.out];simpa using hj) (by unfold maxLen;have:=km.out;omega) (by have:=km.out;omega) (by omega) ?_;intro vq x3 hG bz;have aD:Below wd.heap.size x2 x3:=(QD wd.heap.size x2).grown bz (by omega) (λb hb=>by have:=lI.out.mine b hb;omega);have zX:=aD.size;have HXx3:=Qh ((aD.block w.heap.size (by omega)).trans HXx2.out);have lK:=Qh ((Zaa sMacro).frame (w':=x3) (λb hb=>aD.block b (da.out.2.1 b hb).1) lJ.out);have qt:=Qh (qs.out.trans (aD.mono (by omega)));have iT:=Qh hG;obtain⟨qu,qv,rfl,hq⟩:=iT.out.val;clear hq;refine hK.out _ _ HXx3.out (λac=>?_);clear hK K bz hG aD;try simp only[Qp]
 refine Qr 11 rfl (λK hK=>?_) (by decide +kernel);refine Zbj Zcm rfl (by decide) Zdv _ 77 rfl rfl (.tmp 73) (.tmp 76) rfl (wd.heap.size) (.slice qu (X1++[(⟨[.string m.name,.bool m.function,.slice b2 m.params.length d2,.slice b3 m.body.length d3],m,f2⟩:Elem DMacro)]).length qv) sv (l.drop n) fb rfl iT.out rfl lK.out (λb hb=>by have:=(da.out.2.1 b hb).1;omega) (by rw[dE.out.2,QC];simp[maxLen];have:=km.out;omega) (by rw[dE.out.2,QC];simp;have:=km.out;omega) (by omega) ?_;intro vq X3 x4 gE dN hG bz;have aD:Below wd.heap.size x3 x4:=(QD wd.heap.size x3).grown bz (by omega) (λb hb=>by have:=iT.out.mine b hb;omega);have zY:=aD.size;have HXx4:=Qh ((aD.block w.heap.size (by omega)).trans HXx3.out);have qw:=Qh (qt.out.trans (aD.mono (by omega)));have qx:=Qh hG;have HDD:Hid ((X1++[(⟨[.string m.name,.bool m.function,.slice b2 m.params.length d2,.slice b3 m.body.length d3],m,f2⟩:Elem DMacro)]++X3).map (·.d)=Zhw l m n):=by show _=_;rw[QG,QG,HX1d.out,gE];rfl
 have gR:Hid (∀x∈X1++[(⟨[.string m.name,.bool m.function,.slice b2 m.params.length d2,.slice b3 m.body.length d3],m,f2⟩:Elem DMacro)]++X3,∀b∈x.fp,w.heap.size<=b):=λx hx b hb=>by
  rcases Qa hx with hx | hx
  ·rcases Qa hx with hx | hx
   ·exact(da.out.1 b (HX1f.out x hx b hb)).2
   ·obtain rfl:=Qm hx;exact(da.out.2.2 b hb).2
  ·exact(da.out.2.1 b (dN x hx b hb)).2
 clear gE dN;refine hK.out _ _ HXx4.out (λac=>?_);clear hK K bz hG aD;try simp only[Qp]
 refine Qt 12 4 rfl rfl ?_;try simp only[Qp]
 refine Qt 13 5 rfl rfl ?_;try simp only[Qp]
 refine wpAnyH_done (by kernel_rfl) ?_ _;refine QP ?_;clear ac;go_wp2;go_ret2
 exact⟨_,_,_,by rw[HD.out];rfl,qx.out,by rw[HD.out];exact HDD.out,by omega,by omega,gR.out,qw.out⟩):g:=h
theorem Y9A2 (h:g:=by
 intro vq X1 aU gE dN hG bz;have aD:Below wd.heap.size aV aU:=(QD wd.heap.size aV).grown bz (by omega) (λb hb=>by have:=fD.out.mine b hb;omega);have uy:=aD.size;have HXx11:=Qh ((aD.block w.heap.size (by omega)).trans nV.out);have iU:=Qh ((Zaa sMacro).frame (w':=aU) (λb hb=>aD.block b (da.out.2.1 b hb).1) gS.out);have HMx11:=Qh (sMacro.frame (w':=aU) (λb hb=>aD.block b (da.out.2.2 b hb).1) uz.out);have HRAx11:=Qh ((Zaa sMacro).frame (w':=aU) (λb hb=>aD.block b (da.out.1 b hb).1) eI.out);have lL:=Qh ((bz.block (wd.heap.size) (by omega) (by simp[Value.ownBlock];omega)).trans kn.out);have km:Hid (X1.length=n):=by show _=_;rw[←dE.out.1,←gE,QH]
 have HX1d:=Qh gE;have HX1f:=Qh dN;clear gE dN;have lM:=Qh (ko.out.trans (aD.mono (by omega)));have eJ:=Qh (show RowG sMacro (x9.heap.size) 56 vq X1 aU from hG);obtain⟨lN,lO,rfl,hq⟩:=eJ.out.val;clear hq;refine hK.out _ _ HXx11.out (λac=>?_);clear hK K bz hG aD;try simp only[Qp]
 refine Qr 7 rfl (λK hK=>?_) (by decide +kernel);refine Zdl (X:=[(⟨[.string m.name,.bool m.function,.slice b2 m.params.length d2,.slice b3 m.body.length d3],m,f2⟩:Elem DMacro)]) Zcm rfl (by decide) _ 73 rfl rfl (.tmp 70) (.tmp 72) rfl (x9.heap.size) (.slice lN X1.length lO) rfl eJ.out (wd.heap.size) 0 1 1 rfl rfl (λx hx=>by obtain rfl:=Qm hx;exact⟨rfl,HMx11.out,λb hb=>by have:=(da.out.2.2 b hb).1;omega⟩) (λx hx=>by obtain rfl:=Qm hx;simp[Value.oneCell']) (λj u hj=>by rw[QX,cell_of_row _ _ _ _ _ _ lL.out];simpa using hj) (by unfold maxLen;have:=km.out;omega) (by have:=km.out;omega) (by omega) ?_;intro vq aW hG bz;have aD:Below wd.heap.size aU aW:=(QD wd.heap.size aU).grown bz (by omega) (λb hb=>by have:=eJ.out.mine b hb;omega);have uA:=aD.size;have HXx12:=Qh ((aD.block w.heap.size (by omega)).trans HXx11.out);have iV:=Qh ((Zaa sMacro).frame (w':=aW) (λb hb=>aD.block b (da.out.2.1 b hb).1) iU.out);have lP:=Qh (lM.out.trans (aD.mono (by omega)));have eK:=Qh hG;obtain⟨lQ,lR,rfl,hq⟩:=eK.out.val;clear hq;refine hK.out _ _ HXx12.out (λac=>?_);clear hK K bz hG aD;try simp only[Qp]
 refine Qr 11 rfl (λK hK=>?_) (by decide +kernel);refine Zbj Zcm rfl (by decide) Zdv _ 77 rfl rfl (.tmp 73) (.tmp 76) rfl (x9.heap.size) (.slice lQ (X1++[(⟨[.string m.name,.bool m.function,.slice b2 m.params.length d2,.slice b3 m.body.length d3],m,f2⟩:Elem DMacro)]).length lR) sv (l.drop n) fb rfl eK.out rfl iV.out (λb hb=>by have:=(da.out.2.1 b hb).1;omega) (by rw[dE.out.2,QC];simp[maxLen];have:=km.out;omega) (by rw[dE.out.2,QC];simp;have:=km.out;omega) (by omega) ?_;intro vq X3 aZ gE dN hG bz;have aD:Below wd.heap.size aW aZ:=(QD wd.heap.size aW).grown bz (by omega) (λb hb=>by have:=eK.out.mine b hb;omega);have uB:=aD.size;have HXx13:=Qh ((aD.block w.heap.size (by omega)).trans HXx12.out);have lS:=Qh (lP.out.trans (aD.mono (by omega)));have lT:=Qh hG;have HDD:Hid ((X1++[(⟨[.string m.name,.bool m.function,.slice b2 m.params.length d2,.slice b3 m.body.length d3],m,f2⟩:Elem DMacro)]++X3).map (·.d)=Zhw l m n):=by show _=_;rw[QG,QG,HX1d.out,gE];rfl
 have gR:Hid (∀x∈X1++[(⟨[.string m.name,.bool m.function,.slice b2 m.params.length d2,.slice b3 m.body.length d3],m,f2⟩:Elem DMacro)]++X3,∀b∈x.fp,w.heap.size<=b):=λx hx b hb=>by
  rcases Qa hx with hx | hx
  ·rcases Qa hx with hx | hx
   ·exact(da.out.1 b (HX1f.out x hx b hb)).2
   ·obtain rfl:=Qm hx;exact(da.out.2.2 b hb).2
  ·exact(da.out.2.1 b (dN x hx b hb)).2
 clear gE dN;refine hK.out _ _ HXx13.out (λac=>?_);clear hK K bz hG aD;try simp only[Qp]
 refine Qt 12 4 rfl rfl ?_;try simp only[Qp]
 refine Qt 13 5 rfl rfl ?_;try simp only[Qp]
 refine wpAnyH_done (by kernel_rfl) ?_ _;refine QP ?_;clear ac;go_wp2;go_ret2
 exact⟨_,_,_,by rw[HD.out];rfl,lT.out,by rw[HD.out];exact HDD.out,by omega,by omega,gR.out,lS.out⟩):g:=h
theorem Y9A3 (h:g:=by
 intro vq X1 x6 gE dN hG bz;have aD:Below wd.heap.size x5 x6:=(QD wd.heap.size x5).grown bz (by omega) (λb hb=>by have:=jP.out.mine b hb;omega);have zZ:=aD.size;have HXx6:=Qh ((aD.block w.heap.size (by omega)).trans tq.out);have lU:=Qh ((Zaa sMacro).frame (w':=x6) (λb hb=>aD.block b (da.out.2.1 b hb).1) kp.out);have HMx6:=Qh (sMacro.frame (w':=x6) (λb hb=>aD.block b (da.out.2.2 b hb).1) z7.out);have HRAx6:=Qh ((Zaa sMacro).frame (w':=x6) (λb hb=>aD.block b (da.out.1 b hb).1) ik.out);have qy:=Qh ((bz.block (x0.heap.size) (by omega) (by simp[Value.ownBlock];omega)).trans oR.out);have km:Hid (X1.length=n):=by show _=_;rw[←dE.out.1,←gE,QH]
 have HX1d:=Qh gE;have HX1f:=Qh dN;clear gE dN;have qz:=Qh (oS.out.trans (aD.mono (by omega)));have iW:=Qh (show RowG sMacro (wd.heap.size) 56 vq X1 x6 from hG);obtain⟨qA,qB,rfl,hq⟩:=iW.out.val;clear hq;refine hK.out _ _ HXx6.out (λac=>?_);clear hK K bz hG aD;try simp only[Qp]
 refine Qr 7 rfl (λK hK=>?_) (by decide +kernel);refine Zdl (X:=[(⟨[.string m.name,.bool m.function,.slice b2 m.params.length d2,.slice b3 m.body.length d3],m,f2⟩:Elem DMacro)]) Zcm rfl (by decide) _ 73 rfl rfl (.tmp 70) (.tmp 72) rfl (wd.heap.size) (.slice qA X1.length qB) rfl iW.out (x0.heap.size) 0 1 1 rfl rfl (λx hx=>by obtain rfl:=Qm hx;exact⟨rfl,HMx6.out,λb hb=>by have:=(da.out.2.2 b hb).1;omega⟩) (λx hx=>by obtain rfl:=Qm hx;simp[Value.oneCell']) (λj u hj=>by rw[QX,cell_of_row _ _ _ _ _ _ qy.out];simpa using hj) (by unfold maxLen;have:=km.out;omega) (by have:=km.out;omega) (by omega) ?_;intro vq x7 hG bz;have aD:Below wd.heap.size x6 x7:=(QD wd.heap.size x6).grown bz (by omega) (λb hb=>by have:=iW.out.mine b hb;omega);have z8:=aD.size;have HXx7:=Qh ((aD.block w.heap.size (by omega)).trans HXx6.out);have lV:=Qh ((Zaa sMacro).frame (w':=x7) (λb hb=>aD.block b (da.out.2.1 b hb).1) lU.out);have qC:=Qh (qz.out.trans (aD.mono (by omega)));have iX:=Qh hG;obtain⟨qD,qE,rfl,hq⟩:=iX.out.val;clear hq;refine hK.out _ _ HXx7.out (λac=>?_);clear hK K bz hG aD;try simp only[Qp]
 refine Qr 11 rfl (λK hK=>?_) (by decide +kernel);refine Zbj Zcm rfl (by decide) Zdv _ 77 rfl rfl (.tmp 73) (.tmp 76) rfl (wd.heap.size) (.slice qD (X1++[(⟨[.string m.name,.bool m.function,.slice b2 m.params.length d2,.slice b3 m.body.length d3],m,f2⟩:Elem DMacro)]).length qE) sv (l.drop n) fb rfl iX.out rfl lV.out (λb hb=>by have:=(da.out.2.1 b hb).1;omega) (by rw[dE.out.2,QC];simp[maxLen];have:=km.out;omega) (by rw[dE.out.2,QC];simp;have:=km.out;omega) (by omega) ?_;intro vq X3 x8 gE dN hG bz;have aD:Below wd.heap.size x7 x8:=(QD wd.heap.size x7).grown bz (by omega) (λb hb=>by have:=iX.out.mine b hb;omega);have Aa:=aD.size;have HXx8:=Qh ((aD.block w.heap.size (by omega)).trans HXx7.out);have qF:=Qh (qC.out.trans (aD.mono (by omega)));have qG:=Qh hG;have HDD:Hid ((X1++[(⟨[.string m.name,.bool m.function,.slice b2 m.params.length d2,.slice b3 m.body.length d3],m,f2⟩:Elem DMacro)]++X3).map (·.d)=Zhw l m n):=by show _=_;rw[QG,QG,HX1d.out,gE];rfl
 have gR:Hid (∀x∈X1++[(⟨[.string m.name,.bool m.function,.slice b2 m.params.length d2,.slice b3 m.body.length d3],m,f2⟩:Elem DMacro)]++X3,∀b∈x.fp,w.heap.size<=b):=λx hx b hb=>by
  rcases Qa hx with hx | hx
  ·rcases Qa hx with hx | hx
   ·exact(da.out.1 b (HX1f.out x hx b hb)).2
   ·obtain rfl:=Qm hx;exact(da.out.2.2 b hb).2
  ·exact(da.out.2.1 b (dN x hx b hb)).2
 clear gE dN;refine hK.out _ _ HXx8.out (λac=>?_);clear hK K bz hG aD;try simp only[Qp]
 refine Qt 12 4 rfl rfl ?_;try simp only[Qp]
 refine Qt 13 5 rfl rfl ?_;try simp only[Qp]
 refine wpAnyH_done (by kernel_rfl) ?_ _;refine QP ?_;clear ac;go_wp2;go_ret2
 exact⟨_,_,_,by rw[HD.out];rfl,qG.out,by rw[HD.out];exact HDD.out,by omega,by omega,gR.out,qF.out⟩):g:=h
theorem Y9A4 (h:g:=by
 try simp only[Qp]
 refine Qt 6 41 rfl rfl ?_ (by intro w aI;have sb:=aI;obtain⟨s0,s1,s2,s3⟩:=Q4 sb;go_simp;(first | done | with_reducible rfl));try simp only[Qp]
 refine Qt 7 42 rfl rfl ?_ (by intro w aI;have sb:=aI;obtain⟨s0,s1,s2,s3⟩:=Q4 sb;go_simp;(first | done | with_reducible rfl));try simp only[Qp]
 refine Qs 8 43 rfl rfl ?_;try simp only[Qp]
 refine Qs 9 44 rfl rfl ?_;try simp only[Qp]
 refine Qs 10 45 rfl rfl ?_;try simp only[Qp]
 refine Qs 11 46 rfl rfl ?_;try simp only[Qp]
 refine Qs 12 47 rfl rfl ?_;try simp only[Qp]
 refine Qs 13 48 rfl rfl ?_;try simp only[Qp]
 refine Qt 14 49 rfl rfl ?_ (by intro w aI;have sb:=aI;obtain⟨s0,s1,s2,s3⟩:=Q4 sb;go_simp;(first | done | with_reducible rfl));try simp only[Qp]
 refine Qt 15 4 rfl rfl ?_ (by intro w aI;have sb:=aI;obtain⟨s0,s1,s2,s3⟩:=Q4 sb;go_simp;(first | done | with_reducible rfl));try simp only[Qp]
 refine Qt 16 5 rfl rfl ?_ (by intro w aI;have sb:=aI;obtain⟨s0,s1,s2,s3⟩:=Q4 sb;go_simp;(first | done | with_reducible rfl));try simp only[Qp]
 have HF:=Qh (il.out.trans (fl.mono il.out.size));have tr:=Qh (ww.out.below fl);have hsF:=fl.size;refine wpAnyH_done (by kernel_rfl) ?_ _;refine QP ?_;clear ac;go_wp2;go_ret2
 exact⟨_,X,w4.heap.size,by rw[HD.out];rfl,tr.out,by rw[HD.out];exact yD.out,by omega,by omega,LOX.out,HF.out⟩):g:=h
theorem Zol (v:Value)(l:List DMacro)(fp:List Nat)(cs:List Value)(m:DMacro)(mD:List Nat)(w:World)(hl:l.length<=1048576)(hx:∀k,(hk:k<l.length)->ZfX l[k])(hm:ZfX m)(H:(Zaa sMacro).R w [v] l fp)(Hm:sMacro.R w cs m mD):
  Calls Tryz.prog 54 #[v,.agg cs.toArray] w (RetDef (Zeh l m) w):=by
 have gb:=Hm;obtain⟨h2,h3,q2,q3,rfl,-,K2,K3,-⟩:=Hm;obtain⟨a2,c2,rfl,-⟩:=Zaf K2;obtain⟨a3,c3,rfl,-⟩:=Zac K3;clear K2 K3;have b0:=Zab w (.cells #[.string m.name,.bool m.function,.slice a2 m.params.length c2,.slice a3 m.body.length c3] 56);have iY:=Qh (JS w (.cells #[.string m.name,.bool m.function,.slice a2 m.params.length c2,.slice a3 m.body.length c3] 56));have tt:(w.alloc (.cells #[.string m.name,.bool m.function,.slice a2 m.params.length c2,.slice a3 m.body.length c3] 56)).heap.size=w.heap.size+1:=QR _;have HC:=Qh (Zdz v l fp _ hl hx ((Zaa sMacro).below H b0));have eL:=sMacro.below gb b0;have HS:=Qh tt;clear tt H gb;go_enter Tryz.func54,Tryz.ntmps54;go_wp2_with fail
 refine HC.out.mono ?_;rintro e w1⟨v1,f1,rfl,R1,lo1,aG⟩;have gP:=aG.size;rw[HS.out]at gP;have dG:=Qh ((aG.block w.heap.size (by rw[HS.out];omega)).trans iY.out);have nf:=sMacro.below eL aG;have cq:=b0.trans (aG.mono b0.size);have uC:Hid (∀b∈f1,w.heap.size+1<=b/\b<w1.heap.size):=λb hb=>⟨by have:=lo1 b hb;rw[HS.out]at this;exact this,(Zaa sMacro).lt R1 b hb⟩;clear HC iY eL b0 lo1 aG HS;have y0:=Qc 0 dG.out;have y1:=Qc 1 dG.out;have y2:=Qc 2 dG.out;have y3:=Qc 3 dG.out;go_wp2_with fail
 refine(ZeX _ m _ w1 hm.1 hm.2.1 hm.2.2 nf).mono ?_;rintro e w2⟨b2,b3,d2,d3,f2,rfl,R2,so,-,aF⟩;have bi:=aF.size;have cJ:=Qh ((aF.block w.heap.size (by omega)).trans dG.out);have aY:=cq.trans (aF.mono cq.size);have iG:Hid ((Zaa sMacro).R (setM w2 w.heap.size (.string m.name) (.bool m.function) (.slice b2 m.params.length d2) (.slice b3 m.body.length d3)) [v1] l f1):=(Zaa sMacro).frame (λb hb=>Zfj (by have:=(uC.out b hb).1;omega) _ _ _ _) ((Zaa sMacro).below R1 aF);have ij:Hid (sMacro.R (setM w2 w.heap.size (.string m.name) (.bool m.function) (.slice b2 m.params.length d2) (.slice b3 m.body.length d3)) [.string m.name,.bool m.function,.slice b2 m.params.length d2,.slice b3 m.body.length d3] m f2):=sMacro.frame (λb hb=>Zfj (by have:=so b hb;omega) _ _ _ _) R2;have bB:Hid ((setM w2 w.heap.size (.string m.name) (.bool m.function) (.slice b2 m.params.length d2) (.slice b3 m.body.length d3)).heap[w.heap.size]?=some (.cells #[.string m.name,.bool m.function,.slice b2 m.params.length d2,.slice b3 m.body.length d3] 56 (0,0))):=ZoW cJ.out _ _ _ _;have eZ:=Qh (Zkn aY (QA w.heap.size) (.string m.name) (.bool m.function) (.slice b2 m.params.length d2) (.slice b3 m.body.length d3));have LO2:Hid (∀b∈f2,w1.heap.size<=b/\b<w2.heap.size):=λb hb=>⟨so b hb,sMacro.lt R2 b hb⟩;have sq:Hid ((setM w2 w.heap.size (.string m.name) (.bool m.function) (.slice b2 m.params.length d2) (.slice b3 m.body.length d3)).heap.size=w2.heap.size):=by show _=_;unfold setM;simp
 clear y0 y1 y2 y3 dG nf cq R1 R2 so aF aY;obtain⟨z0,dT,z1,dU,z2,dV,z3,dW⟩:=Q8 cJ.out;go_wp2_with fail
 change Calls _ _ _ (setM w2 w.heap.size (.string m.name) (.bool m.function) (.slice b2 m.params.length d2) (.slice b3 m.body.length d3)) _;have iR:=sq.out;generalize setM w2 w.heap.size (.string m.name) (.bool m.function) (.slice b2 m.params.length d2) (.slice b3 m.body.length d3)=w3 at *;clear z0 z1 z2 z3 dT dU dV dW cJ sq;refine(ZeT v1 l f1 w3 iG.out).mono ?_;rintro e w4⟨rfl,aM⟩;have Ab:=aM.size;have dJ:=Qh ((aM.block w.heap.size (by omega)).trans bB.out);have gl:=Qh ((Zaa sMacro).below iG.out aM);have wy:=Qh (sMacro.below ij.out aM);have kq:=Qh (eZ.out.trans (aM.mono eZ.out.size));clear bB iG ij eZ aM;by_cases ht:ZaU l=true;rotate_left
 ·have HD:Hid (Zeh l m=([],false)):=by show _=_;unfold Zeh;rw[if_neg ht]
  rw[Bool.eq_false_iff.2 ht];have bo:=Qh (RowG.lit0 sMacro 56 w4);have bH:=Zab w4 (.cells #[] 56);have HF:=Qh (kq.out.trans (bH.mono kq.out.size));have hba2:=bH.size;clear ht bH;go_wp2;go_ret2;exact⟨_,[],w4.heap.size,by rw[HD.out];rfl,bo.out,by rw[HD.out];rfl,by omega,hba2,by simp,HF.out⟩
 rw[ht];have ez:=Qh ht;clear ht;obtain⟨a1,aN,rfl,fJ,li,-⟩:=Zac gl.out;have hl10:l.length<=10:=(Zgl ez.out).1;have bo:=Qh (RowG.lit0 sMacro 56 w4);have bH:=Zab w4 (.cells #[] 56);have wB:=Qh ((Zaa sMacro).below gl.out bH);have Ac:=Qh ((bH.block w.heap.size (by omega)).trans dJ.out);have Ad:=Qh (sMacro.below wy.out bH);have Ae:=Qh (kq.out.trans (bH.mono kq.out.size));have lW:=Qh bH.size;clear bH dJ wy kq gl;go_wp2_with (at_builtin;refine Zk9 Zcm rfl (by decide) Zdv _ rfl (.tmp 16) (.tmp 17) rfl w4.heap.size (.slice (some ⟨w4.heap.size,0,none⟩) 0 0) (.slice a1 l.length aN) l f1 rfl bo.out rfl wB.out (λb hb=>by have:=(uC.out b hb).2;omega) (by simp[maxLen];omega) (by simp;omega) lW.out ?_;intro v6 X w6 gE dN hG bz;have bq:Below w4.heap.size (w4.alloc (.cells #[] 56)) w6:=(QD w4.heap.size (w4.alloc (.cells #[] 56))).grown bz lW.out (λb hb=>by have e:w4.heap.size=b:=(by simpa[Value.ownBlock]using hb);omega);have lk:=Qh ((bq.block w.heap.size (by omega)).trans Ac.out);have n0:=Qc 0 lk.out;have lX:=Qh (And.intro gE (And.intro dN (And.intro hG bq)));obtain⟨av,cv,rfl,hq⟩:=hG.val;clear hq gE dN hG bz bq)
 obtain⟨gE,dN,hG,bq⟩:=lX.out;have yE:=bq.size;have hba1:=lW.out;have LOX:Hid (∀x∈X,∀b∈x.fp,w.heap.size<=b):=λx hx b hb=>by have:=(uC.out b (dN x hx b hb)).1;omega
 have kr:=(Zaa sMacro).frame (w':=w6) (λb hb=>bq.block b (by have:=(uC.out b hb).2;omega)) wB.out;have kt:=Qh (sMacro.frame (w':=w6) (λb hb=>bq.block b (by have:=(LO2.out b hb).2;omega)) Ad.out);have jQ:=Qh kr;have lY:=Qh (show RowG sMacro w4.heap.size 56 (.slice av X.length cv) X w6 from hG);have yD:=Qh gE;have qH:=Qh (Ae.out.trans (bq.mono (by omega)));clear gE dN hG bq kr lX wB Ad Ac Ae bo lW;refine(ZeV (.slice a1 l.length aN) l m.name f1 w6 jQ.out).mono ?_;rintro e w7⟨rfl,db⟩;have hs7:=db.size;have iH:=Qh ((db.block w.heap.size (by omega)).trans lk.out);have fO:=Qh ((Zaa sMacro).below jQ.out db);have iZ:=Qh (sMacro.below kt.out db);have oU:=Qh (lY.out.below db);have gF:=Qh (qH.out.trans (db.mono qH.out.size));clear db lk jQ kt lY qH n0;have dD:=Qh (Zgn ez.out m.name);have p0:=Qc 0 iH.out;have p1:=Qc 1 iH.out;have p2:=Qc 2 iH.out;have p3:=Qc 3 iH.out;have ku:=Qh (λW (hW:Below w7.heap.size w7 W)=>ZdG [.string m.name,.bool m.function,.slice b2 m.params.length d2,.slice b3 m.body.length d3] m f2 W (sMacro.below iZ.out hW));have LEN:Hid ((l.length:Int)=10 ↔ l.length=10):=by show _ ↔ _;omega
 cases hv:Zaq m
 ·have HD:Hid (Zeh l m=(l,false)):=by show _=_;unfold Zeh;rw[if_pos ez.out,if_neg (by rw[hv];simp)]
  rw[hv]at ku;generalize place l m.name=pp at *;clear hv dD;go_wp2_with fail
  refine(ku.out _ (QD _ _)).mono ?_;rintro e w8⟨rfl,cN⟩;have yF:=cN.size;have iI:=Qh ((cN.block w.heap.size (by omega)).trans iH.out);have fP:=Qh (sMacro.below iZ.out cN);have ww:=Qh (oU.out.below cN);have il:=Qh (gF.out.trans (cN.mono gF.out.size));have qI:=(Zaa sMacro).below fO.out cN;have yG:=Qh (λW (hW:Below w8.heap.size w8 W)=>ku.out W (cN.trans (hW.mono cN.size)));clear p0 p1 p2 p3 iH iZ oU gF fO ku cN;go_wp2_with fail
  have hd:Below w8.heap.size w8 w8.drew:=Zah (QD _ _) 1;refine wp_region_noPanic ?_;refine JU (S:=λw'=>w'.heap[w.heap.size]?=some (.cells #[.string m.name,.bool m.function,.slice b2 m.params.length d2,.slice b3 m.body.length d3] 56 (0,0))) (by kernel_rfl) (by exact iI.out) (λac=>?_);refine Qt 0 35 rfl rfl ?_ (by intro w aI;have sb:=aI;obtain⟨s0,s1,s2,s3⟩:=Q4 sb;go_simp;(first | done | with_reducible rfl));try simp only[Qp]
  refine Qt 1 36 rfl rfl ?_ (by intro w aI;have sb:=aI;obtain⟨s0,s1,s2,s3⟩:=Q4 sb;go_simp;(first | done | with_reducible rfl));try simp only[Qp]
  refine Qr 2 rfl (λK hK=>?_);go_simp;refine(yG.out _ hd).mono ?_;rintro e w9⟨rfl,gc⟩;have fl:=hd.trans (gc.mono hd.size);refine hK.out _ _ ((fl.block w.heap.size (by omega)).trans iI.out) (λac=>?_);clear hK K;try simp only[Qp]
  refine Qt 3 38 rfl rfl ?_ (by intro w aI;have sb:=aI;obtain⟨s0,s1,s2,s3⟩:=Q4 sb;go_simp;(first | done | with_reducible rfl));try simp only[Qp]
  refine Qs 4 39 rfl rfl ?_;try simp only[Qp]
  refine Qs 5 40 rfl rfl ?_;exact Y9A4
 rw[hv]at ku;have mE:=Qh hv;clear hv;cases hi:isIn l m.name;rotate_left
 ·have eG:=isIn_lt2 hi;have Af:place l m.name=(lowAt l m.name:Nat):=by rw[dD.out,hi];rfl
  have HD:Hid (Zeh l m=(l,Zci (l[lowAt l m.name]'eG) m)):=by show _=_;unfold Zeh;rw[if_pos ez.out,if_pos mE.out,if_pos hi,dif_pos eG]
  rw[Af];clear hi dD Af;generalize lowAt l m.name=n at *;have jJ:(0:Int)<=(n:Int):=by omega
  have kc:(n:Int)<(l.length:Int):=by omega
  go_wp2_with fail
  refine(ku.out _ (QD _ _)).mono ?_;rintro e w8⟨rfl,cN⟩;have yF:=cN.size;have iI:=Qh ((cN.block w.heap.size (by omega)).trans iH.out);have fP:=Qh (sMacro.below iZ.out cN);have ww:=Qh (oU.out.below cN);have il:=Qh (gF.out.trans (cN.mono gF.out.size));have qI:=(Zaa sMacro).below fO.out cN;have yG:=Qh (λW (hW:Below w8.heap.size w8 W)=>ku.out W (cN.trans (hW.mono cN.size)));clear p0 p1 p2 p3 iH iZ oU gF fO ku cN;obtain⟨aq,capq,Ag,-,-,kv⟩:=Zac qI;simp only[QT,true_and]at Ag;obtain⟨rfl,rfl⟩:=Ag;clear qI;go_wp2_with fail
  obtain⟨b1,ae,dt,df,aG,hfp1,bj⟩:=kv (by omega);subst df;obtain⟨lA,bf,bR⟩:=bj n (by omega);have HRE:=Qh bR;obtain⟨u2,u3,r2,r3,rfl,_,K2,K3,_⟩:=bR;obtain⟨e2,g2,rfl,-⟩:=Zaf K2;obtain⟨e3,g3,rfl,-⟩:=Zac K3;clear K2 K3;have dg:w8.cell? ⟨b1,ae+n*4,none⟩=some _:=ZaB bf (by decide) rfl;have dL:w8.cell? ⟨b1,ae+n*4+1,none⟩=some _:=Zae (j:=1) bf (by decide) rfl;have dh:w8.cell? ⟨b1,ae+n*4+2,none⟩=some _:=Zae (j:=2) bf (by decide) rfl;have ew:w8.cell? ⟨b1,ae+n*4+3,none⟩=some _:=Zae (j:=3) bf (by decide) rfl;clear bf bj kv hfp1;have hd:Below w8.heap.size w8 w8.drew:=Zah (QD _ _) 1;refine wp_region_noPanic ?_;refine JU (S:=λw'=>w'.heap[w.heap.size]?=some (.cells #[.string m.name,.bool m.function,.slice b2 m.params.length d2,.slice b3 m.body.length d3] 56 (0,0))/\w'.cell? ⟨b1,ae+n*4,none⟩=some (.string l[n].name)/\w'.cell? ⟨b1,ae+n*4+1,none⟩=some (.bool l[n].function)/\w'.cell? ⟨b1,ae+n*4+2,none⟩=some (.slice e2 l[n].params.length g2)/\w'.cell? ⟨b1,ae+n*4+3,none⟩=some (.slice e3 l[n].body.length g3)) (by kernel_rfl) (by exact⟨iI.out,dg,dL,dh,ew⟩) (λac=>?_);refine Qt 0 35 rfl rfl ?_ (by intro w aI;obtain⟨sb,t0,t1,t2,t3⟩:=aI;obtain⟨s0,s1,s2,s3⟩:=Q4 sb;go_simp;(first | done | with_reducible rfl));try simp only[Qp]
  refine Qt 1 36 rfl rfl ?_ (by intro w aI;obtain⟨sb,t0,t1,t2,t3⟩:=aI;obtain⟨s0,s1,s2,s3⟩:=Q4 sb;go_simp;(first | done | with_reducible rfl));try simp only[Qp]
  refine Qr 2 rfl (λK hK=>?_);go_simp;refine(yG.out _ hd).mono ?_;rintro e w9⟨rfl,gc⟩;have fl:=hd.trans (gc.mono hd.size);refine hK.out _ _ (⟨(fl.block w.heap.size (by omega)).trans iI.out,(fl.cell (by show b1<_;omega)).trans dg,(fl.cell (by show b1<_;omega)).trans dL,(fl.cell (by show b1<_;omega)).trans dh,(fl.cell (by show b1<_;omega)).trans ew⟩) (λac=>?_);clear hK K;try simp only[Qp]
  refine Qt 3 38 rfl rfl ?_ (by intro w aI;obtain⟨sb,t0,t1,t2,t3⟩:=aI;obtain⟨s0,s1,s2,s3⟩:=Q4 sb;go_simp;(first | done | with_reducible rfl));try simp only[Qp]
  refine Qt 4 39 rfl rfl ?_ (by intro w aI;obtain⟨sb,t0,t1,t2,t3⟩:=aI;obtain⟨s0,s1,s2,s3⟩:=Q4 sb;go_simp;(first | done | with_reducible rfl));try simp only[Qp]
  refine Qt 5 40 rfl rfl ?_ (by intro w aI;obtain⟨sb,t0,t1,t2,t3⟩:=aI;obtain⟨s0,s1,s2,s3⟩:=Q4 sb;go_simp;(first | done | with_reducible rfl));try simp only[Qp]
  refine Qt 6 41 rfl rfl ?_ (by intro w aI;obtain⟨sb,t0,t1,t2,t3⟩:=aI;obtain⟨s0,s1,s2,s3⟩:=Q4 sb;go_simp;(first | done | with_reducible rfl));try simp only[Qp]
  refine Qt 7 42 rfl rfl ?_ (by intro w aI;obtain⟨sb,t0,t1,t2,t3⟩:=aI;obtain⟨s0,s1,s2,s3⟩:=Q4 sb;go_simp;(first | done | with_reducible rfl));try simp only[Qp]
  refine Qt 8 43 rfl rfl ?_ (by intro w aI;obtain⟨sb,t0,t1,t2,t3⟩:=aI;obtain⟨s0,s1,s2,s3⟩:=Q4 sb;go_simp;(first | done | with_reducible rfl));try simp only[Qp]
  refine Qt 9 44 rfl rfl ?_ (by intro w aI;obtain⟨sb,t0,t1,t2,t3⟩:=aI;obtain⟨s0,s1,s2,s3⟩:=Q4 sb;go_simp;(first | done | with_reducible rfl));try simp only[Qp]
  refine Qt 10 45 rfl rfl ?_ (by intro w aI;obtain⟨sb,t0,t1,t2,t3⟩:=aI;obtain⟨s0,s1,s2,s3⟩:=Q4 sb;go_simp;(first | done | with_reducible rfl));try simp only[Qp]
  refine Qt 11 46 rfl rfl ?_ (by intro w aI;obtain⟨sb,t0,t1,t2,t3⟩:=aI;obtain⟨s0,s1,s2,s3⟩:=Q4 sb;go_simp;(first | done | with_reducible rfl));try simp only[Qp]
  refine Qt 12 47 rfl rfl ?_ (by intro w aI;obtain⟨sb,t0,t1,t2,t3⟩:=aI;obtain⟨s0,s1,s2,s3⟩:=Q4 sb;go_simp;(first | done | with_reducible rfl));try simp only[Qp]
  refine Qr 13 rfl (λK hK=>?_);go_simp;refine(Zlb [.string l[n].name,.bool l[n].function,.slice e2 l[n].params.length g2,.slice e3 l[n].body.length g3] [.string m.name,.bool m.function,.slice b2 m.params.length d2,.slice b3 m.body.length d3] l[n] m _ f2 w9 (sMacro.below HRE.out fl) (sMacro.below fP.out fl)).mono ?_;rintro e wA⟨rfl,hbA⟩;have lZ:=fl.trans (hbA.mono fl.size);refine hK.out _ _ (⟨(lZ.block w.heap.size (by omega)).trans iI.out,(lZ.cell (by show b1<_;omega)).trans dg,(lZ.cell (by show b1<_;omega)).trans dL,(lZ.cell (by show b1<_;omega)).trans dh,(lZ.cell (by show b1<_;omega)).trans ew⟩) (λac=>?_);clear hK K;try simp only[Qp]
  refine Qt 14 49 rfl rfl ?_ (by intro w aI;obtain⟨sb,t0,t1,t2,t3⟩:=aI;obtain⟨s0,s1,s2,s3⟩:=Q4 sb;go_simp;(first | done | with_reducible rfl));try simp only[Qp]
  refine Qt 15 4 rfl rfl ?_ (by intro w aI;obtain⟨sb,t0,t1,t2,t3⟩:=aI;obtain⟨s0,s1,s2,s3⟩:=Q4 sb;go_simp;(first | done | with_reducible rfl));try simp only[Qp]
  refine Qt 16 5 rfl rfl ?_ (by intro w aI;obtain⟨sb,t0,t1,t2,t3⟩:=aI;obtain⟨s0,s1,s2,s3⟩:=Q4 sb;go_simp;(first | done | with_reducible rfl));try simp only[Qp]
  have HF:=Qh (il.out.trans (lZ.mono il.out.size));have tr:=Qh (ww.out.below lZ);have hsF:=lZ.size;refine wpAnyH_done (by kernel_rfl) ?_ _;refine QP ?_;clear ac;go_wp2;go_ret2;exact⟨_,X,w4.heap.size,by rw[HD.out];rfl,tr.out,by rw[HD.out];exact yD.out,by omega,by omega,LOX.out,HF.out⟩
 have Af:place l m.name=-1:=by rw[dD.out,hi];rfl
 rw[Af];clear dD Af;by_cases ss:l.length=10
 ·have HD:Hid (Zeh l m=(l,false)):=by show _=_;unfold Zeh;rw[if_pos ez.out,if_pos mE.out,if_neg (by rw[hi];simp),if_pos ss]
  have hq10:((l.length:Int)==10)=true:=by simp[ss]
  have H10:=Qh ss;clear hi ss;go_wp2_with fail
  refine(ku.out _ (QD _ _)).mono ?_;rintro e w8⟨rfl,cN⟩;have yF:=cN.size;have iI:=Qh ((cN.block w.heap.size (by omega)).trans iH.out);have fP:=Qh (sMacro.below iZ.out cN);have ww:=Qh (oU.out.below cN);have il:=Qh (gF.out.trans (cN.mono gF.out.size));have qI:=(Zaa sMacro).below fO.out cN;have yG:=Qh (λW (hW:Below w8.heap.size w8 W)=>ku.out W (cN.trans (hW.mono cN.size)));clear p0 p1 p2 p3 iH iZ oU gF fO ku cN;go_wp2_with fail
  have hd:Below w8.heap.size w8 w8.drew:=Zah (QD _ _) 1;refine wp_region_noPanic ?_;refine JU (S:=λw'=>w'.heap[w.heap.size]?=some (.cells #[.string m.name,.bool m.function,.slice b2 m.params.length d2,.slice b3 m.body.length d3] 56 (0,0))) (by kernel_rfl) (by exact iI.out) (λac=>?_);refine Qt 0 35 rfl rfl ?_ (by intro w aI;have sb:=aI;obtain⟨s0,s1,s2,s3⟩:=Q4 sb;go_simp;(first | done | with_reducible rfl));try simp only[Qp]
  refine Qt 1 36 rfl rfl ?_ (by intro w aI;have sb:=aI;obtain⟨s0,s1,s2,s3⟩:=Q4 sb;go_simp;(first | done | with_reducible rfl));try simp only[Qp]
  refine Qr 2 rfl (λK hK=>?_);go_simp;refine(yG.out _ hd).mono ?_;rintro e w9⟨rfl,gc⟩;have fl:=hd.trans (gc.mono hd.size);refine hK.out _ _ ((fl.block w.heap.size (by omega)).trans iI.out) (λac=>?_);clear hK K;try simp only[Qp]
  refine Qt 3 38 rfl rfl ?_ (by intro w aI;have sb:=aI;obtain⟨s0,s1,s2,s3⟩:=Q4 sb;go_simp;(first | done | with_reducible rfl));try simp only[Qp]
  refine Qt 4 39 rfl rfl ?_ (by intro w aI;have sb:=aI;obtain⟨s0,s1,s2,s3⟩:=Q4 sb;go_simp;(first | done | with_reducible rfl));try simp only[Qp]
  refine Qt 5 40 rfl rfl ?_ (by intro w aI;have sb:=aI;obtain⟨s0,s1,s2,s3⟩:=Q4 sb;go_simp;(first | done | with_reducible rfl));exact Y9A4
 have HD:Hid (Zeh l m=(Zhw l m (lowAt l m.name),true)):=by show _=_;unfold Zeh;rw[if_pos ez.out,if_pos mE.out,if_neg (by rw[hi];simp),if_neg ss]
 have hq10:((l.length:Int)==10)=false:=by simp;omega
 have HLW:=Qh (ZmY l m.name);have HLI:Hid (∀k,(hk:k<l.length)->ZaF l[k].name m.name=decide (k<lowAt l m.name)):=λk hk=>ZiP ez.out m.name hk;have H10:=Qh ss;clear hi ss;go_wp2_with fail
 refine(ku.out _ (QD _ _)).mono ?_;rintro e w8⟨rfl,cN⟩;have yF:=cN.size;have iI:=Qh ((cN.block w.heap.size (by omega)).trans iH.out);have fP:=Qh (sMacro.below iZ.out cN);have ww:=Qh (oU.out.below cN);have il:=Qh (gF.out.trans (cN.mono gF.out.size));have qI:=(Zaa sMacro).below fO.out cN;have yG:=Qh (λW (hW:Below w8.heap.size w8 W)=>ku.out W (cN.trans (hW.mono cN.size)));clear p0 p1 p2 p3 iH iZ oU gF fO ku cN;generalize lowAt l m.name=n at *;obtain⟨aq,capq,Ag,-,-,kv⟩:=Zac qI;simp only[QT,true_and]at Ag;obtain⟨rfl,rfl⟩:=Ag;have kM:=Qh qI;clear qI;go_wp2;go_loopw [7] (λi wr=>∃k:Nat,k<=n/\i=.int .i64 k/\Below w8.heap.size w8 wr) (λi _=>n-(intOf i).toNat)
 case atStart=>exact⟨0,by omega,rfl,QD _ _⟩
 case round =>
  obtain⟨k,hk,rfl,eU⟩:=hrel;have yH:=HLW.out;have wC:=eU.size;have fi:=Qh ((eU.block w.heap.size (by omega)).trans iI.out);have p0:=Qc 0 fi.out;by_cases af:k<l.length
  ·obtain⟨b1,ae,dt,df,aG,-,bj⟩:=kv (by omega);subst df;obtain⟨lA,bf,bR⟩:=bj k af;obtain⟨u2,u3,r2,r3,rfl,_,_,_,_⟩:=bR;replace bf:=bf.frame (eU.block b1 aG);have dg:wr.cell? ⟨b1,ae+k*4,none⟩=some _:=ZaB bf (by decide) rfl;have h0:decide ((k:Int)<(l.length:Int))=true:=JR (by omega);have h1:decide (k<l.length)=true:=JR af;have jJ:(0:Int)<=(k:Int):=(by omega);have kc:(k:Int)<(l.length:Int):=(by omega);by_cases yI:k<n
   ·have hs:Op.bytesLess l[k].name.toList m.name.toList=true:=(by have:=HLI.out k af;rw[JR yI]at this;exact this);clear bf bj;go_wp2_with fail
    go_quiet (fail)
    go_wp2;go_roundw;case rel=>exact⟨k+1,by omega,by go_num,Zah eU _⟩
    case measure=>simp[intOf];omega
   ·have hs:Op.bytesLess l[k].name.toList m.name.toList=false:=(by have:=HLI.out k af;rw[JQ yI]at this;exact this);clear bf bj;go_wp2_with fail
    go_quiet (fail)
    go_wp2;obtain rfl:n=k:=(by omega);have cc:=Zah eU nq;generalize wr.drewN nq=wq at *;have hsq:=cc.size;have Ah:=Qh ((cc.block w.heap.size (by omega)).trans iI.out);have ng:=Qh ((Zaa sMacro).below kM.out cc);have Ai:=Qh (sMacro.below fP.out cc);have wD:=Qh (il.out.trans (cc.mono il.out.size));clear iI kM fP il fi eU cc p0 kv ww yD LOX;obtain⟨fa,RA,mF⟩:=Zcp n (by omega) ng.out;obtain⟨fb,RB,l0⟩:=Zbp n (by omega) ng.out;have hd:Below wq.heap.size wq wq.drew:=Zah (QD _ _) 1;have dx:=Qh ((Zaa sMacro).below RA hd);obtain⟨sv,fQ⟩:∃sv:Value,Hid (sv=.slice (if aN=n then (some ⟨b1,ae,none⟩) else ((some ⟨b1,ae,none⟩):Option Addr).map (·.add (n*sMacro.m))) (l.length-n) (aN-n)):=⟨_,rfl⟩;have dH:Hid ((Zaa sMacro).R wq.drew [sv] (l.drop n) fb):=(by show(Zaa sMacro).R _ _ _ _;rw[fQ.out];exact(Zaa sMacro).below RB hd);have uD:=Qh mF;have gG:=Qh l0;have Aj:=Qh (sMacro.below Ai.out hd);have Ak:=Qh (wD.out.trans (hd.mono wD.out.size));have tu:wq.heap.size<=wq.drew.heap.size:=hd.size;clear RA RB mF l0 ng Ai wD;refine wp_region_noPanic ?_;refine JU (S:=λw'=>w'.heap[w.heap.size]?=some (.cells #[.string m.name,.bool m.function,.slice b2 m.params.length d2,.slice b3 m.body.length d3] 56 (0,0))) (by kernel_rfl) (by exact Ah.out) (λac=>?_);clear hd;generalize wq.drew=wd at *;have m6:(0:Int)<=(n:Int):=(by omega);have yC:(n:Int)<=(l.length:Int):=(by omega);have yJ:n<=l.length:=(by omega);have Al:n<=aN:=(by omega);have eq:(n:Int)<=(aN:Int):=(by omega);refine Qt 1 67 rfl rfl ?_ (by intro w aI;obtain⟨s0,s1,s2,s3⟩:=Q4 aI;go_simp;(first | done | with_reducible rfl | rfl));try simp only[Qp]
    refine Qt 2 68 rfl rfl ?_ (by intro w aI;obtain⟨s0,s1,s2,s3⟩:=Q4 aI;go_simp;(first | done | with_reducible rfl | rfl));try simp only[Qp]
    refine takeH 3 69 (v:=.slice (some ⟨b1,ae,none⟩) n aN) rfl rfl (by kernel_rfl) (by kernel_rfl) (by kernel_rfl) (λ_ _ _ h=>h) (by rfl) (by assumption) ?_ ?_
    ·intro w aI;obtain⟨s0,s1,s2,s3⟩:=Q4 aI;go_simp;(first | done | with_reducible rfl | rfl)
    try simp only[Qp]
    refine Qt 5 71 rfl rfl ?_ (by intro w aI;obtain⟨s0,s1,s2,s3⟩:=Q4 aI;go_simp;(first | done | with_reducible rfl | rfl));try simp only[Qp]
    refine Qt 8 74 rfl rfl ?_ (by intro w aI;obtain⟨s0,s1,s2,s3⟩:=Q4 aI;go_simp;(first | done | with_reducible rfl | rfl));try simp only[Qp]
    refine Qt 9 75 rfl rfl ?_ (by intro w aI;obtain⟨s0,s1,s2,s3⟩:=Q4 aI;go_simp;(first | done | with_reducible rfl | rfl));try simp only[Qp]
    refine takeH 10 76 (v:=sv) rfl rfl (by kernel_rfl) (by kernel_rfl) (by kernel_rfl) (λ_ _ _ h=>h) (by rfl) (by assumption) ?_ ?_
    ·intro w aI;rw[fQ.out];obtain⟨s0,s1,s2,s3⟩:=Q4 aI;go_simp;(first | done | with_reducible rfl | rfl)
    try simp only[Qp]
    have Am:=Qh ac;have cI:w.heap.size<wd.heap.size:=(by omega);have da:Hid ((∀b∈fa,b<wd.heap.size/\w.heap.size<=b)/\(∀b∈fb,b<wd.heap.size/\w.heap.size<=b)/\(∀b∈f2,b<wd.heap.size/\w.heap.size<=b)):=⟨λb hb=>by have:=uC.out b (uD.out b hb);omega,λb hb=>by have:=uC.out b (gG.out b hb);omega,λb hb=>by have:=LO2.out b hb;omega⟩;have dE:Hid ((l.take n).length=n/\(l.drop n).length=l.length-n):=⟨by rw[Qd];omega,QM⟩;clear uD gG ac Ah;have qJ:=Am;have eM:=dx;have eN:=dH;have qK:=Aj;have dX:=Ak;clear Am dx dH Aj Ak;refine wpAnyH_ready (rs:=[0,6]) (by decide +kernel) (by simp) ?_;refine JP rfl (λK hK=>?_) (JP rfl (λK hK=>?_) AllReadyH.nil)
    ·have bl:=Zab wd (.cells #[] 56);have wE:wd.heap.size+1<=(wd.alloc (.cells #[] 56)).heap.size:=JJ (QR _).symm;have gp:=Qh (RowG.lit0 sMacro 56 wd);go_simp;have oQ:=Qh ((bl.block w.heap.size (by omega)).trans qJ.out);have ey:=Qh ((Zaa sMacro).below eM.out bl);have fC:=Qh ((Zaa sMacro).below eN.out bl);have tp:=Qh (sMacro.below qK.out bl);have gq:=Qh (dX.out.trans (bl.mono dX.out.size));refine hK.out _ _ oQ.out (λac=>?_);clear hK K bl;try simp only[Qp]
     generalize (wd.alloc (.cells #[] 56))=x0 at *;refine wpAnyH_ready (rs:=[4,6]) (by decide +kernel) (by simp) ?_;refine JP rfl (λK hK=>?_) (JP rfl (λK hK=>?_) AllReadyH.nil)
     ·refine Zbj Zcm rfl (by decide) Zdv _ 70 rfl rfl (.tmp 66) (.tmp 69) rfl (wd.heap.size) (.slice (some ⟨wd.heap.size,0,none⟩) 0 0) (.slice (some ⟨b1,ae,none⟩) n aN) (l.take n) fa rfl gp.out rfl ey.out (λb hb=>by have:=(da.out.1 b hb).1;omega) (by rw[dE.out.1];simp[maxLen];omega) (by rw[dE.out.1];simp;omega) (by omega) ?_;exact Y9A1
     ·have bl:=Zab x0 (.cells #[.string m.name,.bool m.function,.slice b2 m.params.length d2,.slice b3 m.body.length d3] 56);have wG:x0.heap.size+1<=(x0.alloc (.cells #[.string m.name,.bool m.function,.slice b2 m.params.length d2,.slice b3 m.body.length d3] 56)).heap.size:=JJ (QR _).symm;have oR:=Qh (JS x0 (.cells #[.string m.name,.bool m.function,.slice b2 m.params.length d2,.slice b3 m.body.length d3] 56));have jP:=Qh (gp.out.below bl);go_simp;have tq:=Qh ((bl.block w.heap.size (by omega)).trans oQ.out);have ik:=Qh ((Zaa sMacro).below ey.out bl);have kp:=Qh ((Zaa sMacro).below fC.out bl);have z7:=Qh (sMacro.below tp.out bl);have oS:=Qh (gq.out.trans (bl.mono gq.out.size));refine hK.out _ _ tq.out (λac=>?_);clear hK K bl;try simp only[Qp]
      generalize (x0.alloc (.cells #[.string m.name,.bool m.function,.slice b2 m.params.length d2,.slice b3 m.body.length d3] 56))=x5 at *;refine Qr 4 rfl (λK hK=>?_) (by decide +kernel);refine Zbj Zcm rfl (by decide) Zdv _ 70 rfl rfl (.tmp 66) (.tmp 69) rfl (wd.heap.size) (.slice (some ⟨wd.heap.size,0,none⟩) 0 0) (.slice (some ⟨b1,ae,none⟩) n aN) (l.take n) fa rfl jP.out rfl ik.out (λb hb=>by have:=(da.out.1 b hb).1;omega) (by rw[dE.out.1];simp[maxLen];omega) (by rw[dE.out.1];simp;omega) (by omega) ?_;exact Y9A3
    ·have bl:=Zab wd (.cells #[.string m.name,.bool m.function,.slice b2 m.params.length d2,.slice b3 m.body.length d3] 56);have wH:wd.heap.size+1<=(wd.alloc (.cells #[.string m.name,.bool m.function,.slice b2 m.params.length d2,.slice b3 m.body.length d3] 56)).heap.size:=JJ (QR _).symm;have nh:=Qh (JS wd (.cells #[.string m.name,.bool m.function,.slice b2 m.params.length d2,.slice b3 m.body.length d3] 56));go_simp;have qL:=Qh ((bl.block w.heap.size (by omega)).trans qJ.out);have jb:=Qh ((Zaa sMacro).below eM.out bl);have jc:=Qh ((Zaa sMacro).below eN.out bl);have wI:=Qh (sMacro.below qK.out bl);have jd:=Qh (dX.out.trans (bl.mono dX.out.size));refine hK.out _ _ qL.out (λac=>?_);clear hK K bl;try simp only[Qp]
     generalize (wd.alloc (.cells #[.string m.name,.bool m.function,.slice b2 m.params.length d2,.slice b3 m.body.length d3] 56))=x9 at *;refine Qr 0 rfl (λK hK=>?_) (by decide +kernel);have bl:=Zab x9 (.cells #[] 56);have qM:x9.heap.size+1<=(x9.alloc (.cells #[] 56)).heap.size:=JJ (QR _).symm;have fD:=Qh (RowG.lit0 sMacro 56 x9);have kn:=Qh ((bl.block _ (by omega)).trans nh.out);go_simp;have nV:=Qh ((bl.block w.heap.size (by omega)).trans qL.out);have eI:=Qh ((Zaa sMacro).below jb.out bl);have gS:=Qh ((Zaa sMacro).below jc.out bl);have uz:=Qh (sMacro.below wI.out bl);have ko:=Qh (jd.out.trans (bl.mono jd.out.size));refine hK.out _ _ nV.out (λac=>?_);clear hK K bl;try simp only[Qp]
     generalize (x9.alloc (.cells #[] 56))=aV at *;refine Qr 4 rfl (λK hK=>?_) (by decide +kernel);refine Zbj Zcm rfl (by decide) Zdv _ 70 rfl rfl (.tmp 66) (.tmp 69) rfl (x9.heap.size) (.slice (some ⟨x9.heap.size,0,none⟩) 0 0) (.slice (some ⟨b1,ae,none⟩) n aN) (l.take n) fa rfl fD.out rfl eI.out (λb hb=>by have:=(da.out.1 b hb).1;omega) (by rw[dE.out.1];simp[maxLen];omega) (by rw[dE.out.1];simp;omega) (by omega) ?_;exact Y9A2
  ·have h0:decide ((k:Int)<(l.length:Int))=false:=JQ (by omega);have h1:decide (k<l.length)=false:=JQ af;go_wp2_with fail
   go_quiet (fail)
   go_wp2;obtain rfl:n=k:=(by omega);have cc:=Zah eU nq;generalize wr.drewN nq=wq at *;have hsq:=cc.size;have Ah:=Qh ((cc.block w.heap.size (by omega)).trans iI.out);have ng:=Qh ((Zaa sMacro).below kM.out cc);have Ai:=Qh (sMacro.below fP.out cc);have wD:=Qh (il.out.trans (cc.mono il.out.size));clear iI kM fP il fi eU cc p0 kv ww yD LOX;obtain⟨fa,RA,mF⟩:=Zcp n (by omega) ng.out;obtain⟨fb,RB,l0⟩:=Zbp n (by omega) ng.out;have hd:Below wq.heap.size wq wq.drew:=Zah (QD _ _) 1;have dx:=Qh ((Zaa sMacro).below RA hd);obtain⟨sv,fQ⟩:∃sv:Value,Hid (sv=.slice (if aN=n then a1 else (a1:Option Addr).map (·.add (n*sMacro.m))) (l.length-n) (aN-n)):=⟨_,rfl⟩;have dH:Hid ((Zaa sMacro).R wq.drew [sv] (l.drop n) fb):=(by show(Zaa sMacro).R _ _ _ _;rw[fQ.out];exact(Zaa sMacro).below RB hd);have uD:=Qh mF;have gG:=Qh l0;have Aj:=Qh (sMacro.below Ai.out hd);have Ak:=Qh (wD.out.trans (hd.mono wD.out.size));have tu:wq.heap.size<=wq.drew.heap.size:=hd.size;clear RA RB mF l0 ng Ai wD;refine wp_region_noPanic ?_;refine JU (S:=λw'=>w'.heap[w.heap.size]?=some (.cells #[.string m.name,.bool m.function,.slice b2 m.params.length d2,.slice b3 m.body.length d3] 56 (0,0))) (by kernel_rfl) (by exact Ah.out) (λac=>?_);clear hd;generalize wq.drew=wd at *;have m6:(0:Int)<=(n:Int):=(by omega);have yC:(n:Int)<=(l.length:Int):=(by omega);have yJ:n<=l.length:=(by omega);have Al:n<=aN:=(by omega);have eq:(n:Int)<=(aN:Int):=(by omega);refine Qt 1 67 rfl rfl ?_ (by intro w aI;obtain⟨s0,s1,s2,s3⟩:=Q4 aI;go_simp;(first | done | with_reducible rfl | rfl));try simp only[Qp]
   refine Qt 2 68 rfl rfl ?_ (by intro w aI;obtain⟨s0,s1,s2,s3⟩:=Q4 aI;go_simp;(first | done | with_reducible rfl | rfl));try simp only[Qp]
   refine takeH 3 69 (v:=.slice a1 n aN) rfl rfl (by kernel_rfl) (by kernel_rfl) (by kernel_rfl) (λ_ _ _ h=>h) (by rfl) (by assumption) ?_ ?_
   ·intro w aI;obtain⟨s0,s1,s2,s3⟩:=Q4 aI;go_simp;(first | done | with_reducible rfl | rfl)
   try simp only[Qp]
   refine Qt 5 71 rfl rfl ?_ (by intro w aI;obtain⟨s0,s1,s2,s3⟩:=Q4 aI;go_simp;(first | done | with_reducible rfl | rfl));try simp only[Qp]
   refine Qt 8 74 rfl rfl ?_ (by intro w aI;obtain⟨s0,s1,s2,s3⟩:=Q4 aI;go_simp;(first | done | with_reducible rfl | rfl));try simp only[Qp]
   refine Qt 9 75 rfl rfl ?_ (by intro w aI;obtain⟨s0,s1,s2,s3⟩:=Q4 aI;go_simp;(first | done | with_reducible rfl | rfl));try simp only[Qp]
   refine takeH 10 76 (v:=sv) rfl rfl (by kernel_rfl) (by kernel_rfl) (by kernel_rfl) (λ_ _ _ h=>h) (by rfl) (by assumption) ?_ ?_
   ·intro w aI;rw[fQ.out];obtain⟨s0,s1,s2,s3⟩:=Q4 aI;go_simp;(first | done | with_reducible rfl | rfl)
   try simp only[Qp]
   have Am:=Qh ac;have cI:w.heap.size<wd.heap.size:=(by omega);have da:Hid ((∀b∈fa,b<wd.heap.size/\w.heap.size<=b)/\(∀b∈fb,b<wd.heap.size/\w.heap.size<=b)/\(∀b∈f2,b<wd.heap.size/\w.heap.size<=b)):=⟨λb hb=>by have:=uC.out b (uD.out b hb);omega,λb hb=>by have:=uC.out b (gG.out b hb);omega,λb hb=>by have:=LO2.out b hb;omega⟩;have dE:Hid ((l.take n).length=n/\(l.drop n).length=l.length-n):=⟨by rw[Qd];omega,QM⟩;clear uD gG ac Ah;have qJ:=Am;have eM:=dx;have eN:=dH;have qK:=Aj;have dX:=Ak;clear Am dx dH Aj Ak;refine wpAnyH_ready (rs:=[0,6]) (by decide +kernel) (by simp) ?_;refine JP rfl (λK hK=>?_) (JP rfl (λK hK=>?_) AllReadyH.nil)
   ·have bl:=Zab wd (.cells #[] 56);have wE:wd.heap.size+1<=(wd.alloc (.cells #[] 56)).heap.size:=JJ (QR _).symm;have gp:=Qh (RowG.lit0 sMacro 56 wd);go_simp;have oQ:=Qh ((bl.block w.heap.size (by omega)).trans qJ.out);have ey:=Qh ((Zaa sMacro).below eM.out bl);have fC:=Qh ((Zaa sMacro).below eN.out bl);have tp:=Qh (sMacro.below qK.out bl);have gq:=Qh (dX.out.trans (bl.mono dX.out.size));refine hK.out _ _ oQ.out (λac=>?_);clear hK K bl;try simp only[Qp]
    generalize (wd.alloc (.cells #[] 56))=x0 at *;refine wpAnyH_ready (rs:=[4,6]) (by decide +kernel) (by simp) ?_;refine JP rfl (λK hK=>?_) (JP rfl (λK hK=>?_) AllReadyH.nil)
    ·refine Zbj Zcm rfl (by decide) Zdv _ 70 rfl rfl (.tmp 66) (.tmp 69) rfl (wd.heap.size) (.slice (some ⟨wd.heap.size,0,none⟩) 0 0) (.slice a1 n aN) (l.take n) fa rfl gp.out rfl ey.out (λb hb=>by have:=(da.out.1 b hb).1;omega) (by rw[dE.out.1];simp[maxLen];omega) (by rw[dE.out.1];simp;omega) (by omega) ?_;exact Y9A1
    ·have bl:=Zab x0 (.cells #[.string m.name,.bool m.function,.slice b2 m.params.length d2,.slice b3 m.body.length d3] 56);have wG:x0.heap.size+1<=(x0.alloc (.cells #[.string m.name,.bool m.function,.slice b2 m.params.length d2,.slice b3 m.body.length d3] 56)).heap.size:=JJ (QR _).symm;have oR:=Qh (JS x0 (.cells #[.string m.name,.bool m.function,.slice b2 m.params.length d2,.slice b3 m.body.length d3] 56));have jP:=Qh (gp.out.below bl);go_simp;have tq:=Qh ((bl.block w.heap.size (by omega)).trans oQ.out);have ik:=Qh ((Zaa sMacro).below ey.out bl);have kp:=Qh ((Zaa sMacro).below fC.out bl);have z7:=Qh (sMacro.below tp.out bl);have oS:=Qh (gq.out.trans (bl.mono gq.out.size));refine hK.out _ _ tq.out (λac=>?_);clear hK K bl;try simp only[Qp]
     generalize (x0.alloc (.cells #[.string m.name,.bool m.function,.slice b2 m.params.length d2,.slice b3 m.body.length d3] 56))=x5 at *;refine Qr 4 rfl (λK hK=>?_) (by decide +kernel);refine Zbj Zcm rfl (by decide) Zdv _ 70 rfl rfl (.tmp 66) (.tmp 69) rfl (wd.heap.size) (.slice (some ⟨wd.heap.size,0,none⟩) 0 0) (.slice a1 n aN) (l.take n) fa rfl jP.out rfl ik.out (λb hb=>by have:=(da.out.1 b hb).1;omega) (by rw[dE.out.1];simp[maxLen];omega) (by rw[dE.out.1];simp;omega) (by omega) ?_;exact Y9A3
   ·have bl:=Zab wd (.cells #[.string m.name,.bool m.function,.slice b2 m.params.length d2,.slice b3 m.body.length d3] 56);have wH:wd.heap.size+1<=(wd.alloc (.cells #[.string m.name,.bool m.function,.slice b2 m.params.length d2,.slice b3 m.body.length d3] 56)).heap.size:=JJ (QR _).symm;have nh:=Qh (JS wd (.cells #[.string m.name,.bool m.function,.slice b2 m.params.length d2,.slice b3 m.body.length d3] 56));go_simp;have qL:=Qh ((bl.block w.heap.size (by omega)).trans qJ.out);have jb:=Qh ((Zaa sMacro).below eM.out bl);have jc:=Qh ((Zaa sMacro).below eN.out bl);have wI:=Qh (sMacro.below qK.out bl);have jd:=Qh (dX.out.trans (bl.mono dX.out.size));refine hK.out _ _ qL.out (λac=>?_);clear hK K bl;try simp only[Qp]
    generalize (wd.alloc (.cells #[.string m.name,.bool m.function,.slice b2 m.params.length d2,.slice b3 m.body.length d3] 56))=x9 at *;refine Qr 0 rfl (λK hK=>?_) (by decide +kernel);have bl:=Zab x9 (.cells #[] 56);have qM:x9.heap.size+1<=(x9.alloc (.cells #[] 56)).heap.size:=JJ (QR _).symm;have fD:=Qh (RowG.lit0 sMacro 56 x9);have kn:=Qh ((bl.block _ (by omega)).trans nh.out);go_simp;have nV:=Qh ((bl.block w.heap.size (by omega)).trans qL.out);have eI:=Qh ((Zaa sMacro).below jb.out bl);have gS:=Qh ((Zaa sMacro).below jc.out bl);have uz:=Qh (sMacro.below wI.out bl);have ko:=Qh (jd.out.trans (bl.mono jd.out.size));refine hK.out _ _ nV.out (λac=>?_);clear hK K bl;try simp only[Qp]
    generalize (x9.alloc (.cells #[] 56))=aV at *;refine Qr 4 rfl (λK hK=>?_) (by decide +kernel);refine Zbj Zcm rfl (by decide) Zdv _ 70 rfl rfl (.tmp 66) (.tmp 69) rfl (x9.heap.size) (.slice (some ⟨x9.heap.size,0,none⟩) 0 0) (.slice a1 n aN) (l.take n) fa rfl fD.out rfl eI.out (λb hb=>by have:=(da.out.1 b hb).1;omega) (by rw[dE.out.1];simp[maxLen];omega) (by rw[dE.out.1];simp;omega) (by omega) ?_;exact Y9A2
def Zha (l:List Tok):List ByteArray × Int:=match Zcd l with | some p=>(p.1,(p.2:Int)) | none=>([],-1)
variable {l:List Tok}
theorem ZgX {p:List ByteArray × Nat}(h:Zcd l=some p):Zha l=(p.1,(p.2:Int)):=by unfold Zha;rw[h]
theorem ZgY (h:Zcd l=none):Zha l=([],-1):=by unfold Zha;rw[h]
def Zko (l:List Tok)(w:World)(e:Ending)(w':World):Prop:=
 ∃(pv:Value) (fp:List Nat),e=.returned (.tuple #[pv,.int .i64 (Zha l).2])/\(Zaa sStr).R w' [pv] (Zha l).1 fp/\Own w' w.heap.size fp/\Below w.heap.size w w'
theorem Zlc {w w1:World}(h:Zcd l=none)(hb:Below w.heap.size w w1):Zko l w (.returned (.tuple #[.slice (some ⟨w1.heap.size,0,none⟩) 0 0,.int .i64 (-1)])) (w1.alloc (.cells #[] 9)):=
 ⟨_,[],by rw[ZgY h],by rw[ZgY h];exact Zao sStr _ _ _ (by simp),Own.nil _ _,hb.trans ((Zab w1 _).mono hb.size)⟩
variable {L:List ByteArray}
theorem ZoX {w w1:World}{v:Value}{n:Int}{p:List ByteArray × Nat}(h:Zcd l=some p)(h1:p.1=L)(h2:(p.2:Int)=n)(hb:Below w.heap.size w w1)(ho:w1.ownsRow w.heap.size 9 1 v L.length (L.map Value.string))
  (hs:∀i,(hi:i<L.length)->L[i].size<=maxLen):Zko l w (.returned (.tuple #[v,.int .i64 n])) w1:=by
 obtain⟨fp,h3,h4,_⟩:=ZbM (ok:=ZaC) ho hs;exact⟨v,fp,by rw[ZgX h,h2],by rw[ZgX h];show(Zaa sStr).R w1 [v] p.1 fp;rw[h1];exact h3,h4,hb⟩
variable {k:Nat}
theorem ZoY (h:k+1<l.length)(h1:(l[k]'(by omega)).kind≠1):parsAt l k=none:=by rw[parsAt,dif_pos h,if_neg h1]
theorem Zm5 (h:k+1<l.length)(h1:(l[k]'(by omega)).kind=1)(h2:l[k+1].text=ZfI):parsAt l k=some ([(l[k]'(by omega)).text],k+2):=by rw[parsAt,dif_pos h,if_pos h1,if_pos h2]
theorem Zm6 (h:k+1<l.length)(h1:(l[k]'(by omega)).kind=1)(h2:l[k+1].text≠ZfI)(h3:l[k+1].text=Zkf):parsAt l k=(parsAt l (k+2)).map (λp=>((l[k]'(by omega)).text::p.1,p.2)):=by rw[parsAt,dif_pos h,if_pos h1,if_neg h2,if_pos h3]
theorem Zm7 (h:k+1<l.length)(h1:(l[k]'(by omega)).kind=1)(h2:l[k+1].text≠ZfI)(h3:l[k+1].text≠Zkf):parsAt l k=none:=by rw[parsAt,dif_pos h,if_pos h1,if_neg h2,if_neg h3]
theorem Zm8 (h:¬k+1<l.length):parsAt l k=none:=by rw[parsAt,dif_neg h]
theorem Zm9 {base e:Nat}{v:Value}{x:ByteArray}(h:w.ownsRow base e 1 v (L.length+1) (L.map Value.string++[.string x])):w.ownsRow base e 1 v (L++[x]).length ((L++[x]).map Value.string):=by
 simpa using h
theorem ZlY {x:ByteArray}(h:∀i,(hi:i<L.length)->L[i].size<=maxLen)(hx:x.size<=maxLen):∀i,(hi:i<(L++[x]).length)->(L++[x])[i].size<=maxLen:=by
 intro i hi;by_cases h1:i<L.length
 ·rw[List.getElem_append_left h1];exact h i h1
 ·have:i=L.length:=by simp at hi;omega
  subst this;simp[hx]
theorem Y9A5 (h:g:=by
 go_enter Tryz.func108,Tryz.ntmps108;go_wp2;go_loopw [4,5] (λo i wr=>∃(k:Nat) (L:List ByteArray),k<=l.length+2/\L.length<=k/\i=.int .i64 k/\Hid (wr.ownsRow w.heap.size 9 1 o L.length (L.map Value.string))/\Hid (∀i,(hi:i<L.length)->L[i].size<=maxLen)/\Hid (Zcd l=(parsAt l k).map (λp=>(L++p.1,p.2)))/\Below w.heap.size w wr) (λ_ i _=>l.length+2-(intOf i).toNat)
 case atStart=>exact⟨2,[],by omega,by simp,rfl,bo,by intro i hi;simp at hi,HPA,bH⟩
 case round =>
  clear bo bH HPA;obtain⟨k,L,hk,pJ,rfl,HO,HS,HP,hb⟩:=hrel;by_cases af:k+1<l.length
  ·obtain⟨b1,ae,dt,heq,aG,-,bj⟩:=ai.out (by omega);first
    | subst heq
    | (simp only[Qi,Addr.mk.injEq,and_true]at heq;obtain⟨rfl,rfl⟩:=heq)
   obtain⟨lA,bf,bR⟩:=bj k (by omega);obtain⟨up,cQ,bN⟩:=bj (k+1) af;clear ai bj;obtain⟨h1',rfl,-,okt,-⟩:=bR;obtain⟨h2',rfl,-,-,-⟩:=bN;have hE1':=bf.frame (hb.block b1 aG);have hE2':=cQ.frame (hb.block b1 aG);have c0:wr.cell? ⟨b1,ae+k*4,none⟩=some _:=ZaB hE1' (by decide) rfl;have c1:wr.cell? ⟨b1,ae+k*4+1,none⟩=some _:=Zae (j:=1) hE1' (by decide) rfl;have d1:wr.cell? ⟨b1,ae+(k+1)*4+1,none⟩=some _:=Zae (j:=1) hE2' (by decide) rfl;have d1w:w.cell? ⟨b1,ae+(k+1)*4+1,none⟩=some _:=Zae (j:=1) cQ (by decide) rfl;clear bf cQ hE1' hE2';obtain⟨An,hRo,-,-⟩:=ZbM (ok:=ZaC) HO.out HS.out;obtain⟨ao,co,rfl,-⟩:=Zaf hRo;clear hRo;have h6:((k:Int)+1).toNat=k+1:=(by omega);have bG:(k:Int)+1<(l.length:Int):=(by omega);by_cases e1:(l[k]'(by omega)).kind=1
   ·have g1:((l[k]'(by omega)).kind != 1)=false:=(by simp[e1]);have OKT:=Qh okt;by_cases e2:l[k+1].text=ZfI
    ·have g2:=ZbH (l:=[41]) e2;have HN:=Qh (HP.out.trans (by rw[Zm5 af e1 e2];try rfl));clear e1 e2 okt
     go_wp2_with (
      at_builtin;refine Zck ti27 rfl _ (.string (l[k]'(by omega)).text) rfl rfl (.tmp 39) (.tmp 45) rfl w.heap.size (.slice ao L.length co) L.length _ rfl HO.out rfl (by unfold maxLen;omega) (by omega) hb.size ?_;intro v3 w3 ag aX;have aC:=hb.grown aX hb.size (λb aE=>(HO.out.lt b aE).1);have d3:=(aC.cell (p:=⟨b1,ae+(k+1)*4+1,none⟩) aG).trans d1w;have eZ:=Qh aC;have qN:=Qh (Zm9 ag)
      clear aX ag)
     go_ret2;exact ZoX HN.out rfl (by go_num) eZ.out qN.out (ZlY HS.out OKT.out)
    ·have g2:=ZbI (l:=[41]) e2;by_cases e3:l[k+1].text=Zkf
     ·have g3:=ZbH (l:=[44]) e3;have HN:Hid (Zcd l=(parsAt l (k+2)).map (λp=>((L++[(l[k]'(by omega)).text])++p.1,p.2))):=by
       show _=_;rw[HP.out,Zm6 af e1 e2 e3,Option.map_map];congr 1
       funext p;simp
      clear e1 e2 e3 okt
      go_wp2_with (
       at_builtin;refine Zck ti27 rfl _ (.string (l[k]'(by omega)).text) rfl rfl (.tmp 39) (.tmp 45) rfl w.heap.size (.slice ao L.length co) L.length _ rfl HO.out rfl (by unfold maxLen;omega) (by omega) hb.size ?_;intro v3 w3 ag aX;have aC:=hb.grown aX hb.size (λb aE=>(HO.out.lt b aE).1);have d3:=(aC.cell (p:=⟨b1,ae+(k+1)*4+1,none⟩) aG).trans d1w;have eZ:=Qh aC;have qN:=Qh (Zm9 ag)
       clear aX ag)
      go_roundw;case rel=>exact⟨k+2,_,by omega,by simp;omega,by go_num,qN,ZlY HS.out OKT.out,HN,eZ.out⟩
      case measure=>simp[intOf];omega
     ·have g3:=ZbI (l:=[44]) e3;have HN:=Qh (HP.out.trans (by rw[Zm7 af e1 e2 e3];try rfl));clear e1 e2 e3 okt
      go_wp2_with (
       at_builtin;refine Zck ti27 rfl _ (.string (l[k]'(by omega)).text) rfl rfl (.tmp 39) (.tmp 45) rfl w.heap.size (.slice ao L.length co) L.length _ rfl HO.out rfl (by unfold maxLen;omega) (by omega) hb.size ?_;intro v3 w3 ag aX;have aC:=hb.grown aX hb.size (λb aE=>(HO.out.lt b aE).1);have d3:=(aC.cell (p:=⟨b1,ae+(k+1)*4+1,none⟩) aG).trans d1w;have eZ:=Qh aC
       clear aX ag)
      go_ret2;exact Zlc HN.out eZ.out
   ·have g1:((l[k]'(by omega)).kind != 1)=true:=(by simp[e1]);have HN:=Qh (HP.out.trans (by rw[ZoY af e1];try rfl));clear e1;go_wp2;go_ret2;exact Zlc HN.out hb
  ·have HN:=Qh (HP.out.trans (by rw[Zm8 af];try rfl));have bG:¬(k:Int)+1<(l.length:Int):=(by omega);go_wp2;go_ret2
   exact Zlc HN.out hb):g:=h
theorem Zmx (v:Value)(l:List Tok)(fp:List Nat)(w:World)(hl:l.length<=60)(H:(Zaa sTok).R w [v] l fp):
  Calls Tryz.prog 108 #[v] w (Zko l w):=by
 obtain⟨a,cap,rfl,hc,hm,ai⟩:=Zac H;unfold maxLen at hm;clear H;have bo:Hid ((w.alloc (.cells #[] 9)).ownsRow w.heap.size 9 1 (.slice (some ⟨w.heap.size,0,none⟩) 0 0) ([]:List ByteArray).length (([]:List ByteArray).map Value.string)):=
  Q1 (base:=w.heap.size) (e:=9) (size:=1) w #[] 0 (QA _) (by simp) rfl
 have bH:=Zab w (.cells #[] 9);have fin:(¬ ∃h:2<l.length,l[2].text=ZfI/\l[2].kind=4)->Hid (Zcd l=(parsAt l 2).map (λp=>(([]:List ByteArray)++p.1,p.2))):=λcD=>by
  show _=_;have e:(λp:List ByteArray × Nat=>(([]:List ByteArray)++p.1,p.2))=id:=by funext p;simp
  rw[e,Option.map_id];unfold Zcd;by_cases h2:2<l.length
  ·rw[dif_pos h2,if_neg (λh=>cD ⟨h2,h⟩)];rfl
  ·rw[dif_neg h2,Zm8 (by omega)];rfl
 by_cases h2:2<l.length
 ·obtain⟨b1,ae,dt,rfl,aG,eY,bj⟩:=ai (by omega);obtain⟨lA,bf,bR⟩:=bj 2 h2;obtain⟨hh,rfl,-,-,-⟩:=bR;have ai:Hid (0<l.length->∃b off bA,(some ⟨b1,ae,none⟩:Option Addr)=some ⟨b,off,none⟩/\b<w.heap.size/\fp=b::(List.range l.length).flatMap bA/\∀i,(hi:i<l.length)->∃es,ElemAt w b off sTok.m i es/\sTok.R w es l[i] (bA i)):=λ_=>⟨b1,ae,dt,rfl,aG,eY,bj⟩;have cQ:=bf.frame (bH.block b1 aG);have c0:(w.alloc (.cells #[] 9)).cell? ⟨b1,ae+8,none⟩=some (.int .i64 l[2].kind):=ZaB (i:=2) (m:=4) cQ (by decide) rfl;have c1:(w.alloc (.cells #[] 9)).cell? ⟨b1,ae+8+1,none⟩=some (.string l[2].text):=Zae (i:=2) (m:=4) (j:=1) cQ (by decide) rfl;have f3:(2:Int)<(l.length:Int):=by omega
  clear bf cQ bj;by_cases h3:l[2].text=ZfI
  ·have f1:=ZbH (l:=[41]) h3;by_cases h4:l[2].kind=4
   ·have f2:(l[2].kind==4)=true:=(by simp[h4]);have HP:Hid (Zcd l=some ([],3)):=(by show _=_;unfold Zcd;rw[dif_pos h2,if_pos ⟨h3,h4⟩]);clear h3 h4 fin;go_enter Tryz.func108,Tryz.ntmps108;go_wp2;go_ret2;exact ZoX (p:=([],3)) HP.out rfl rfl bH bo.out (by simp)
   ·have f2:(l[2].kind==4)=false:=(by simp[h4]);have HPA:=fin (by rintro⟨_,_,h⟩;exact h4 h);clear h3 h4 fin;exact Y9A5
  ·have f1:=ZbI (l:=[41]) h3;have HPA:=fin (by rintro⟨_,h,_⟩;exact h3 h);clear h3 fin;exact Y9A5
 ·have f3:¬(2:Int)<(l.length:Int):=by omega
  have HPA:=fin (by rintro⟨h,_⟩;exact h2 h);have ai:=Qh ai;clear fin;exact Y9A5
variable {ops:Array Oper}{a:Act}
theorem Zmy {Q:Exit->Act->World->Prop}{id:Nat}(hm:P.follows .mixedOrders=true)(bQ:Zeu ops=true)
  (J:Array Bool->List Value->World->Prop)
  (hJ:J (Array.replicate ops.size false) (Zep a (ops.toList.map (·.dst))) { w with drawn:=w.drawn+1 })
  (step:∀(i:Nat) (o:Oper),ops[i]?=some o->∀(L:Array Bool) (xs:List Value) (w':World),L.size=ops.size->xs.length=ops.size->L.getD i false=false ->
   (∀e∈o.after,Region.binds .any e=true->L.getD e.on false=true)->J L xs w' ->
   ∀K:Act->World->Prop,(∀v sl,J (L.setIfInBounds i true) (xs.set i v) sl->K ((Zav a (ops.toList.map (·.dst)) xs).put o.dst v) sl)->wpList P ops (Sw K) [o] (Zav a (ops.toList.map (·.dst)) xs) w')
  (done:∀(L:Array Bool) (xs:List Value) (w':World),xs.length=ops.size->(∀i,i<ops.size->L.getD i false=true)->J L xs w'->Q .normal (Zav a (ops.toList.map (·.dst)) xs) w') :
  (Code.region id ops true).wp P Q a w:=by
 refine wp_region_any hm ?_;have hd:ZeD (ops.toList.map (·.dst))=true:=by unfold Zeu at bQ;rw[QI]at bQ;exact bQ.1
 have qh:∀(L:Array Bool),L.size=ops.size->Region.ready .any ops L=[]->∀i,i<ops.size->L.getD i false=true:=by
  intro L hL hr i;induction i using Nat.strongRecOn with
  |
   ind i ih =>
   intro hi;cases hb:L.getD i false with
   | true=>rfl
   |
    false =>
    exfalso;have hm:i∈Region.ready .any ops L:=by
     rw[mem_ready]
     exact⟨ZoU (by omega) hb,ops[i],Array.getElem?_eq_getElem hi,λe he _=>by
      have af:=Zff bQ (Array.getElem?_eq_getElem hi) e he
      exact ih e.on af (by omega)⟩
    rw[hr]at hm;cases hm
 have wn:∀(cS:Nat) (L:Array Bool) (b:Act) (w':World) (xs:List Value),cS+cnt ops.size L=ops.size->L.size=ops.size->xs.length=ops.size->b=Zav a (ops.toList.map (·.dst)) xs->J L xs w'->wpAny P .any ops Q cS L b w':=by
  intro cS;induction cS with
  |
   zero =>
   intro L b w' xs hf hs hx hb hI;have az:∀i,i<ops.size->L.getD i false=true:=λi hi=>by
    cases hb:L.getD i false with
    | true=>rfl
    | false=>have:=Zm1 hi hb;omega
   refine⟨?_,?_⟩
   ·cases hr:Region.ready .any ops L with
    | nil=>rfl
    |
     cons i r =>
     have hi:i∈Region.ready .any ops L:=(by rw[hr];simp);rw[mem_ready]at hi;obtain⟨h0,o,ho,_⟩:=hi;have:=az i (Qg ho).1;rw[Zf3 h0]at this;cases this
   ·rw[hb];exact done L xs w' hx az hI
  |
   succ cS ih =>
   intro L b w' xs hf hs hx hb hI;refine⟨λhr=>?_,λi hi=>?_⟩
   ·rw[hb];exact done L xs w' hx (qh L hs hr) hI
   ·obtain⟨h0,o,ho,em⟩:=mem_ready.1 hi;have af:=(Qg ho).1;refine sw_op ho ?_;rw[hb];refine step i o ho L xs w' hs hx (Zf3 h0) em hI _ (λv sl h1=>?_);have hds:(ops.toList.map (·.dst))[i]?=some o.dst:=(by simp[ho]);rw[Zm0 _ hd _ _ i _ _ (by simpa using hx) hds];have zG:cnt ops.size (L.setIfInBounds i true)=cnt ops.size L+1:=Zk4 af hs h0;exact ih _ _ _ (xs.set i v) (by omega) (by simpa using hs) (by simpa using hx) rfl h1
 refine wn ops.size _ _ _ (Zep a (ops.toList.map (·.dst))) ?_ (by simp) (by simp[Zep]) (ZlT _ a).symm hJ;have hz:∀i,(Array.replicate ops.size false).getD i false=false:=by intro i;simp[Array.getD]
 have hc:cnt ops.size (Array.replicate ops.size false)=0:=by
  unfold cnt;rw[List.countP_eq_zero];intro i _;simp only[hz i];simp
 rw[hc];omega
structure AppJ (n ia ib ic:Nat)(vals:List (Option Value))(va:Value)(og:List Value)(w0 w1:World)(App Fin:Value->World->Prop)(L:Array Bool)(xs:List Value)(w:World):Prop where
 con:∀i,i<n->i≠ia->i≠ib->i≠ic->L.getD i false=true->∀u,vals[i]?=some (some u)->xs[i]?=some u
 a:L.getD ia false=true->xs[ia]?=some va
 ab:L.getD ib false=true->L.getD ia false=true
 bc:L.getD ic false=true->L.getD ib false=true
 s0:L.getD ia false=false->w=w0
 s1:L.getD ia false=true->L.getD ib false=false->w=w1
 s2:L.getD ib false=true->L.getD ic false=false->∃v,xs[ib]?=some v/\App v w
 s3:L.getD ic false=true->∃v,xs[ib]?=some v/\Fin v w
 old:∀i,i<n->L.getD i false=false->xs[i]?=og[i]?
 fin:L.getD ic false=true->∀i,i<n->L.getD i false=true
theorem sw_skip {K:Act->World->Prop}{o:Oper}(hw:Region.wanted o (yielded ops a.tmps)=false)(h:K (a.put o.dst undef) w):wpList P ops (Sw K) [o] a w:=by
 unfold wpList;rw[if_neg (by simp[hw])];exact h
def ConOk (P:Program)(ops:Array Oper)(a:Act)(vals:List (Option Value))(fo:World->Prop)(ia ib ic i:Nat)(o:Oper):Prop:=
 ∀(xs:List Value) (w':World),xs.length=ops.size->xs[i]?=(Zep a (ops.toList.map (·.dst)))[i]?->(∀e∈o.after,Region.binds .any e=true->e.on≠ia->e.on≠ib->e.on≠ic->∀u,vals[e.on]?=some (some u)->xs[e.on]?=some u)->fo w' ->
  ∀K:Act->World->Prop,(∀v,(∀u,vals[i]?=some (some u)->v=u)->K ((Zav a (ops.toList.map (·.dst)) xs).put o.dst v) w')->wpList P ops (Sw K) [o] (Zav a (ops.toList.map (·.dst)) xs) w'
def ZjD (P:Program)(ops:Array Oper)(a:Act)(vals:List (Option Value))(fo:World->Prop)(ia ib ic:Nat):Nat->List Oper->Prop
 | _,[]=>True
 | k,o::os=>(k=ia\/k=ib\/k=ic\/ConOk P ops a vals fo ia ib ic k o)/\ZjD P ops a vals fo ia ib ic (k+1) os
theorem cons_of {vals:List (Option Value)}{fo:World->Prop}{ia ib ic:Nat}:∀(l:List Oper) (k:Nat),(∀j,l[j]?=ops[k+j]?)->ZjD P ops a vals fo ia ib ic k l->∀i o,k<=i->ops[i]?=some o->i=ia\/i=ib\/i=ic\/ConOk P ops a vals fo ia ib ic i o:=by
 intro l;induction l with
 |
  nil =>
  intro k h _ i o hk hi;have:=h (i-k);rw[show k+(i-k)=i by omega,hi]at this;simp at this
 |
  cons x l ih =>
  intro k h hs i o hk hi;by_cases e:i=k
  ·subst e;have h0:=h 0;rw[Q0,hi]at h0;simp only[List.getElem?_cons_zero,Qi]at h0;subst h0;exact hs.1
  ·exact ih (k+1) (λj=>by have:=h (j+1);rw[List.getElem?_cons_succ]at this;rw[this];congr 1;omega) hs.2 i o (by omega) hi
theorem Zna {vals:List (Option Value)}{fo:World->Prop}{ia ib ic:Nat}(h:ZjD P ops a vals fo ia ib ic 0 ops.toList):
  ∀i o,ops[i]?=some o->i=ia\/i=ib\/i=ic\/ConOk P ops a vals fo ia ib ic i o:=λi o hi=>cons_of ops.toList 0 (λj=>by simp) h i o (JI _) hi
theorem Zh0 {Q:Exit->Act->World->Prop}{id:Nat}{a:Act}(hm:P.follows .mixedOrders=true)(bQ:Zeu ops=true)
  (ia ib ic:Nat) (hab:((ops[ib]?).map λo=>o.after.any λe=>Region.binds .any e && e.on==ia)=some true) (qi:((ops[ic]?).map λo=>Zkj o ic ops.size)=some true)
  (cD:ia≠ib/\ib≠ic/\ia≠ic) (af:ia<ops.size/\ib<ops.size/\ic<ops.size) {oA oB oC:Oper} (hA:ops[ia]?=some oA) (hB:ops[ib]?=some oB) (hC:ops[ic]?=some oC)
  (vals:List (Option Value)) (va:Value) (w1:World) (App Fin:Value->World->Prop) (fo:World->Prop)
  (bD:fo { w with drawn:=w.drawn+1 }) (aG:fo w1) (aF:∀v w2,App v w2->fo w2)
  (con:∀(i:Nat) (o:Oper),ops[i]?=some o->i=ia\/i=ib\/i=ic\/ConOk P ops a vals fo ia ib ic i o)
  (stA:∀xs:List Value,xs.length=ops.size->(∀e∈oA.after,Region.binds .any e=true->e.on≠ia->e.on≠ib->e.on≠ic->∀u,vals[e.on]?=some (some u)->xs[e.on]?=some u) ->
   ∀K:Act->World->Prop,K ((Zav a (ops.toList.map (·.dst)) xs).put oA.dst va) w1->wpList P ops (Sw K) [oA] (Zav a (ops.toList.map (·.dst)) xs) { w with drawn:=w.drawn+1 })
  (stB:∀xs:List Value,xs.length=ops.size->(∀e∈oB.after,Region.binds .any e=true->e.on≠ia->e.on≠ib->e.on≠ic->∀u,vals[e.on]?=some (some u)->xs[e.on]?=some u)->xs[ia]?=some va ->
   ∀K:Act->World->Prop,(∀v w2,App v w2->K ((Zav a (ops.toList.map (·.dst)) xs).put oB.dst v) w2)->wpList P ops (Sw K) [oB] (Zav a (ops.toList.map (·.dst)) xs) w1)
  (stC:∀(xs:List Value) (v:Value) (w2:World),xs.length=ops.size->(∀e∈oC.after,Region.binds .any e=true->e.on≠ia->e.on≠ib->e.on≠ic->∀u,vals[e.on]?=some (some u)->xs[e.on]?=some u)->xs[ib]?=some v->App v w2 ->
   ∀K:Act->World->Prop,(∀u w3,Fin v w3->K ((Zav a (ops.toList.map (·.dst)) xs).put oC.dst u) w3)->wpList P ops (Sw K) [oC] (Zav a (ops.toList.map (·.dst)) xs) w2)
  (done:∀(xs:List Value) (v:Value) (w':World),xs.length=ops.size->(∀i,i<ops.size->i≠ia->i≠ib->i≠ic->∀u,vals[i]?=some (some u)->xs[i]?=some u)->xs[ia]?=some va->xs[ib]?=some v->Fin v w'->Q .normal (Zav a (ops.toList.map (·.dst)) xs) w') :
  (Code.region id ops true).wp P Q a w:=by
 obtain⟨n1,n2,n3⟩:=cD;obtain⟨l1,l2,l3⟩:=af;refine Zmy hm bQ (AppJ ops.size ia ib ic vals va (Zep a (ops.toList.map (·.dst))) { w with drawn:=w.drawn+1 } w1 App Fin) ?_ ?_ ?_
 ·have hz:∀i,(Array.replicate ops.size false).getD i false=false:=by intro i;simp[Array.getD]
  have hf:∀i,(Array.replicate ops.size false).getD i false=true->False:=λi h=>by rw[hz]at h;cases h
  exact⟨λi _ _ _ _ h=>(hf i h).elim,λh=>(hf _ h).elim,λh=>(hf _ h).elim,λh=>(hf _ h).elim,λ_=>rfl,λh _=>(hf _ h).elim,λh _=>(hf _ h).elim,λh=>(hf _ h).elim,λ_ _ _=>rfl,λh=>(hf _ h).elim⟩
 ·intro i o ho L xs w' hs hx hL em hJ K hK;have hi:=(Qg ho).1;have tv:∀e∈o.after,Region.binds .any e=true->e.on≠ia->e.on≠ib->e.on≠ic->∀u,vals[e.on]?=some (some u)->xs[e.on]?=some u:=λe he hb h1 h2 h3=>by
   have gn:=em e he hb;have cC:e.on<ops.size:=by
    have:=Zff bQ ho e he;omega
   exact hJ.con e.on cC h1 h2 h3 gn
  have hp:∀j,(L.setIfInBounds i true).getD j false=(decide (j=i) || L.getD j false):=λj=>Zgo (by rw[hs];exact hi);have ix:∀(v:Value) (j:Nat),j≠i->(xs.set i v)[j]?=xs[j]?:=λv j hj=>List.getElem?_set_ne (λh=>hj h.symm);have hxi:∀(v:Value),(xs.set i v)[i]?=some v:=λv=>List.getElem?_set_self (by omega);have gT:∀(v:Value) (j:Nat),j<ops.size->(L.setIfInBounds i true).getD j false=false->(xs.set i v)[j]?=(Zep a (ops.toList.map (·.dst)))[j]?:=λv j hj hf=>by
   rw[hp,JD,decide_eq_false_iff_not]at hf;rw[ix v j hf.1];exact hJ.old j hj hf.2
  by_cases ea:i=ia
  ·subst ea;have hA':=hA;have kf:L.getD ib false=false:=by
    cases h:L.getD ib false
    ·rfl
    ·rw[hJ.ab h]at hL;cases hL
   have su:L.getD ic false=false:=by
    cases h:L.getD ic false
    ·rfl
    ·rw[hJ.bc h]at kf;cases kf
   obtain rfl:=hJ.s0 hL;rw[hA]at ho;cases ho;refine stA xs hx tv K (hK va w1 ⟨?_,λ_=>hxi va,λ_=>by rw[hp];simp,λh=>?_,λh=>?_,λ_ _=>rfl,λh=>?_,λh=>?_,gT va,λh=>?_⟩)
   ·intro j hj h1 h2 h3 hd u hu;rw[hp,Q6,JT]at hd;rw[ix _ _ h1];exact hJ.con j hj h1 h2 h3 (hd.resolve_left h1) u hu
   ·rw[hp,su]at h;simp at h;exact absurd h.symm n3
   ·rw[hp]at h;simp at h
   ·rw[hp,kf]at h;simp at h;exact absurd h.symm n1
   ·rw[hp,su]at h;simp at h;exact absurd h.symm n3
   ·rw[hp,su]at h;simp at h;exact absurd h.symm n3
  ·by_cases eb:i=ib
   ·subst eb;obtain⟨e,he,dj,hon⟩:∃e∈o.after,Region.binds .any e=true/\e.on=ia:=by
     rw[ho,JM,Qi,Array.any_eq_true']at hab;obtain⟨e,h1,h2⟩:=hab;rw[QI,beq_iff_eq]at h2;exact⟨e,h1,h2.1,h2.2⟩
    have df:L.getD ia false=true:=hon ▸ em e he dj;have su:L.getD ic false=false:=by
     cases h:L.getD ic false
     ·rfl
     ·rw[hJ.bc h]at hL;cases hL
    obtain rfl:=hJ.s1 df hL;rw[hB]at ho;cases ho;refine stB xs hx tv (hJ.a df) K (λv w2 ni=>hK v w2 ⟨?_,λ_=>?_,λ_=>?_,λh=>?_,λh=>?_,λ_ h=>?_,λ_ _=>⟨v,hxi v,ni⟩,λh=>?_,gT v,λh=>?_⟩)
    ·intro j hj h1 h2 h3 hd u hu;rw[hp,Q6,JT]at hd;rw[ix _ _ h2];exact hJ.con j hj h1 h2 h3 (hd.resolve_left h2) u hu
    ·rw[ix _ _ n1];exact hJ.a df
    ·rw[hp,df];simp
    ·rw[hp,su]at h;simp at h;exact absurd h.symm n2
    ·rw[hp,df]at h;simp at h
    ·rw[hp]at h;simp at h
    ·rw[hp,su]at h;simp at h;exact absurd h.symm n2
    ·rw[hp,su]at h;simp at h;exact absurd h.symm n2
   ·by_cases ec:i=ic
    ·subst ec;have az:∀j,j<ops.size->j≠i->L.getD j false=true:=λj hj ws=>by
      have hc:=qi;rw[ho,JM,Qi]at hc;unfold Zkj at hc;rw[Qk]at hc;have:=hc j (by simpa using hj);rw[Q6,beq_iff_eq]at this;rcases this with h | h
      ·exact absurd h ws
      ·rw[Array.any_eq_true']at h;obtain⟨d,ta,jD⟩:=h;rw[QI,beq_iff_eq]at jD;rw[←jD.2];exact em d ta jD.1
     have yK:L.getD ib false=true:=az ib l2 n2;have df:=hJ.ab yK;obtain⟨v,hv,ni⟩:=hJ.s2 yK hL;rw[hC]at ho;cases ho;refine stC xs v w' hx tv hv ni K (λu w3 hF=>hK u w3 ⟨?_,λ_=>?_,λ_=>?_,λ_=>?_,λh=>?_,λ_ h=>?_,λ_ h=>?_,λ_=>⟨v,?_,hF⟩,gT u,λ_ j hj=>?_⟩)
     ·intro j hj h1 h2 h3 hd u hu;rw[hp,Q6,JT]at hd;rw[ix _ _ h3];exact hJ.con j hj h1 h2 h3 (hd.resolve_left h3) u hu
     ·rw[ix _ _ n3];exact hJ.a df
     ·rw[hp,df];simp
     ·rw[hp,yK];simp
     ·rw[hp,df]at h;simp at h
     ·rw[hp,yK]at h;simp at h
     ·rw[hp]at h;simp at h
     ·rw[ix _ _ n2];exact hv
     ·rw[hp,Q6,JT];by_cases e:j=i
      ·exact .inl e
      ·exact .inr (az j hj e)
    ·have aK:fo w':=by
      cases hA:L.getD ia false
      ·rw[hJ.s0 hA];exact bD
      ·cases hB:L.getD ib false
       ·rw[hJ.s1 hA hB];exact aG
       ·cases hC:L.getD ic false
        ·obtain⟨v,_,h⟩:=hJ.s2 hB hC;exact aF v _ h
        ·rw[hJ.fin hC i hi]at hL;cases hL
     have yL:(L.setIfInBounds i true).getD ia false=L.getD ia false:=(by rw[hp,JQ (λh=>ea h.symm),Bool.false_or]);have wJ:(L.setIfInBounds i true).getD ib false=L.getD ib false:=(by rw[hp,JQ (λh=>eb h.symm),Bool.false_or]);have hpc:(L.setIfInBounds i true).getD ic false=L.getD ic false:=(by rw[hp,JQ (λh=>ec h.symm),Bool.false_or]);refine((((con i o ho).resolve_left ea).resolve_left eb).resolve_left ec) xs w' hx (hJ.old i hi hL) tv aK K (λv hv=>hK v w' ⟨?_,λh=>?_,λh=>?_,λh=>?_,λh=>?_,λh1 h2=>?_,λh1 h2=>?_,λh=>?_,gT v,λh=>?_⟩)
     ·intro j hj h1 h2 h3 hd u hu;by_cases ej:j=i
      ·subst ej;rw[hxi,hv u hu]
      ·rw[hp,Q6,JT]at hd;rw[ix _ _ ej];exact hJ.con j hj h1 h2 h3 (hd.resolve_left ej) u hu
     ·rw[yL]at h;rw[ix _ _ (λh=>ea h.symm)];exact hJ.a h
     ·rw[wJ]at h;rw[yL];exact hJ.ab h
     ·rw[hpc]at h;rw[wJ];exact hJ.bc h
     ·rw[yL]at h;exact hJ.s0 h
     ·rw[yL]at h1;rw[wJ]at h2;exact hJ.s1 h1 h2
     ·rw[wJ]at h1;rw[hpc]at h2;rw[ix _ _ (λh=>eb h.symm)];exact hJ.s2 h1 h2
     ·rw[hpc]at h;rw[ix _ _ (λh=>eb h.symm)];exact hJ.s3 h
     ·rw[hpc]at h;rw[hJ.fin h i hi]at hL;cases hL
 ·intro L xs w' hx az hJ;obtain⟨v,hv,hF⟩:=hJ.s3 (az ic l3);exact done xs v w' hx (λi hi h1 h2 h3=>hJ.con i hi h1 h2 h3 (az i hi)) (hJ.a (az ia l1)) hv hF
theorem Zat {fn:Func}{p u:Tmp}{ty:TypeId}(h:fn.results=#[.cell p ty,.tmp u])(tmps:Array Value)(w:World)(g:Nat)(t:TypeId)(cs:Array Value)(fr:Nat × Nat)(d:TypeDesc)
  (hp:tmps.getD p undef=.pointer (some ⟨g,0,none⟩)) (hg:w.heap[g]?=some (.cells cs t fr))
  (hu:P.underlying ty=some d) (hd:(match d with | .struct _ | .array _ _=>true | _=>false)=true) (hi:(P.info? ty).map (·.size)=some cs.size) :
  (results fn tmps).run P w=.ok (.tuple #[.agg cs,tmps.getD u undef]) w:=by
 have hp':tmps[p]?.getD undef=.pointer (some ⟨g,0,none⟩):=by simpa using hp
 rw[results_cell_tmp h];simp[hp',asAddr,run_loadVar_row w g t ty cs fr d hg hu hd hi,Result.andThen]
theorem Zag {g:Nat}{arr:Array Value}{ty:TypeId}(h:w.heap[g]?=some (.cells arr ty (0,0))){w':World}(hb:Below w.heap.size w w'):w'.heap[g]?=some (.cells arr ty (0,0)):=
 (hb.block g (Qg h).1).trans h
theorem mlt {g:Nat}{o:Obj}(h:w.heap[g]?=some o):g<w.heap.size:=(Qg h).1
end Go.Proofs.YtipfpppcbmpjiaaGreat
