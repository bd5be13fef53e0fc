/- Lemmas. -/
import Derived.Test.YtipfpppcbmpjiaaGreatZC17
set_option linter.unusedVariables false
set_option maxHeartbeats 16000000
set_option maxRecDepth 100000
set_option linter.unusedSimpArgs false
namespace Go.Proofs.YtipfpppcbmpjiaaGreat
open Go.RowKit
def lenOf:Value->Nat
 | .slice _ n _=>n
 | _=>0
variable {m:DMacro}
theorem call_end {f:List Tok->Nat->Zde}{work:List Tok}{s e l:Nat}{b:List Tok}(h:ZaW f m work s=(b,e,l,0)):2<e/\e<=2+(work.drop 2).length:=by
 unfold ZaW at h;split at h
 ·rename_i h1;split at h
  ·split at h
   ·simp only[QS]at h;have h2:=Zdy (work.drop 2) 1 [] [] 2 (R:=(Zax (work.drop 2) 1 [] [] 2).1) (e:=(Zax (work.drop 2) 1 [] [] 2).2.1) (by rw[←h1.1]);omega
   ·simp at h
  ·rename_i h2;simp only[QS]at h;exact absurd (by rw[h.2.2]:(ZaL f (List.take m.params.length (Zax (List.drop 2 work) 1 [] [] 2).1) s).2.2=0) h2
 ·simp at h
variable {T:List DMacro}{t:Tok}{r:List Tok}
theorem Zph (h:goM T (t::r)=some m)(hf:m.function=true):∃hr:0<r.length,isM r[0] [40]=true:=by
 unfold goM at h;dsimp only at h;cases hm:Zbk T t with
 | none=>rw[hm]at h;simp at h
 |
  some m' =>
  rw[hm]at h;dsimp only at h;split at h
  ·simp at h
  ·rename_i hh;simp only[Qi]at h;subst h;cases r with
   | nil=>exact absurd ⟨hf,rfl⟩ hh
   |
    cons u q =>
    refine⟨by simp,?_⟩;cases e:isM u [40]
    ·exact absurd ⟨hf,e⟩ hh
    ·exact e
theorem Zlr (m:DMacro)(a b:List (List Tok)):(Zaz m a b).1.length<=240:=by
 unfold Zaz;split
 ·split
  ·simp
  ·omega
 ·simp
theorem Zfq (l:List Tok)(h:List ByteArray)(sp:Bool):(Zbm l h sp).length=l.length:=by unfold Zbm;rw[Zli,QH]
theorem Zq2 (f:List Tok->Nat->Zde)(m:DMacro)(w:List Tok)(s:Nat):(ZaW f m w s).1.length<=240:=by
 unfold ZaW;split
 ·split
  ·split
   ·show(Zbm _ _ _).length<=240;rw[Zfq];exact Zlr _ _ _
   ·simp
  ·simp
 ·simp
theorem go_none (h:Zbk T t=none):goM T (t::r)=none:=by unfold goM;dsimp only;rw[h]
theorem go_shut (h:Zbk T t=some m)(hf:m.function=true)(ho:ZdS r=false):goM T (t::r)=none:=by unfold goM;dsimp only;rw[h];dsimp only;rw[if_pos ⟨hf,ho⟩]
theorem go_take (h:Zbk T t=some m)(hf:¬(m.function=true/\ZdS r=false)):goM T (t::r)=some m:=by unfold goM;dsimp only;rw[h];dsimp only;rw[if_neg hf]
theorem ZfU {α:Type}{S:Shape α}{P:Program}{t e:TypeId}{z:Value}{bytes:Nat}(ti:TI P t e z S.m bytes)(ev:z.cells.size=S.m)(h0:0<S.m)(cY:∀w cs x fp,S.R w cs x fp->∀u∈cs,u.oneCell'=true)(w:World){L:List (Elem α)}{ops:Array Oper}{o:Oper}{a:Act}{K:Act->World->Prop}{Q:Exit->Act->World->Prop}{E:Prop}
  (d:Nat) (fN:o.dst=some d) (hg:o.guard=none) (s y:Operand) (ho:o.op=.call { callee:=.builtin .append,args:=#[s,y],argTypes:=#[t,t] })
  (base:Nat) (v u:Value) (M:List α) (fp:List Nat) (hs:a.eval s=v) (ag:RowN S base e v L w) (hy:a.eval y=u) (HM:(Zaa S).R w [u] M fp) (eY:∀b∈fp,v.ownBlock≠some b)
  (dz:L.length+M.length<=maxLen) (aO:(L.length+M.length)*bytes<=140737488355328) (aK:base<=w.heap.size)
  (h:∀v' X w',X.map (·.d)=M->(∀x∈X,∀b∈x.fp,b∈fp)->RowN S base e v' (L++X) w'->w.grownBy w' v.ownBlock->(v'.ownBlock=v.ownBlock\/v'.ownBlock=some w.heap.size)->K (a.put (some d) v') w'):if Region.wanted o (yielded ops a.tmps)=true then Oper.wp P o a w K Q else E:=by
 rw[←fN]at h;have pI:Region.wanted o (yielded ops a.tmps)=true:=by simp[Region.wanted,hg]
 rw[if_pos pI];exact Zgt ti ev h0 cY w s y ho base v u M fp hs ag hy HM eY dz aO aK h
theorem XpOf.none {fp:List Nat}{r:Zde}{l:Nat}{c:Int}{w W:World}(h:r=([],l,c))(hb:Below w.heap.size w W):XpOf fp r w (.returned (.tuple #[.slice (some ⟨W.heap.size,0,none⟩) 0 0,.int .i64 (l:Nat),.int .i64 c])) (W.alloc (.cells #[] 32)):=
 ⟨_,[],by rw[h],RowN.lit0 sTok 32 W hb.size,by rw[h];rfl,by simp,hb.alloc hb.size _⟩
structure ToDo (base:Nat)(fp:List Nat)(vo:Value)(vw:Value)(W:List Tok)(fpw:List Nat)(w:World):Prop where
 r:(Zaa sTok).R w [vw] W fpw
 o:∀b∈fpw,vo.ownBlock≠some b
 l:∀b∈fpw,b∈fp\/base<=b
variable {w w':World}{base:Nat}{fp fpw:List Nat}{W:List Tok}
theorem ToDo.below {vo vw:Value}(h:ToDo base fp vo vw W fpw w)(hb:Below w.heap.size w w'):ToDo base fp vo vw W fpw w':=⟨(Zaa sTok).below h.r hb,h.o,h.l⟩
theorem ToDo.lt {vo vw:Value}{w:World}(h:ToDo base fp vo vw W fpw w):∀b∈fpw,b<w.heap.size:=(Zaa sTok).lt h.r
theorem ToDo.next {vo vw vn:Value}{w w6:World}{L X:List (Elem Tok)}{lo:Nat}(h:ToDo base fp vo vw W fpw w)(cV:base<=lo)(mQ:∀b,vo.ownBlock=some b->b<lo)(hr:RowN sTok lo 32 vn (L++X) w6)(hL:∀x∈L,∀b∈x.fp,lo<=b)(hX:∀x∈X,∀b∈x.fp,b∈fpw):
  ∃fp',ToDo base fp vo vn ((L++X).map (·.d)) fp' w6:=by
 obtain⟨f,r1,r2,-⟩:=hr.read;refine⟨f,r1,λb hb hv=>?_,λb hb=>?_⟩
 ·have h1:=mQ b hv;rcases r2 b hb with h0 | ⟨x,hx,h0⟩
  ·have:=(hr.mine b h0).1;omega
  ·rcases Qa hx with hx | hx
   ·have:=hL x hx b h0;omega
   ·exact h.o b (hX x hx b h0) hv
 ·rcases r2 b hb with h0 | ⟨x,hx,h0⟩
  ·have:=(hr.mine b h0).1;right;omega
  ·rcases Qa hx with hx | hx
   ·have:=hL x hx b h0;right;omega
   ·exact h.l b (hX x hx b h0)
variable {n:Nat}
theorem Zls {N:List ByteArray}(IH:∀j,j<n->ExpC T N j)(hn:n<=1000)(mx:∀m∈T,Zaq m=true)(hT:∀m∈T,m.name∈N)(hN:N.length<=5000):ExpC T N n:=by
 intro vT cE v l fp s w hs hl hH HT H;have BF:=Qh HT;have d7:=Qh ((Zaa sTok).lt H);obtain⟨a,cap,rfl,-⟩:=Zac H;obtain⟨aT,cT,rfl,-⟩:=Zac HT;have b1:=Zab w (.cells #[] 32);have b2:=Zab (w.alloc (.cells #[] 32)) (.cells #[] 32);have BG:=b1.trans (b2.mono b1.size);have gP:(w.alloc (.cells #[] 32)).heap.size=w.heap.size+1:=QR _;have bi:((w.alloc (.cells #[] 32)).alloc (.cells #[] 32)).heap.size=w.heap.size+2:=by show((w.heap.push _).push _).size=_;simp
 have HO0:=Qh ((RowN.lit0 sTok 32 w (QA _)).below b2);have HW0:=Qh (RowN.lit0 sTok 32 (w.alloc (.cells #[] 32)) (base:=w.heap.size) b1.size);rw[gP]at HW0;have lE:=Qh ((Zaa sTok).below H BG);have HHI:=Qh hH;clear H HT hH b2 gP;go_enter Tryz.func48,Tryz.ntmps48;go_upto_region 3 with(at_builtin;refine ZbF ti_tok rfl (by decide) ZaX _ rfl (.tmp 20) (.tmp 21) rfl w.heap.size (.slice (some ⟨w.heap.size+1,0,none⟩) 0 0) (.slice a l.length cap) l fp rfl HW0.out rfl lE.out (λb hb e=>by simp only[Value.ownBlock,Qi]at e;have:=d7.out b hb;omega) (by unfold maxLen;simp;omega) (by simp;omega) BG.size ?_;intro v5 X w5 hX dN cz cG eq)
 have bg:=BG.grown cG BG.size (λb hb=>by simp only[Value.ownBlock,Qi]at hb;omega);have nj:=Qh (HO0.out.same (λg hg=>cG.block g (HO0.out.mine g hg).2 (λe=>by simp only[Value.ownBlock,Qi]at hg e;omega)) (λx hx=>by simp at hx));rw[Q3]at cz;obtain⟨fpw,rw5,rwf,-⟩:=cz.read;rw[hX]at rw5
 have dB:Hid (ToDo w.heap.size fp (.slice (some ⟨w.heap.size,0,none⟩) 0 0) v5 l fpw w5):=⟨rw5,λb hb hv=>by
   simp only[Value.ownBlock,Qi]at hv;rcases rwf b hb with h | ⟨x,hx,h⟩
   ·rcases eq with e | e
    ·rw[e]at h;simp only[Value.ownBlock,Qi]at h;omega
    ·rw[e,Qi]at h;have:=bi;omega
   ·have:=d7.out b (dN x hx b h);omega,λb hb=>by
   rcases rwf b hb with h | ⟨x,hx,h⟩
   ·exact .inr (cz.mine b h).1
   ·exact .inl (dN x hx b h)⟩
 clear HO0 HW0 lE b1 BG hX dN cz cG eq rw5 rwf bi;go_wp2;go_loopw [2,9,10] (λvs vo vw wr=>∃(j s':Nat) (O:List (Elem Tok)) (W:List Tok) (fpw:List Nat),s'<=j/\j<=n/\vs=.int .i64 s'/\W.length<=100/\O.length<=60/\Hid (RowN sTok w.heap.size 32 vo O wr)/\Hid (∀x∈O,∀b∈x.fp,b∈fp\/w.heap.size<=b)/\Hid (ToDo w.heap.size fp vo vw W fpw wr)/\Hid (Zak T n s [] l=Zak T j s' (O.map (·.d)) W)/\Hid (∀t∈W,HidIn N t)/\Below w.heap.size w wr) (λvs _ vw _=>(intOf vs).toNat*1000+lenOf vw)
 case atStart=>exact⟨n,s,[],l,fpw,hs,QA _,rfl,hl,by simp,nj,(λx hx=>by simp at hx),dB,rfl,HHI,bg⟩
 case round =>
  clear nj dB bg;obtain⟨j,s',O,W,fpw,ua,yd,rfl,hW,hO,jI,qZ,dB,dP,vG,hb⟩:=hrel;obtain⟨ao,co,mQ,-⟩:=jI.out.val;subst mQ;obtain⟨aw,cw,rfl,A8,A9,ef⟩:=Zac dB.out.r;unfold maxLen at A9;have hs'n:s'<=1000:=by omega
  cases W with
  |
   nil =>
   have HF:=Qh (dP.out.trans ZbG);clear ef;go_wp2
   go_ret3
   exact⟨.slice ao O.length co,O,by rw[HF.out];rfl,jI.out,by rw[HF.out],qZ.out,hb⟩
  |
   cons t r =>
   obtain⟨bw,ow,-,rfl,-,-,-⟩:=ef (by simp);obtain⟨xa,xc,xf,c0,c1,c2,c3,xR,bu,kT⟩:=ZaO dB.out.r (j:=0) (by simp);simp only[List.getElem_cons_zero,Nat.zero_mul,Q0]at c0 c1 c2 c3 xR;have ls:=Qh kT;have XR:=Qh xR;have vI:Hid (∀U:World,Below wr.heap.size wr U->U.cell? ⟨bw,ow,none⟩=some (.int .i64 t.kind)/\U.cell? ⟨bw,ow+1,none⟩=some (.string t.text)/\U.cell? ⟨bw,ow+2,none⟩=some (.bool t.spaced)/\U.cell? ⟨bw,ow+3,none⟩=some (.slice xa t.hidden.length xc)):=λU hU=>⟨(hU.cell (p:=⟨bw,ow,none⟩) bu).trans c0,(hU.cell (p:=⟨bw,ow+1,none⟩) bu).trans c1,(hU.cell (p:=⟨bw,ow+2,none⟩) bu).trans c2,(hU.cell (p:=⟨bw,ow+3,none⟩) bu).trans c3⟩;have tV:=Qh (ZnK _ T cE _ t xf wr ((Zaa sMacro).below BF.out hb) xR);have gh:Hid (∀hr:0<r.length,∃(ya:Option Addr) (yc:Nat) (yf:List Nat),(∀U:World,Below wr.heap.size wr U->U.cell? ⟨bw,ow+4,none⟩=some (.int .i64 r[0].kind)/\U.cell? ⟨bw,ow+4+1,none⟩=some (.string r[0].text)/\U.cell? ⟨bw,ow+4+2,none⟩=some (.bool r[0].spaced)/\U.cell? ⟨bw,ow+4+3,none⟩=some (.slice ya r[0].hidden.length yc))/\sTok.R wr [.int .i64 r[0].kind,.string r[0].text,.bool r[0].spaced,.slice ya r[0].hidden.length yc] r[0] yf):=λhr=>by
    obtain⟨ya,yc,yf,d0,d1,d2,d3,yR,-,-⟩:=ZaO dB.out.r (j:=1) (by simpa using hr);simp only[List.getElem_cons_succ,Nat.one_mul]at d0 d1 d2 d3 yR;exact⟨ya,yc,yf,λU hU=>⟨(hU.cell (p:=⟨bw,ow+4,none⟩) bu).trans d0,(hU.cell (p:=⟨bw,ow+4+1,none⟩) bu).trans d1,(hU.cell (p:=⟨bw,ow+4+2,none⟩) bu).trans d2,(hU.cell (p:=⟨bw,ow+4+3,none⟩) bu).trans d3⟩,yR⟩
   obtain⟨NW,ff⟩:∃NW:Nat,Hid (NW=(t::r).length):=⟨(t::r).length,Qh rfl⟩;rw[show(t::r).length=NW from ff.out.symm]at dB A8 hW ⊢;have BH:0<NW:=(by have:=ff.out;rw[QQ]at this;omega);have hNWi:(0:Int)<(NW:Int):=(by omega);obtain⟨NO,fI⟩:∃NO:Nat,Hid (NO=O.length):=⟨O.length,Qh rfl⟩;rw[show O.length=NO from fI.out.symm]at jI dB hO ⊢;have gN:=hb.size;clear xR kT ef;go_wp2_with fail
   refine tV.out.mono ?_;rintro e w3 (⟨hf,rfl,aC⟩ |⟨m,a2,a3,sS,kE,fm,hf,rfl,RM,pZ,aC⟩)
   ·have HG:=Qh (go_none (r:=r) hf);have bm:=Zab w3 (.cells #[.string ⟨#[]⟩,.bool false,.slice none 0 0,.slice none 0 0] 56);have aM:=aC.trans (bm.mono aC.size);clear tV;go_upto_region 6 with fail
    clear c0 c1 c2 c3 hf;generalize (w3.alloc (.cells #[.string ⟨#[]⟩,.bool false,.slice none 0 0,.slice none 0 0] 56))=w4 at *;obtain⟨c0,c1,c2,c3⟩:=vI.out w4 aM;have bl:=Zab w4 (.cells #[.int .i64 t.kind,.string t.text,.bool t.spaced,.slice xa t.hidden.length xc] 32);have fW:=Qh (JS w4 (.cells #[.int .i64 t.kind,.string t.text,.bool t.spaced,.slice xa t.hidden.length xc] 32));have bg:=aM.trans (bl.mono aM.size);have nL:=Qh (jI.out.below bg);have jv:=Qh (dB.out.below bg);have sP:=Qh (sTok.below XR.out bg);have jw:=hb.trans (bg.mono hb.size);have tE:=Qh jI.out.mine;have dE:=Qh dB.out.lt;have HXO:Hid (∀b∈xf,(Value.slice ao NO co).ownBlock≠some b):=λb hb h=>dB.out.o b (ls.out b hb) h;clear bl;go_upto_region 7 with(at_builtin;refine ZaT (X:=[(⟨[.int .i64 t.kind,.string t.text,.bool t.spaced,.slice xa t.hidden.length xc],t,xf⟩:Elem Tok)]) ti_tok rfl (by decide) _ rfl (.tmp 52) (.tmp 56) rfl w.heap.size (.slice ao NO co) rfl nL.out ⟨w4.heap.size,0,none⟩ 1 1 rfl rfl (λx hx=>by obtain rfl:=Qm hx;exact⟨rfl,sP.out,HXO.out⟩) (λx hx=>by obtain rfl:=Qm hx;exact ZaX _ _ _ _ sP.out) (λj u hj=>by rw[ZaZ,QX,cell_of_row _ _ _ _ _ _ fW.out];simpa using hj) (by have:=fI.out;unfold maxLen;omega) (by have:=fI.out;omega) jw.size ?_;intro v7 w7 eQ dc iA)
    have db:=jw.grown dc jw.size (λb hb=>(tE.out b hb).1);have fO:=Qh eQ
    have jx:Hid (ToDo w.heap.size fp v7 (.slice (some ⟨bw,ow,none⟩) NW cw) (t::r) fpw w7):=⟨(Zaa sTok).frame (λb aE=>dc.block b (jv.out.lt b aE) (λe=>dB.out.o b aE e.symm)) jv.out.r,λb aE hv=>by
      rcases iA with e | e
      ·exact dB.out.o b aE (by rw[←e];exact hv)
      ·rw[e,Qi]at hv;have:=jv.out.lt b aE;omega,dB.out.l⟩
    have rN:Hid (∀x∈O++[(⟨[.int .i64 t.kind,.string t.text,.bool t.spaced,.slice xa t.hidden.length xc],t,xf⟩:Elem Tok)],∀b∈x.fp,b∈fp\/w.heap.size<=b):=λx hx b aE=>by
     rcases Qa hx with hx | hx
     ·exact qZ.out x hx b aE
     ·rw[Qm hx]at aE;exact dB.out.l b (ls.out b aE)
    obtain⟨a7,c7,pk,-⟩:=eQ.val;rw[show(O++[(⟨[.int .i64 t.kind,.string t.text,.bool t.spaced,.slice xa t.hidden.length xc],t,xf⟩:Elem Tok)]).length=NO+1 by rw[QC,fI.out];rfl]at pk;subst pk;clear eQ dc iA nL jv sP fW bg jw;obtain⟨sv,fQ⟩:∃sv:Value,Hid (sv=.slice (if cw=1 then some ⟨bw,ow,none⟩ else some ⟨bw,ow+4,none⟩) (NW-1) (cw-1)):=⟨_,Qh rfl⟩;have o1:(1:Int)<=(NW:Int):=(by omega);have o2:1<=NW:=BH;have o3:1<=cw:=(by omega);have o4:(1:Int)<=(cw:Int):=(by omega);clear c0 c1 c2 c3;go_cut [10] from 23 to 125 (λd wx=>d=sv/\wx=w7)
    case first =>
     by_cases h1:cw=1
     ·have fV:Hid (sv=.slice (some ⟨bw,ow,none⟩) (NW-1) (cw-1)):=(by show _=_;rw[fQ.out,if_pos h1]);have mj:=Qh h1;go_wp2;go_meet;case rel=>exact⟨by rw[fV.out];simp[mj.out],by trivial⟩
     ·have fV:Hid (sv=.slice (some ⟨bw,ow+4,none⟩) (NW-1) (cw-1)):=(by show _=_;rw[fQ.out,if_neg h1]);go_wp2;go_meet;case rel=>exact⟨by rw[fV.out],by trivial⟩
    obtain⟨rfl,rfl⟩:=hcut;try generalize wc=w7 at *
    obtain⟨bA,gf,gZ⟩:=Zbp 1 (by have:=ff.out;omega:1<=(t::r).length) jx.out.r;have fc:Hid (ToDo w.heap.size fp (.slice a7 (NO+1) c7) u10 r bA w7):=⟨by rw[fQ.out];exact gf,λb aE=>jx.out.o b (gZ b aE),λb aE=>jx.out.l b (gZ b aE)⟩;have pA:Hid (lenOf u10=NW-1):=(by show _=_;rw[fQ.out];rfl);clear gf gZ;by_cases oz:60<NO+1
    ·have HF:=Qh (dP.out.trans (Zbx HG.out (by rw[QH,←fI.out];exact oz)));have e6:(60:Int)<((NO:Nat):Int)+1:=(by omega);go_wp2
     go_ret3
     exact XpOf.none HF.out db
    ·have mW:Hid (Zak T n s [] l=Zak T j s' ((O++[(⟨[.int .i64 t.kind,.string t.text,.bool t.spaced,.slice xa t.hidden.length xc],t,xf⟩:Elem Tok)]).map (·.d)) r):=(by show _=_;rw[dP.out,Za6 HG.out (by rw[QH,←fI.out];exact oz),QG];rfl);have e6:¬(60:Int)<((NO:Nat):Int)+1:=(by omega);have rP:Hid (∀u∈r,HidIn N u):=λu hu=>vG.out u (by simp[hu]);have ky:r.length<=100:=(by have:=ff.out;rw[QQ]at this;omega);have oD:(O++[(⟨[.int .i64 t.kind,.string t.text,.bool t.spaced,.slice xa t.hidden.length xc],t,xf⟩:Elem Tok)]).length<=60:=(by rw[QC,←fI.out];simp;omega);go_wp2;go_roundw;case rel=>first | exact⟨j,s',_,r,bA,ua,yd,rfl,ky,oD,fO,rN,fc,mW,rP,db⟩ | ((repeat apply Exists.intro);exact⟨⟨j,s',_,r,bA,ua,yd,rfl,ky,oD,fO,rN,fc,mW,rP,db⟩,rfl⟩)
     case measure=>rw[pA.out];simp[intOf,lenOf];omega
   ·have bm:=Zab w3 (.cells #[.string m.name,.bool m.function,.slice a2 m.params.length sS,.slice a3 m.body.length kE] 56);have fE:=aC.trans (bm.mono aC.size);have uc:=Qh (JS w3 (.cells #[.string m.name,.bool m.function,.slice a2 m.params.length sS,.slice a3 m.body.length kE] 56));have BI:=Qh (sMacro.below RM bm);have rF:=Qh hf;have sT:Hid (Zaq m=true/\m.name∈N):=⟨mx _ (Zlp hf),hT _ (Zlp hf)⟩;clear tV RM hf;go_upto_region 5 with fail
    clear c0 c1 c2 c3;have hwb:w.heap.size<=w3.heap.size:=QZ gN aC.size;obtain⟨mb,zb⟩:∃mb:Nat,Hid (mb=w3.heap.size):=⟨_,Qh rfl⟩;generalize (w3.alloc (.cells #[.string m.name,.bool m.function,.slice a2 m.params.length sS,.slice a3 m.body.length kE] 56))=wk at *;rw[show w3.heap.size=mb from zb.out.symm]at uc ⊢;obtain⟨op,kw⟩:∃op:Bool,Hid (op=ZdS r):=⟨_,Qh rfl⟩;obtain⟨fu,kZ⟩:∃fu:Bool,Hid (fu=m.function):=⟨_,Qh rfl⟩;rw[show m.function=fu from kZ.out.symm]at uc;go_cut [51] from 23 to 125 (λd wx=>d=.bool (fu && !op)/\Below wk.heap.size wk wx)
    case first =>
     have m1:=Qc 1 uc.out;cases fu
     ·go_wp2;go_meet;case rel=>exact⟨rfl,QD _ _⟩
     ·by_cases h1:NW=1
      ·subst h1;have l4:Hid (op=false):=by
        have h2:=ff.out;cases r with
        | nil=>exact kw.out
        | cons u q=>simp at h2
       go_wp2;go_meet;case rel=>exact⟨by rw[l4.out];rfl,QD _ _⟩
      ·have hr:0<r.length:=(by have:=ff.out;rw[QQ]at this;omega);have e1:((NW:Int)==1)=false:=(by simp;omega);have e2:¬(NW:Int)=1:=(by omega);have e3:(1:Int)<(NW:Int):=(by omega);have e4:1<NW:=(by omega);obtain⟨ya,yc,yf,hd,yR⟩:=gh.out hr;obtain⟨d0,d1,d2,d3⟩:=hd wk fE;have HQ:=Qh (Zed _ r[0] yf wk ⟨#[40]⟩ (sTok.below yR fE));have rH:Hid ((decide (r[0].kind=4) && (r[0].text.toList==(⟨#[40]⟩:ByteArray).toList))=op):=by
        show _=_;rw[show(⟨#[40]⟩:ByteArray).toList=[40] by rw[QB],kw.out];cases r with
        | nil=>simp at hr
        | cons u q=>rfl
       rw[rH.out]at HQ;clear rH hd yR h1;go_wp2_with fail
       refine HQ.out.mono ?_;rintro e u1⟨rfl,g1⟩;go_wp2;go_meet;case rel=>exact⟨rfl,g1⟩
    obtain⟨rfl,ed⟩:=hcut;generalize wc=w4 at *;have aM:=fE.trans (ed.mono fE.size);have dJ:=Qh (Zag uc.out ed);have xP:=Qh (sMacro.below BI.out ed);clear BI uc ed bm aC fE;cases sO:(fu && !op);rotate_left
    ·have HG:Hid (goM T (t::r)=none):=by
      simp only[QI,Bool.not_eq_true']at sO;exact go_shut (r:=r) rF.out (by rw[←kZ.out];exact sO.1) (by rw[←kw.out];exact sO.2)
     clear dJ xP rF sT zb kw kZ sO pZ hwb;go_upto_region 6 with fail
     obtain⟨c0,c1,c2,c3⟩:=vI.out w4 aM;have bl:=Zab w4 (.cells #[.int .i64 t.kind,.string t.text,.bool t.spaced,.slice xa t.hidden.length xc] 32);have fW:=Qh (JS w4 (.cells #[.int .i64 t.kind,.string t.text,.bool t.spaced,.slice xa t.hidden.length xc] 32));have bg:=aM.trans (bl.mono aM.size);have nL:=Qh (jI.out.below bg);have jv:=Qh (dB.out.below bg);have sP:=Qh (sTok.below XR.out bg);have jw:=hb.trans (bg.mono hb.size);have tE:=Qh jI.out.mine;have dE:=Qh dB.out.lt;have HXO:Hid (∀b∈xf,(Value.slice ao NO co).ownBlock≠some b):=λb hb h=>dB.out.o b (ls.out b hb) h;clear bl;go_upto_region 7 with(at_builtin;refine ZaT (X:=[(⟨[.int .i64 t.kind,.string t.text,.bool t.spaced,.slice xa t.hidden.length xc],t,xf⟩:Elem Tok)]) ti_tok rfl (by decide) _ rfl (.tmp 52) (.tmp 56) rfl w.heap.size (.slice ao NO co) rfl nL.out ⟨w4.heap.size,0,none⟩ 1 1 rfl rfl (λx hx=>by obtain rfl:=Qm hx;exact⟨rfl,sP.out,HXO.out⟩) (λx hx=>by obtain rfl:=Qm hx;exact ZaX _ _ _ _ sP.out) (λj u hj=>by rw[ZaZ,QX,cell_of_row _ _ _ _ _ _ fW.out];simpa using hj) (by have:=fI.out;unfold maxLen;omega) (by have:=fI.out;omega) jw.size ?_;intro v7 w7 eQ dc iA)
     have db:=jw.grown dc jw.size (λb hb=>(tE.out b hb).1);have fO:=Qh eQ
     have jx:Hid (ToDo w.heap.size fp v7 (.slice (some ⟨bw,ow,none⟩) NW cw) (t::r) fpw w7):=⟨(Zaa sTok).frame (λb aE=>dc.block b (jv.out.lt b aE) (λe=>dB.out.o b aE e.symm)) jv.out.r,λb aE hv=>by
       rcases iA with e | e
       ·exact dB.out.o b aE (by rw[←e];exact hv)
       ·rw[e,Qi]at hv;have:=jv.out.lt b aE;omega,dB.out.l⟩
     have rN:Hid (∀x∈O++[(⟨[.int .i64 t.kind,.string t.text,.bool t.spaced,.slice xa t.hidden.length xc],t,xf⟩:Elem Tok)],∀b∈x.fp,b∈fp\/w.heap.size<=b):=λx hx b aE=>by
      rcases Qa hx with hx | hx
      ·exact qZ.out x hx b aE
      ·rw[Qm hx]at aE;exact dB.out.l b (ls.out b aE)
     obtain⟨a7,c7,pk,-⟩:=eQ.val;rw[show(O++[(⟨[.int .i64 t.kind,.string t.text,.bool t.spaced,.slice xa t.hidden.length xc],t,xf⟩:Elem Tok)]).length=NO+1 by rw[QC,fI.out];rfl]at pk;subst pk;clear eQ dc iA nL jv sP fW bg jw;obtain⟨sv,fQ⟩:∃sv:Value,Hid (sv=.slice (if cw=1 then some ⟨bw,ow,none⟩ else some ⟨bw,ow+4,none⟩) (NW-1) (cw-1)):=⟨_,Qh rfl⟩;have o1:(1:Int)<=(NW:Int):=(by omega);have o2:1<=NW:=BH;have o3:1<=cw:=(by omega);have o4:(1:Int)<=(cw:Int):=(by omega);clear c0 c1 c2 c3;go_cut [10] from 23 to 125 (λd wx=>d=sv/\wx=w7)
     case first =>
      by_cases h1:cw=1
      ·have fV:Hid (sv=.slice (some ⟨bw,ow,none⟩) (NW-1) (cw-1)):=(by show _=_;rw[fQ.out,if_pos h1]);have mj:=Qh h1;go_wp2;go_meet;case rel=>exact⟨by rw[fV.out];simp[mj.out],by trivial⟩
      ·have fV:Hid (sv=.slice (some ⟨bw,ow+4,none⟩) (NW-1) (cw-1)):=(by show _=_;rw[fQ.out,if_neg h1]);go_wp2;go_meet;case rel=>exact⟨by rw[fV.out],by trivial⟩
     obtain⟨rfl,rfl⟩:=hcut;try generalize wc=w7 at *
     obtain⟨bA,gf,gZ⟩:=Zbp 1 (by have:=ff.out;omega:1<=(t::r).length) jx.out.r;have fc:Hid (ToDo w.heap.size fp (.slice a7 (NO+1) c7) u10 r bA w7):=⟨by rw[fQ.out];exact gf,λb aE=>jx.out.o b (gZ b aE),λb aE=>jx.out.l b (gZ b aE)⟩;have pA:Hid (lenOf u10=NW-1):=(by show _=_;rw[fQ.out];rfl);clear gf gZ;by_cases oz:60<NO+1
     ·have HF:=Qh (dP.out.trans (Zbx HG.out (by rw[QH,←fI.out];exact oz)));have e6:(60:Int)<((NO:Nat):Int)+1:=(by omega);go_wp2
      go_ret3
      exact XpOf.none HF.out db
     ·have mW:Hid (Zak T n s [] l=Zak T j s' ((O++[(⟨[.int .i64 t.kind,.string t.text,.bool t.spaced,.slice xa t.hidden.length xc],t,xf⟩:Elem Tok)]).map (·.d)) r):=(by show _=_;rw[dP.out,Za6 HG.out (by rw[QH,←fI.out];exact oz),QG];rfl);have e6:¬(60:Int)<((NO:Nat):Int)+1:=(by omega);have rP:Hid (∀u∈r,HidIn N u):=λu hu=>vG.out u (by simp[hu]);have ky:r.length<=100:=(by have:=ff.out;rw[QQ]at this;omega);have oD:(O++[(⟨[.int .i64 t.kind,.string t.text,.bool t.spaced,.slice xa t.hidden.length xc],t,xf⟩:Elem Tok)]).length<=60:=(by rw[QC,←fI.out];simp;omega);go_wp2;go_roundw;case rel=>first | exact⟨j,s',_,r,bA,ua,yd,rfl,ky,oD,fO,rN,fc,mW,rP,db⟩ | ((repeat apply Exists.intro);exact⟨⟨j,s',_,r,bA,ua,yd,rfl,ky,oD,fO,rN,fc,mW,rP,db⟩,rfl⟩)
      case measure=>rw[pA.out];simp[intOf,lenOf];omega
    have HG:Hid (goM T (t::r)=some m):=go_take (r:=r) rF.out (λh=>by rw[kZ.out,kw.out,h.1,h.2]at sO;simp at sO);clear rF sO kw gh;have hB4:=hb.trans (aM.mono hb.size);by_cases hz:s'=0
    ·subst hz;have HF:=Qh (dP.out.trans (ZdT HG.out));go_wp2
     go_ret3
     exact XpOf.none HF.out hB4
    obtain⟨s1,lm⟩:∃s1,Hid (s'=s1+1):=⟨s'-1,by show _=_;omega⟩;obtain⟨j1,HJ1⟩:∃j1,Hid (j=j1+1):=⟨j-1,by show _=_;omega⟩;have hwz:IntKind.i64.wrap ((s':Int)-1)=(s1:Int):=(by rw[QF _ (by omega)];have:=lm.out;omega);have hzi:¬(s':Int)=0:=(by omega);have hzb:((s':Int)==0)=false:=(by simp;omega);rw[lm.out,HJ1.out]at dP;obtain⟨m0,m1,m2,m3⟩:=Q4 dJ.out;go_upto_region 13 with fail
    clear hwz hzi hzb;have kG:s1<=j1:=(by have:=lm.out;have:=HJ1.out;omega);have hj1:j1<n:=(by have:=HJ1.out;omega);have zl:=xP.out;rw[show m.function=fu from kZ.out.symm]at zl;clear xP;have bE:(t::r).length<=100:=(by rw[←ff.out];exact hW);cases fu;rotate_left
    ·obtain⟨hr,hop⟩:=Zph HG.out kZ.out.symm;have kB:=Qh (ZnN (IH j1 hj1) (by omega) hT hN _ cE _ m fm _ (t::r) fpw s1 w4 sT.out.1 sT.out.2 kG bE (by simpa using hr) (by simpa using hop) vG.out ((Zaa sMacro).below BF.out hB4) zl ((Zaa sTok).below dB.out.r aM));have nd:=Qh (Zpd (f:=λa k=>Zak T j1 k [] a) (λa k=>ZkH T j1 a k []) m (t::r) s1);have HCI:=Qh (ZnI (f:=λa k=>Zak T j1 k [] a) (λa k ha=>ZkI hT j1 a k [] (by simp) ha) sT.out.2 vG.out s1);have zm:=Qh (Zq2 (λa k=>Zak T j1 k [] a) m (t::r) s1);rcases hq:ZaW (λa k=>Zak T j1 k [] a) m (t::r) s1 with⟨bd,en,lf,c⟩;rw[hq]at kB nd HCI zm;unfold CallOf at kB;try dsimp only at kB nd HCI zm
     have HCQ:=Qh hq;have hN2:2<=NW:=(by have:=ff.out;rw[QQ]at this;omega);clear hq zl hr hop bE;go_wp2_with fail
     refine kB.out.mono ?_;rintro e w5⟨vb,L,rfl,RL,mV,xV,bg⟩;clear m0 m1 m2 m3 kB;have cg:=hB4.trans (bg.mono hB4.size);obtain⟨ab,cb,ge,-⟩:=RL.val;subst ge;by_cases dm:c=0;rotate_left
     ·have HF:=Qh (dP.out.trans (Zcy HG.out kZ.out.symm HCQ.out dm));have e2:(c != 0)=true:=(by simp[dm]);clear dm;go_wp2
      go_ret3
      exact XpOf.none HF.out cg
     subst dm;have sQ:Hid (2<en/\en<=NW):=by
      have:=call_end HCQ.out;rw[QM,show(t::r).length=NW from ff.out.symm]at this;show _/\_;omega
     have e2:=sQ.out.2;have e3:(en:Int)<=(NW:Int):=(by omega);have e4:(0:Int)<=(en:Int):=(by omega);have e5:en<=cw:=(by omega);have e7:(en:Int)<=(cw:Int):=(by omega);have hLn:L.length=bd.length:=(by rw[←mV,QH]);have oW:=Qh hLn;have HLd:=Qh mV;have HLf:=Qh xV;have kx:=Qh RL;have gJ:=Qh jI.out.mine;have dE:=Qh dB.out.lt;have ei:=Qh ((Zaa sTok).below dB.out.r (aM.trans (bg.mono aM.size)));clear hLn mV xV RL;obtain⟨NL,jH⟩:∃NL:Nat,Hid (NL=L.length):=⟨_,Qh rfl⟩;rw[show L.length=NL from jH.out.symm]at kx ⊢;have ye:w.heap.size<=w4.heap.size:=hB4.size;go_upto_region 18 with fail
     go_cut [10] from 23 to 125 (λd wx=>∃(fp':List Nat),Hid (ToDo w.heap.size fp (.slice ao NO co) d (bd++(t::r).drop en) fp' wx)/\Below w4.heap.size w4 wx)
     case first =>
      obtain⟨bA,gf,gZ⟩:=Zbp en (by rw[←ff.out];exact e2:en<=(t::r).length) ei.out;have fc:=Qh gf;have pq:=Qh gZ;clear gf gZ;by_cases mY:cw=en
      ·have jn:Hid ((Zaa sTok).R w5 [.slice (some ⟨bw,ow,none⟩) (NW-en) 0] ((t::r).drop en) bA):=(by have h9:=fc.out;rw[if_pos mY,show cw-en=0 by omega]at h9;exact h9);clear fc;go_wp2_with (at_builtin;refine ZbF ti_tok rfl (by decide) ZaX _ rfl (.tmp 88) (.tmp 91) rfl w4.heap.size (.slice ab NL cb) (.slice (some ⟨bw,ow,none⟩) (NW-en) 0) ((t::r).drop en) bA rfl kx.out rfl jn.out (λb aE h=>by have h1:=kx.out.mine b h;have h2:=dE.out b (pq.out b aE);have:=aM.size;omega) (by have h1:bd.length<=240:=zm.out;have:=oW.out;have:=ff.out;rw[QM];unfold maxLen;omega) (by have h1:bd.length<=240:=zm.out;have:=oW.out;have:=ff.out;rw[QM];omega) bg.size ?_;intro v7 X7 w7 rQ jy eQ dc iA)
       have db:Below w4.heap.size w4 w7:=bg.grown dc bg.size (λb aE=>(kx.out.mine b aE).1);have vg:Hid (∃fp',ToDo w.heap.size fp (.slice ao NO co) v7 (bd++(t::r).drop en) fp' w7):=by
        obtain⟨fp',h'⟩:=ToDo.next dB.out ye (λb h=>by have:=(gJ.out b h).2;have:=aM.size;omega) eQ HLf.out (λx hx b aE=>pq.out b (jy x hx b aE));rw[QG,HLd.out,rQ]at h';exact⟨fp',h'⟩
       clear rQ jy eQ dc iA;go_wp2;go_meet;case rel=>obtain⟨fp',h'⟩:=vg.out;exact⟨fp',h',db⟩
      ·have jn:Hid ((Zaa sTok).R w5 [.slice (some ⟨bw,ow+en*4,none⟩) (NW-en) (cw-en)] ((t::r).drop en) bA):=(by have h9:=fc.out;rw[if_neg mY,JM,ZaZ]at h9;exact Qh h9);clear fc;go_wp2_with (at_builtin;refine ZbF ti_tok rfl (by decide) ZaX _ rfl (.tmp 88) (.tmp 91) rfl w4.heap.size (.slice ab NL cb) (.slice (some ⟨bw,ow+en*4,none⟩) (NW-en) (cw-en)) ((t::r).drop en) bA rfl kx.out rfl jn.out (λb aE h=>by have h1:=kx.out.mine b h;have h2:=dE.out b (pq.out b aE);have:=aM.size;omega) (by have h1:bd.length<=240:=zm.out;have:=oW.out;have:=ff.out;rw[QM];unfold maxLen;omega) (by have h1:bd.length<=240:=zm.out;have:=oW.out;have:=ff.out;rw[QM];omega) bg.size ?_;intro v7 X7 w7 rQ jy eQ dc iA)
       have db:Below w4.heap.size w4 w7:=bg.grown dc bg.size (λb aE=>(kx.out.mine b aE).1);have vg:Hid (∃fp',ToDo w.heap.size fp (.slice ao NO co) v7 (bd++(t::r).drop en) fp' w7):=by
        obtain⟨fp',h'⟩:=ToDo.next dB.out ye (λb h=>by have:=(gJ.out b h).2;have:=aM.size;omega) eQ HLf.out (λx hx b aE=>pq.out b (jy x hx b aE));rw[QG,HLd.out,rQ]at h';exact⟨fp',h'⟩
       clear rQ jy eQ dc iA;go_wp2;go_meet;case rel=>obtain⟨fp',h'⟩:=vg.out;exact⟨fp',h',db⟩
     obtain⟨sJ,ud,ed⟩:=hcut;generalize wc=w6 at *;obtain⟨a9,c9,tP,-⟩:=Zac ud.out.r;subst tP;have bU:=hB4.trans (ed.mono hB4.size);have bq:=aM.trans (ed.mono aM.size);obtain⟨N9,eS⟩:∃N9:Nat,Hid (N9=(bd++(t::r).drop en).length):=⟨_,Qh rfl⟩;rw[show(bd++(t::r).drop en).length=N9 from eS.out.symm]at ud ⊢;clear kx ei dE gJ HLd HLf oW jH e2 e3 e4 e5 e7 bg cg;by_cases oz:60<N9
     ·have HF:=Qh (dP.out.trans (Zdh HG.out kZ.out.symm HCQ.out (by rw[←eS.out];exact oz)));have e6:(60:Int)<(N9:Int):=(by omega);go_wp2
      go_ret3
      exact XpOf.none HF.out bU
     ·have mW:=Qh (dP.out.trans (Zdn HG.out kZ.out.symm HCQ.out (by rw[←eS.out];exact oz)));have e6:¬(60:Int)<(N9:Int):=(by omega);have rP:Hid (∀u∈bd++(t::r).drop en,HidIn N u):=λu hu=>by
       rcases Qa hu with h | h
       ·exact HCI.out u h
       ·exact vG.out u (JG h)
      have ky:(bd++(t::r).drop en).length<=100:=(by rw[←eS.out];omega);have oD:O.length<=60:=(by rw[←fI.out];exact hO);have hlj:lf<=j1:=QZ nd.out kG;have rR:j1<=n:=(by omega);have jQ:=Qh (jI.out.below bq);have AK:lf*1000+N9<s'*1000+NW:=(by have h1:lf<=s1:=nd.out;have:=lm.out;omega);go_wp2;go_roundw;case rel=>first | exact⟨j1,lf,O,_,sJ,hlj,rR,rfl,ky,oD,jQ,qZ,ud,mW,rP,bU⟩ | ((repeat apply Exists.intro);exact⟨⟨j1,lf,O,_,sJ,hlj,rR,rfl,ky,oD,jQ,qZ,ud,mW,rP,bU⟩,rfl⟩)
      case measure=>simp[intOf,lenOf];omega
    ·have lw:=Qh (λ(U:World) (hU:Below w4.heap.size w4 U)=>ZgN _ m fm (.slice (some ⟨w4.heap.size,0,none⟩) 0 0) (.slice (some ⟨w4.heap.size+1,0,none⟩) 0 0) [] [] [] [] U (Zmp sT.out.1) (by simp) (by simp) (λk hk=>by simp at hk) (λk hk=>by simp at hk) (sMacro.below zl hU) (Zao _ _ _ _ (by simp)) (Zao _ _ _ _ (by simp)));have py:=Qh (Zlr m [] []);have px:Hid (∀t∈(Zaz m [] []).1,HidIn N t):=Ziy (λl hl=>by simp at hl) (λl hl=>by simp at hl);have rM:m.name.size<=maxLen:=(by obtain⟨_,_,_,_,_,Bx,_⟩:=zl;exact Bx);rcases nJ:Zaz m [] []with⟨bd,qR⟩;unfold ZkL at lw;rw[nJ]at lw py px;try dsimp only at lw
     have pz:=Qh nJ;have rS:Hid (bd.length<=240):=py.out;have BJ:Hid (∀t∈bd,HidIn N t):=px.out;have bl1:=Zab w4 (.cells #[] 24);have bl2:=Zab (w4.alloc (.cells #[] 24)) (.cells #[] 24);have b2:=bl1.trans (bl2.mono bl1.size);clear nJ bE zl py px bl1 bl2;go_wp2_with fail
     refine(lw.out _ b2).mono ?_;rintro e w5⟨vb,fb,rfl,Rb,l0,bg⟩;clear m0 m1 m2 m3 lw;have eC:=b2.trans (bg.mono b2.size);have xW:∀b∈fb,w4.heap.size<=b:=λb aE=>QZ b2.size (l0 b aE);clear l0 bg b2;have cg:=hB4.trans (eC.mono hB4.size);have nM:=aM.trans (eC.mono aM.size);cases qR
     ·have HF:=Qh (dP.out.trans (Zez HG.out kZ.out.symm pz.out));go_wp2
      go_ret3
      exact XpOf.none HF.out cg
     obtain⟨ab,cb,rfl,-⟩:=Zac Rb;have HRb:=Qh Rb;have KX:(Zaa sStr).R wr [.slice xa t.hidden.length xc] t.hidden xf:=by
      obtain⟨hv,aS,-,-,K⟩:=XR.out;simp only[JH,and_true,true_and]at aS;subst aS;exact K
     have BK:Hid (t.hidden.length<=5000):=(by have:=(vG.out t (by simp)).len;show _<=_;omega);have kY:Hid (∀U:World,Below w5.heap.size w5 U->U.heap[mb]?=some (.cells #[.string m.name,.bool false,.slice a2 m.params.length sS,.slice a3 m.body.length kE] 56 (0,0))/\U.cell? ⟨bw,ow+2,none⟩=some (.bool t.spaced)/\U.cell? ⟨bw,ow+3,none⟩=some (.slice xa t.hidden.length xc)):=λU hU=>by
      obtain⟨-,-,h2,h3⟩:=vI.out U (nM.trans (hU.mono nM.size));exact⟨Zag dJ.out (eC.trans (hU.mono eC.size)),h2,h3⟩
     have rL:=Qh (λ(U:World) (vn:Value) (fn:List Nat) (hU:Below w5.heap.size w5 U) (h2:(Zaa sStr).R U [vn] [m.name] fn)=>ZiB (.slice xa t.hidden.length xc) vn t.hidden m.name xf fn U (by have:=BK.out;omega) ((Zaa sStr).below KX (nM.trans (hU.mono nM.size))) h2);have jX:=Qh (λ(U:World) (vn:Value) (fn:List Nat) (hU:Below w5.heap.size w5 U) (h2:(Zaa sStr).R U [vn] (ins t.hidden m.name) fn)=>Zjn (.slice ab bd.length cb) bd fb vn _ fn t.spaced U (by have:=rS.out;omega) (λq hq=>by have cU:HidIn N bd[q]:=BJ.out _ (QE hq);have:=cU.len;have:=BK.out;have:=ZhB m.name t.hidden;omega) ((Zaa sTok).below HRb.out hU) h2);have gJ:=Qh jI.out.mine;have dE:=Qh dB.out.lt;have ei:=Qh (λ(U:World) (hU:Below w5.heap.size w5 U)=>(Zaa sTok).below dB.out.r (nM.trans (hU.mono nM.size)));have nN:Below w5.heap.size w5 w5.drew:=Zah (QD _ _) 1;have ye:w.heap.size<=w5.heap.size:=cg.size;have hwr5:wr.heap.size<=w5.heap.size:=nM.size;have o1:(1:Int)<=(NW:Int):=(by omega);have o2:1<=NW:=BH;have o3:1<=cw:=(by omega);have o4:(1:Int)<=(cw:Int):=(by omega);clear KX Rb;go_upto_region 22 with fail
     go_cut [10] from 23 to 125 (λd wx=>∃(fp':List Nat),Hid (ToDo w.heap.size fp (.slice ao NO co) d (Zbm bd (ins t.hidden m.name) t.spaced++r) fp' wx)/\Below w4.heap.size w4 wx)
     case first =>
      obtain⟨bA,HSD⟩:∃bA,Hid ((∀U:World,Below w5.heap.size w5 U->(Zaa sTok).R U [.slice (if cw=1 then some ⟨bw,ow,none⟩ else some ⟨bw,ow+4,none⟩) (NW-1) (cw-1)] r bA)/\∀b∈bA,b∈fpw):=by
       obtain⟨bA,gf,gZ⟩:=Zbp 1 (by rw[←ff.out];exact o2:1<=(t::r).length) (ei.out w5 (QD _ _));exact⟨bA,λU hU=>(Zaa sTok).below gf hU,gZ⟩
      by_cases mY:cw=1
      ·have fc:Hid ((∀U:World,Below w5.heap.size w5 U->(Zaa sTok).R U [.slice (some ⟨bw,ow,none⟩) (NW-1) 0] r bA)/\∀b∈bA,b∈fpw):=by
        have h9:=HSD.out;rw[if_pos mY,show cw-1=0 by omega]at h9;exact Qh h9
       clear HSD;refine wp_region_noPanic ?_;refine JU (S:=λw'=>w'.heap[mb]?=some (.cells #[.string m.name,.bool false,.slice a2 m.params.length sS,.slice a3 m.body.length kE] 56 (0,0))/\w'.cell? ⟨bw,ow+2,none⟩=some (.bool t.spaced)/\w'.cell? ⟨bw,ow+3,none⟩=some (.slice xa t.hidden.length xc)) (by kernel_rfl) (by exact kY.out _ nN) (λac=>?_);generalize w5.drew=wd at *;refine Qt 0 104 rfl rfl ?_;try simp only[Qp]
       refine Qt 1 105 rfl rfl ?_;try simp only[Qp]
       refine Qt 2 106 rfl rfl ?_;try simp only[Qp]
       refine Qt 3 107 rfl rfl ?_;try simp only[Qp]
       refine Qt 4 108 rfl rfl ?_ (by intro w aI;obtain⟨sm,sp,sh⟩:=aI;have m0:=Qc 0 sm;go_simp;(first | done | with_reducible rfl | rfl));try simp only[Qp]
       refine Qt 5 109 rfl rfl ?_;try simp only[Qp]
       refine Qt 6 110 rfl rfl ?_ (by intro w aI;obtain⟨sm,sp,sh⟩:=aI;have m0:=Qc 0 sm;go_simp;(first | done | with_reducible rfl | rfl));try simp only[Qp]
       refine Qt 9 113 rfl rfl ?_;try simp only[Qp]
       refine Qt 10 114 rfl rfl ?_;try simp only[Qp]
       refine Qt 11 115 rfl rfl ?_;try simp only[Qp]
       refine Qt 12 116 rfl rfl ?_ (by intro w aI;obtain⟨sm,sp,sh⟩:=aI;have m0:=Qc 0 sm;go_simp;(first | done | with_reducible rfl | rfl));try simp only[Qp]
       refine Qt 14 118 rfl rfl ?_;try simp only[Qp]
       refine Qt 15 119 rfl rfl ?_;try simp only[Qp]
       refine Qr 7 rfl (λK hK=>?_);go_simp;have bk:=Zab wd (.cells #[.string m.name] 9);have RL:=Zc4 (JS wd (.cells #[.string m.name] 9)) rM;have bZ:=nN.trans (bk.mono nN.size);refine hK.out _ _ (kY.out _ bZ) (λac=>?_);clear hK K bk;try simp only[Qp]
       generalize (wd.alloc (.cells #[.string m.name] 9))=eR at *;refine Qr 8 rfl (λK hK=>?_);go_simp;refine(rL.out eR _ _ bZ RL).mono ?_;rintro e gw⟨BB,BC,BD,rfl,t7,-,-,bz2⟩;have dp:=bZ.trans (bz2.mono bZ.size);refine hK.out _ _ (kY.out _ dp) (λac=>?_);clear hK K RL;try simp only[Qp]
       refine Qr 13 rfl (λK hK=>?_);go_simp;refine(jX.out gw _ _ dp t7).mono ?_;rintro e sH⟨v8,L8,rfl,R8,D8,F8,cN⟩;have d8:=dp.trans (cN.mono dp.size);obtain⟨a8,c8,qV,-⟩:=R8.val;subst qV;refine hK.out _ _ (kY.out _ d8) (λac=>?_);clear hK K t7;try simp only[Qp]
       have h8l:L8.length=bd.length:=(by rw[←QH (f:=λx:Elem Tok=>x.d),D8,Zfq]);have hx2s:=dp.size;have yg:=cN.size;refine Qr 16 rfl (λK hK=>?_);refine ZfU ti_tok rfl (by decide) ZaX _ 120 rfl rfl (.tmp 117) (.tmp 119) rfl gw.heap.size (.slice a8 L8.length c8) (.slice (some ⟨bw,ow,none⟩) (NW-1) 0) r bA rfl R8 rfl (fc.out.1 _ d8) (λb aE h=>by have h1:=R8.mine b h;have h2:=dE.out b (fc.out.2 b aE);omega) (by have:=rS.out;have:=ff.out;rw[QQ]at this;unfold maxLen;omega) (by have:=rS.out;have:=ff.out;rw[QQ]at this;omega) yg ?_;intro v7 X7 w7 rQ jy eQ dc iA;have rU:=eC.trans (d8.mono eC.size);have db:Below w4.heap.size w4 w7:=rU.grown dc rU.size (λb aE=>by have:=(R8.mine b aE).1;have:=eC.size;omega);have pf:Below w5.heap.size w5 w7:=d8.grown dc d8.size (λb aE=>by have:=(R8.mine b aE).1;omega);have vg:Hid (∃fp',ToDo w.heap.size fp (.slice ao NO co) v7 (Zbm bd (ins t.hidden m.name) t.spaced++r) fp' w7):=by
        obtain⟨fp',h'⟩:=ToDo.next dB.out (by omega:w.heap.size<=gw.heap.size) (λb h=>by have:=(gJ.out b h).2;omega) eQ F8 (λx hx b aE=>fc.out.2 b (jy x hx b aE));rw[QG,D8,rQ]at h';exact⟨fp',h'⟩
       refine hK.out _ _ (kY.out _ pf) (λac=>?_);clear hK K R8 D8 F8 rQ jy eQ dc iA fc;try simp only[Qp]
       refine Qt 17 10 rfl rfl ?_;try simp only[Qp]
       refine wpAnyH_done (by kernel_rfl) ?_ _;refine QP ?_;clear ac;go_wp2;go_meet;case rel=>obtain⟨fp',h'⟩:=vg.out;exact⟨fp',h',db⟩
      ·have fc:Hid ((∀U:World,Below w5.heap.size w5 U->(Zaa sTok).R U [.slice (some ⟨bw,ow+4,none⟩) (NW-1) (cw-1)] r bA)/\∀b∈bA,b∈fpw):=by
        have h9:=HSD.out;rw[if_neg mY]at h9;exact Qh h9
       clear HSD;refine wp_region_noPanic ?_;refine JU (S:=λw'=>w'.heap[mb]?=some (.cells #[.string m.name,.bool false,.slice a2 m.params.length sS,.slice a3 m.body.length kE] 56 (0,0))/\w'.cell? ⟨bw,ow+2,none⟩=some (.bool t.spaced)/\w'.cell? ⟨bw,ow+3,none⟩=some (.slice xa t.hidden.length xc)) (by kernel_rfl) (by exact kY.out _ nN) (λac=>?_);generalize w5.drew=wd at *;refine Qt 0 104 rfl rfl ?_;try simp only[Qp]
       refine Qt 1 105 rfl rfl ?_;try simp only[Qp]
       refine Qt 2 106 rfl rfl ?_;try simp only[Qp]
       refine Qt 3 107 rfl rfl ?_;try simp only[Qp]
       refine Qt 4 108 rfl rfl ?_ (by intro w aI;obtain⟨sm,sp,sh⟩:=aI;have m0:=Qc 0 sm;go_simp;(first | done | with_reducible rfl | rfl));try simp only[Qp]
       refine Qt 5 109 rfl rfl ?_;try simp only[Qp]
       refine Qt 6 110 rfl rfl ?_ (by intro w aI;obtain⟨sm,sp,sh⟩:=aI;have m0:=Qc 0 sm;go_simp;(first | done | with_reducible rfl | rfl));try simp only[Qp]
       refine Qt 9 113 rfl rfl ?_;try simp only[Qp]
       refine Qt 10 114 rfl rfl ?_;try simp only[Qp]
       refine Qt 11 115 rfl rfl ?_;try simp only[Qp]
       refine Qt 12 116 rfl rfl ?_ (by intro w aI;obtain⟨sm,sp,sh⟩:=aI;have m0:=Qc 0 sm;go_simp;(first | done | with_reducible rfl | rfl));try simp only[Qp]
       refine Qt 14 118 rfl rfl ?_;try simp only[Qp]
       refine Qt 15 119 rfl rfl ?_;try simp only[Qp]
       refine Qr 7 rfl (λK hK=>?_);go_simp;have bk:=Zab wd (.cells #[.string m.name] 9);have RL:=Zc4 (JS wd (.cells #[.string m.name] 9)) rM;have bZ:=nN.trans (bk.mono nN.size);refine hK.out _ _ (kY.out _ bZ) (λac=>?_);clear hK K bk;try simp only[Qp]
       generalize (wd.alloc (.cells #[.string m.name] 9))=eR at *;refine Qr 8 rfl (λK hK=>?_);go_simp;refine(rL.out eR _ _ bZ RL).mono ?_;rintro e gw⟨BB,BC,BD,rfl,t7,-,-,bz2⟩;have dp:=bZ.trans (bz2.mono bZ.size);refine hK.out _ _ (kY.out _ dp) (λac=>?_);clear hK K RL;try simp only[Qp]
       refine Qr 13 rfl (λK hK=>?_);go_simp;refine(jX.out gw _ _ dp t7).mono ?_;rintro e sH⟨v8,L8,rfl,R8,D8,F8,cN⟩;have d8:=dp.trans (cN.mono dp.size);obtain⟨a8,c8,qV,-⟩:=R8.val;subst qV;refine hK.out _ _ (kY.out _ d8) (λac=>?_);clear hK K t7;try simp only[Qp]
       have h8l:L8.length=bd.length:=(by rw[←QH (f:=λx:Elem Tok=>x.d),D8,Zfq]);have hx2s:=dp.size;have yg:=cN.size;refine Qr 16 rfl (λK hK=>?_);refine ZfU ti_tok rfl (by decide) ZaX _ 120 rfl rfl (.tmp 117) (.tmp 119) rfl gw.heap.size (.slice a8 L8.length c8) (.slice (some ⟨bw,ow+4,none⟩) (NW-1) (cw-1)) r bA rfl R8 rfl (fc.out.1 _ d8) (λb aE h=>by have h1:=R8.mine b h;have h2:=dE.out b (fc.out.2 b aE);omega) (by have:=rS.out;have:=ff.out;rw[QQ]at this;unfold maxLen;omega) (by have:=rS.out;have:=ff.out;rw[QQ]at this;omega) yg ?_;intro v7 X7 w7 rQ jy eQ dc iA;have rU:=eC.trans (d8.mono eC.size);have db:Below w4.heap.size w4 w7:=rU.grown dc rU.size (λb aE=>by have:=(R8.mine b aE).1;have:=eC.size;omega);have pf:Below w5.heap.size w5 w7:=d8.grown dc d8.size (λb aE=>by have:=(R8.mine b aE).1;omega);have vg:Hid (∃fp',ToDo w.heap.size fp (.slice ao NO co) v7 (Zbm bd (ins t.hidden m.name) t.spaced++r) fp' w7):=by
        obtain⟨fp',h'⟩:=ToDo.next dB.out (by omega:w.heap.size<=gw.heap.size) (λb h=>by have:=(gJ.out b h).2;omega) eQ F8 (λx hx b aE=>fc.out.2 b (jy x hx b aE));rw[QG,D8,rQ]at h';exact⟨fp',h'⟩
       refine hK.out _ _ (kY.out _ pf) (λac=>?_);clear hK K R8 D8 F8 rQ jy eQ dc iA fc;try simp only[Qp]
       refine Qt 17 10 rfl rfl ?_;try simp only[Qp]
       refine wpAnyH_done (by kernel_rfl) ?_ _;refine QP ?_;clear ac;go_wp2;go_meet;case rel=>obtain⟨fp',h'⟩:=vg.out;exact⟨fp',h',db⟩
     obtain⟨sJ,ud,ed⟩:=hcut;generalize wc=w6 at *;obtain⟨a9,c9,tP,-⟩:=Zac ud.out.r;subst tP;have bU:=hB4.trans (ed.mono hB4.size);have bq:=aM.trans (ed.mono aM.size);obtain⟨N9,eS⟩:∃N9:Nat,Hid (N9=(Zbm bd (ins t.hidden m.name) t.spaced++r).length):=⟨_,Qh rfl⟩;rw[show(Zbm bd (ins t.hidden m.name) t.spaced++r).length=N9 from eS.out.symm]at ud ⊢;clear kY rL jX gJ dE ei nN o1 o2 o3 o4 HRb xW;by_cases oz:60<N9
     ·have HF:=Qh (dP.out.trans (ZdU HG.out kZ.out.symm pz.out (by rw[←eS.out];exact oz)));have e6:(60:Int)<(N9:Int):=(by omega);go_wp2
      go_ret3
      exact XpOf.none HF.out bU
     ·have mW:=Qh (dP.out.trans (Zef HG.out kZ.out.symm pz.out (by rw[←eS.out];exact oz)));have e6:¬(60:Int)<(N9:Int):=(by omega);have rP:Hid (∀u∈Zbm bd (ins t.hidden m.name) t.spaced++r,HidIn N u):=λu hu=>by
       rcases Qa hu with h | h
       ·refine ZiU BJ.out (λx hx=>?_) u h;rcases ZeK hx with rfl | hx
        ·exact sT.out.2
        ·exact(vG.out t (by simp)).2 x hx
       ·exact vG.out u (by simp[h])
      have ky:(Zbm bd (ins t.hidden m.name) t.spaced++r).length<=100:=(by rw[←eS.out];omega);have oD:O.length<=60:=(by rw[←fI.out];exact hO);have rR:j1<=n:=(by omega);have jQ:=Qh (jI.out.below bq);have AK:s1*1000+N9<s'*1000+NW:=(by have:=lm.out;omega);go_wp2;go_roundw;case rel=>first | exact⟨j1,s1,O,_,sJ,kG,rR,rfl,ky,oD,jQ,qZ,ud,mW,rP,bU⟩ | ((repeat apply Exists.intro);exact⟨⟨j1,s1,O,_,sJ,kG,rR,rfl,ky,oD,jQ,qZ,ud,mW,rP,bU⟩,rfl⟩)
      case measure=>simp[intOf,lenOf];omega
def Asc (l:List DMacro):Prop:=l.Pairwise λa b=>ZaF a.name b.name=true
theorem ZgO {l:List DMacro}(h:ZaU l=true):l.length<=10/\(∀m∈l,Zaq m=true)/\Asc l:=by
 refine⟨(Zgl h).1,λm hm=>?_,?_⟩
 ·obtain⟨j,hj,rfl⟩:=QY hm;have:=(Zgl h).2 j hj;unfold Zc5 at this;rw[dif_pos hj]at this;exact(JK.1 this).1
 ·unfold Asc;rw[List.pairwise_iff_getElem];exact λi j hi hj hij=>ZmW h hij hj
theorem Zlt {N:List ByteArray}(mx:∀m∈T,Zaq m=true)(hT:∀m∈T,m.name∈N)(hN:N.length<=5000):∀n,n<=1000->ExpC T N n:=by
 intro n;induction n using Nat.strongRecOn with
 | _ n ih=>exact λhn=>Zls (λj hj=>ih j hj (by omega)) hn mx hT hN
def Zfr (T:List DMacro)(l:List Tok):List ByteArray:=T.map (·.name)++l.flatMap (·.hidden)
theorem ZnO:∀{l:List Tok},(∀t∈l,t.hidden.length<=60)->(l.flatMap (·.hidden)).length<=60*l.length
 | [],_=>by simp
 |
  t::r,h=>by
  have h1:=h t (by simp);have h2:=ZnO (l:=r) (λt ht=>h t (by simp[ht]));rw[Qw,QC,QQ];omega
variable {l:List Tok}
theorem ZjT (h:Zam l=true):∀t∈l,t.hidden.length<=60/\Up t.hidden:=λt ht=>by
 obtain⟨k,hk,rfl⟩:=QY ht;have h1:=(Zay h).2 k hk;unfold Zaj at h1;rw[QI]at h1;have h2:=ZdR h1.2;exact⟨h2.1,h2.2.2⟩
theorem ZiE (hT:ZaU T=true)(hl:Zam l=true):(Zfr T l).length<=5000:=by
 unfold Zfr;rw[QC,QH];have h1:=(ZgO hT).1;have h2:=ZnO (λt ht=>(ZjT hl t ht).1);have h3:=(Zay hl).1;omega
theorem ZjU (hl:Zam l=true):∀t∈l,HidIn (Zfr T l) t:=λt ht=>⟨(ZjT hl t ht).2,λx hx=>List.mem_append.2 (.inr (QO.2 ⟨t,ht,hx⟩))⟩
def ZnP (r:List Tok × Int)(w:World)(e:Ending)(w':World):Prop:=
 ∃(v:Value) (fp:List Nat),e=.returned (.tuple #[v,.int .i64 r.2])/\(Zaa sTok).R w' [v] r.1 fp/\(∀b∈fp,w.heap.size<=b)/\Below w.heap.size w w'
theorem ZiF {r:List Tok × Int}{c:Int}{w W:World}(h:r=([],c))(hb:Below w.heap.size w W):ZnP r w (.returned (.tuple #[.slice (some ⟨W.heap.size,0,none⟩) 0 0,.int .i64 c])) (W.alloc (.cells #[] 32)):=
 ⟨_,[],by rw[h],by rw[h];exact Zao _ _ _ _ (by simp),by simp,hb.alloc hb.size _⟩
theorem ZfZ (h:¬(ZaU T=true/\Zam l=true)):Zbv T l=([],-1):=by unfold Zbv;rw[if_neg h]
theorem Zoy (vT:Value)(T:List DMacro)(cE:List Nat)(v:Value)(l:List Tok)(fp:List Nat)(w:World)(pW:T.length<=1048576)(pX:∀k,(hk:k<T.length)->ZfX T[k])(hl:l.length<=1048576)(hx:∀k,(hk:k<l.length)->l[k].hidden.length<=2000000)
  (HT:(Zaa sMacro).R w [vT] T cE) (H:(Zaa sTok).R w [v] l fp):Calls Tryz.prog 20 #[vT,v] w (ZnP (Zbv T l) w):=by
 have mO:=Qh (Zdz vT T cE w pW pX HT);have kB:=Qh (λ(U:World) (hU:Below w.heap.size w U)=>Zbd v l fp U hl hx ((Zaa sTok).below H hU));clear HT H pX hx pW hl;go_enter Tryz.func20,Tryz.ntmps20;go_wp2_with fail
 refine mO.out.mono ?_;rintro e w1⟨v1,f1,rfl,bR,xA,cq⟩;clear mO;go_wp2_with fail
 refine(kB.out w1 cq).mono ?_;rintro e w2⟨v2,f2,rfl,bN,jM,-,aF⟩;have aY:=cq.trans (aF.mono cq.size);have gC:=Qh ((Zaa sMacro).below bR aF);have ij:=Qh bN;have gg:=Qh (ZeT v1 T f1 w2 gC.out);have ip:=Qh (λ(U:World) (hU:Below w2.heap.size w2 U)=>ZbC v2 l f2 U ((Zaa sTok).below ij.out hU));clear kB bR bN xA jM aF cq;cases ht:ZaU T
 ·have HF:=Qh (ZfZ (T:=T) (l:=l) (λh=>by rw[ht]at h;exact absurd h.1 (by simp)));rw[ht]at gg;clear ht ip;go_wp2_with fail
  refine gg.out.mono ?_;rintro e w3⟨rfl,aC⟩;have aQ:=aY.trans (aC.mono aY.size);go_wp2;go_ret2;exact ZiF HF.out aQ
 cases hv:Zam l
 ·have HF:=Qh (ZfZ (T:=T) (l:=l) (λh=>by rw[hv]at h;exact absurd h.2 (by simp)));rw[ht]at gg;rw[hv]at ip;clear ht hv;go_wp2_with fail
  refine gg.out.mono ?_;rintro e w3⟨rfl,aC⟩;have aQ:=aY.trans (aC.mono aY.size);go_wp2_with fail
  refine(ip.out w3 aC).mono ?_;rintro e w4⟨rfl,aM⟩;have hB4:=aQ.trans (aM.mono aQ.size);go_wp2;go_ret2;exact ZiF HF.out hB4
 have HX:=Qh (λ(U:World) (hU:Below w2.heap.size w2 U)=>Zlt (T:=T) (N:=Zfr T l) (ZgO ht).2.1 (λm hm=>List.mem_append.2 (.inl (List.mem_map.2 ⟨m,hm,rfl⟩))) (ZiE ht hv) 100 (by omega) v1 f1 v2 l f2 100 U (QA _) (by have:=(Zay hv).1;omega) (ZjU hv) ((Zaa sMacro).below gC.out hU) ((Zaa sTok).below ij.out hU));have cZ:=Qh (ZkI (T:=T) (N:=Zfr T l) (λm hm=>List.mem_append.2 (.inl (List.mem_map.2 ⟨m,hm,rfl⟩))) 100 l 100 [] (by simp) (ZjU hv));have pA:=Qh (Zpe T 100 l 100 [] (by simp));have jH:=Qh (ZiE ht hv);have iq:Hid (Zbv T l=if (Zak T 100 100 [] l).2.2=0 then ((Zak T 100 100 [] l).1,0) else ([],(Zak T 100 100 [] l).2.2)):=by show _=_;unfold Zbv;rw[if_pos ⟨ht,hv⟩]
 rw[ht]at gg;rw[hv]at ip;rcases hq:Zak T 100 100 [] l with⟨x,lf,c⟩;unfold XpOf at HX;rw[hq]at HX cZ pA iq;try dsimp only at HX cZ pA iq
 clear ht hv hq;go_wp2_with fail
 refine gg.out.mono ?_;rintro e w3⟨rfl,aC⟩;have aQ:=aY.trans (aC.mono aY.size);go_wp2_with fail
 refine(ip.out w3 aC).mono ?_;rintro e w4⟨rfl,aM⟩;have hB4:=aQ.trans (aM.mono aQ.size);have eT:=aC.trans (aM.mono aC.size);go_wp2_with fail
 refine(HX.out w4 eT).mono ?_;rintro e w5⟨vx,L,rfl,RL,mV,xV,bg⟩;have cg:=hB4.trans (bg.mono hB4.size);by_cases dm:c=0;rotate_left
 ·have HF:Hid (Zbv T l=([],c)):=by show _=_;rw[iq.out,if_neg dm]
  have e2:(c != 0)=true:=by simp[dm]
  clear dm;obtain⟨ax,cx,hvx,-⟩:=RL.val;subst hvx;go_wp2;go_ret2;exact ZiF HF.out cg
 subst dm;have HF:Hid (Zbv T l=(x,0)):=by show _=_;rw[iq.out];simp
 obtain⟨fx,rx,-,-⟩:=RL.read;rw[mV]at rx;have qN:=Qh (Zbd vx x fx w5 (by have nS:x.length<=60:=pA.out;omega) (λk hk=>by have hh:HidIn (Zfr T l) x[k]:=cZ.out _ (QE hk);have:=hh.len;have:=jH.out;omega) rx);clear RL mV xV rx HX cZ pA iq;go_wp2_with fail
 refine qN.out.mono ?_;rintro e w6⟨v6,f6,rfl,kr,hlo6,-,bq⟩;have bU:=cg.trans (bq.mono cg.size);have jQ:=Qh kr;clear kr;go_wp2;go_ret2;exact⟨v6,f6,by rw[HF.out];rfl,by rw[HF.out];exact jQ.out,λb hb=>QZ cg.size (hlo6 b hb),bU⟩
def rowsM:List (List (List UInt8)):=[[[124,124]],[[38,38]],[[61,61],[33,61]],[[60],[62],[60,61],[62,61]],[[43],[45]],[[42],[47],[37]]]
def ZdC (k:Nat):List (List UInt8):=rowsM.getD k []
def mkM (k j:Nat):List UInt8:=(ZdC k).getD j []
theorem rank_at:∀k,k<6->∀j,j<(ZdC k).length->Zba (mkM k j)=k+1:=by decide
theorem rank_hit {k j:Nat}(hk:k<6)(hj:j<(ZdC k).length)(h:ZaS t (mkM k j)=true):Zbq t=k+1:=by
 unfold ZaS at h;rw[QI,JT,beq_iff_eq]at h;unfold Zbq;rw[if_pos h.1,h.2];exact rank_at k hk j hj
theorem Zq3 (h:∀k,k<6->∀j,j<(ZdC k).length->ZaS t (mkM k j)=false):Zbq t=0:=by
 unfold Zbq;split
 ·rename_i h4;have eg:∀k j,k<6->j<(ZdC k).length->t.text.toList≠mkM k j:=λk j hk hj e=>by
   have:=h k hk j hj;unfold ZaS at this;rw[JR h4,e]at this;simp at this
  have k00:t.text.toList≠[124,124]:=eg 0 0 (by decide) (by decide);have k10:t.text.toList≠[38,38]:=eg 1 0 (by decide) (by decide);have k20:t.text.toList≠[61,61]:=eg 2 0 (by decide) (by decide);have k21:t.text.toList≠[33,61]:=eg 2 1 (by decide) (by decide);have k30:t.text.toList≠[60]:=eg 3 0 (by decide) (by decide);have k31:t.text.toList≠[62]:=eg 3 1 (by decide) (by decide);have k32:t.text.toList≠[60,61]:=eg 3 2 (by decide) (by decide);have k33:t.text.toList≠[62,61]:=eg 3 3 (by decide) (by decide);have k40:t.text.toList≠[43]:=eg 4 0 (by decide) (by decide);have k41:t.text.toList≠[45]:=eg 4 1 (by decide) (by decide);have k50:t.text.toList≠[42]:=eg 5 0 (by decide) (by decide);have k51:t.text.toList≠[47]:=eg 5 1 (by decide) (by decide);have k52:t.text.toList≠[37]:=eg 5 2 (by decide) (by decide);unfold Zba;rw[if_neg k00,if_neg k10,if_neg (λe=>e.elim k20 k21),if_neg (λe=>e.elim k30 λe=>e.elim k31 λe=>e.elim k32 k33),if_neg (λe=>e.elim k40 k41),if_neg (λe=>e.elim k50 λe=>e.elim k51 k52)]
 ·rfl
def litO (n:Nat):List Obj:=[.cells #[.string ⟨#[124,124]⟩] 9 (0,0),.cells #[.string ⟨#[38,38]⟩] 9 (0,0),.cells #[.string ⟨#[61,61]⟩,.string ⟨#[33,61]⟩] 9 (0,0),.cells #[.string ⟨#[60]⟩,.string ⟨#[62]⟩,.string ⟨#[60,61]⟩,.string ⟨#[62,61]⟩] 9 (0,0),
 .cells #[.string ⟨#[43]⟩,.string ⟨#[45]⟩] 9 (0,0),.cells #[.string ⟨#[42]⟩,.string ⟨#[47]⟩,.string ⟨#[37]⟩] 9 (0,0),
 .cells #[.slice (some ⟨n+1,0,none⟩) 1 1,.slice (some ⟨n+2,0,none⟩) 1 1,.slice (some ⟨n+3,0,none⟩) 2 2,.slice (some ⟨n+4,0,none⟩) 4 4,.slice (some ⟨n+5,0,none⟩) 2 2,.slice (some ⟨n+6,0,none⟩) 3 3] 30 (0,0)]
structure RowsIn (n:Nat)(w:World):Prop where
 tab:w.heap[n+7]?=some (.cells #[.slice (some ⟨n+1,0,none⟩) 1 1,.slice (some ⟨n+2,0,none⟩) 1 1,.slice (some ⟨n+3,0,none⟩) 2 2,.slice (some ⟨n+4,0,none⟩) 4 4,.slice (some ⟨n+5,0,none⟩) 2 2,.slice (some ⟨n+6,0,none⟩) 3 3] 30 (0,0))
 row:∀k,(hk:k<6)->∃arr,w.heap[n+1+k]?=some (.cells arr 9 (0,0))/\∀j,j<(ZdC k).length->arr[j]?=some (.string ⟨(mkM k j).toArray⟩)
theorem RowsIn.below (h:RowsIn n w)(hb:Below w.heap.size w w'):RowsIn n w':=
 ⟨Zag h.tab hb,λk hk=>by obtain⟨arr,h1,h2⟩:=h.row k hk;exact⟨arr,Zag h1 hb,h2⟩⟩
theorem RowsIn.cellT {w:World}(h:RowsIn n w){k:Nat}(hk:k<6):w.cell? ⟨n+7,k,none⟩=some (.slice (some ⟨n+1+k,0,none⟩) (ZdC k).length (ZdC k).length):=by
 have hc:∀k,k<6->(#[Value.slice (some ⟨n+1,0,none⟩) 1 1,.slice (some ⟨n+2,0,none⟩) 1 1,.slice (some ⟨n+3,0,none⟩) 2 2,.slice (some ⟨n+4,0,none⟩) 4 4,.slice (some ⟨n+5,0,none⟩) 2 2,.slice (some ⟨n+6,0,none⟩) 3 3]:Array Value)[k]?=some (.slice (some ⟨n+1+k,0,none⟩) (ZdC k).length (ZdC k).length):=by
  intro k hk
  match k,hk with
  | 0,_=>rfl
  | 1,_=>rfl
  | 2,_=>rfl
  | 3,_=>rfl
  | 4,_=>rfl
  | 5,_=>rfl
 rw[cell_of_row _ _ k _ _ _ h.tab];exact hc k hk
theorem RowsIn.cellM {w:World}(h:RowsIn n w){k j:Nat}(hk:k<6)(hj:j<(ZdC k).length):w.cell? ⟨n+1+k,j,none⟩=some (.string ⟨(mkM k j).toArray⟩):=by
 obtain⟨arr,h1,h2⟩:=h.row k hk;rw[cell_of_row _ _ j _ _ _ h1];exact h2 j hj
theorem Zq4 (w:World)(o:Obj):RowsIn w.heap.size (ZcL (w.alloc o) (litO w.heap.size)):=by
 have hs:(w.alloc o).heap.size=w.heap.size+1:=QR _;have hb:=λj hj=>Zho (w.alloc o) (litO w.heap.size) j hj;rw[hs]at hb;refine⟨hb 6 (show(6:Nat)<7 by decide),λk hk=>?_⟩
 match k,hk with
 |
  0,_=>exact⟨_,hb 0 (show(0:Nat)<7 by decide),λj hj=>match j,hj with
  | 0,_=>rfl⟩
 |
  1,_=>exact⟨_,hb 1 (show(1:Nat)<7 by decide),λj hj=>match j,hj with
  | 0,_=>rfl⟩
 |
  2,_=>exact⟨_,hb 2 (show(2:Nat)<7 by decide),λj hj=>match j,hj with
  | 0,_=>rfl
  | 1,_=>rfl⟩
 |
  3,_=>exact⟨_,hb 3 (show(3:Nat)<7 by decide),λj hj=>match j,hj with
  | 0,_=>rfl
  | 1,_=>rfl
  | 2,_=>rfl
  | 3,_=>rfl⟩
 |
  4,_=>exact⟨_,hb 4 (show(4:Nat)<7 by decide),λj hj=>match j,hj with
  | 0,_=>rfl
  | 1,_=>rfl⟩
 |
  5,_=>exact⟨_,hb 5 (show(5:Nat)<7 by decide),λj hj=>match j,hj with
  | 0,_=>rfl
  | 1,_=>rfl
  | 2,_=>rfl⟩
theorem Zpi (k:Nat):(ZdC k).length<=4:=by
 match k with
 | 0=>decide
 | 1=>decide
 | 2=>decide
 | 3=>decide
 | 4=>decide
 | 5=>decide
 | k+6=>exact JI 4
theorem ZiG (cs:List Value)(t:Tok)(fp:List Nat)(w:World)(H:sTok.R w cs t fp):
  Calls Tryz.prog 105 #[.agg cs.toArray] w λe w'=>e=.returned (.int .i64 (Zbq t:Nat))/\Below w.heap.size w w':=by
 have H0:=H;obtain⟨hv,rfl,-,-,KT⟩:=H;obtain⟨ah,ch,rfl,-⟩:=Zaf KT;clear KT;have b0:=Zab w (.cells #[.int .i64 t.kind,.string t.text,.bool t.spaced,.slice ah t.hidden.length ch] 32);have HRI:=Qh (Zq4 w (.cells #[.int .i64 t.kind,.string t.text,.bool t.spaced,.slice ah t.hidden.length ch] 32 (0,0)));have HB:Hid (Below w.heap.size w (ZcL (w.alloc (.cells #[.int .i64 t.kind,.string t.text,.bool t.spaced,.slice ah t.hidden.length ch] 32)) (litO w.heap.size))):=ZeO _ _ b0 b0.size;have HX:Hid ((ZcL (w.alloc (.cells #[.int .i64 t.kind,.string t.text,.bool t.spaced,.slice ah t.hidden.length ch] 32)) (litO w.heap.size)).heap[w.heap.size]?=some (.cells #[.int .i64 t.kind,.string t.text,.bool t.spaced,.slice ah t.hidden.length ch] 32 (0,0))):=by
  have h1:=JS w (.cells #[.int .i64 t.kind,.string t.text,.bool t.spaced,.slice ah t.hidden.length ch] 32);exact Zag h1 (ZeO _ _ (QD _ _) (QA _))
 have fL:Hid ((ZcL (w.alloc (.cells #[.int .i64 t.kind,.string t.text,.bool t.spaced,.slice ah t.hidden.length ch] 32)) (litO w.heap.size)).heap.size=w.heap.size+8):=by
  show _=_;rw[ZgU,show(w.alloc (.cells #[.int .i64 t.kind,.string t.text,.bool t.spaced,.slice ah t.hidden.length ch] 32)).heap.size=w.heap.size+1 from QR _];rfl
 go_enter Tryz.func105,Tryz.ntmps105;go_upto_region 2 with fail
 rw[show w.heap.size+1+1+1+1+1+1+1=w.heap.size+7 from rfl];show Code.wp _ _ _ _ (ZcL (w.alloc (.cells #[.int .i64 t.kind,.string t.text,.bool t.spaced,.slice ah t.hidden.length ch] 32)) (litO w.heap.size));generalize (ZcL (w.alloc (.cells #[.int .i64 t.kind,.string t.text,.bool t.spaced,.slice ah t.hidden.length ch] 32)) (litO w.heap.size))=W at *;have HS:Hid (sTok.R W [.int .i64 t.kind,.string t.text,.bool t.spaced,.slice ah t.hidden.length ch] t fp):=sTok.below H0 HB.out;clear H0 b0;go_wp2;go_loopw [4] (λi wr=>∃k:Nat,k<=6/\i=.int .i64 k/\Hid (∀k',k'<k->∀j,j<(ZdC k').length->ZaS t (mkM k' j)=false)/\Below W.heap.size W wr) (λi _=>6-(intOf i).toNat)
 case atStart=>exact⟨0,by omega,rfl,(λk h=>by omega),QD _ _⟩
 case round =>
  obtain⟨k,hk,rfl,HM,hb⟩:=hrel;by_cases af:k<6
  ·have ue:(k:Int)<6:=(by omega);have ek:(0:Int)<=(k:Int):=(by omega);have bE:=Zpi k;go_wp2;obtain⟨wo,hwo⟩:∃x:World,x=wr:=⟨_,rfl⟩;subst hwo;go_loopw [5] (λi wr=>∃j:Nat,j<=(ZdC k).length/\i=.int .i64 j/\Hid (∀j',j'<j->ZaS t (mkM k j')=false)/\Below W.heap.size W wr) (λi _=>(ZdC k).length-(intOf i).toNat)
   case atStart=>exact⟨0,by omega,rfl,(λj h=>by omega),hb⟩
   case round =>
    obtain⟨j,hj,rfl,HJ,pB⟩:=hrel;have io:=Qh (HRI.out.below pB);have q0:=io.out.cellT af;obtain⟨RL,kx⟩:∃RL:Nat,Hid (RL=(ZdC k).length):=⟨_,Qh rfl⟩;rw[show(ZdC k).length=RL from kx.out.symm]at q0 hj;have hRL4:RL<=4:=(by rw[kx.out];exact Zpi k);by_cases iF:j<RL
    ·skip
     have q1:=io.out.cellM af (j:=j) (by rw[←kx.out];exact iF);have hj0:(0:Int)<=(j:Int):=(by omega);have ws:(j:Int)<(RL:Int):=(by omega);have d6:=Qh (Zag HX.out pB);have eP:Hid (∀Q:World,Below wr.heap.size wr Q->(λw'=>w'.heap[w.heap.size]?=some (.cells #[.int .i64 t.kind,.string t.text,.bool t.spaced,.slice ah t.hidden.length ch] 32 (0,0))/\w'.cell? ⟨w.heap.size+7,k,none⟩=some (.slice (some ⟨w.heap.size+1+k,0,none⟩) RL RL)/\w'.cell? ⟨w.heap.size+1+k,j,none⟩=some (.string ⟨(mkM k j).toArray⟩)) Q):=λQ hQ=>⟨Zag d6.out hQ,by rw[kx.out];exact(io.out.below hQ).cellT af,(io.out.below hQ).cellM af (by rw[←kx.out];exact iF)⟩;have kB:Hid (∀Q:World,Below wr.heap.size wr Q->Calls Tryz.prog 45 #[.agg [.int .i64 t.kind,.string t.text,.bool t.spaced,.slice ah t.hidden.length ch].toArray,.string ⟨(mkM k j).toArray⟩] Q (Zbu (ZaS t (mkM k j)) Q)):=λQ hQ=>by
      have h9:=Zed _ t fp Q ⟨(mkM k j).toArray⟩ (sTok.below HS.out (pB.trans (hQ.mono pB.size)));rw[show(⟨(mkM k j).toArray⟩:ByteArray).toList=mkM k j by rw[QB]]at h9;exact h9
     have aS:Below wr.heap.size wr wr.drew:=Zah (QD _ _) 1;generalize hmm:mkM k j=mm at *;go_upto_region 8 with fail
     clear q0 q1;refine wp_region_noPanic ?_;refine JU (S:=λw'=>w'.heap[w.heap.size]?=some (.cells #[.int .i64 t.kind,.string t.text,.bool t.spaced,.slice ah t.hidden.length ch] 32 (0,0))/\w'.cell? ⟨w.heap.size+7,k,none⟩=some (.slice (some ⟨w.heap.size+1+k,0,none⟩) RL RL)/\w'.cell? ⟨w.heap.size+1+k,j,none⟩=some (.string ⟨mm.toArray⟩)) (by kernel_rfl) (by exact eP.out _ aS) (λac=>?_);generalize hwd:wr.drew=wd at *;refine Qt 0 28 rfl rfl ?_ (by intro w aI;obtain⟨b0,b1,b2,b3⟩:=Q4 aI.1;go_simp;(first | done | with_reducible rfl | rfl));try simp only[Qp]
     refine Qt 1 29 rfl rfl ?_;try simp only[Qp]
     refine Qt 2 30 rfl rfl ?_;try simp only[Qp]
     refine Qt 3 31 rfl rfl ?_;try simp only[Qp]
     refine Qt 4 32 rfl rfl ?_ (by intro w aI;obtain⟨-,r0,r1⟩:=aI;go_simp;(first | done | with_reducible rfl | rfl));try simp only[Qp]
     refine Qt 5 33 rfl rfl ?_;try simp only[Qp]
     refine Qt 6 34 rfl rfl ?_;try simp only[Qp]
     refine Qt 7 35 rfl rfl ?_ (by intro w aI;obtain⟨-,r0,r1⟩:=aI;go_simp;(first | done | with_reducible rfl | rfl));try simp only[Qp]
     refine Qr 8 rfl (λK hK=>?_);go_simp;refine(kB.out _ aS).mono ?_;rintro e w5⟨rfl,bg⟩;have mL:=aS.trans (bg.mono aS.size);refine hK.out _ _ (eP.out _ mL) (λac=>?_);clear hK K;try simp only[Qp]
     refine wpAnyH_done (by kernel_rfl) ?_ _;refine QP ?_;clear ac;have bq:=pB.trans (mL.mono pB.size);clear eP kB mL bg aS hwd d6 io;cases hm:ZaS t mm
     ·have HJ2:Hid (∀j',j'<j+1->ZaS t (mkM k j')=false):=λj' h=>by
       by_cases e:j'=j
       ·subst e;rw[hmm];exact hm
       ·exact HJ.out j' (by omega)
      go_wp2;go_roundw;case rel=>exact⟨j+1,by rw[←kx.out];omega,by go_num,HJ2,bq⟩
      case measure=>rw[←kx.out];simp[intOf];omega
     ·have HF:Hid (Zbq t=k+1):=rank_hit af (by rw[←kx.out];exact iF) (by rw[hmm];exact hm);go_wp2;go_ret;exact⟨by rw[HF.out];rfl,HB.out.trans (bq.mono HB.out.size)⟩
    ·have nf:Hid (∀k',k'<k+1->∀j,j<(ZdC k').length->ZaS t (mkM k' j)=false):=λk' h j' le=>by
      by_cases e:k'=k
      ·subst e;exact HJ.out j' (by rw[←kx.out]at le;omega)
      ·exact HM.out k' (by omega) j' le
     have ws:¬(j:Int)<(RL:Int):=(by omega);go_wp2;go_roundw;case rel=>exact⟨k+1,by omega,by go_num,nf,pB⟩
     case measure=>simp[intOf];omega
  ·have pa:k=6:=(by omega);subst pa;have HF:Hid (Zbq t=0):=Zq3 HM.out;go_wp2;go_ret;exact⟨by rw[HF.out];rfl,HB.out.trans (hb.mono HB.out.size)⟩
variable {s:List UInt8}
theorem ZgP (h:Zba s≠0):s=[43]\/s=[45]\/s=[42]\/s=[47]\/s=[37]\/s=[61,61]\/s=[33,61]\/s=[60]\/s=[62]\/s=[60,61]\/s=[62,61]\/s=[38,38]\/s=[124,124]:=by
 unfold Zba at h;split at h
 ·rename_i h1;simp[h1]
 split at h
 ·rename_i h1;simp[h1]
 split at h
 ·rename_i h1;rcases h1 with h1 | h1 <;> simp[h1]
 split at h
 ·rename_i h1;rcases h1 with h1 | h1 | h1 | h1 <;> simp[h1]
 split at h
 ·rename_i h1;rcases h1 with h1 | h1 <;> simp[h1]
 split at h
 ·rename_i h1;rcases h1 with h1 | h1 | h1 <;> simp[h1]
 ·exact absurd rfl h
variable {a b:Int}
theorem app0 (ha:inR a=true)(hb:inR b=true):Zal [43] a b=if inR (a+b)=true then (a+b,0) else (0,3):=by
 have e:opM [43] a b=a+b:=rfl;unfold Zal;rw[if_neg (by rw[ha,hb];decide),if_neg (λh=>absurd h.1 (by decide)),e]
theorem app1 (ha:inR a=true)(hb:inR b=true):Zal [45] a b=if inR (a-b)=true then (a-b,0) else (0,3):=by
 have e:opM [45] a b=a-b:=rfl;unfold Zal;rw[if_neg (by rw[ha,hb];decide),if_neg (λh=>absurd h.1 (by decide)),e]
theorem app2 (ha:inR a=true)(hb:inR b=true):Zal [42] a b=if inR (a*b)=true then (a*b,0) else (0,3):=by
 have e:opM [42] a b=a*b:=rfl;unfold Zal;rw[if_neg (by rw[ha,hb];decide),if_neg (λh=>absurd h.1 (by decide)),e]
theorem app3 (ha:inR a=true)(hb:inR b=true)(h0:b≠0):Zal [47] a b=if inR (a.tdiv b)=true then (a.tdiv b,0) else (0,3):=by
 have e:opM [47] a b=a.tdiv b:=rfl;unfold Zal;rw[if_neg (by rw[ha,hb];decide),if_neg (λh=>h0 h.2),e]
theorem app4 (ha:inR a=true)(hb:inR b=true)(h0:b≠0):Zal [37] a b=if inR (a.tmod b)=true then (a.tmod b,0) else (0,3):=by
 have e:opM [37] a b=a.tmod b:=rfl;unfold Zal;rw[if_neg (by rw[ha,hb];decide),if_neg (λh=>h0 h.2),e]
theorem app5 (ha:inR a=true)(hb:inR b=true):Zal [61,61] a b=if inR (ZaV (decide (a=b)))=true then (ZaV (decide (a=b)),0) else (0,3):=by
 have e:opM [61,61] a b=ZaV (decide (a=b)):=rfl;unfold Zal;rw[if_neg (by rw[ha,hb];decide),if_neg (λh=>absurd h.1 (by decide)),e]
theorem app6 (ha:inR a=true)(hb:inR b=true):Zal [33,61] a b=if inR (ZaV (decide (a≠b)))=true then (ZaV (decide (a≠b)),0) else (0,3):=by
 have e:opM [33,61] a b=ZaV (decide (a≠b)):=rfl;unfold Zal;rw[if_neg (by rw[ha,hb];decide),if_neg (λh=>absurd h.1 (by decide)),e]
theorem app7 (ha:inR a=true)(hb:inR b=true):Zal [60] a b=if inR (ZaV (decide (a<b)))=true then (ZaV (decide (a<b)),0) else (0,3):=by
 have e:opM [60] a b=ZaV (decide (a<b)):=rfl;unfold Zal;rw[if_neg (by rw[ha,hb];decide),if_neg (λh=>absurd h.1 (by decide)),e]
theorem app8 (ha:inR a=true)(hb:inR b=true):Zal [62] a b=if inR (ZaV (decide (b<a)))=true then (ZaV (decide (b<a)),0) else (0,3):=by
 have e:opM [62] a b=ZaV (decide (b<a)):=rfl;unfold Zal;rw[if_neg (by rw[ha,hb];decide),if_neg (λh=>absurd h.1 (by decide)),e]
theorem app9 (ha:inR a=true)(hb:inR b=true):Zal [60,61] a b=if inR (ZaV (decide (a<=b)))=true then (ZaV (decide (a<=b)),0) else (0,3):=by
 have e:opM [60,61] a b=ZaV (decide (a<=b)):=rfl;unfold Zal;rw[if_neg (by rw[ha,hb];decide),if_neg (λh=>absurd h.1 (by decide)),e]
theorem app10 (ha:inR a=true)(hb:inR b=true):Zal [62,61] a b=if inR (ZaV (decide (b<=a)))=true then (ZaV (decide (b<=a)),0) else (0,3):=by
 have e:opM [62,61] a b=ZaV (decide (b<=a)):=rfl;unfold Zal;rw[if_neg (by rw[ha,hb];decide),if_neg (λh=>absurd h.1 (by decide)),e]
theorem app11 (ha:inR a=true)(hb:inR b=true):Zal [38,38] a b=if inR (ZaV (decide (a≠0) && decide (b≠0)))=true then (ZaV (decide (a≠0) && decide (b≠0)),0) else (0,3):=by
 have e:opM [38,38] a b=ZaV (decide (a≠0) && decide (b≠0)):=rfl;unfold Zal;rw[if_neg (by rw[ha,hb];decide),if_neg (λh=>absurd h.1 (by decide)),e]
theorem app12 (ha:inR a=true)(hb:inR b=true):Zal [124,124] a b=if inR (ZaV (decide (a≠0) || decide (b≠0)))=true then (ZaV (decide (a≠0) || decide (b≠0)),0) else (0,3):=by
 have e:opM [124,124] a b=ZaV (decide (a≠0) || decide (b≠0)):=rfl;unfold Zal;rw[if_neg (by rw[ha,hb];decide),if_neg (λh=>absurd h.1 (by decide)),e]
theorem app3z (ha:inR a=true)(hb:inR b=true)(h0:b=0):Zal [47] a b=(0,2):=by
 unfold Zal;rw[if_neg (by rw[ha,hb];decide),if_pos ⟨by decide,h0⟩]
theorem app4z (ha:inR a=true)(hb:inR b=true)(h0:b=0):Zal [37] a b=(0,2):=by
 unfold Zal;rw[if_neg (by rw[ha,hb];decide),if_pos ⟨by decide,h0⟩]
theorem Zmq (ha:-1000000<=a/\a<=1000000)(hb:-1000000<=b/\b<=1000000):-1000000000000<=a*b/\a*b<=1000000000000:=by
 have h1:(a*b).natAbs<=1000000*1000000:=by
  rw[Int.natAbs_mul];exact Nat.mul_le_mul (by omega) (by omega)
 omega
theorem Zmr (ha:-1000000<=a/\a<=1000000)(hb:-1000000<=b/\b<=1000000)(h0:b≠0):-1000000<=a.tdiv b/\a.tdiv b<=1000000:=by
 have h1:(a.tdiv b).natAbs<=1000000:=by
  rw[Int.natAbs_tdiv];exact QZ (Nat.div_le_self _ _) (by omega)
 omega
theorem Zms (ha:-1000000<=a/\a<=1000000)(hb:-1000000<=b/\b<=1000000)(h0:b≠0):-1000000<=a.tmod b/\a.tmod b<=1000000:=by
 have h1:(a.tmod b).natAbs<=1000000:=by
  rw[Int.natAbs_tmod];exact QZ (Nat.mod_le _ _) (by omega)
 omega
theorem ZnQ (h:Zba s=0):Zal s a b=(0,1):=by unfold Zal;rw[if_pos (.inl h)]
theorem app_a (h:inR a=false):Zal s a b=(0,1):=by unfold Zal;rw[if_pos (.inr (.inl h))]
theorem app_b (h:inR b=false):Zal s a b=(0,1):=by unfold Zal;rw[if_pos (.inr (.inr h))]
theorem ZaH {x:ByteArray}{l:List UInt8}(h:x.toList=l):x=⟨l.toArray⟩:=by
 rw[QB]at h;subst h;simp
def ZkN (s:List UInt8)(a b:Int)(w:World)(e:Ending)(w':World):Prop:=e=.returned (.tuple #[.int .i64 (Zal s a b).1,.int .i64 (Zal s a b).2])/\Below w.heap.size w w'
theorem Zbf {a b n c:Int}(h:Zal s a b=(n,c))(hb:Below w.heap.size w w'):ZkN s a b w (.returned (.tuple #[.int .i64 n,.int .i64 c])) w':=⟨by rw[h],hb⟩
theorem ZfC {g:Prop}(h:g:=by
 clear HF hop;go_wp2_with fail
 refine(ZbU false _).mono ?_;rintro e w5⟨rfl,rfl⟩;rw[show ZaV false=0 from rfl];go_wp2_with fail
 refine(ZcU 0 (-1000000) 1000000 _).mono ?_;rintro e w6⟨rfl,bq⟩;have bU:=hB4.trans (bq.mono hB4.size);go_wp2;go_ret2
 exact Zbf (by rw[QB];exact HT.out) bU):g:=h
theorem ZfD {g:Prop}(h:g:=by
 clear HF hop;go_wp2_with fail
 refine(ZbU true _).mono ?_;rintro e w5⟨rfl,rfl⟩;rw[show ZaV true=1 from rfl];go_wp2_with fail
 refine(ZcU 1 (-1000000) 1000000 _).mono ?_;rintro e w6⟨rfl,bq⟩;have bU:=hB4.trans (bq.mono hB4.size);go_wp2;go_ret2
 exact Zbf (by rw[QB];exact HT.out) bU):g:=h
theorem Zlu (s:ByteArray)(a b:Int)(w:World)(hs:s.size<=maxLen)(hra:Zb3 a)(mC:Zb3 b):
  Calls Tryz.prog 106 #[.string s,.int .i64 a,.int .i64 b] w (ZkN s.toList a b w):=by
 have iC:=Qh (ZiG [.int .i64 4,.string s,.bool false,.slice none 0 0] ⟨4,s,false,[]⟩ [] w ⟨_,rfl,(show Zb3 4 from⟨by decide,by decide⟩),hs,Zao sStr _ _ 0 (by simp)⟩);have pC:=Qh (λ(Q:World)=>ZcU a (-1000000) 1000000 Q);have rV:=Qh (λ(Q:World)=>ZcU b (-1000000) 1000000 Q);rw[show Zbq ⟨4,s,false,[]⟩=Zba s.toList from rfl]at iC;rw[show(decide (-1000000<=a) && decide (a<=1000000))=inR a from rfl]at pC;rw[show(decide (-1000000<=b) && decide (b<=1000000))=inR b from rfl]at rV;go_enter Tryz.func106,Tryz.ntmps106;by_cases zn:Zba s.toList=0
 ·have HF:=Qh (ZnQ (a:=a) (b:=b) zn);rw[zn]at iC;clear zn;go_wp2_with fail
  refine iC.out.mono ?_;rintro e w2⟨rfl,aF⟩;go_wp2;go_ret2;exact Zbf HF.out aF
 have HW:=Qh (ZgP zn);obtain⟨rk,HK⟩:∃rk:Nat,Hid (rk=Zba s.toList):=⟨_,Qh rfl⟩;rw[show Zba s.toList=rk from HK.out.symm]at iC zn;have hrk2:((rk:Int)==0)=false:=by simp;omega
 go_wp2_with fail
 refine iC.out.mono ?_;rintro e w2⟨rfl,aF⟩;cases ha:inR a
 ·have HF:=Qh (app_a (s:=s.toList) (b:=b) ha);rw[ha]at pC;clear ha;go_wp2_with fail
  refine(pC.out _).mono ?_;rintro e w3⟨rfl,aC⟩;go_wp2;go_ret2;exact Zbf HF.out (aF.trans (aC.mono aF.size))
 rw[ha]at pC;have k7:=Qh ha;clear ha;go_wp2_with fail
 refine(pC.out _).mono ?_;rintro e w3⟨rfl,aC⟩;have aQ:=aF.trans (aC.mono aF.size);cases bu:inR b
 ·have HF:=Qh (app_b (s:=s.toList) (a:=a) bu);rw[bu]at rV;clear bu;go_wp2_with fail
  refine(rV.out _).mono ?_;rintro e w4⟨rfl,aM⟩;go_wp2;go_ret2;exact Zbf HF.out (aQ.trans (aM.mono aQ.size))
 rw[bu]at rV;have dy:=Qh bu;clear bu;go_wp2_with fail
 refine(rV.out _).mono ?_;rintro e w4⟨rfl,aM⟩;have hB4:=aQ.trans (aM.mono aQ.size);clear aF aC aM iC pC rV zn hrk2 aQ;have yh:=inR_iff.1 k7.out;have nE:=inR_iff.1 dy.out;clear hra mC;rcases HW.out with h | h | h | h | h | h | h | h | h | h | h | h | h
 ·have bi:=ZaH h;subst bi;clear h HW HK hs;have HF:=Qh (app0 k7.out dy.out);have cZ:=Qh (λ(Q:World)=>ZcU (a+b) (-1000000) 1000000 Q);rw[show(decide (-1000000<=a+b) && decide (a+b<=1000000))=inR (a+b) from rfl]at cZ;cases bO:inR (a+b)
  ·have HG:Hid (Zal [43] a b=(0,3)):=(by show _=_;rw[HF.out,bO];rfl);rw[bO]at cZ;clear bO;go_wp2_with fail
   refine(cZ.out _).mono ?_;rintro e w6⟨rfl,bq⟩;have bU:=hB4.trans (bq.mono hB4.size);go_wp2;go_ret2;exact Zbf (by rw[QB];exact HG.out) bU
  ·have HG:Hid (Zal [43] a b=(a+b,0)):=(by show _=_;rw[HF.out,bO];rfl);rw[bO]at cZ;clear bO;go_wp2_with fail
   refine(cZ.out _).mono ?_;rintro e w6⟨rfl,bq⟩;have bU:=hB4.trans (bq.mono hB4.size);go_wp2;go_ret2;exact Zbf (by rw[QB];exact HG.out) bU
 ·have bi:=ZaH h;subst bi;clear h HW HK hs;have HF:=Qh (app1 k7.out dy.out);have cZ:=Qh (λ(Q:World)=>ZcU (a-b) (-1000000) 1000000 Q);rw[show(decide (-1000000<=a-b) && decide (a-b<=1000000))=inR (a-b) from rfl]at cZ;cases bO:inR (a-b)
  ·have HG:Hid (Zal [45] a b=(0,3)):=(by show _=_;rw[HF.out,bO];rfl);rw[bO]at cZ;clear bO;go_wp2_with fail
   refine(cZ.out _).mono ?_;rintro e w6⟨rfl,bq⟩;have bU:=hB4.trans (bq.mono hB4.size);go_wp2;go_ret2;exact Zbf (by rw[QB];exact HG.out) bU
  ·have HG:Hid (Zal [45] a b=(a-b,0)):=(by show _=_;rw[HF.out,bO];rfl);rw[bO]at cZ;clear bO;go_wp2_with fail
   refine(cZ.out _).mono ?_;rintro e w6⟨rfl,bq⟩;have bU:=hB4.trans (bq.mono hB4.size);go_wp2;go_ret2;exact Zbf (by rw[QB];exact HG.out) bU
 ·have bi:=ZaH h;subst bi;clear h HW HK hs;have HF:=Qh (app2 k7.out dy.out);have li:-1000000000000<=a*b/\a*b<=1000000000000:=Zmq yh nE;have cZ:=Qh (λ(Q:World)=>ZcU (a*b) (-1000000) 1000000 Q);rw[show(decide (-1000000<=a*b) && decide (a*b<=1000000))=inR (a*b) from rfl]at cZ;cases bO:inR (a*b)
  ·have HG:Hid (Zal [42] a b=(0,3)):=(by show _=_;rw[HF.out,bO];rfl);rw[bO]at cZ;clear bO;go_wp2_with fail
   refine(cZ.out _).mono ?_;rintro e w6⟨rfl,bq⟩;have bU:=hB4.trans (bq.mono hB4.size);go_wp2;go_ret2;exact Zbf (by rw[QB];exact HG.out) bU
  ·have HG:Hid (Zal [42] a b=(a*b,0)):=(by show _=_;rw[HF.out,bO];rfl);rw[bO]at cZ;clear bO;go_wp2_with fail
   refine(cZ.out _).mono ?_;rintro e w6⟨rfl,bq⟩;have bU:=hB4.trans (bq.mono hB4.size);go_wp2;go_ret2;exact Zbf (by rw[QB];exact HG.out) bU
 ·have bi:=ZaH h;subst bi;clear h HW HK hs;by_cases h0:b=0
  ·have HG:=Qh (app3z k7.out dy.out h0);have e0:(b==0)=true:=(by simp[h0]);clear h0;go_wp2;go_ret2;exact Zbf (by rw[QB];exact HG.out) hB4
  ·have HF:=Qh (app3 k7.out dy.out h0);have e0:(b==0)=false:=(by simp[h0]);have hq:=Zmr yh nE h0;have cZ:=Qh (λ(Q:World)=>ZcU (a.tdiv b) (-1000000) 1000000 Q);rw[show(decide (-1000000<=a.tdiv b) && decide (a.tdiv b<=1000000))=inR (a.tdiv b) from rfl]at cZ;cases bO:inR (a.tdiv b)
   ·have HG:Hid (Zal [47] a b=(0,3)):=(by show _=_;rw[HF.out,bO];rfl);rw[bO]at cZ;clear bO;go_wp2_with fail
    refine(cZ.out _).mono ?_;rintro e w6⟨rfl,bq⟩;have bU:=hB4.trans (bq.mono hB4.size);go_wp2;go_ret2;exact Zbf (by rw[QB];exact HG.out) bU
   ·have HG:Hid (Zal [47] a b=(a.tdiv b,0)):=(by show _=_;rw[HF.out,bO];rfl);rw[bO]at cZ;clear bO;go_wp2_with fail
    refine(cZ.out _).mono ?_;rintro e w6⟨rfl,bq⟩;have bU:=hB4.trans (bq.mono hB4.size);go_wp2;go_ret2;exact Zbf (by rw[QB];exact HG.out) bU
 ·have bi:=ZaH h;subst bi;clear h HW HK hs;by_cases h0:b=0
  ·have HG:=Qh (app4z k7.out dy.out h0);have e0:(b==0)=true:=(by simp[h0]);clear h0;go_wp2;go_ret2;exact Zbf (by rw[QB];exact HG.out) hB4
  ·have HF:=Qh (app4 k7.out dy.out h0);have e0:(b==0)=false:=(by simp[h0]);have hq:=Zms yh nE h0;have cZ:=Qh (λ(Q:World)=>ZcU (a.tmod b) (-1000000) 1000000 Q);rw[show(decide (-1000000<=a.tmod b) && decide (a.tmod b<=1000000))=inR (a.tmod b) from rfl]at cZ;cases bO:inR (a.tmod b)
   ·have HG:Hid (Zal [37] a b=(0,3)):=(by show _=_;rw[HF.out,bO];rfl);rw[bO]at cZ;clear bO;go_wp2_with fail
    refine(cZ.out _).mono ?_;rintro e w6⟨rfl,bq⟩;have bU:=hB4.trans (bq.mono hB4.size);go_wp2;go_ret2;exact Zbf (by rw[QB];exact HG.out) bU
   ·have HG:Hid (Zal [37] a b=(a.tmod b,0)):=(by show _=_;rw[HF.out,bO];rfl);rw[bO]at cZ;clear bO;go_wp2_with fail
    refine(cZ.out _).mono ?_;rintro e w6⟨rfl,bq⟩;have bU:=hB4.trans (bq.mono hB4.size);go_wp2;go_ret2;exact Zbf (by rw[QB];exact HG.out) bU
 ·have bi:=ZaH h;subst bi;clear h HW HK hs;have HF:=Qh (app5 k7.out dy.out);by_cases hq:a=b
  ·skip
   have hop:(decide (a=b))=true:=(by simp[hq]);have e1:(a==b)=true:=(by simp[hq]);have e2:(a != b)=false:=(by simp[hq]);have HT:Hid (Zal [61,61] a b=(1,0)):=(by show _=_;rw[HF.out,hop];rfl);exact ZfD
  ·skip
   have hop:(decide (a=b))=false:=(by simp[hq]);have e1:(a==b)=false:=(by simp[hq]);have e2:(a != b)=true:=(by simp[hq]);have HT:Hid (Zal [61,61] a b=(0,0)):=(by show _=_;rw[HF.out,hop];rfl);exact ZfC
 ·have bi:=ZaH h;subst bi;clear h HW HK hs;have HF:=Qh (app6 k7.out dy.out);by_cases hq:a=b
  ·skip
   have hop:(decide (a≠b))=false:=(by simp[hq]);have e1:(a==b)=true:=(by simp[hq]);have e2:(a != b)=false:=(by simp[hq]);have HT:Hid (Zal [33,61] a b=(0,0)):=(by show _=_;rw[HF.out,hop];rfl);exact ZfC
  ·skip
   have hop:(decide (a≠b))=true:=(by simp[hq]);have e1:(a==b)=false:=(by simp[hq]);have e2:(a != b)=true:=(by simp[hq]);have HT:Hid (Zal [33,61] a b=(1,0)):=(by show _=_;rw[HF.out,hop];rfl);exact ZfD
 ·have bi:=ZaH h;subst bi;clear h HW HK hs;have HF:=Qh (app7 k7.out dy.out);by_cases hq:a<b
  ·skip
   have hop:(decide (a<b))=true:=(by simp[hq]);have e1:decide (a<b)=true:=(by simp[hq]);have HT:Hid (Zal [60] a b=(1,0)):=(by show _=_;rw[HF.out,hop];rfl);exact ZfD
  ·skip
   have hop:(decide (a<b))=false:=(by simp[hq]);have e1:decide (a<b)=false:=(by simp[hq]);have HT:Hid (Zal [60] a b=(0,0)):=(by show _=_;rw[HF.out,hop];rfl);exact ZfC
 ·have bi:=ZaH h;subst bi;clear h HW HK hs;have HF:=Qh (app8 k7.out dy.out);by_cases hq:b<a
  ·skip
   have hop:(decide (b<a))=true:=(by simp[hq]);have e1:decide (b<a)=true:=(by simp[hq]);have HT:Hid (Zal [62] a b=(1,0)):=(by show _=_;rw[HF.out,hop];rfl);exact ZfD
  ·skip
   have hop:(decide (b<a))=false:=(by simp[hq]);have e1:decide (b<a)=false:=(by simp[hq]);have HT:Hid (Zal [62] a b=(0,0)):=(by show _=_;rw[HF.out,hop];rfl);exact ZfC
 ·have bi:=ZaH h;subst bi;clear h HW HK hs;have HF:=Qh (app9 k7.out dy.out);by_cases hq:a<=b
  ·skip
   have hop:(decide (a<=b))=true:=(by simp[hq]);have e1:decide (a<=b)=true:=(by simp[hq]);have HT:Hid (Zal [60,61] a b=(1,0)):=(by show _=_;rw[HF.out,hop];rfl);exact ZfD
  ·skip
   have hop:(decide (a<=b))=false:=(by simp[hq]);have e1:decide (a<=b)=false:=(by simp[hq]);have HT:Hid (Zal [60,61] a b=(0,0)):=(by show _=_;rw[HF.out,hop];rfl);exact ZfC
 ·have bi:=ZaH h;subst bi;clear h HW HK hs;have HF:=Qh (app10 k7.out dy.out);by_cases hq:b<=a
  ·skip
   have hop:(decide (b<=a))=true:=(by simp[hq]);have e1:decide (b<=a)=true:=(by simp[hq]);have HT:Hid (Zal [62,61] a b=(1,0)):=(by show _=_;rw[HF.out,hop];rfl);exact ZfD
  ·skip
   have hop:(decide (b<=a))=false:=(by simp[hq]);have e1:decide (b<=a)=false:=(by simp[hq]);have HT:Hid (Zal [62,61] a b=(0,0)):=(by show _=_;rw[HF.out,hop];rfl);exact ZfC
 ·have bi:=ZaH h;subst bi;clear h HW HK hs;have HF:=Qh (app11 k7.out dy.out);by_cases hq:a=0
  ·by_cases cU:b=0
   ·skip
    have hop:(decide (a≠0) && decide (b≠0))=false:=(by simp[hq,cU]);have e1:(a != 0)=false:=(by simp[hq]);have e2:(b != 0)=false:=(by simp[cU]);have HT:Hid (Zal [38,38] a b=(0,0)):=(by show _=_;rw[HF.out,hop];rfl);exact ZfC
   ·skip
    have hop:(decide (a≠0) && decide (b≠0))=false:=(by simp[hq,cU]);have e1:(a != 0)=false:=(by simp[hq]);have e2:(b != 0)=true:=(by simp[cU]);have HT:Hid (Zal [38,38] a b=(0,0)):=(by show _=_;rw[HF.out,hop];rfl);exact ZfC
  ·by_cases cU:b=0
   ·skip
    have hop:(decide (a≠0) && decide (b≠0))=false:=(by simp[hq,cU]);have e1:(a != 0)=true:=(by simp[hq]);have e2:(b != 0)=false:=(by simp[cU]);have HT:Hid (Zal [38,38] a b=(0,0)):=(by show _=_;rw[HF.out,hop];rfl);exact ZfC
   ·skip
    have hop:(decide (a≠0) && decide (b≠0))=true:=(by simp[hq,cU]);have e1:(a != 0)=true:=(by simp[hq]);have e2:(b != 0)=true:=(by simp[cU]);have HT:Hid (Zal [38,38] a b=(1,0)):=(by show _=_;rw[HF.out,hop];rfl);exact ZfD
 ·have bi:=ZaH h;subst bi;clear h HW HK hs;have HF:=Qh (app12 k7.out dy.out);by_cases hq:a=0
  ·by_cases cU:b=0
   ·skip
    have hop:(decide (a≠0) || decide (b≠0))=false:=(by simp[hq,cU]);have e1:(a != 0)=false:=(by simp[hq]);have e2:(b != 0)=false:=(by simp[cU]);have HT:Hid (Zal [124,124] a b=(0,0)):=(by show _=_;rw[HF.out,hop];rfl);exact ZfC
   ·skip
    have hop:(decide (a≠0) || decide (b≠0))=true:=(by simp[hq,cU]);have e1:(a != 0)=false:=(by simp[hq]);have e2:(b != 0)=true:=(by simp[cU]);have HT:Hid (Zal [124,124] a b=(1,0)):=(by show _=_;rw[HF.out,hop];rfl);exact ZfD
  ·by_cases cU:b=0
   ·skip
    have hop:(decide (a≠0) || decide (b≠0))=true:=(by simp[hq,cU]);have e1:(a != 0)=true:=(by simp[hq]);have e2:(b != 0)=false:=(by simp[cU]);have HT:Hid (Zal [124,124] a b=(1,0)):=(by show _=_;rw[HF.out,hop];rfl);exact ZfD
   ·skip
    have hop:(decide (a≠0) || decide (b≠0))=true:=(by simp[hq,cU]);have e1:(a != 0)=true:=(by simp[hq]);have e2:(b != 0)=true:=(by simp[cU]);have HT:Hid (Zal [124,124] a b=(1,0)):=(by show _=_;rw[HF.out,hop];rfl);exact ZfD
def VOf (r:ZbV)(w:World)(e:Ending)(w':World):Prop:=e=.returned (.tuple #[.int .i64 r.1,.int .i64 (r.2.1:Nat),.int .i64 r.2.2])/\Below w.heap.size w w'
theorem vof {r:ZbV}{n:Int}{e:Nat}{f:Int}(h:r=(n,e,f))(hb:Below w.heap.size w w'):VOf r w (.returned (.tuple #[.int .i64 n,.int .i64 (e:Nat),.int .i64 f])) w':=⟨by rw[h],hb⟩
structure VC (l:List Tok)(d:Nat):Prop where
 one:∀(k:Nat) (r:ZbV),k<=l.length->pv l d (.one k)=some r->∀(v:Value) (fp:List Nat) (w:World),(Zaa sTok).R w [v] l fp->Calls Tryz.prog 104 #[v,.int .i64 k] w (VOf r w)
 marks:∀(k rank:Nat) (r:ZbV),k<=l.length->rank<=7->pv l d (.marks k rank)=some r->∀(v:Value) (fp:List Nat) (w:World),(Zaa sTok).R w [v] l fp->Calls Tryz.prog 74 #[v,.int .i64 k,.int .i64 rank] w (VOf r w)
 choice:∀(k:Nat) (r:ZbV),k<=l.length->pv l d (.choice k)=some r->∀(v:Value) (fp:List Nat) (w:World),(Zaa sTok).R w [v] l fp->Calls Tryz.prog 49 #[v,.int .i64 k] w (VOf r w)
theorem Zfs (t:Tok)(c:UInt8):(decide (t.kind=4) && (t.text.toList==[c]))=ZaS t [c]:=rfl
theorem Zft {k:Nat}(hk:k<l.length):Zan l k s=ZaS l[k] s:=by unfold Zan;rw[dif_pos hk]
theorem ZhO {k:Nat}(hk:¬k<l.length):Zan l k s=false:=by unfold Zan;rw[dif_neg hk]
variable {d:Nat}
theorem one_walk (hl:l.length<=100)(hd:d<=1000)(IH:∀d',d'<d->VC l d')(k:Nat)(r:ZbV)(hk:k<=l.length)(h:pv l d (.one k)=some r)(v:Value)(fp:List Nat)(w:World)(H:(Zaa sTok).R w [v] l fp):
  Calls Tryz.prog 104 #[v,.int .i64 k] w (VOf r w):=by
 have H0:=Qh H;obtain⟨al,cl,rfl,dK,iu,ai⟩:=Zac H;unfold maxLen at iu;clear H;cases d with
 | zero=>simp[pv]at h
 | succ d =>
 unfold pv at h;go_enter Tryz.func104,Tryz.ntmps104;by_cases af:k<l.length;rotate_left
 ·rw[dif_neg af]at h;simp only[Qi]at h;have HF:=Qh h.symm;have e1:(l.length:Int)<=(k:Int):=by omega
  clear h af ai;go_wp2
  go_ret3
  exact vof HF.out (QD _ _)
 rw[dif_pos af]at h;obtain⟨b1,o1,-,rfl,-,-,-⟩:=ai (by omega);obtain⟨xa,xc,xf,x0,x1,x2,x3,xR,bu,-⟩:=ZaO H0.out af;obtain⟨tk,ez⟩:∃tk:Tok,Hid (tk=l[k]):=⟨_,Qh rfl⟩;rw[show l[k]=tk from ez.out.symm]at x0 x1 x2 x3 xR h;have HH:=Qh h;have bx:=Zab w (.cells #[.int .i64 tk.kind,.string tk.text,.bool tk.spaced,.slice xa tk.hidden.length xc] 32);have HX:=Qh (JS w (.cells #[.int .i64 tk.kind,.string tk.text,.bool tk.spaced,.slice xa tk.hidden.length xc] 32));have kj:=Qh ((Zaa sTok).below H0.out bx);have iG:=Qh (sTok.below xR bx);have e1:¬(l.length:Int)<=(k:Int):=by omega
 have i0:(0:Int)<=(k:Int):=by omega
 have i1:(k:Int)<(l.length:Int):=by omega
 have hkw:IntKind.i64.wrap ((k:Int)+1)=((k+1:Nat):Int):=by rw[QF _ (by omega)];omega
 have bQ:ZaC tk.text:=xR.choose_spec.2.2.1;have bC:=Qh bQ;clear ai xR h bu bQ;go_upto_region 4 with fail
 clear x0 x1 x2 x3 e1;generalize (w.alloc (.cells #[.int .i64 tk.kind,.string tk.text,.bool tk.spaced,.slice xa tk.hidden.length xc] 32))=W1 at *;have xm:=Qh (λ(Q:World) (hQ:Below W1.heap.size W1 Q) (c:UInt8)=>ZfK _ tk xf Q c (sTok.below iG.out hQ));obtain⟨q0,q1,q2,q3⟩:=Q4 HX.out;have Ha:=xm.out W1 (QD _ _) 33;rw[Zfs]at Ha;have zo:=Qh Ha;clear Ha;cases ha:ZaS tk [33];rotate_left
 ·skip
  rw[ha]at zo;go_wp2_with fail
  refine zo.out.mono ?_;rintro e w2⟨rfl,bX⟩;have jz:=bX;clear zo q0 q1 q2 q3;have BL:=Qh (Zag HX.out jz);have h9:=HH.out;rw[if_pos ha]at h9;obtain⟨a,eu,ir⟩:=Zas h9;simp only[Qi]at ir;have HF:=Qh ir.symm;have HC:=Qh ((IH d (by omega)).one (k+1) a af eu _ fp w2 ((Zaa sTok).below kj.out jz));clear h9 eu ir ha HH;unfold VOf at HC;go_wp2_with fail
  refine HC.out.mono ?_;rintro e w3⟨rfl,aC⟩;have aQ:=bx.trans ((jz.trans (aC.mono jz.size)).mono bx.size);clear HC;obtain⟨n,en,ft⟩:=a;by_cases hn:n=0
  ·have e0:(n==0)=true:=(by simp[hn]);have HG:Hid (r=(ZaV true,en,ft)):=(by show _=_;rw[HF.out];simp[hn]);clear HF hn;go_wp2_with fail
   refine(ZbU true _).mono ?_;rintro e w4⟨rfl,rfl⟩;go_wp2
   go_ret3
   exact vof HG.out aQ
  ·have e0:(n==0)=false:=(by simp[hn]);have HG:Hid (r=(ZaV false,en,ft)):=(by show _=_;rw[HF.out];simp[hn]);clear HF hn;go_wp2_with fail
   refine(ZbU false _).mono ?_;rintro e w4⟨rfl,rfl⟩;go_wp2
   go_ret3
   exact vof HG.out aQ
 rw[ha]at zo;go_wp2_with fail
 refine zo.out.mono ?_;rintro e w2⟨rfl,bX⟩;have jz:=bX;clear zo q0 q1 q2 q3;have BL:=Qh (Zag HX.out jz);obtain⟨q0,q1,q2,q3⟩:=Q4 BL.out;have Hb:=xm.out w2 (jz) 45;rw[Zfs]at Hb;have zp:=Qh Hb;clear Hb;cases hb:ZaS tk [45];rotate_left
 ·skip
  rw[hb]at zp;go_wp2_with fail
  refine zp.out.mono ?_;rintro e w3⟨rfl,eF⟩;have jA:=jz.trans (eF.mono jz.size);clear zp q0 q1 q2 q3;have BM:=Qh (Zag HX.out jA);have h9:=HH.out;rw[if_neg (by rw[ha];simp),if_pos hb]at h9;obtain⟨a,eu,ir⟩:=Zas h9;simp only[Qi]at ir;have HF:=Qh ir.symm;have dY:=Zb1 l d _ _ (show okQ l (.one (k+1)) from af) eu;have bO:=inR_iff.1 dY.1;have HC:=Qh ((IH d (by omega)).one (k+1) a af eu _ fp w3 ((Zaa sTok).below kj.out jA));clear h9 eu ir ha hb HH dY;unfold VOf at HC;go_wp2_with fail
  refine HC.out.mono ?_;rintro e w4⟨rfl,aM⟩;have hB4:=bx.trans ((jA.trans (aM.mono jA.size)).mono bx.size);clear HC;obtain⟨n,en,ft⟩:=a;have hin2:-1000000<=n/\n<=1000000:=bO;have hng:IntKind.i64.wrap (-n)=-n:=QF _ (by omega);clear bO;go_wp2
  go_ret3
  exact vof HF.out hB4
 rw[hb]at zp;go_wp2_with fail
 refine zp.out.mono ?_;rintro e w3⟨rfl,eF⟩;have jA:=jz.trans (eF.mono jz.size);clear zp q0 q1 q2 q3;have BM:=Qh (Zag HX.out jA);obtain⟨q0,q1,q2,q3⟩:=Q4 BM.out;have Hc:=xm.out w3 (jA) 40;rw[Zfs]at Hc;have zq:=Qh Hc;clear Hc;cases hc:ZaS tk [40];rotate_left
 ·skip
  rw[hc]at zq;go_wp2_with fail
  refine zq.out.mono ?_;rintro e w4⟨rfl,k8⟩;have la:=jA.trans (k8.mono jA.size);clear zq q0 q1 q2 q3;have BN:=Qh (Zag HX.out la);have h9:=HH.out;rw[if_neg (by rw[ha];simp),if_neg (by rw[hb];simp),if_pos hc]at h9;obtain⟨a,eu,ir⟩:=Zas h9;simp only[Qi]at ir;have HF:=Qh ir.symm;have dY:=Zb1 l d _ _ (show okQ l (.choice (k+1)) from af) eu;have HC:=Qh ((IH d (by omega)).choice (k+1) a af eu _ fp w4 ((Zaa sTok).below kj.out la));clear h9 eu ir ha hb hc HH;unfold VOf at HC;obtain⟨n,en,ft⟩:=a;obtain⟨-,f2,f3,f4,f5⟩:=dY;have f2':en<=l.length+d:=f2;have f3':ft=0->en<=l.length:=λh=>(f3 h).1;have xZ:IntKind.i64.wrap ((en:Int)+1)=((en+1:Nat):Int):=by rw[QF _ (by omega)];omega
  clear f2 f3 f4 f5;try dsimp only at HF HC
  go_wp2_with fail
  refine HC.out.mono ?_;rintro e w5⟨rfl,bg⟩;have BO:=la.trans (bg.mono la.size);have cg:=bx.trans (BO.mono bx.size);clear HC;by_cases mK:ft=0;rotate_left
  ·have e0:(ft==0)=false:=(by simp[mK]);have HG:Hid (r=(n,en+1,ft)):=(by show _=_;rw[HF.out,if_neg (λh=>mK h.1)]);clear HF mK;go_wp2
   go_ret3
   exact vof HG.out cg
  subst mK;have e0:((0:Int)==0)=true:=rfl;by_cases oF:en<l.length;rotate_left
  ·have HG:Hid (r=(n,en+1,1)):=(by show _=_;rw[HF.out,if_pos ⟨rfl,ZhO oF⟩]);have e2:(l.length:Int)<=(en:Int):=(by omega);clear HF oF;go_wp2
   go_ret3
   exact vof HG.out cg
  have fW:=Qh ((Zaa sTok).below kj.out BO);obtain⟨ya,yc,yf,y0,y1,y2,y3,yR,-,-⟩:=ZaO fW.out oF;have e2:¬(l.length:Int)<=(en:Int):=by omega
  have j0:(0:Int)<=(en:Int):=by omega
  have j1:(en:Int)<(l.length:Int):=by omega
  have HM:=ZfK _ l[en] yf w5 41 yR;rw[Zfs,←Zft oF]at HM;have HMH:=Qh HM;clear HM yR;cases hm:Zan l en [41]
  ·rw[hm]at HMH;have HG:Hid (r=(n,en+1,1)):=(by show _=_;rw[HF.out,if_pos ⟨rfl,hm⟩]);clear HF hm;go_wp2_with fail
   refine HMH.out.mono ?_;rintro e w6⟨rfl,bq⟩;go_wp2
   go_ret3
   exact vof HG.out (cg.trans (bq.mono cg.size))
  ·rw[hm]at HMH;have HG:Hid (r=(n,en+1,0)):=(by show _=_;rw[HF.out,if_neg (λh=>by rw[hm]at h;exact absurd h.2 (by simp))]);clear HF hm;go_wp2_with fail
   refine HMH.out.mono ?_;rintro e w6⟨rfl,bq⟩;go_wp2
   go_ret3
   exact vof HG.out (cg.trans (bq.mono cg.size))
 rw[hc]at zq;go_wp2_with fail
 refine zq.out.mono ?_;rintro e w4⟨rfl,k8⟩;have la:=jA.trans (k8.mono jA.size);clear zq q0 q1 q2 q3;have BN:=Qh (Zag HX.out la);obtain⟨q0,q1,q2,q3⟩:=Q4 BN.out;have hB4:=bx.trans (la.mono bx.size);have h9:=HH.out;rw[if_neg (by rw[ha];simp),if_neg (by rw[hb];simp),if_neg (by rw[hc];simp)]at h9;clear ha hb hc HH;by_cases bG:tk.kind=1
 ·rw[if_pos bG]at h9;simp only[Qi]at h9;have HF:=Qh h9.symm;have e2:(tk.kind==1)=true:=by simp[bG]
  clear h9 bG;go_wp2
  go_ret3
  exact vof HF.out hB4
 rw[if_neg bG]at h9;have e2:(tk.kind==1)=false:=by simp[bG]
 clear bG;have vJ:=Qh (λ(Q:World)=>ZmB tk.text Q bC.out);obtain⟨nu,HNN⟩:∃nu:Int,Hid (nu=ZaM tk.text.toList):=⟨_,Qh rfl⟩;rw[show ZaM tk.text.toList=nu from HNN.out.symm]at vJ h9;by_cases bY:tk.kind=2;rotate_left
 ·rw[if_neg (λh=>bY h.1)]at h9;simp only[Qi]at h9;have HF:=Qh h9.symm;have e3:(tk.kind==2)=false:=by simp[bY]
  clear h9 bY;go_wp2
  go_ret3
  exact vof HF.out hB4
 have e3:(tk.kind==2)=true:=by simp[bY]
 go_wp2_with fail
 refine(vJ.out _).mono ?_;rintro e w5⟨rfl,bg⟩;have BO:=la.trans (bg.mono la.size);have cg:=bx.trans (BO.mono bx.size);clear q0 q1 q2 q3;have gy:=Qh (Zag HX.out BO);have q1:=Qc 1 gy.out;by_cases hnu:0<=nu;rotate_left
 ·rw[if_neg (λh=>hnu h.2)]at h9;simp only[Qi]at h9;have HF:=Qh h9.symm;clear h9 bY;go_wp2
  go_ret3
  exact vof HF.out cg
 rw[if_pos ⟨bY,hnu⟩]at h9;simp only[Qi]at h9;have HF:=Qh h9.symm;clear h9 bY;go_wp2_with fail
 refine(vJ.out _).mono ?_;rintro e w6⟨rfl,bq⟩;go_wp2
 go_ret3
 exact vof HF.out (cg.trans (bq.mono cg.size))
theorem rankM_le (t:Tok):Zbq t<=6:=by
 unfold Zbq Zba;split
 ·repeat' split
  all_goals omega
 ·omega
theorem ZnR {d rank e:Nat}{n f:Int}{r:ZbV}(h:pv l d (.more rank n e f)=some r)(hf:¬(f=0/\e<l.length)):r=(n,e,f):=by
 cases d with
 | zero=>simp[pv]at h
 |
  succ d =>
  unfold pv at h;rw[dif_neg hf]at h;simpa using h.symm
theorem ZpS (hl:l.length<=100)(hd:d<=1000)(IH:∀d',d'<d->VC l d')(k rank:Nat)(r:ZbV)(hk:k<=l.length)(hr7:rank<=7)(h:pv l d (.marks k rank)=some r)(v:Value)(fp:List Nat)(w:World)(H:(Zaa sTok).R w [v] l fp):
  Calls Tryz.prog 74 #[v,.int .i64 k,.int .i64 rank] w (VOf r w):=by
 have H0:=Qh H;obtain⟨al,cl,rfl,dK,iu,ai⟩:=Zac H;unfold maxLen at iu;have ie:Hid (0<l.length->∃bb ob,al=some ⟨bb,ob,none⟩):=λh=>by obtain⟨b,o,-,e,-⟩:=ai h;exact⟨b,o,e⟩
 clear H ai;cases d with
 | zero=>simp[pv]at h
 | succ d =>
 unfold pv at h;obtain⟨a,eu,ir⟩:=Zas h;have dY:=Zb1 l d _ _ (show okQ l (.one k) from hk) eu;have HC:=Qh ((IH d (by omega)).one k a hk eu _ fp w H0.out);unfold VOf at HC;obtain⟨n0,e0,f0⟩:=a;have HM:=Qh ir;have gX:Hid (f0=0->e0<=l.length/\inR n0=true):=λh=>⟨(dY.2.2.1 h).1,dY.1⟩;try dsimp only at HC HM
 clear h eu ir dY;go_enter Tryz.func74,Tryz.ntmps74;go_wp2_with fail
 refine HC.out.mono ?_;rintro e w1⟨rfl,aG⟩;clear HC;go_wp2;go_loopw [9,10,11] (λvn ve vf wr=>∃(d' e:Nat) (n f:Int),d'<=d/\vn=.int .i64 n/\ve=.int .i64 e/\vf=.int .i64 f/\Hid (pv l d' (.more rank n e f)=some r)/\Hid (f=0->e<=l.length/\inR n=true)/\Below w.heap.size w wr) (λ_ ve _ _=>l.length-(intOf ve).toNat)
 case atStart=>exact⟨d,e0,n0,f0,QA _,rfl,rfl,rfl,HM.out,gX.out,aG⟩
 case round =>
  clear HM gX aG;obtain⟨d',e,n,f,hd',rfl,rfl,rfl,HP,HG,hb⟩:=hrel;by_cases hf:f=0;rotate_left
  ·have HF:=Qh (Zex HP.out hf);have g1:(f==0)=false:=(by simp[hf]);clear hf;go_wp2
   go_ret3
   exact vof HF.out hb
  subst hf;obtain⟨oF,bO⟩:=HG.out rfl;by_cases af:e<l.length;rotate_left
  ·have HF:=Qh (ZnR HP.out (λh=>af h.2));have g1:¬(e:Int)<(l.length:Int):=(by omega);clear af;go_wp2
   go_ret3
   exact vof HF.out hb
  cases d' with
  | zero=>have:=HP.out;simp[pv]at this
  | succ d' =>
  have hp:=HP.out;unfold pv at hp;rw[dif_pos ⟨rfl,af⟩]at hp;obtain⟨b1,o1,rfl⟩:=ie.out (by omega);obtain⟨xa,xc,xf,x0,x1,x2,x3,xR,bu,-⟩:=ZaO H0.out af;obtain⟨tk,ez⟩:∃tk:Tok,Hid (tk=l[e]):=⟨_,Qh rfl⟩;rw[show l[e]=tk from ez.out.symm]at x0 x1 x2 x3 xR hp;replace x0:=(hb.cell (p:=⟨b1,o1+e*4,none⟩) bu).trans x0;have bZ:=x1;replace x1:=(hb.cell (p:=⟨b1,o1+e*4+1,none⟩) bu).trans x1;replace x2:=(hb.cell (p:=⟨b1,o1+e*4+2,none⟩) bu).trans x2;replace x3:=(hb.cell (p:=⟨b1,o1+e*4+3,none⟩) bu).trans x3;have dG:Hid (∀Q:World,Below w.heap.size w Q->Q.cell? ⟨b1,o1+e*4+1,none⟩=some (.string tk.text)):=λQ hQ=>(hQ.cell (p:=⟨b1,o1+e*4+1,none⟩) bu).trans bZ;have iC:=Qh (ZiG _ tk xf wr (sTok.below xR hb));have bC:Hid (ZaC tk.text):=xR.choose_spec.2.2.1;have hr6:=rankM_le tk;obtain⟨rk,HK⟩:∃rk:Nat,Hid (rk=Zbq tk):=⟨_,Qh rfl⟩;rw[show Zbq tk=rk from HK.out.symm]at iC hp hr6;have i0:(0:Int)<=(e:Int):=by omega
  have i1:(e:Int)<(l.length:Int):=by omega
  have gd:=Qh hp;clear bZ xR hp bu;go_wp2_with fail
  refine iC.out.mono ?_;rintro ee w2⟨rfl,aF⟩;have aY:=hb.trans (aF.mono hb.size);clear x0 x1 x2 x3 iC;by_cases rI:rk<rank
  ·have h9:=gd.out;rw[if_pos rI]at h9;simp only[Qi]at h9;have HF:=Qh h9.symm;have g1:(rk:Int)<(rank:Int):=(by omega);clear h9 rI;go_wp2
   go_ret3
   exact vof HF.out aY
  have h9:=gd.out;rw[if_neg rI]at h9;have g1:¬(rk:Int)<(rank:Int):=by omega
  obtain⟨a,eu,ir⟩:=Zas h9;have dY:=Zb1 l d' _ _ (show okQ l (.marks (e+1) (rk+1)) from af) eu;have HC:=Qh ((IH d' (by omega)).marks (e+1) (rk+1) a af (by omega) eu _ fp w2 ((Zaa sTok).below H0.out aY));unfold VOf at HC;obtain⟨m,nx,o⟩:=a;have uf:=Qh ir;obtain⟨f1,-,f3,-,-⟩:=dY;have mN:Hid (o=0->nx<=l.length/\e+1<nx):=λh=>⟨(f3 h).1,((f3 h).2.2).resolve_left (λh=>h)⟩;have li:inR m=true:=f1;have w1':IntKind.i64.wrap ((e:Int)+1)=((e+1:Nat):Int):=by rw[QF _ (by omega)];omega
  have w2':IntKind.i64.wrap ((rk:Int)+1)=((rk+1:Nat):Int):=by rw[QF _ (by omega)];omega
  try dsimp only at HC uf
  clear h9 eu ir f1 f3 rI gd;go_wp2_with fail
  refine HC.out.mono ?_;rintro ee w3⟨rfl,aC⟩;have aQ:=aY.trans (aC.mono aY.size);clear HC w1' w2';by_cases ho:o=0;rotate_left
  ·have h8:=uf.out;rw[if_pos ho]at h8;simp only[Qi]at h8;have HF:=Qh h8.symm;have g2:(o != 0)=true:=(by simp[ho]);clear h8 ho;go_wp2
   go_ret3
   exact vof HF.out aQ
  subst ho;have h8:=uf.out;rw[if_neg (by simp)]at h8;have rn:=Qh h8;have y1:=dG.out w3 aQ;have hni:=inR_iff.1 bO;have hmi:=inR_iff.1 li;have nn:=Qh (Zlu tk.text n m w3 bC.out (by unfold Zb3;omega) (by unfold Zb3;omega));unfold ZkN at nn;have p7:=Qh (ZfJ tk.text.toList n m);obtain⟨hnx1,hnx2⟩:=mN.out rfl;rcases lg:Zal tk.text.toList n m with⟨x,wf⟩;rw[lg]at nn rn p7;try dsimp only at nn rn p7
  clear h8 lg uf mN;go_wp2_with fail
  refine nn.out.mono ?_;rintro ee w4⟨rfl,aM⟩;have hB4:=aQ.trans (aM.mono aQ.size);have kl:Hid (wf=0->nx<=l.length/\inR x=true):=λ_=>⟨hnx1,p7.out.1⟩;clear nn y1;go_wp2;go_roundw;case rel=>exact⟨d',nx,x,wf,by omega,rfl,rfl,rfl,rn.out,kl.out,hB4⟩
  case measure=>simp[intOf];omega
theorem Zoz (hl:l.length<=100)(hd:d<=1000)(IH:∀d',d'<d->VC l d')(k:Nat)(r:ZbV)(hk:k<=l.length)(h:pv l d (.choice k)=some r)(v:Value)(fp:List Nat)(w:World)(H:(Zaa sTok).R w [v] l fp):
  Calls Tryz.prog 49 #[v,.int .i64 k] w (VOf r w):=by
 have H0:=Qh H;obtain⟨al,cl,rfl,dK,iu,ai⟩:=Zac H;unfold maxLen at iu;have ie:Hid (0<l.length->∃bb ob,al=some ⟨bb,ob,none⟩):=λh=>by obtain⟨b,o,-,e,-⟩:=ai h;exact⟨b,o,e⟩
 clear H ai;cases d with
 | zero=>simp[pv]at h
 | succ d =>
 unfold pv at h;obtain⟨a,eu,ir⟩:=Zas h;have dY:=Zb1 l d _ _ (show okQ l (.marks k 1) from hk) eu;have HC:=Qh ((IH d (by omega)).marks k 1 a hk (by omega) eu _ fp w H0.out);unfold VOf at HC;obtain⟨n,en,ft⟩:=a;have HM:=Qh ir;have sQ:Hid (ft=0->en<=l.length):=λh=>(dY.2.2.1 h).1;try dsimp only at HC HM
 rw[show((1:Nat):Int)=1 from rfl]at HC;clear h eu ir dY;go_enter Tryz.func49,Tryz.ntmps49;go_wp2_with fail
 refine HC.out.mono ?_;rintro e w1⟨rfl,aG⟩;clear HC;by_cases hf:ft=0;rotate_left
 ·have h9:=HM.out;rw[if_neg (λh=>hf h.1)]at h9;simp only[Qi]at h9;have HF:=Qh h9.symm;have g1:(ft != 0)=true:=by simp[hf]
  clear h9 hf;go_wp2
  go_ret3
  exact vof HF.out aG
 subst hf;have oF:=sQ.out rfl;by_cases af:en<l.length;rotate_left
 ·have h9:=HM.out;rw[if_neg (λh=>by rw[ZhO af]at h;exact absurd h.2 (by simp))]at h9;simp only[Qi]at h9;have HF:=Qh h9.symm;have g1:(l.length:Int)<=(en:Int):=by omega
  clear h9 af;go_wp2
  go_ret3
  exact vof HF.out aG
 obtain⟨b1,o1,rfl⟩:=ie.out (by omega);have kj:=Qh ((Zaa sTok).below H0.out aG);obtain⟨xa,xc,xf,x0,x1,x2,x3,xR,-,-⟩:=ZaO kj.out af;have HQ:=ZfK _ l[en] xf w1 63 xR;rw[Zfs,←Zft af]at HQ;have rW:=Qh HQ;have g1:¬(l.length:Int)<=(en:Int):=by omega
 have i0:(0:Int)<=(en:Int):=by omega
 have i1:(en:Int)<(l.length:Int):=by omega
 clear HQ xR;cases hq:Zan l en [63]
 ·have h9:=HM.out;rw[if_neg (λh=>by rw[hq]at h;exact absurd h.2 (by simp))]at h9;simp only[Qi]at h9;have HF:=Qh h9.symm;rw[hq]at rW;clear h9 hq;go_wp2_with fail
  refine rW.out.mono ?_;rintro e w2⟨rfl,aF⟩;go_wp2
  go_ret3
  exact vof HF.out (aG.trans (aF.mono aG.size))
 have h9:=HM.out;rw[if_pos ⟨rfl,hq⟩]at h9;rw[hq]at rW;obtain⟨a,eu,ir⟩:=Zas h9;have dY:=Zb1 l d _ _ (show okQ l (.choice (en+1)) from af) eu;have HCA:=Qh (λ(Q:World) (hQ:Below w.heap.size w Q)=>(IH d (by omega)).choice (en+1) a af eu _ fp Q ((Zaa sTok).below H0.out hQ));unfold VOf at HCA;obtain⟨na,ea,fa⟩:=a;have uf:=Qh ir;have wO:Hid (fa=0->ea<=l.length):=λh=>(dY.2.2.1 h).1;have w1':IntKind.i64.wrap ((en:Int)+1)=((en+1:Nat):Int):=by rw[QF _ (by omega)];omega
 try dsimp only at HCA uf
 clear h9 eu ir dY hq HM;go_wp2_with fail
 refine rW.out.mono ?_;rintro e w2⟨rfl,aF⟩;have aY:=aG.trans (aF.mono aG.size);clear x0 x1 x2 x3 rW;go_wp2_with fail
 refine(HCA.out _ aY).mono ?_;rintro e w3⟨rfl,aC⟩;have aQ:=aY.trans (aC.mono aY.size);clear HCA w1';by_cases mF:fa=0;rotate_left
 ·have h9:=uf.out;rw[if_pos mF]at h9;simp only[Qi]at h9;have HF:=Qh h9.symm;have g2:(fa != 0)=true:=by simp[mF]
  clear h9 mF;go_wp2
  go_ret3
  exact vof HF.out aQ
 subst mF;have hea:=wO.out rfl;have h8:=uf.out;rw[if_neg (by simp)]at h8;by_cases tI:ea<l.length;rotate_left
 ·rw[if_neg (by rw[ZhO tI];simp)]at h8;simp only[Qi]at h8;have HF:=Qh h8.symm;have g2:(l.length:Int)<=(ea:Int):=by omega
  clear h8 tI;go_wp2
  go_ret3
  exact vof HF.out aQ
 have qn:=Qh ((Zaa sTok).below H0.out aQ);obtain⟨ya,yc,yf,y0,y1,y2,y3,yR,-,-⟩:=ZaO qn.out tI;have HQ2:=ZfK _ l[ea] yf w3 58 yR;rw[Zfs,←Zft tI]at HQ2;have rW:=Qh HQ2;have g2:¬(l.length:Int)<=(ea:Int):=by omega
 have j0:(0:Int)<=(ea:Int):=by omega
 have j1:(ea:Int)<(l.length:Int):=by omega
 clear HQ2 yR;cases hq:Zan l ea [58]
 ·rw[if_neg (by rw[hq];simp)]at h8;simp only[Qi]at h8;have HF:=Qh h8.symm;rw[hq]at rW;clear h8 hq;go_wp2_with fail
  refine rW.out.mono ?_;rintro e w4⟨rfl,aM⟩;go_wp2
  go_ret3
  exact vof HF.out (aQ.trans (aM.mono aQ.size))
 rw[if_pos hq]at h8;rw[hq]at rW;obtain⟨b,du,qo⟩:=Zas h8;have oq:=Qh (λ(Q:World) (hQ:Below w.heap.size w Q)=>(IH d (by omega)).choice (ea+1) b tI du _ fp Q ((Zaa sTok).below H0.out hQ));unfold VOf at oq;obtain⟨nb,eb,fb⟩:=b;simp only[Qi]at qo;have HF:=Qh qo.symm;have w2':IntKind.i64.wrap ((ea:Int)+1)=((ea+1:Nat):Int):=by rw[QF _ (by omega)];omega
 try dsimp only at oq HF
 clear h8 du qo hq uf;go_wp2_with fail
 refine rW.out.mono ?_;rintro e w4⟨rfl,aM⟩;have hB4:=aQ.trans (aM.mono aQ.size);clear y0 y1 y2 y3 rW;go_wp2_with fail
 refine(oq.out _ hB4).mono ?_;rintro e w5⟨rfl,bg⟩;have cg:=hB4.trans (bg.mono hB4.size);clear oq w2';by_cases hn:n=0
 ·have HG:Hid (r=(nb,eb,fb)):=by show _=_;rw[HF.out,if_neg (by simp[hn])]
  have g3:(n != 0)=false:=by simp[hn]
  clear HF hn;go_wp2
  go_ret3
  exact vof HG.out cg
 ·have HG:Hid (r=(na,eb,fb)):=by show _=_;rw[HF.out,if_pos hn]
  have g3:(n != 0)=true:=by simp[hn]
  clear HF hn;go_wp2
  go_ret3
  exact vof HG.out cg
theorem spec_VC (hl:l.length<=100):∀d,d<=1000->VC l d:=by
 intro d;induction d using Nat.strongRecOn with
 |
  ind d ih =>
  intro hd;have IH:∀d',d'<d->VC l d':=λd' h=>ih d' h (by omega);exact⟨λk r h1 h2 v fp w H=>one_walk hl hd IH k r h1 h2 v fp w H,λk rank r h1 h3 h2 v fp w H=>ZpS hl hd IH k rank r h1 h3 h2 v fp w H,λk r h1 h2 v fp w H=>Zoz hl hd IH k r h1 h2 v fp w H⟩
theorem Zpj (h:Zam l=false):Za1 l=(0,1):=by unfold Za1;rw[h];rfl
theorem val_go {n:Int}{e:Nat}{f:Int}(h:Zam l=true)(hp:pv l (4*l.length+4) (.choice 0)=some (n,e,f)):Za1 l=if f≠0 then (0,f) else if e≠l.length then (0,1) else (n,0):=by
 unfold Za1;rw[if_pos h,hp]
def ZkO (r:Int × Int)(w:World)(e:Ending)(w':World):Prop:=e=.returned (.tuple #[.int .i64 r.1,.int .i64 r.2])/\Below w.heap.size w w'
theorem ZeL {r:Int × Int}{n c:Int}(h:r=(n,c))(hb:Below w.heap.size w w'):ZkO r w (.returned (.tuple #[.int .i64 n,.int .i64 c])) w':=⟨by rw[h],hb⟩
theorem ZnS (v:Value)(l:List Tok)(fp:List Nat)(w:World)(H:(Zaa sTok).R w [v] l fp):Calls Tryz.prog 21 #[v] w (ZkO (Za1 l) w):=by
 have H0:=Qh H;have HV:=Qh (ZbC v l fp w H);obtain⟨al,cl,rfl,dK,iu,-⟩:=Zac H;unfold maxLen at iu;clear H;go_enter Tryz.func21,Tryz.ntmps21;cases hv:Zam l
 ·have HF:=Qh (Zpj hv);rw[hv]at HV;clear hv;go_wp2_with fail
  refine HV.out.mono ?_;rintro e w2⟨rfl,aF⟩;go_wp2;go_ret2;exact ZeL HF.out aF
 have je:=(Zay hv).1;obtain⟨⟨n,e,f⟩,hp⟩:=Zhz l (4*l.length+4) (.choice 0) (JI _) (by show 4*(l.length-0)+4<=_;omega);have dP:=Qh (val_go hv hp);have dY:=Zb1 l _ _ _ (show okQ l (.choice 0) from JI _) hp;have HC:=Qh (λ(Q:World) (hQ:Below w.heap.size w Q)=>(spec_VC (l:=l) (by omega) (4*l.length+4) (by omega)).choice 0 _ (JI _) hp _ fp Q ((Zaa sTok).below H0.out hQ));unfold VOf at HC;try dsimp only at HC
 rw[show((0:Nat):Int)=0 from rfl]at HC;rw[hv]at HV;clear hv hp dY;go_wp2_with fail
 refine HV.out.mono ?_;rintro ee w2⟨rfl,aF⟩;go_wp2_with fail
 refine(HC.out _ aF).mono ?_;rintro ee w3⟨rfl,aC⟩;have aQ:=aF.trans (aC.mono aF.size);clear HV HC;by_cases hf:f=0;rotate_left
 ·have HF:Hid (Za1 l=(0,f)):=by show _=_;rw[dP.out,if_pos hf]
  have g1:(f != 0)=true:=by simp[hf]
  clear hf;go_wp2;go_ret2;exact ZeL HF.out aQ
 subst hf;by_cases he:e=l.length
 ·have HF:Hid (Za1 l=(n,0)):=by show _=_;rw[dP.out,if_neg (by simp),if_neg (by simp[he])]
  have g1:((e:Int) != (l.length:Int))=false:=by simp[he]
  clear he;go_wp2;go_ret2;exact ZeL HF.out aQ
 ·have HF:Hid (Za1 l=(0,1)):=by show _=_;rw[dP.out,if_neg (by simp),if_pos he]
  have g1:((e:Int) != (l.length:Int))=true:=by simp;omega
  clear he;go_wp2;go_ret2;exact ZeL HF.out aQ
def Zhh (T:List DMacro)(l:List Tok)(w:World)(e:Ending)(w':World):Prop:=e=.returned (.tuple #[.bool (Zb2 T l).1,.bool (Zb2 T l).2])/\Below w.heap.size w w'
theorem ZeA {a b:Bool}(h:Zb2 T l=(a,b))(hb:Below w.heap.size w w'):Zhh T l w (.returned (.tuple #[.bool a,.bool b])) w':=⟨by rw[h],hb⟩
theorem ZoA {l x:List Tok}(h:Za4 T l=(x,true)):Zam x=true:=by
 unfold Za4 at h;split at h
 ·rename_i hv;have:=ZqD (T:=T) hv.2;rw[h]at this;exact this
 ·simp at h
theorem ZjV (vT:Value)(T:List DMacro)(cE:List Nat)(v:Value)(l:List Tok)(fp:List Nat)(w:World)(pW:T.length<=1048576)(pX:∀k,(hk:k<T.length)->ZfX T[k])(hl:l.length<=1048576)(hx:∀k,(hk:k<l.length)->l[k].hidden.length<=2000000)
  (HT:(Zaa sMacro).R w [vT] T cE) (H:(Zaa sTok).R w [v] l fp):Calls Tryz.prog 7 #[vT,v] w (Zhh T l w):=by
 have HC:=Qh (Zh6 vT T cE v l fp w pW pX hl hx HT H);rcases hq:Za4 T l with⟨x,ok⟩;unfold ZkG at HC;rw[hq]at HC;try dsimp only at HC
 have HQ:=Qh hq;clear hq hx hl H;go_enter Tryz.func7,Tryz.ntmps7;go_wp2_with fail
 refine HC.out.mono ?_;rintro e w1⟨v1,f1,rfl,bR,-,cq⟩;clear HC;cases ok
 ·have HF:=Qh (Zel HQ.out);go_wp2;go_ret2;exact ZeA HF.out cq
 have hv:=ZoA HQ.out;have HE:=Qh (Zoy vT T cE v1 x f1 w1 pW pX (by have:=(Zay hv).1;omega) (λk hk=>by have:=(ZjT hv _ (QE hk)).1;omega) ((Zaa sMacro).below HT cq) bR);rcases sk:Zbv T x with⟨y,c⟩;unfold ZnP at HE;rw[sk]at HE;try dsimp only at HE
 have HX:=Qh sk;clear sk bR hv HT pX pW;go_wp2_with fail
 refine HE.out.mono ?_;rintro e w2⟨v2,f2,rfl,bN,-,aF⟩;have aY:=cq.trans (aF.mono cq.size);clear HE;by_cases dm:c=0;rotate_left
 ·have HF:=Qh (Zem HQ.out HX.out dm);have e2:(c != 0)=true:=by simp[dm]
  clear dm;go_wp2;go_ret2;exact ZeA HF.out aY
 subst dm;rcases hp:Za1 y with⟨n,f⟩;have HF:=Qh (Zen HQ.out HX.out hp);have HP:=Qh (ZnS v2 y f2 w2 bN);unfold ZkO at HP;rw[hp]at HP;try dsimp only at HP
 clear hp bN;go_wp2_with fail
 refine HP.out.mono ?_;rintro e w3⟨rfl,aC⟩;have aQ:=aY.trans (aC.mono aY.size);go_wp2;go_ret2;exact ZeA (by rw[HF.out];by_cases h1:n=0 <;> by_cases h2:f=0 <;> simp[h1,h2]) aQ
end Go.Proofs.YtipfpppcbmpjiaaGreat
