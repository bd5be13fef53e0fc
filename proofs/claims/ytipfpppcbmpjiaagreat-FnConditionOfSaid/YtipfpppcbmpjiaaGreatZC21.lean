/- Lemmas. -/
import Derived.Test.YtipfpppcbmpjiaaGreatZC20
set_option linter.unusedVariables false
set_option maxHeartbeats 16000000
set_option maxRecDepth 100000
set_option linter.unusedSimpArgs false
namespace Go.Proofs.YtipfpppcbmpjiaaGreat
open Go.RowKit
def ZlD (eb:Nat)(w:World):Nat:=
 match w.heap[eb]? with
 | some (.cells cs _ _)=>(intOf (cs.getD 1 undef)).toNat
 | _=>0
variable {k:Nat}
theorem EBox.steps {eb:Nat}{vT:Value}{w:World}(h:EBox eb vT k w):ZlD eb w=k:=by
 unfold ZlD;rw[show w.heap[eb]?=some (.cells #[vT,.int .i64 (k:Nat)] 74 (0,0)) from h];simp[intOf]
variable {t:Tok}{T:List DMacro}
theorem exp_go {j s q:Nat}{out r x:List Tok}{m:DMacro}{c:Int}(h:goM T (t::r)=some m)(ua:s<=j)(hx:ZcH (λa k=>Zak T (j-1) k [] a) m (t::r) s=(x,q,c)):
  Zak T j s out (t::r)=(if c=0 then Zak T (j-1) q out x else ([],q,c))/\(c=0->0<s):=by
 cases s with
 |
  zero =>
  unfold ZcH at hx;simp only[QS]at hx;obtain⟨rfl,rfl,rfl⟩:=hx;exact⟨by rw[ZdT h,if_neg (by simp)],λh=>absurd h (by simp)⟩
 |
  succ s =>
  obtain⟨i,rfl⟩:∃i,j=i+1:=⟨j-1,by omega⟩;rw[Nat.add_sub_cancel]at hx ⊢;refine⟨?_,λ_=>by omega⟩;rw[Zn1 h,hx]
theorem ZoB {N:List ByteArray}{n:Nat}(IH:∀j,j<n->ExpI T N j)(hn:n<=1000)(mx:ZaU T=true)(hT:∀m∈T,m.name∈N)(hN:N.length<=5000):ExpI T N n:=by
 intro eb vT cE v l fp s k w hs hk hl hg HB HT sV H he;have xr:=Qh HT;have heb:eb<w.heap.size:=mlt HB;have kV:=Qh mx;have Cn:Hid (ToDo w.heap.size fp (.slice none 0 0) v l fp w):=⟨H,by simp[Value.ownBlock],λb hb=>.inl hb⟩;have gX:=Qh hg;have fs:=Qh HB;obtain⟨al,cl,rfl,-⟩:=Zac H;clear HT H hg HB mx;go_enter Tryz.func39,Tryz.ntmps39;go_wp2;go_loopw [6,7] (λvo vw wr=>∃(j s' kk:Nat) (O:List (Elem Tok)) (W:List Tok) (fpw:List Nat),s'<=j/\j<=n/\kk+s'=100/\W.length<=60/\O.length<=60/\Hid (RowN sTok w.heap.size 32 vo O wr)/\Hid (Own wr w.heap.size (O.flatMap (·.fp)))/\Hid (ToDo w.heap.size fp vo vw W fpw wr)/\Hid (Zak T n s [] l=Zak T j s' (O.map (·.d)) W)/\Hid (∀t∈W,Zfu N t)/\Hid (EBox eb vT kk wr)/\Hid (Kept [eb] w wr)) (λ_ vw wr=>(100-ZlD eb wr)*1000+lenOf vw)
 case atStart=>exact⟨n,s,k,[],l,fp,hs,QA _,hk,hl,by simp,RowN.nil _ _ _ _,Own.nil _ _,Cn.out,rfl,gX.out,fs.out,Kept.refl _ _⟩
 case round =>
  clear Cn fs;obtain⟨j,s',kk,O,W,fpw,ua,yd,yo,hW,hO,jI,qQ,dB,dP,Co,d6,HK⟩:=hrel;obtain⟨ao,co,mQ,-⟩:=jI.out.val;subst mQ;obtain⟨aw,cw,rfl,A8,A9,ef⟩:=Zac dB.out.r;unfold maxLen at A9;cases W with
  |
   nil =>
   have HF:=Qh (dP.out.trans ZbG);clear ef;go_wp2;go_ret2;exact⟨.slice ao O.length co,O,kk,by rw[HF.out];rfl,jI.out,by rw[HF.out],qQ.out,d6.out,λ_=>by rw[HF.out];exact yo,HK.out⟩
  |
   cons t r =>
   obtain⟨bw,ow,-,rfl,-,-,-⟩:=ef (by simp);obtain⟨xa,xc,xf,c0,c1,c2,c3,xR,bu,kT⟩:=ZaO dB.out.r (j:=0) (by simp);simp only[List.getElem_cons_zero,Nat.zero_mul,Q0]at c0 c1 c2 c3 xR;have ls:=Qh kT;have XR:=Qh xR;have vI:Hid (∀U:World,Below wr.heap.size wr U->U.cell? ⟨bw,ow,none⟩=some (.int .i64 t.kind)/\U.cell? ⟨bw,ow+1,none⟩=some (.string t.text)/\U.cell? ⟨bw,ow+2,none⟩=some (.bool t.spaced)/\U.cell? ⟨bw,ow+3,none⟩=some (.slice xa t.hidden.length xc)):=λU hU=>⟨(hU.cell (p:=⟨bw,ow,none⟩) bu).trans c0,(hU.cell (p:=⟨bw,ow+1,none⟩) bu).trans c1,(hU.cell (p:=⟨bw,ow+2,none⟩) bu).trans c2,(hU.cell (p:=⟨bw,ow+3,none⟩) bu).trans c3⟩;have vQ:=Qh (Zlv vT T cE _ (t::r) fpw wr kV.out (by simp) (by omega) (λu hu=>(Co.out u hu).1) ((Zaa sMacro).kept xr.out (λb hb=>by simp only[JA];rintro rfl;exact sV hb) HK.out) dB.out.r);have ei:=Qh dB.out.r;obtain⟨NW,ff⟩:∃NW:Nat,Hid (NW=(t::r).length):=⟨(t::r).length,Qh rfl⟩;rw[show(t::r).length=NW from ff.out.symm]at dB A8 hW vQ ei ⊢;have BH:0<NW:=(by have:=ff.out;rw[QQ]at this;omega);have hNWi:(0:Int)<(NW:Int):=(by omega);obtain⟨NO,fI⟩:∃NO:Nat,Hid (NO=O.length):=⟨O.length,Qh rfl⟩;rw[show O.length=NO from fI.out.symm]at jI dB hO ⊢;have gN:=HK.out.size;have e0:=Qc 0 d6.out;clear xR kT ef c0 c1 c2 c3;go_wp2_with fail
   refine vQ.out.mono ?_;rintro e w3 (⟨hg,rfl,aC⟩ |⟨m,a2,a3,sS,kE,fm,hg,rfl,RM,pZ,aC⟩)
   ·have HG:=Qh hg;have bm:=Zab w3 (.cells #[.string ⟨#[]⟩,.bool false,.slice none 0 0,.slice none 0 0] 56);have aM:=aC.trans (bm.mono aC.size);clear vQ e0 hg;go_upto_region 10 with fail
    generalize (w3.alloc (.cells #[.string ⟨#[]⟩,.bool false,.slice none 0 0,.slice none 0 0] 56))=w4 at *;by_cases oz:NO=60
    ·have HF:=Qh (dP.out.trans (Zbx HG.out (by rw[QH,←fI.out];omega)));have e6:((NO:Int)==60)=true:=(by simp;omega);have jN:=Qh (HK.out.after aM);have kq:=Qh (d6.out.below aM);clear oz;go_wp2;go_ret2;exact⟨_,[],kk,by rw[HF.out];rfl,RowN.nil _ _ _ _,by rw[HF.out];rfl,Own.nil _ _,kq.out,λh=>by rw[HF.out]at h;exact absurd (show(3:Int)=0 from h) (by decide),jN.out⟩
    have e6:((NO:Int)==60)=false:=(by simp;omega);have hNO:NO+1<=60:=(by omega);clear oz;obtain⟨c0,c1,c2,c3⟩:=vI.out w4 aM;have htl:t.hidden.length<=2000000:=(by have:=(Co.out t (by simp)).2.len;omega);have mO:=Qh (Zee _ t xf w4 htl (sTok.below XR.out aM));go_wp2_with fail
    refine mO.out.mono ?_;rintro e w5⟨a3,kE,f3,rfl,R3,O3,-,bg⟩;have eC:=aM.trans (bg.mono aM.size);have hw45:=eC.size;have bl:=Zab w5 (.cells #[.int .i64 t.kind,.string t.text,.bool t.spaced,.slice a3 t.hidden.length kE] 32);have im:=Qh (JS w5 (.cells #[.int .i64 t.kind,.string t.text,.bool t.spaced,.slice a3 t.hidden.length kE] 32));have ju:=eC.trans (bl.mono eC.size);have Cp:=Qh (jI.out.below ju);have Cq:=Qh (qQ.out.grow ju);have uh:=Qh (dB.out.below ju);have XR6:=Qh (sTok.below R3 bl);have OX6:=Qh (O3.grow bl);have pY:=Qh aM.size;have HF3:Hid (∀b∈f3,wr.heap.size<=b):=λb hb=>(by have:=(O3.2 b hb).1;have:=aM.size;omega);have tE:=Qh jI.out.mine;have om:Hid (∀b∈f3,(Value.slice ao NO co).ownBlock≠some b):=λb hb h=>(by have:=(tE.out b h).2;have:=HF3.out b hb;omega);have gt:=Qh (HK.out.after ju);have qH:=Qh (d6.out.below ju);have hw6:=ju.size;clear c0 c1 c2 c3 mO R3 O3 bg bl eC ju bm aC aM;go_upto_region 13 with(at_builtin;refine ZaT (X:=[(⟨[.int .i64 t.kind,.string t.text,.bool t.spaced,.slice a3 t.hidden.length kE],t,f3⟩:Elem Tok)]) ti_tok rfl (by decide) _ rfl (.tmp 40) (.tmp 45) rfl w.heap.size (.slice ao NO co) rfl Cp.out ⟨w5.heap.size,0,none⟩ 1 1 rfl rfl (λx hx=>by obtain rfl:=Qm hx;exact⟨rfl,XR6.out,om.out⟩) (λx hx=>by obtain rfl:=Qm hx;exact ZaX _ _ _ _ XR6.out) (λj u hj=>by rw[ZaZ,QX,cell_of_row _ _ _ _ _ _ im.out];simpa using hj) (by have:=fI.out;unfold maxLen;omega) (by have:=fI.out;omega) (by have:=gt.out.size;omega) ?_;intro v7 w7 eQ dc iA)
    have mH:Hid (Kept [eb] w w7):=⟨dc.os.trans gt.out.os,dc.tape.trans gt.out.tape,dc.output.trans gt.out.output,QZ gt.out.size dc.size,λb hb hn=>(dc.block b (by have:=gt.out.size;omega) (λe=>by have:=(tE.out b e.symm).1;omega)).trans (gt.out.block b hb hn)⟩;have gF:Hid (EBox eb vT kk w7):=(dc.block eb (by have:=gt.out.size;omega) (λe=>by have:=(tE.out eb e.symm).1;omega)).trans qH.out;have fO:=Qh eQ;have HO7:Hid (Own w7 w.heap.size ((O++[(⟨[.int .i64 t.kind,.string t.text,.bool t.spaced,.slice a3 t.hidden.length kE],t,f3⟩:Elem Tok)]).flatMap (·.fp))):=by
     show Own _ _ _;rw[ZfN];have e1:([(⟨[.int .i64 t.kind,.string t.text,.bool t.spaced,.slice a3 t.hidden.length kE],t,f3⟩:Elem Tok)]).flatMap (·.fp)=f3:=(by simp);rw[e1];refine Zcq (Cq.out.app (OX6.out.lower (QZ gN pY.out)) λb hb hx=>?_) (λb hb=>?_) dc
     ·have h1:=qQ.out.lt b hb;have h2:=HF3.out b hx;omega
     ·rcases Qa hb with hb | hb
      ·obtain⟨x,hx,aE⟩:=QO.1 hb;exact jI.out.ap x hx b aE
      ·exact om.out b hb
    have jx:Hid (ToDo w.heap.size fp v7 (.slice (some ⟨bw,ow,none⟩) NW cw) (t::r) fpw w7):=⟨(Zaa sTok).frame (λb aE=>dc.block b (uh.out.lt b aE) (λe=>dB.out.o b aE e.symm)) uh.out.r,λb aE hv=>by
      rcases iA with e | e
      ·exact dB.out.o b aE (by rw[←e];exact hv)
      ·rw[e,Qi]at hv;have:=uh.out.lt b aE;omega,dB.out.l⟩
    obtain⟨a7,c7,pk,-⟩:=eQ.val;rw[show(O++[(⟨[.int .i64 t.kind,.string t.text,.bool t.spaced,.slice a3 t.hidden.length kE],t,f3⟩:Elem Tok)]).length=NO+1 by rw[QC,fI.out];rfl]at pk;subst pk;clear eQ dc iA Cp Cq uh XR6 OX6 im;have o1:(1:Int)<=(NW:Int):=(by omega);have o2:1<=NW:=BH;have o3:1<=cw:=(by omega);have o4:(1:Int)<=(cw:Int):=(by omega);obtain⟨bA,gf,gZ⟩:=Zbp 1 (by have:=ff.out;omega:1<=(t::r).length) jx.out.r;rw[JM,JN,show sTok.m=4 from rfl,Nat.one_mul,List.drop_succ_cons,List.drop_zero]at gf;have ui:Hid (ToDo w.heap.size fp (.slice a7 (NO+1) c7) (.slice (if cw=1 then some ⟨bw,ow,none⟩ else some ⟨bw,ow+4,none⟩) (NW-1) (cw-1)) r bA w7):=⟨gf,λb aE=>jx.out.o b (gZ b aE),λb aE=>jx.out.l b (gZ b aE)⟩;clear gf gZ;have mW:Hid (Zak T n s [] l=Zak T j s' ((O++[(⟨[.int .i64 t.kind,.string t.text,.bool t.spaced,.slice a3 t.hidden.length kE],t,f3⟩:Elem Tok)]).map (·.d)) r):=(by show _=_;rw[dP.out,Za6 HG.out (by rw[QH,←fI.out];omega),QG];rfl);have HGR:Hid (∀u∈r,Zfu N u):=λu hu=>Co.out u (by simp[hu]);have ky:r.length<=60:=(by have:=ff.out;rw[QQ]at this;omega);have oD:(O++[(⟨[.int .i64 t.kind,.string t.text,.bool t.spaced,.slice a3 t.hidden.length kE],t,f3⟩:Elem Tok)]).length<=60:=(by rw[QC,←fI.out];simp;omega);have uj:=Qh gF.out.steps;have uk:=Qh d6.out.steps;by_cases h1:cw=1
    ·subst h1;rw[if_pos rfl]at ui;obtain rfl:NW=1:=(by omega);clear o3 o4;go_wp2;go_roundw;case rel=>exact⟨j,s',kk,_,r,bA,ua,yd,yo,ky,oD,fO,HO7,ui,mW,HGR,gF,mH⟩
     case measure=>rw[uj.out,uk.out];simp[lenOf] <;> omega
    ·rw[if_neg h1]at ui;go_wp2;go_roundw;case rel=>exact⟨j,s',kk,_,r,bA,ua,yd,yo,ky,oD,fO,HO7,ui,mW,HGR,gF,mH⟩
     case measure=>rw[uj.out,uk.out];simp[lenOf] <;> omega
   ·have bm:=Zab w3 (.cells #[.string m.name,.bool m.function,.slice a2 m.params.length sS,.slice a3 m.body.length kE] 56);have fE:=aC.trans (bm.mono aC.size);have uc:=Qh (JS w3 (.cells #[.string m.name,.bool m.function,.slice a2 m.params.length sS,.slice a3 m.body.length kE] 56));have BI:=Qh (sMacro.below RM bm);have HG:=Qh hg;have hmT:=go_in hg;have sT:Hid (Zaq m=true/\m.name∈N):=⟨(ZgO kV.out).2.1 m hmT,hT m hmT⟩;have kw:Hid (m.function=true->∃h1:1<(t::r).length,isM (t::r)[1] [40]=true):=λhf=>by
     obtain⟨hr,h2⟩:=Zph hg hf;exact⟨by simpa using hr,h2⟩
    have yV:Hid (eb∉fm):=λh=>sV (pZ _ h);have jN:=Qh (HK.out.after fE);have kq:=Qh (d6.out.below fE);have Cr:=Qh (dB.out.below fE);have yp:=Qh (jI.out.below fE);have ul:=Qh (qQ.out.grow fE);have hw4:=fE.size;clear vQ e0 hg hmT RM pZ bm aC fE;go_upto_region 6 with fail
    obtain⟨mb,zb⟩:∃mb:Nat,Hid (mb=w3.heap.size):=⟨_,Qh rfl⟩;generalize (w3.alloc (.cells #[.string m.name,.bool m.function,.slice a2 m.params.length sS,.slice a3 m.body.length kE] 56))=w4 at *;rw[show w3.heap.size=mb from zb.out.symm]at uc ⊢;obtain⟨m0,m1,m2,m3⟩:=Q4 uc.out;have HEB:Hid (eb∉fpw):=λh=>by
     rcases dB.out.l _ h with h | h
     ·exact he h
     ·omega
    have sd:=Qh (Zrd (T:=T) (N:=N) (n:=j-1) hN eb vT cE _ m fm _ (t::r) fpw s' kk w4 (λh=>IH (j-1) (by omega)) (by omega) yo (by simp) (by rw[←ff.out];exact hW) Co.out sT.out.1 sT.out.2 kw.out kq.out ((Zaa sMacro).kept xr.out (λb hb=>by simp only[JA];rintro rfl;exact sV hb) jN.out) sV BI.out yV.out Cr.out.r HEB.out);have Cs:=Qh (Zrc (T:=T) hT hN sT.out.2 (by rw[←ff.out];exact hW) (by simp) Co.out (j-1) s');rcases hx:ZcH (λa k=>Zak T (j-1) k [] a) m (t::r) s' with⟨x,q,c⟩;unfold StepOf at sd;rw[hx]at sd Cs;try dsimp only at sd
    have HXG:=Qh (exp_go (out:=O.map (·.d)) HG.out ua hx);clear hx Cr BI uc;go_wp2_with fail
    refine sd.out.mono ?_;rintro e w5⟨v5,f5,k5,rfl,R5,g5,vP,fg,K5⟩;obtain⟨a5,c5,rfl,-⟩:=Zac R5;have nk:=Qh (jN.out.trans K5);have lb:=Qh vP;clear m0 m1 m2 m3 sd vP;by_cases dm:c=0;rotate_left
    ·have HF:Hid (Zak T n s [] l=([],q,c)):=(by show _=_;rw[dP.out,HXG.out.1,if_neg dm]);have e2:(c != 0)=true:=(by simp[dm]);have Ck:=Qh dm;clear dm fg R5 g5 K5;go_wp2;go_ret2;exact⟨_,[],k5,by rw[HF.out];rfl,RowN.nil _ _ _ _,by rw[HF.out];rfl,Own.nil _ _,lb.out,λh=>by rw[HF.out]at h;exact absurd h Ck.out,nk.out⟩
    subst dm;have pa:k5+q=100:=fg rfl;have iD:=HXG.out.2 rfl;have si:q<=s'-1:=Cs.out.2.2;have hx60:x.length<=60:=Cs.out.2.1;have ru:Hid (∀u∈x,Zfu N u):=Cs.out.1;have mW:Hid (Zak T n s [] l=Zak T (j-1) q (O.map (·.d)) x):=(by show _=_;rw[dP.out,HXG.out.1,if_pos rfl]);have nL:=Qh (yp.out.kept K5 (λg hg=>by simp only[JA];have:=(yp.out.mine g hg).1;omega) (λy hy b hb=>by simp only[JA];have:=(ul.out.2 b (QO.2 ⟨y,hy,hb⟩)).1;omega));have HOO5:=Qh (ul.out.kept (λb hb=>by simp only[JA];have:=(ul.out.2 b hb).1;omega) K5)
    have jv:Hid (ToDo w.heap.size fp (.slice ao NO co) (.slice a5 x.length c5) x f5 w5):=⟨R5,λb hb hv=>by
      rcases g5 b hb with h | h
      ·exact dB.out.o b h hv
      ·have:=(jI.out.mine b hv).2;omega,λb hb=>by
      rcases g5 b hb with h | h
      ·exact dB.out.l b h
      ·exact .inr (by omega)⟩
    have uj:=Qh lb.out.steps;have uk:=Qh d6.out.steps;have hO5:O.length<=60:=(by rw[←fI.out];exact hO);clear R5 g5 K5 fg Cs HXG yp ul;go_wp2;go_roundw;case rel=>exact⟨j-1,q,k5,O,x,f5,by omega,by omega,pa,hx60,hO5,nL,HOO5,jv,mW,ru,lb,nk⟩
    case measure=>rw[uj.out,uk.out];simp[lenOf];omega
theorem ZoC {N:List ByteArray}(mx:ZaU T=true)(hT:∀m∈T,m.name∈N)(hN:N.length<=5000):∀n,n<=1000->ExpI T N n:=by
 intro n;induction n using Nat.strongRecOn with
 | ind n ih=>exact λhn=>ZoB (λj hj=>ih j hj (by omega)) hn mx hT hN
theorem exp_bad (T:List DMacro):∀(n:Nat) (w:List Tok) (s:Nat) (out:List Tok),(Zak T n s out w).2.2≠0->(Zak T n s out w).1=[]:=by
 intro n;induction n with
 |
  zero =>
  intro w;induction w with
  | nil=>intro s out h;rw[ZbG]at h;exact absurd rfl h
  |
   cons t r ih =>
   intro s out h;cases hg:goM T (t::r) with
   |
    none =>
    by_cases hl:60<out.length+1
    ·rw[Zbx hg hl]
    ·rw[Za6 hg hl]at h ⊢;exact ih s _ h
   | some m=>rw[Zak,hg]
 |
  succ n ihn =>
  intro w;induction w with
  | nil=>intro s out h;rw[ZbG]at h;exact absurd rfl h
  |
   cons t r ih =>
   intro s out h;cases hg:goM T (t::r) with
   |
    none =>
    by_cases hl:60<out.length+1
    ·rw[Zbx hg hl]
    ·rw[Za6 hg hl]at h ⊢;exact ih s _ h
   |
    some m =>
    cases s with
    | zero=>rw[ZdT hg]
    |
     succ s =>
     rw[Zn1 hg]at h ⊢;split
     ·rename_i h2;rw[if_pos h2]at h;exact ihn _ _ _ h
     ·rfl
def ZlE (r:List Tok × Int)(w:World)(e:Ending)(w':World):Prop:=
 ∃(v:Value) (fp:List Nat),e=.returned (.tuple #[v,.int .i64 r.2])/\(Zaa sTok).R w' [v] r.1 fp/\Own w' w.heap.size fp/\Below w.heap.size w w'
theorem ZkT {r:List Tok × Int}{c:Int}{w W:World}(h:r=([],c))(hb:Below w.heap.size w W):ZlE r w (.returned (.tuple #[.slice none 0 0,.int .i64 c])) W:=
 ⟨_,[],by rw[h],by rw[h];exact Zao _ _ _ _ (by simp),Own.nil _ _,hb⟩
theorem ZoD (vT:Value)(T:List DMacro)(cE:List Nat)(v:Value)(l:List Tok)(fp:List Nat)(w:World)(HT:(Zaa sMacro).R w [vT] T cE)(H:(Zaa sTok).R w [v] l fp):Calls Tryz.prog 17 #[vT,v] w (ZlE (Zbv T l) w):=by
 have gg:=Qh (ZgE vT T cE w HT);have ip:=Qh (λ(U:World) (hU:Below w.heap.size w U)=>ZbZ v l fp U ((Zaa sTok).below H hU));have mP:=Qh HT;have xB:=Qh H;have d7:=Qh ((Zaa sMacro).lt HT);have gR:=Qh ((Zaa sTok).lt H);obtain⟨aT,cT,rfl,-⟩:=Zac HT;obtain⟨al,cl,rfl,-⟩:=Zac H;clear HT H;go_enter Tryz.func17,Tryz.ntmps17;cases ht:ZaU T
 ·have HF:=Qh (ZfZ (T:=T) (l:=l) (λh=>by rw[ht]at h;exact absurd h.1 (by simp)));rw[ht]at gg;clear ht ip;go_wp2_with fail
  refine gg.out.mono ?_;rintro e w3⟨rfl,aC⟩;go_wp2;go_ret2;exact ZkT HF.out aC
 cases hv:Zam l
 ·have HF:=Qh (ZfZ (T:=T) (l:=l) (λh=>by rw[hv]at h;exact absurd h.2 (by simp)));rw[ht]at gg;rw[hv]at ip;clear ht hv;go_wp2_with fail
  refine gg.out.mono ?_;rintro e w3⟨rfl,aC⟩;go_wp2_with fail
  refine(ip.out w3 aC).mono ?_;rintro e w4⟨rfl,aM⟩;go_wp2;go_ret2;exact ZkT HF.out (aC.trans (aM.mono aC.size))
 have iq:Hid (∀(eb:Nat) (W:World),Below w.heap.size w W->w.heap.size<=eb->EBox eb (.slice aT T.length cT) 0 W->Calls Tryz.prog 39 #[.pointer (some ⟨eb,0,none⟩),.slice al l.length cl] W (MineX eb (.slice aT T.length cT) (Zak T 100 100 [] l) W)):=λeb W hW eD hB =>
  ZoC (T:=T) (N:=Zfr T l) ht (λm hm=>List.mem_append.2 (.inl (List.mem_map.2 ⟨m,hm,rfl⟩))) (ZiE ht hv) 100 (by omega) eb _ cE _ l fp 100 0 W (QA _) (by omega) (Zay hv).1 (λt ht'=>⟨Tx.toks hv t ht',ZjU hv t ht'⟩) hB ((Zaa sMacro).below mP.out hW) (λh=>by have:=d7.out _ h;omega) ((Zaa sTok).below xB.out hW) (λh=>by have:=gR.out _ h;omega)
 have lr:Hid (Zbv T l=((Zak T 100 100 [] l).1,(Zak T 100 100 [] l).2.2)):=by
  show _=_;unfold Zbv;rw[if_pos ⟨ht,hv⟩];split
  ·rename_i h;rw[h]
  ·rename_i h;rw[exp_bad T 100 l 100 [] h]
 rw[ht]at gg;rw[hv]at ip;rcases hq:Zak T 100 100 [] l with⟨x,lf,c⟩;unfold MineX at iq;rw[hq]at iq lr;try dsimp only at iq lr
 clear ht hv hq;go_wp2_with fail
 refine gg.out.mono ?_;rintro e w3⟨rfl,aC⟩;go_wp2_with fail
 refine(ip.out w3 aC).mono ?_;rintro e w4⟨rfl,aM⟩;have hb:=aC.trans (aM.mono aC.size);have ba:=Zab w4 (.cells #[.slice aT T.length cT,.int .i64 0] 74);have oX:=Qh (JS w4 (.cells #[.slice aT T.length cT,.int .i64 0] 74));have bg:=hb.trans (ba.mono hb.size);have HC:=Qh (iq.out w4.heap.size _ bg hb.size oX.out);clear iq gg ip aC aM ba;go_wp2_with fail
 refine HC.out.mono ?_;rintro e w6⟨vx,L,k6,rfl,RL,mV,OL,-,-,K6⟩;obtain⟨fx,rx,-,ox⟩:=RL.read;rw[mV]at rx;have tD:=Qh rx;have vi:=Qh ((ox OL).lower (lo':=w.heap.size) bg.size);have bq:=bg.trans (K6.below (λb aE=>by rw[Qm aE];exact hb.size) bg.size);obtain⟨ax,cx,rfl,-⟩:=Zac rx;clear RL mV OL K6 rx ox HC oX;go_wp2;go_ret2;exact⟨_,fx,by rw[lr.out];rfl,by rw[lr.out];exact tD.out,vi.out,bq⟩
def marksV:List (List UInt8):=[[43],[45],[42],[47],[37],[61,61],[33,61],[60],[62],[60,61],[62,61],[38,38],[124,124]]
theorem rank_in:∀s∈marksV,Zba s≠0:=by decide
variable {s:List UInt8}
theorem Zre (h:Zba s=0):∀x∈marksV,(s==x)=false:=λx hx=>by
 cases e:(s==x)
 ·rfl
 ·rw[beq_iff_eq]at e;subst e;exact absurd h (rank_in _ hx)
theorem ZgQ (s:ByteArray)(w:World):Calls Tryz.prog 93 #[.string s] w λe w'=>e=.returned (.int .i64 (Zba s.toList:Nat))/\w'=w:=by
 by_cases h0:Zba s.toList=0
 ·have HF:=Qh h0;have hn:=Zre h0;clear h0;have n0:(s.toList==[43])=false:=hn _ (by decide);have n1:(s.toList==[45])=false:=hn _ (by decide);have n2:(s.toList==[42])=false:=hn _ (by decide);have n3:(s.toList==[47])=false:=hn _ (by decide);have n4:(s.toList==[37])=false:=hn _ (by decide);have n5:(s.toList==[61,61])=false:=hn _ (by decide);have n6:(s.toList==[33,61])=false:=hn _ (by decide);have n7:(s.toList==[60])=false:=hn _ (by decide);have n8:(s.toList==[62])=false:=hn _ (by decide);have n9:(s.toList==[60,61])=false:=hn _ (by decide);have n10:(s.toList==[62,61])=false:=hn _ (by decide);have n11:(s.toList==[38,38])=false:=hn _ (by decide);have n12:(s.toList==[124,124])=false:=hn _ (by decide);clear hn;go_enter Tryz.func93,Tryz.ntmps93;go_wp2;go_ret;exact⟨by rw[HF.out];rfl,rfl⟩
 have HW:=ZgP h0;clear h0;rcases HW with h | h | h | h | h | h | h | h | h | h | h | h | h
 ·have bi:=ZaH h;subst bi;clear h;go_enter Tryz.func93,Tryz.ntmps93;go_wp2;go_ret;exact⟨by rw[QB];rfl,rfl⟩
 ·have bi:=ZaH h;subst bi;clear h;go_enter Tryz.func93,Tryz.ntmps93;go_wp2;go_ret;exact⟨by rw[QB];rfl,rfl⟩
 ·have bi:=ZaH h;subst bi;clear h;go_enter Tryz.func93,Tryz.ntmps93;go_wp2;go_ret;exact⟨by rw[QB];rfl,rfl⟩
 ·have bi:=ZaH h;subst bi;clear h;go_enter Tryz.func93,Tryz.ntmps93;go_wp2;go_ret;exact⟨by rw[QB];rfl,rfl⟩
 ·have bi:=ZaH h;subst bi;clear h;go_enter Tryz.func93,Tryz.ntmps93;go_wp2;go_ret;exact⟨by rw[QB];rfl,rfl⟩
 ·have bi:=ZaH h;subst bi;clear h;go_enter Tryz.func93,Tryz.ntmps93;go_wp2;go_ret;exact⟨by rw[QB];rfl,rfl⟩
 ·have bi:=ZaH h;subst bi;clear h;go_enter Tryz.func93,Tryz.ntmps93;go_wp2;go_ret;exact⟨by rw[QB];rfl,rfl⟩
 ·have bi:=ZaH h;subst bi;clear h;go_enter Tryz.func93,Tryz.ntmps93;go_wp2;go_ret;exact⟨by rw[QB];rfl,rfl⟩
 ·have bi:=ZaH h;subst bi;clear h;go_enter Tryz.func93,Tryz.ntmps93;go_wp2;go_ret;exact⟨by rw[QB];rfl,rfl⟩
 ·have bi:=ZaH h;subst bi;clear h;go_enter Tryz.func93,Tryz.ntmps93;go_wp2;go_ret;exact⟨by rw[QB];rfl,rfl⟩
 ·have bi:=ZaH h;subst bi;clear h;go_enter Tryz.func93,Tryz.ntmps93;go_wp2;go_ret;exact⟨by rw[QB];rfl,rfl⟩
 ·have bi:=ZaH h;subst bi;clear h;go_enter Tryz.func93,Tryz.ntmps93;go_wp2;go_ret;exact⟨by rw[QB];rfl,rfl⟩
 ·have bi:=ZaH h;subst bi;clear h;go_enter Tryz.func93,Tryz.ntmps93;go_wp2;go_ret;exact⟨by rw[QB];rfl,rfl⟩
theorem Zd1 (n:Int)(w:World):Calls Tryz.prog 126 #[.int .i64 n] w λe w'=>e=.returned (.bool (inR n))/\w'=w:=by
 go_enter Tryz.func126,Tryz.ntmps126;by_cases h1:-1000000<=n
 ·by_cases h2:n<=1000000
  ·have HF:Hid (inR n=true):=inR_iff.2 ⟨h1,h2⟩;have e1:decide (-1000000<=n)=true:=JR h1;have e2:decide (n<=1000000)=true:=JR h2;clear h1 h2;go_wp2;go_ret;exact⟨by rw[HF.out] <;> rfl,rfl⟩
  ·have HF:Hid (inR n=false):=by
    cases e:inR n
    ·exact rfl
    ·exact absurd (inR_iff.1 e).2 h2
   have e1:decide (-1000000<=n)=true:=JR h1;have e2:decide (n<=1000000)=false:=JQ h2;clear h1 h2;go_wp2;go_ret;exact⟨by rw[HF.out] <;> rfl,rfl⟩
 ·have HF:Hid (inR n=false):=by
   cases e:inR n
   ·exact rfl
   ·exact absurd (inR_iff.1 e).1 h1
  have e1:decide (-1000000<=n)=false:=JQ h1;clear h1;go_wp2;go_ret;exact⟨by rw[HF.out] <;> rfl,rfl⟩
theorem Zb9 (b:Bool)(w:World):Calls Tryz.prog 124 #[.bool b] w λe w'=>e=.returned (.int .i64 (ZaV b))/\w'=w:=by
 cases b
 ·go_enter Tryz.func124,Tryz.ntmps124;go_wp2;go_ret;exact⟨rfl,rfl⟩
 ·go_enter Tryz.func124,Tryz.ntmps124;go_wp2;go_ret;exact⟨rfl,rfl⟩
def holT (s:List UInt8)(a b:Int):Bool:=
 if s=[61,61] then decide (a=b) else if s=[33,61] then decide (a≠b) else if s=[60] then decide (a<b) else if s=[62] then decide (b<a)
 else if s=[60,61] then decide (a<=b) else if s=[62,61] then decide (b<=a) else if s=[38,38] then decide (a≠0) && decide (b≠0) else decide (a≠0) || decide (b≠0)
def ZdD (s:List UInt8):Prop:=s=[61,61]\/s=[33,61]\/s=[60]\/s=[62]\/s=[60,61]\/s=[62,61]\/s=[38,38]\/s=[124,124]
variable {a b:Int}
theorem ZfQ (h:ZdD s):opM s a b=ZaV (holT s a b):=by
 rcases h with h | h | h | h | h | h | h | h <;> subst h <;> rfl
theorem Zbs {s:ByteArray}{l:List UInt8}{w:World}{c:Bool}(h:s.toList=l)(hc:holT l a b=c):(Ending.returned (.bool c)=.returned (.bool (holT s.toList a b)))/\w=w:=⟨by rw[h,hc],rfl⟩
theorem ZcX (s:ByteArray)(a b:Int)(w:World)(h:ZdD s.toList):Calls Tryz.prog 142 #[.string s,.int .i64 a,.int .i64 b] w λe w'=>e=.returned (.bool (holT s.toList a b))/\w'=w:=by
 rcases h with h | h | h | h | h | h | h | h
 ·have bi:=ZaH h;subst bi;clear h;by_cases hq:a=b
  ·have HF:Hid (holT [61,61] a b=true):=(by show _=_;simp[holT,hq] <;> omega);have e1:(a==b)=true:=(by simp[hq]);clear hq;go_enter Tryz.func142,Tryz.ntmps142;go_wp2;go_ret;exact Zbs (by rw[QB]) HF.out
  ·have HF:Hid (holT [61,61] a b=false):=(by show _=_;simp[holT,hq] <;> omega);have e1:(a==b)=false:=(by simp[hq]);clear hq;go_enter Tryz.func142,Tryz.ntmps142;go_wp2;go_ret;exact Zbs (by rw[QB]) HF.out
 ·have bi:=ZaH h;subst bi;clear h;by_cases hq:a=b
  ·have HF:Hid (holT [33,61] a b=false):=(by show _=_;simp[holT,hq] <;> omega);have e1:(a != b)=false:=(by simp[hq]);clear hq;go_enter Tryz.func142,Tryz.ntmps142;go_wp2;go_ret;exact Zbs (by rw[QB]) HF.out
  ·have HF:Hid (holT [33,61] a b=true):=(by show _=_;simp[holT,hq] <;> omega);have e1:(a != b)=true:=(by simp[hq]);clear hq;go_enter Tryz.func142,Tryz.ntmps142;go_wp2;go_ret;exact Zbs (by rw[QB]) HF.out
 ·have bi:=ZaH h;subst bi;clear h;by_cases hq:a<b
  ·have HF:Hid (holT [60] a b=true):=(by show _=_;simp[holT,hq] <;> omega);have e1:decide (a<b)=true:=(by simp[hq]);clear hq;go_enter Tryz.func142,Tryz.ntmps142;go_wp2;go_ret;exact Zbs (by rw[QB]) HF.out
  ·have HF:Hid (holT [60] a b=false):=(by show _=_;simp[holT,hq] <;> omega);have e1:decide (a<b)=false:=(by simp[hq]);clear hq;go_enter Tryz.func142,Tryz.ntmps142;go_wp2;go_ret;exact Zbs (by rw[QB]) HF.out
 ·have bi:=ZaH h;subst bi;clear h;by_cases hq:b<a
  ·have HF:Hid (holT [62] a b=true):=(by show _=_;simp[holT,hq] <;> omega);have e1:decide (b<a)=true:=(by simp[hq]);clear hq;go_enter Tryz.func142,Tryz.ntmps142;go_wp2;go_ret;exact Zbs (by rw[QB]) HF.out
  ·have HF:Hid (holT [62] a b=false):=(by show _=_;simp[holT,hq] <;> omega);have e1:decide (b<a)=false:=(by simp[hq]);clear hq;go_enter Tryz.func142,Tryz.ntmps142;go_wp2;go_ret;exact Zbs (by rw[QB]) HF.out
 ·have bi:=ZaH h;subst bi;clear h;by_cases hq:a<=b
  ·have HF:Hid (holT [60,61] a b=true):=(by show _=_;simp[holT,hq] <;> omega);have e1:decide (a<=b)=true:=(by simp[hq]);clear hq;go_enter Tryz.func142,Tryz.ntmps142;go_wp2;go_ret;exact Zbs (by rw[QB]) HF.out
  ·have HF:Hid (holT [60,61] a b=false):=(by show _=_;simp[holT,hq] <;> omega);have e1:decide (a<=b)=false:=(by simp[hq]);clear hq;go_enter Tryz.func142,Tryz.ntmps142;go_wp2;go_ret;exact Zbs (by rw[QB]) HF.out
 ·have bi:=ZaH h;subst bi;clear h;by_cases hq:b<=a
  ·have HF:Hid (holT [62,61] a b=true):=(by show _=_;simp[holT,hq] <;> omega);have e1:decide (b<=a)=true:=(by simp[hq]);clear hq;go_enter Tryz.func142,Tryz.ntmps142;go_wp2;go_ret;exact Zbs (by rw[QB]) HF.out
  ·have HF:Hid (holT [62,61] a b=false):=(by show _=_;simp[holT,hq] <;> omega);have e1:decide (b<=a)=false:=(by simp[hq]);clear hq;go_enter Tryz.func142,Tryz.ntmps142;go_wp2;go_ret;exact Zbs (by rw[QB]) HF.out
 ·have bi:=ZaH h;subst bi;clear h;by_cases hq:a=0
  ·have e1:(a != 0)=false:=(by simp[hq]);by_cases cU:b=0
   ·have e2:(b != 0)=false:=(by simp[cU]);have HF:Hid (holT [38,38] a b=false):=(by show _=_;simp[holT,hq,cU]);clear hq cU;go_enter Tryz.func142,Tryz.ntmps142;go_wp2;go_ret;exact Zbs (by rw[QB]) HF.out
   ·have e2:(b != 0)=true:=(by simp[cU]);have HF:Hid (holT [38,38] a b=false):=(by show _=_;simp[holT,hq,cU]);clear hq cU;go_enter Tryz.func142,Tryz.ntmps142;go_wp2;go_ret;exact Zbs (by rw[QB]) HF.out
  ·have e1:(a != 0)=true:=(by simp[hq]);by_cases cU:b=0
   ·have e2:(b != 0)=false:=(by simp[cU]);have HF:Hid (holT [38,38] a b=false):=(by show _=_;simp[holT,hq,cU]);clear hq cU;go_enter Tryz.func142,Tryz.ntmps142;go_wp2;go_ret;exact Zbs (by rw[QB]) HF.out
   ·have e2:(b != 0)=true:=(by simp[cU]);have HF:Hid (holT [38,38] a b=true):=(by show _=_;simp[holT,hq,cU]);clear hq cU;go_enter Tryz.func142,Tryz.ntmps142;go_wp2;go_ret;exact Zbs (by rw[QB]) HF.out
 ·have bi:=ZaH h;subst bi;clear h;by_cases hq:a=0
  ·have e1:(a != 0)=false:=(by simp[hq]);by_cases cU:b=0
   ·have e2:(b != 0)=false:=(by simp[cU]);have HF:Hid (holT [124,124] a b=false):=(by show _=_;simp[holT,hq,cU]);clear hq cU;go_enter Tryz.func142,Tryz.ntmps142;go_wp2;go_ret;exact Zbs (by rw[QB]) HF.out
   ·have e2:(b != 0)=true:=(by simp[cU]);have HF:Hid (holT [124,124] a b=true):=(by show _=_;simp[holT,hq,cU]);clear hq cU;go_enter Tryz.func142,Tryz.ntmps142;go_wp2;go_ret;exact Zbs (by rw[QB]) HF.out
  ·have e1:(a != 0)=true:=(by simp[hq]);by_cases cU:b=0
   ·have e2:(b != 0)=false:=(by simp[cU]);have HF:Hid (holT [124,124] a b=true):=(by show _=_;simp[holT,hq,cU]);clear hq cU;go_enter Tryz.func142,Tryz.ntmps142;go_wp2;go_ret;exact Zbs (by rw[QB]) HF.out
   ·have e2:(b != 0)=true:=(by simp[cU]);have HF:Hid (holT [124,124] a b=true):=(by show _=_;simp[holT,hq,cU]);clear hq cU;go_enter Tryz.func142,Tryz.ntmps142;go_wp2;go_ret;exact Zbs (by rw[QB]) HF.out
theorem ZfT (s:ByteArray)(a b:Int)(w:World)(h0:Zba s.toList≠0)(ha:inR a=true)(hb:inR b=true)(hz:s.toList=[47]\/s.toList=[37]->b≠0):
  Calls Tryz.prog 127 #[.string s,.int .i64 a,.int .i64 b] w λe w'=>e=.returned (.int .i64 (opM s.toList a b))/\w'=w:=by
 have yh:=inR_iff.1 ha;have nE:=inR_iff.1 hb;have HW:=ZgP h0;clear h0 ha hb;rcases HW with h | h | h | h | h | h | h | h | h | h | h | h | h
 ·have bi:=ZaH h;subst bi;clear h hz;go_enter Tryz.func127,Tryz.ntmps127;go_wp2;go_ret;exact⟨by rw[QB];rfl,rfl⟩
 ·have bi:=ZaH h;subst bi;clear h hz;go_enter Tryz.func127,Tryz.ntmps127;go_wp2;go_ret;exact⟨by rw[QB];rfl,rfl⟩
 ·have bi:=ZaH h;subst bi;have li:-1000000000000<=a*b/\a*b<=1000000000000:=Zmq yh nE;clear h hz;go_enter Tryz.func127,Tryz.ntmps127;go_wp2;go_ret;exact⟨by rw[QB];rfl,rfl⟩
 ·have bi:=ZaH h;subst bi;have h0:b≠0:=hz (.inl h);have hq:=Zmr yh nE h0;have e0:(b==0)=false:=by simp[h0]
  clear h hz;go_enter Tryz.func127,Tryz.ntmps127;go_wp2;go_ret;exact⟨by rw[QB];rfl,rfl⟩
 ·have bi:=ZaH h;subst bi;have h0:b≠0:=hz (.inr h);have hq:=Zms yh nE h0;have e0:(b==0)=false:=by simp[h0]
  clear h hz;go_enter Tryz.func127,Tryz.ntmps127;go_wp2;go_ret;exact⟨by rw[QB];rfl,rfl⟩
 ·have bi:=ZaH h;subst bi;have hc:ZdD (⟨#[61,61]⟩:ByteArray).toList:=by rw[QB];unfold ZdD;simp
  have HH:=Qh (ZcX ⟨#[61,61]⟩ a b w hc);have HO:=Qh (ZfQ (a:=a) (b:=b) hc);generalize holT (⟨#[61,61]⟩:ByteArray).toList a b=c at HH HO;clear h hz hc;go_enter Tryz.func127,Tryz.ntmps127;go_wp2_with fail
  refine HH.out.mono ?_;rintro e w2⟨rfl,rfl⟩;go_wp2_with fail
  refine(Zb9 c _).mono ?_;rintro e w3⟨rfl,rfl⟩;go_wp2;go_ret;exact⟨by rw[HO.out] <;> rfl,rfl⟩
 ·have bi:=ZaH h;subst bi;have hc:ZdD (⟨#[33,61]⟩:ByteArray).toList:=by rw[QB];unfold ZdD;simp
  have HH:=Qh (ZcX ⟨#[33,61]⟩ a b w hc);have HO:=Qh (ZfQ (a:=a) (b:=b) hc);generalize holT (⟨#[33,61]⟩:ByteArray).toList a b=c at HH HO;clear h hz hc;go_enter Tryz.func127,Tryz.ntmps127;go_wp2_with fail
  refine HH.out.mono ?_;rintro e w2⟨rfl,rfl⟩;go_wp2_with fail
  refine(Zb9 c _).mono ?_;rintro e w3⟨rfl,rfl⟩;go_wp2;go_ret;exact⟨by rw[HO.out] <;> rfl,rfl⟩
 ·have bi:=ZaH h;subst bi;have hc:ZdD (⟨#[60]⟩:ByteArray).toList:=by rw[QB];unfold ZdD;simp
  have HH:=Qh (ZcX ⟨#[60]⟩ a b w hc);have HO:=Qh (ZfQ (a:=a) (b:=b) hc);generalize holT (⟨#[60]⟩:ByteArray).toList a b=c at HH HO;clear h hz hc;go_enter Tryz.func127,Tryz.ntmps127;go_wp2_with fail
  refine HH.out.mono ?_;rintro e w2⟨rfl,rfl⟩;go_wp2_with fail
  refine(Zb9 c _).mono ?_;rintro e w3⟨rfl,rfl⟩;go_wp2;go_ret;exact⟨by rw[HO.out] <;> rfl,rfl⟩
 ·have bi:=ZaH h;subst bi;have hc:ZdD (⟨#[62]⟩:ByteArray).toList:=by rw[QB];unfold ZdD;simp
  have HH:=Qh (ZcX ⟨#[62]⟩ a b w hc);have HO:=Qh (ZfQ (a:=a) (b:=b) hc);generalize holT (⟨#[62]⟩:ByteArray).toList a b=c at HH HO;clear h hz hc;go_enter Tryz.func127,Tryz.ntmps127;go_wp2_with fail
  refine HH.out.mono ?_;rintro e w2⟨rfl,rfl⟩;go_wp2_with fail
  refine(Zb9 c _).mono ?_;rintro e w3⟨rfl,rfl⟩;go_wp2;go_ret;exact⟨by rw[HO.out] <;> rfl,rfl⟩
 ·have bi:=ZaH h;subst bi;have hc:ZdD (⟨#[60,61]⟩:ByteArray).toList:=by rw[QB];unfold ZdD;simp
  have HH:=Qh (ZcX ⟨#[60,61]⟩ a b w hc);have HO:=Qh (ZfQ (a:=a) (b:=b) hc);generalize holT (⟨#[60,61]⟩:ByteArray).toList a b=c at HH HO;clear h hz hc;go_enter Tryz.func127,Tryz.ntmps127;go_wp2_with fail
  refine HH.out.mono ?_;rintro e w2⟨rfl,rfl⟩;go_wp2_with fail
  refine(Zb9 c _).mono ?_;rintro e w3⟨rfl,rfl⟩;go_wp2;go_ret;exact⟨by rw[HO.out] <;> rfl,rfl⟩
 ·have bi:=ZaH h;subst bi;have hc:ZdD (⟨#[62,61]⟩:ByteArray).toList:=by rw[QB];unfold ZdD;simp
  have HH:=Qh (ZcX ⟨#[62,61]⟩ a b w hc);have HO:=Qh (ZfQ (a:=a) (b:=b) hc);generalize holT (⟨#[62,61]⟩:ByteArray).toList a b=c at HH HO;clear h hz hc;go_enter Tryz.func127,Tryz.ntmps127;go_wp2_with fail
  refine HH.out.mono ?_;rintro e w2⟨rfl,rfl⟩;go_wp2_with fail
  refine(Zb9 c _).mono ?_;rintro e w3⟨rfl,rfl⟩;go_wp2;go_ret;exact⟨by rw[HO.out] <;> rfl,rfl⟩
 ·have bi:=ZaH h;subst bi;have hc:ZdD (⟨#[38,38]⟩:ByteArray).toList:=by rw[QB];unfold ZdD;simp
  have HH:=Qh (ZcX ⟨#[38,38]⟩ a b w hc);have HO:=Qh (ZfQ (a:=a) (b:=b) hc);generalize holT (⟨#[38,38]⟩:ByteArray).toList a b=c at HH HO;clear h hz hc;go_enter Tryz.func127,Tryz.ntmps127;go_wp2_with fail
  refine HH.out.mono ?_;rintro e w2⟨rfl,rfl⟩;go_wp2_with fail
  refine(Zb9 c _).mono ?_;rintro e w3⟨rfl,rfl⟩;go_wp2;go_ret;exact⟨by rw[HO.out] <;> rfl,rfl⟩
 ·have bi:=ZaH h;subst bi;have hc:ZdD (⟨#[124,124]⟩:ByteArray).toList:=by rw[QB];unfold ZdD;simp
  have HH:=Qh (ZcX ⟨#[124,124]⟩ a b w hc);have HO:=Qh (ZfQ (a:=a) (b:=b) hc);generalize holT (⟨#[124,124]⟩:ByteArray).toList a b=c at HH HO;clear h hz hc;go_enter Tryz.func127,Tryz.ntmps127;go_wp2_with fail
  refine HH.out.mono ?_;rintro e w2⟨rfl,rfl⟩;go_wp2_with fail
  refine(Zb9 c _).mono ?_;rintro e w3⟨rfl,rfl⟩;go_wp2;go_ret;exact⟨by rw[HO.out] <;> rfl,rfl⟩
theorem Zn2 (h0:Zba s≠0)(ha:inR a=true)(hb:inR b=true)(hz:s=[47]\/s=[37])(h:b=0):Zal s a b=(0,2):=by
 unfold Zal;rw[if_neg (by rw[ha,hb];simpa using h0),if_pos ⟨hz,h⟩]
theorem ZlF (h0:Zba s≠0)(ha:inR a=true)(hb:inR b=true)(hz:s=[47]\/s=[37]->b≠0):Zal s a b=if inR (opM s a b)=true then (opM s a b,0) else (0,3):=by
 unfold Zal;rw[if_neg (by rw[ha,hb];simpa using h0),if_neg (λh=>hz h.1 h.2)]
theorem Y21A1 {g:Prop}(h:g:=by
 go_enter Tryz.func94,Tryz.ntmps94;go_wp2_with fail
 refine HS.out.mono ?_;rintro e w2⟨rfl,rfl⟩;go_wp2_with fail
 refine pC.out.mono ?_;rintro e w3⟨rfl,rfl⟩;go_wp2_with fail
 refine rV.out.mono ?_;rintro e w4⟨rfl,rfl⟩;go_wp2_with fail
 refine HR.out.mono ?_;rintro e w5⟨rfl,rfl⟩;cases bO:inR q
 ·have HG:Hid (Zal s.toList a b=(0,3)):=by show _=_;rw[HF.out,bO];rfl
  rw[bO]at zu;clear bO;go_wp2_with fail
  refine zu.out.mono ?_;rintro e w6⟨rfl,rfl⟩;go_wp2;go_ret2;exact Zbf HG.out (QD _ _)
 ·have HG:Hid (Zal s.toList a b=(q,0)):=by show _=_;rw[HF.out,bO];rfl
  rw[bO]at zu;clear bO;go_wp2_with fail
  refine zu.out.mono ?_;rintro e w6⟨rfl,rfl⟩;go_wp2;go_ret2
  exact Zbf HG.out (QD _ _)):g:=h
theorem Y21A2 {g:Prop}(h:g:=by
 go_enter Tryz.func94,Tryz.ntmps94;go_wp2_with fail
 refine HS.out.mono ?_;rintro e w2⟨rfl,rfl⟩;go_wp2_with fail
 refine pC.out.mono ?_;rintro e w3⟨rfl,rfl⟩;go_wp2_with fail
 refine rV.out.mono ?_;rintro e w4⟨rfl,rfl⟩;go_wp2;go_ret2
 exact Zbf HF.out (QD _ _)):g:=h
theorem Zrf (s:ByteArray)(a b:Int)(w:World):Calls Tryz.prog 94 #[.string s,.int .i64 a,.int .i64 b] w (ZkN s.toList a b w):=by
 have HS:=Qh (ZgQ s w);have pC:=Qh (Zd1 a w);have rV:=Qh (Zd1 b w);by_cases h0:Zba s.toList=0
 ·have HF:=Qh (ZnQ (a:=a) (b:=b) h0);rw[h0]at HS;clear h0;go_enter Tryz.func94,Tryz.ntmps94;go_wp2_with fail
  refine HS.out.mono ?_;rintro e w2⟨rfl,rfl⟩;go_wp2;go_ret2;exact Zbf HF.out (QD _ _)
 have nX:=Qh h0;obtain⟨r,HK⟩:∃r:Nat,Hid (r=Zba s.toList):=⟨_,Qh rfl⟩;rw[show Zba s.toList=r from HK.out.symm]at HS h0;have e0:((r:Int)==0)=false:=by simp;omega
 clear h0;cases ha:inR a
 ·have HF:=Qh (app_a (s:=s.toList) (b:=b) ha);rw[ha]at pC;clear ha;go_enter Tryz.func94,Tryz.ntmps94;go_wp2_with fail
  refine HS.out.mono ?_;rintro e w2⟨rfl,rfl⟩;go_wp2_with fail
  refine pC.out.mono ?_;rintro e w3⟨rfl,rfl⟩;go_wp2;go_ret2;exact Zbf HF.out (QD _ _)
 cases hb:inR b
 ·have HF:=Qh (app_b (s:=s.toList) (a:=a) hb);rw[ha]at pC;rw[hb]at rV;clear ha hb;exact Y21A2
 rw[ha]at pC;rw[hb]at rV;by_cases um:s.toList=[47]
 ·have s1:(s.toList==[47])=true:=by simp[um]
  by_cases bD:b=0
  ·have HF:=Qh (Zn2 nX.out ha hb (.inl um) bD);have b0:(b==0)=true:=(by simp[bD]);clear um bD ha hb;exact Y21A2
  have hz:s.toList=[47]\/s.toList=[37]->b≠0:=λ_=>bD;have HF:=Qh (ZlF nX.out ha hb hz);have HR:=Qh (ZfT s a b w nX.out ha hb hz);obtain⟨q,HQ⟩:∃q:Int,Hid (q=opM s.toList a b):=⟨_,Qh rfl⟩;rw[show opM s.toList a b=q from HQ.out.symm]at HR HF;have zu:=Qh (Zd1 q w);have b0:(b==0)=false:=by simp[bD]
  clear um bD ha hb hz;exact Y21A1
 by_cases vS:s.toList=[37]
 ·have s1:(s.toList==[47])=false:=by simp[vS]
  have s2:(s.toList==[37])=true:=by simp[vS]
  by_cases bD:b=0
  ·have HF:=Qh (Zn2 nX.out ha hb (.inr vS) bD);have b0:(b==0)=true:=(by simp[bD]);clear um vS bD ha hb;exact Y21A2
  have hz:s.toList=[47]\/s.toList=[37]->b≠0:=λ_=>bD;have HF:=Qh (ZlF nX.out ha hb hz);have HR:=Qh (ZfT s a b w nX.out ha hb hz);obtain⟨q,HQ⟩:∃q:Int,Hid (q=opM s.toList a b):=⟨_,Qh rfl⟩;rw[show opM s.toList a b=q from HQ.out.symm]at HR HF;have zu:=Qh (Zd1 q w);have b0:(b==0)=false:=by simp[bD]
  clear um vS bD ha hb hz;exact Y21A1
 have hz:s.toList=[47]\/s.toList=[37]->b≠0:=λh=>(h.elim um vS).elim;have HF:=Qh (ZlF nX.out ha hb hz);have HR:=Qh (ZfT s a b w nX.out ha hb hz);obtain⟨q,HQ⟩:∃q:Int,Hid (q=opM s.toList a b):=⟨_,Qh rfl⟩;rw[show opM s.toList a b=q from HQ.out.symm]at HR HF;have zu:=Qh (Zd1 q w);have s1:(s.toList==[47])=false:=by simp[um]
 have s2:(s.toList==[37])=false:=by simp[vS]
 clear um vS ha hb hz;by_cases bD:b=0
 ·have b0:(b==0)=true:=by simp[bD]
  clear bD;exact Y21A1
 ·have b0:(b==0)=false:=by simp[bD]
  clear bD;exact Y21A1
theorem ZoE (s:ByteArray)(w:World)(hs:s.size<=maxLen):
  Calls Tryz.prog 141 #[.string s] w λe w'=>e=.returned (.int .i64 (ZaM s.toList))/\w'=w:=by
 unfold maxLen at hs;obtain⟨L,HL⟩:∃L:List UInt8,Hid (L=s.toList):=⟨_,Qh rfl⟩;rw[show s.toList=L from HL.out.symm];have pH:Hid (L.length=s.size):=by show _=_;rw[HL.out,QB];simp
 have er:Hid (∀k (hk:k<s.size) (bY:k<L.length),L[k]=s[k]):=λk hk bY=>by
  have:=HL.out;subst this;simp only[QB];rfl
 go_enter Tryz.func141,Tryz.ntmps141;by_cases h0:s.size<1
 ·have HF:Hid (ZaM L=-1):=by show _=_;rw[QU.1 (by have:=pH.out;omega:L.length=0)];rfl
  have e0:decide ((s.size:Int)<1)=true:=JR (by omega);go_wp2;go_ret;exact⟨by rw[HF.out] <;> rfl,rfl⟩
 have e0:decide ((s.size:Int)<1)=false:=JQ (by omega);by_cases h7:7<s.size
 ·have HF:Hid (ZaM L=-1):=Znn (by have:=pH.out;omega);have e1:decide ((7:Int)<(s.size:Int))=true:=JR (by omega);go_wp2;go_ret;exact⟨by rw[HF.out] <;> rfl,rfl⟩
 have e1:decide ((7:Int)<(s.size:Int))=false:=JQ (by omega);go_wp2;go_loopw [3,15] (λvn i wr=>∃(k:Nat) (n:Int),k<=s.size/\i=.int .i64 k/\vn=.int .i64 n/\Hid (n=Zev (L.take k))/\0<=n/\n<10 ^ k/\Hid (∀j,(hj:j<L.length)->j<k->Za3 L[j]=true)/\wr=w) (λ_ i _=>s.size-(intOf i).toNat)
 case atStart=>exact⟨0,0,by omega,rfl,rfl,rfl,Int.le_refl _,by decide,(λj _ h=>by omega),rfl⟩
 case round =>
  obtain⟨k,n,hk,rfl,rfl,HN,ke,d4,HD,rfl⟩:=hrel;by_cases af:k<s.size
  ·have ce:k<L.length:=(by have:=pH.out;omega);have i0:(0:Int)<=(k:Int):=(by omega);have i1:(k:Int)<(s.size:Int):=(by omega);have tF:=Qh (Zc8 s[k] wr);have HG:=Qh (er.out k af ce);cases hd:Za3 s[k]
   ·have HF:Hid (ZaM L=-1):=Zlh ce (by rw[HG.out];exact hd);rw[hd]at tF;clear hd;go_wp2_with fail
    refine tF.out.mono ?_;rintro e w2⟨rfl,rfl⟩;go_wp2;go_ret;exact⟨by rw[HF.out] <;> rfl,rfl⟩
   ·have wu:=Qh hd;rw[hd]at tF;unfold Za3 at hd;rw[JT]at hd;go_wp2_with fail
    refine tF.out.mono ?_;rintro e w2⟨rfl,rfl⟩;have pa:k<=6:=(by omega);have hpow:(10:Int) ^ k<=1000000:=by
     have:∀j,j<=6->(10:Int) ^ j<=1000000:=(by decide);exact this k pa
    have hps:(10:Int) ^ (k+1)=10 ^ k*10:=Int.pow_succ 10 k;have tj:Hid (10*n+((s[k].toNat:Int)-48)=Zev (L.take (k+1))):=(by show _=_;rw[Zl4 ce,←HN.out,HG.out]);have jT:Hid (∀j,(hj:j<L.length)->j<k+1->Za3 L[j]=true):=λj hj h=>by
     by_cases e:j=k
     ·subst e;rw[HG.out];exact wu.out
     ·exact HD.out j hj (by omega)
    have w1:IntKind.i64.wrap (10*n)=10*n:=QF _ (by omega);have w2:IntKind.u8.wrap ((s[k].toNat:Int)-48)=(s[k].toNat:Int)-48:=IntWalk.u8_in _ (by omega);have w3:IntKind.i64.wrap ((s[k].toNat:Int)-48)=(s[k].toNat:Int)-48:=QF _ (by omega);have w4:IntKind.i64.wrap (10*n+((s[k].toNat:Int)-48))=10*n+((s[k].toNat:Int)-48):=QF _ (by omega);go_wp2;go_roundw;case rel=>exact⟨k+1,10*n+((s[k].toNat:Int)-48),by omega,by go_num,rfl,tj,by omega,by omega,jT,trivial⟩
    case measure=>simp[intOf];omega
  ·have lh:k=s.size:=(by omega);have j8:L.length=k:=(by rw[pH.out,lh]);have pM:Hid (n=Zev L):=(by show _=_;rw[HN.out,Qe (by omega)]);have HDA:Hid (∀j,(hj:j<L.length)->Za3 L[j]=true):=λj hj=>HD.out j hj (by omega);have nZ:Hid (L≠[]):=λe=>(by rw[e]at j8;simp at j8;omega);have i2:¬(k:Int)<(s.size:Int):=(by omega);by_cases bz:1000000<n
   ·have HF:Hid (ZaM L=-1):=Zl5 (by rw[←pM.out];exact bz);clear lh j8;go_wp2;go_ret;exact⟨by rw[HF.out] <;> rfl,rfl⟩
   ·have HF:Hid (ZaM L=n):=(by show _=_;rw[Zo2 nZ.out (by omega) HDA.out (by rw[←pM.out];exact bz),←pM.out]);clear lh j8;go_wp2;go_ret;exact⟨by rw[HF.out] <;> rfl,rfl⟩
theorem ZlG (h:Zaj t=true){c:UInt8}{l:List UInt8}(e:t.text.toList=c::l):t.kind=cutKind c:=by
 have e2:=ZaH e;obtain⟨h0,hk⟩:=(Za9 h).1;obtain⟨k,x,s,hd⟩:=t;obtain rfl:x=⟨(c::l).toArray⟩:=e2;exact hk
theorem Zrg:∀s,Zba s≠0->∃c l,s=c::l/\cutKind c=4:=λs h=>by
 rcases ZgP h with h | h | h | h | h | h | h | h | h | h | h | h | h <;> subst h <;> exact⟨_,_,rfl,by decide⟩
theorem Zn3 (h:Zaj t=true):Zbq t=Zba t.text.toList:=by
 unfold Zbq;split
 ·rfl
 ·rename_i h4;cases e:Zba t.text.toList with
  | zero=>rfl
  |
   succ n =>
   obtain⟨c,l,h1,h2⟩:=Zrg t.text.toList (by omega);exact absurd ((ZlG h h1).trans h2) h4
theorem isMk_eq (h:Zaj t=true){c:UInt8}(hc:cutKind c=4):ZaS t [c]=(t.text.toList==[c]):=by
 unfold ZaS;cases e:(t.text.toList==[c])
 ·rw[JB]
 ·rw[ZlG h (beq_iff_eq.1 e),hc];rfl
theorem Zrh (h:Zaj t=true)(h2:t.kind≠2):ZaM t.text.toList=-1:=by
 obtain⟨h0,hk⟩:=(Za9 h).1;have hl:t.text.toList.length=t.text.size:=by rw[QB];simp
 have gM:0<t.text.toList.length:=by omega
 refine Zlh gM ?_;cases hd:Za3 t.text.toList[0]
 ·rfl
 ·have e:t.text.toList=t.text.toList[0]::t.text.toList.drop 1:=by
   have:=Qj gM;rw[List.drop_zero]at this;exact this
  have:=ZlG h e;unfold cutKind at this;rw[if_pos hd]at this;exact absurd this h2
def ReadBox (rb:Nat)(vL:Value)(k:Nat)(w:World):Prop:=w.heap[rb]?=some (.cells #[vL,.int .i64 (k:Nat)] 77 (0,0))
theorem ReadBox.below {rb:Nat}{vL:Value}{w w':World}(h:ReadBox rb vL k w)(hb:Below w.heap.size w w'):ReadBox rb vL k w':=Zag h hb
def ZbX (l:List Tok)(k:Nat):ByteArray:=if h:k<l.length then l[k].text else ⟨#[]⟩
variable {l:List Tok}
theorem Zf9 (h:k<l.length):ZbX l k=l[k].text:=by unfold ZbX;rw[dif_pos h]
theorem ZhV (h:¬k<l.length):ZbX l k=⟨#[]⟩:=by unfold ZbX;rw[dif_neg h]
theorem Zmv (rb:Nat)(vL:Value)(l:List Tok)(fp:List Nat)(k:Nat)(w:World)(hk:k<=l.length)(HB:ReadBox rb vL k w)(H:(Zaa sTok).R w [vL] l fp):
  Calls Tryz.prog 92 #[.pointer (some ⟨rb,0,none⟩)] w λe w'=>e=.returned (.string (ZbX l k))/\Below w.heap.size w w':=by
 have H0:=Qh H;obtain⟨al,cl,rfl,dK,iu,ai⟩:=Zac H;unfold maxLen at iu;have fs:=Qh HB;have p0:=Qc 0 HB;have p1:=Qc 1 HB;clear H HB;go_enter Tryz.func92,Tryz.ntmps92;by_cases af:k<l.length;rotate_left
 ·have HF:=Qh (ZhV af);have e1:((k:Int)==(l.length:Int))=true:=by simp;omega
  clear af ai;go_wp2_with fail
  go_quiet (fail)
  have cc:=Zah (QD w.heap.size w) nq;generalize w.drewN nq=wq at *;go_wp2;go_ret;exact⟨by rw[HF.out] <;> rfl,cc⟩
 have HF:=Qh (Zf9 af);obtain⟨b1,o1,-,rfl,-,-,-⟩:=ai (by omega);have e1:((k:Int)==(l.length:Int))=false:=by simp;omega
 have i0:(0:Int)<=(k:Int):=by omega
 have i1:(k:Int)<(l.length:Int):=by omega
 clear ai;go_wp2_with fail
 go_quiet (fail)
 have cc:=Zah (QD w.heap.size w) nq;clear p0 p1;generalize w.drewN nq=wq at *;have dy:=Qh (fs.out.below cc);have p0:=Qc 0 dy.out;have p1:=Qc 1 dy.out;obtain⟨xa,xc,xf,x0,x1,x2,x3,xR,bu,-⟩:=ZaO ((Zaa sTok).below H0.out cc) af;clear xR;go_wp2_with fail
 go_quiet (fail)
 have eU:=Zah cc nq;clear p0 p1 x0 x1 x2 x3;generalize wq.drewN nq=wr at *;go_wp2;go_ret;exact⟨by rw[HF.out] <;> rfl,eU⟩
theorem skip_eq {c:UInt8}(ht:∀t∈l,Zaj t=true)(hc:cutKind c=4):((ZbX l k).toList==[c])=Zan l k [c]:=by
 by_cases h:k<l.length
 ·rw[Zf9 h,Zft h,isMk_eq (ht _ (QE h)) hc]
 ·rw[ZhV h,ZhO h,QB];rfl
theorem Zmw (rb:Nat)(vL:Value)(l:List Tok)(fp:List Nat)(k:Nat)(c:UInt8)(w:World)(hl:l.length<=60)(ht:∀t∈l,Zaj t=true)(hc:cutKind c=4)(hk:k<=l.length)(HB:ReadBox rb vL k w)(H:(Zaa sTok).R w [vL] l fp):
  Calls Tryz.prog 64 #[.pointer (some ⟨rb,0,none⟩),.string ⟨#[c]⟩] w λe w'=>e=.returned (.bool (Zan l k [c]))/\ReadBox rb vL (if Zan l k [c]=true then k+1 else k) w'/\Kept [rb] w w':=by
 have HN:=Qh (Zmv rb vL l fp k w hk HB H);have HE:=Qh (skip_eq (l:=l) (k:=k) ht hc);have fs:=Qh HB;clear H HB ht;go_enter Tryz.func64,Tryz.ntmps64;have he:=HE.out;obtain⟨tx,kC⟩:∃tx:ByteArray,Hid (tx=ZbX l k):=⟨_,Qh rfl⟩;rw[show ZbX l k=tx from kC.out.symm]at HN he;cases hm:Zan l k [c]
 ·rw[hm]at he;have e1:(tx.toList != [c])=true:=by rw[bne,he];rfl
  clear hm;go_wp2_with fail
  refine HN.out.mono ?_;rintro e w2⟨rfl,aF⟩;have jO:=Qh (fs.out.below aF);go_wp2;go_ret;exact⟨rfl,jO.out,Kept.of_below aF⟩
 ·rw[hm]at he;have e1:(tx.toList != [c])=false:=by rw[bne,he];rfl
  clear hm;go_wp2_with fail
  refine HN.out.mono ?_;rintro e w2⟨rfl,aF⟩;have jO:=Qh (fs.out.below aF);have p1:=Qc 1 jO.out;have f1:=Qf 1 jO.out;have gN:IntKind.i64.wrap ((k:Int)+1)=(k:Int)+1:=QF _ (by omega);have eZ:Hid (ReadBox rb vL (k+1) (w2.setCell ⟨rb,1,none⟩ (.int .i64 ((k:Int)+1)))):=Zai jO.out 1 (.int .i64 ((k:Int)+1));have jF:Hid (Kept [rb] w (w2.setCell ⟨rb,1,none⟩ (.int .i64 ((k:Int)+1)))):=(Kept.of_below aF).setCell (p:=⟨rb,1,none⟩) (by simp) _;go_wp2;go_ret;exact⟨rfl,eZ.out,jF.out⟩
def ZcD (rb:Nat)(vL:Value)(l:List Tok)(r:ZbV)(w:World)(e:Ending)(w':World):Prop:=
 ∃(n:Int) (k:Nat),e=.returned (.tuple #[.int .i64 n,.int .i64 r.2.2])/\(r.2.2=0->n=r.1/\k=r.2.1)/\inR n=true/\k<=l.length/\ReadBox rb vL k w'/\Kept [rb] w w'
theorem Zdp {rb:Nat}{vL:Value}{r:ZbV}{w w':World}{n f:Int}(hf:r.2.2=f)(h:f=0->n=r.1/\k=r.2.1)(hn:inR n=true)(hk:k<=l.length)(HB:ReadBox rb vL k w')(HK:Kept [rb] w w'):
  ZcD rb vL l r w (.returned (.tuple #[.int .i64 n,.int .i64 f])) w':=⟨n,k,by rw[hf],λh'=>h (hf ▸ h'),hn,hk,HB,HK⟩
def ZcK (l:List Tok)(k:Nat):ZbV:=
 if h:k<l.length then
  if l[k].kind=1 then (0,k+1,0) else if l[k].kind=2/\0<=ZaM l[k].text.toList then (ZaM l[k].text.toList,k+1,0) else (0,k,1)
 else (0,k,1)
theorem Zri (rb:Nat)(vL:Value)(l:List Tok)(fp:List Nat)(k:Nat)(w:World)(hl:l.length<=60)(ht:∀t∈l,Zaj t=true)(hk:k<=l.length)(HB:ReadBox rb vL k w)(H:(Zaa sTok).R w [vL] l fp):
  Calls Tryz.prog 125 #[.pointer (some ⟨rb,0,none⟩)] w (ZcD rb vL l (ZcK l k) w):=by
 have H0:=Qh H;obtain⟨al,cl,rfl,dK,iu,ai⟩:=Zac H;unfold maxLen at iu;have fs:=Qh HB;have p0:=Qc 0 HB;have p1:=Qc 1 HB;clear H HB;go_enter Tryz.func125,Tryz.ntmps125;by_cases af:k<l.length;rotate_left
 ·have HF:Hid (ZcK l k=(0,k,1)):=by show _=_;unfold ZcK;rw[dif_neg af]
  have e1:((k:Int)==(l.length:Int))=true:=by simp;omega
  clear af ai;go_wp2_with fail
  go_quiet (fail)
  have cc:=Zah (QD w.heap.size w) nq;clear p0 p1;generalize w.drewN nq=wq at *;have dy:=Qh (fs.out.below cc);go_wp2;go_ret2;exact Zdp (by rw[HF.out]) (λh=>absurd h (by decide)) (by decide) hk dy.out (Kept.of_below cc)
 obtain⟨b1,o1,-,rfl,-,-,-⟩:=ai (by omega);have hto:=ht _ (QE af);obtain⟨tk,ez⟩:∃tk:Tok,Hid (tk=l[k]):=⟨_,Qh rfl⟩;have HW:Hid (ZcK l k=if tk.kind=1 then (0,k+1,0) else if tk.kind=2/\0<=ZaM tk.text.toList then (ZaM tk.text.toList,k+1,0) else (0,k,1)):=by show _=_;unfold ZcK;rw[dif_pos af,ez.out]
 rw[show l[k]=tk from ez.out.symm]at hto;have mS:=Qh hto;have e1:((k:Int)==(l.length:Int))=false:=by simp;omega
 have i0:(0:Int)<=(k:Int):=by omega
 have i1:(k:Int)<(l.length:Int):=by omega
 clear ai hto;go_wp2_with fail
 go_quiet (fail)
 have cc:=Zah (QD w.heap.size w) nq;clear p0 p1 e1;generalize w.drewN nq=w1 at *;have dy:=Qh (fs.out.below cc);have p0:=Qc 0 dy.out;have p1:=Qc 1 dy.out;obtain⟨xa,xc,xf,x0,x1,x2,x3,xR,bu,-⟩:=ZaO ((Zaa sTok).below H0.out cc) af;rw[show l[k]=tk from ez.out.symm]at x0 x1 x2 x3 xR;have XR:=Qh xR;clear xR;have eP:Hid (∀Q:World,Below w1.heap.size w1 Q->Q.cell? ⟨rb,0,none⟩=some (.slice (some ⟨b1,o1,none⟩) l.length cl)/\Q.cell? ⟨rb,1,none⟩=some (.int .i64 (k:Nat))/\Q.cell? ⟨b1,o1+k*4,none⟩=some (.int .i64 tk.kind)/\Q.cell? ⟨b1,o1+k*4+1,none⟩=some (.string tk.text)/\Q.cell? ⟨b1,o1+k*4+2,none⟩=some (.bool tk.spaced)/\Q.cell? ⟨b1,o1+k*4+3,none⟩=some (.slice xa tk.hidden.length xc)):=λQ hQ=>⟨Qc 0 (dy.out.below hQ),Qc 1 (dy.out.below hQ),(hQ.cell (p:=⟨b1,o1+k*4,none⟩) bu).trans x0,(hQ.cell (p:=⟨b1,o1+k*4+1,none⟩) bu).trans x1,(hQ.cell (p:=⟨b1,o1+k*4+2,none⟩) bu).trans x2,(hQ.cell (p:=⟨b1,o1+k*4+3,none⟩) bu).trans x3⟩;go_upto_region 3 with fail
 clear p0 p1 x0 x1 x2 x3;have aS:Below w1.heap.size w1 w1.drew:=Zah (QD _ _) 1;refine wp_region_noPanic ?_;refine JU (S:=λw'=>w'.cell? ⟨rb,0,none⟩=some (.slice (some ⟨b1,o1,none⟩) l.length cl)/\w'.cell? ⟨rb,1,none⟩=some (.int .i64 (k:Nat))/\w'.cell? ⟨b1,o1+k*4,none⟩=some (.int .i64 tk.kind)/\w'.cell? ⟨b1,o1+k*4+1,none⟩=some (.string tk.text)/\w'.cell? ⟨b1,o1+k*4+2,none⟩=some (.bool tk.spaced)/\w'.cell? ⟨b1,o1+k*4+3,none⟩=some (.slice xa tk.hidden.length xc)) (by kernel_rfl) (by exact eP.out _ aS) (λac=>?_);generalize hwd:w1.drew=wd at *;refine Qt 0 16 rfl rfl ?_;try simp only[Qp]
 refine Qt 1 17 rfl rfl ?_;try simp only[Qp]
 refine Qt 2 18 rfl rfl ?_;try simp only[Qp]
 refine Qt 3 19 rfl rfl ?_ (by intro w aI;obtain⟨p0,p1,x0,x1,x2,x3⟩:=aI;go_simp;(first | done | with_reducible rfl | rfl));try simp only[Qp]
 refine Qt 4 20 rfl rfl ?_;try simp only[Qp]
 refine Qt 5 21 rfl rfl ?_;try simp only[Qp]
 refine Qt 6 22 rfl rfl ?_;try simp only[Qp]
 refine Qt 7 23 rfl rfl ?_ (by intro w aI;obtain⟨p0,p1,x0,x1,x2,x3⟩:=aI;go_simp;(first | done | with_reducible rfl | rfl));try simp only[Qp]
 refine Qt 8 24 rfl rfl ?_;try simp only[Qp]
 refine Qt 9 25 rfl rfl ?_ (by intro w aI;obtain⟨p0,p1,x0,x1,x2,x3⟩:=aI;go_simp;(first | done | with_reducible rfl | rfl));try simp only[Qp]
 have ba:=Zab wd (.cells #[.int .i64 0,.string ⟨#[]⟩,.bool false,.slice none 0 0] 32);have HZ:=Qh (JS wd (.cells #[.int .i64 0,.string ⟨#[]⟩,.bool false,.slice none 0 0] 32));have hx:=aS.trans (ba.mono aS.size);refine Qr 10 rfl (λK hK=>?_);go_simp;refine hK.out _ _ (eP.out _ hx) (λac=>?_);clear hK K;try simp only[Qp]
 have hgs:w1.heap.size<=wd.heap.size:=aS.size;generalize hwa:wd.alloc (.cells #[.int .i64 0,.string ⟨#[]⟩,.bool false,.slice none 0 0] 32)=wa at *;obtain⟨z0,dT,z1,dU,z2,dV,z3,dW⟩:=Q8 HZ.out;have HX:=Qh (Za2 HZ.out (.int .i64 tk.kind) (.string tk.text) (.bool tk.spaced) (.slice xa tk.hidden.length xc));have iM:=Qh (ZaJ hx hgs (.int .i64 tk.kind) (.string tk.text) (.bool tk.spaced) (.slice xa tk.hidden.length xc));have HH4:=Qh (eP.out _ iM.out);unfold set4 at HX iM HH4;refine Qr 11 rfl (λK hK=>?_);go_simp;refine hK.out _ _ (HH4.out) (λac=>?_);clear hK K;try simp only[Qp]
 refine wpAnyH_done (by kernel_rfl) ?_ _;refine QP ?_;clear ac;have ky:rb<w1.heap.size:=mlt dy.out;have dO:wd.heap.size≠rb:=by omega
 have bQ:ZaC tk.text:=XR.out.choose_spec.2.2.1;have HDB:=Qh (dy.out.below iM.out);have HD:=Qh (cc.trans (iM.out.mono cc.size));clear z0 z1 z2 z3 dT dU dV dW HH4 iM dy;generalize hW1:((((wa.setCell ⟨wd.heap.size,0,none⟩ (.int .i64 tk.kind)).setCell ⟨wd.heap.size,1,none⟩ (.string tk.text)).setCell ⟨wd.heap.size,2,none⟩ (.bool tk.spaced)).setCell ⟨wd.heap.size,3,none⟩ (.slice xa tk.hidden.length xc))=W1 at *;have dy:=HDB;have p1:=Qc 1 dy.out;have f1:=Qf 1 dy.out;have gN:IntKind.i64.wrap ((k:Int)+1)=(k:Int)+1:=QF _ (by omega);have eZ:Hid (ReadBox rb (.slice (some ⟨b1,o1,none⟩) l.length cl) (k+1) (W1.setCell ⟨rb,1,none⟩ (.int .i64 ((k:Int)+1)))):=Zai dy.out 1 (.int .i64 ((k:Int)+1));have jF:Hid (Kept [rb] w (W1.setCell ⟨rb,1,none⟩ (.int .i64 ((k:Int)+1)))):=(Kept.of_below HD.out).setCell (p:=⟨rb,1,none⟩) (by simp) _;have bB:=Qh (ZaK HX.out dO 1 (.int .i64 ((k:Int)+1)));go_upto_region 5 with fail
 clear p1 f1 gN HX dy;generalize (W1.setCell ⟨rb,1,none⟩ (.int .i64 ((k:Int)+1)))=W2 at *;have q0:=Qc 0 bB.out;have q1:=Qc 1 bB.out;by_cases k1:tk.kind=1
 ·have HF:Hid (ZcK l k=(0,k+1,0)):=by show _=_;rw[HW.out,if_pos k1]
  have e1:(tk.kind==1)=true:=by simp[k1]
  clear k1;go_wp2;go_ret2;exact Zdp (by rw[HF.out]) (λ_=>by rw[HF.out];exact⟨rfl,rfl⟩) (by decide) af eZ.out jF.out
 have e1:(tk.kind==1)=false:=by simp[k1]
 have vJ:=Qh (ZoE tk.text W2 bQ);have hni:=Zl3 tk.text.toList;by_cases k2:tk.kind=2/\0<=ZaM tk.text.toList
 ·have HF:Hid (ZcK l k=(ZaM tk.text.toList,k+1,0)):=by show _=_;rw[HW.out,if_neg k1,if_pos k2]
  obtain⟨n,HN⟩:∃n:Int,Hid (n=ZaM tk.text.toList):=⟨_,Qh rfl⟩;rw[show ZaM tk.text.toList=n from HN.out.symm]at vJ HF hni k2;have e2:decide (n<0)=false:=JQ (by omega);have cZ:Hid (inR n=true):=inR_iff.2 (by omega);clear k1 k2 HW;go_wp2_with fail
  refine vJ.out.mono ?_;rintro e w5⟨rfl,rfl⟩;go_wp2;go_ret2;exact Zdp (by rw[HF.out]) (λ_=>by rw[HF.out];exact⟨rfl,rfl⟩) cZ.out af eZ.out jF.out
 ·have HF:Hid (ZcK l k=(0,k,1)):=by show _=_;rw[HW.out,if_neg k1,if_neg k2]
  have ly:ZaM tk.text.toList<0:=by
   by_cases k3:tk.kind=2
   ·have:=λh=>k2 ⟨k3,h⟩;omega
   ·rw[Zrh mS.out k3];decide
  obtain⟨n,HN⟩:∃n:Int,Hid (n=ZaM tk.text.toList):=⟨_,Qh rfl⟩;rw[show ZaM tk.text.toList=n from HN.out.symm]at vJ hni ly;have e2:decide (n<0)=true:=JR ly;clear k1 k2 HW;go_wp2_with fail
  refine vJ.out.mono ?_;rintro e w5⟨rfl,rfl⟩;go_wp2;go_ret2;exact Zdp (by rw[HF.out]) (λh=>absurd h (by decide)) (by decide) af eZ.out jF.out
end Go.Proofs.YtipfpppcbmpjiaaGreat
