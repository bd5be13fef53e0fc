/- Conditions are values: with ! and parentheses around it a condition is the other one. For every input. No conditions. -/
import Derived.Test.YtipfpppcbmpjiaaGreatZC22
set_option linter.unusedVariables false
set_option maxHeartbeats 16000000
set_option maxRecDepth 100000
set_option linter.unusedSimpArgs false
namespace Go.Proofs.YtipfpppcbmpjiaaGreat.lawConditionOf
open Go.ChangeShapes Go.WideShapes Go.ChangeAt Go.RowKit Go.ChangeMaps
variable {l:List Tok}
theorem hidL (h:∀t∈l,Zd8 t):∀k,(hk:k<l.length)->l[k].hidden.length<=2000000:=λk hk=>by have:=(h _ (QE hk)).2.2.2;omega
theorem litN {α:Type}{S:Shape α}{w:World}{base:Nat}{e:TypeId}(X:List (Elem α))(bE:∀x∈X,x.cells.length=S.m)(hR:∀x∈X,S.R w x.cells x.d x.fp)(hb:base<=w.heap.size)(hn:X.length<=1000000):
  RowN S base e (.slice (some ⟨w.heap.size,0,none⟩) X.length X.length) X (w.alloc (.cells (X.flatMap (·.cells)).toArray e)) where
 row:=Q1 (base:=base) (e:=e) (size:=S.m) w (X.flatMap (·.cells)).toArray X.length hb (by unfold maxLen;omega) (by simpa using ZaR bE)
 len:=bE
 el:=λx hx=>S.below (hR x hx) (Zab w _)
 ap:=λy hy b aE h=>by
  have:=S.lt (hR y hy) b aE;simp only[Value.ownBlock,Qi]at h;omega
theorem Zf0 (k:UInt8)(w:World):sTok.R w [.int .i64 4,.string ⟨#[k]⟩,.bool false,.slice none 0 0] ⟨4,⟨#[k]⟩,false,[]⟩ []:=
 ⟨_,rfl,(show Zb3 4 from⟨by decide,by decide⟩),(show(1:Nat)<=maxLen by unfold maxLen;omega),Zao sStr _ _ 0 (by simp)⟩
theorem Zrk {n f:Int}(h:Za1 l=(n,f))(hf:f≠0):n=0:=by
 unfold Za1 at h;split at h
 ·split at h
  ·split at h
   ·simp only[QS]at h;exact h.1.symm
   ·split at h
    ·simp only[QS]at h;exact h.1.symm
    ·simp only[QS]at h;exact absurd h.2.symm hf
  ·simp only[QS]at h;exact h.1.symm
 ·simp only[QS]at h;exact h.1.symm
theorem cond_bad {T:List DMacro}{c:Bool}(h:Zb2 T l=(c,false)):c=false:=by
 rcases hr:Za4 T l with⟨x,ok⟩;cases ok with
 | false=>rw[Zel hr]at h;simp only[QS]at h;exact h.1.symm
 |
  true =>
  rcases hx:Zbv T x with⟨y,c2⟩;by_cases hc:c2=0
  ·subst hc;rcases hv:Za1 y with⟨n,f⟩;rw[Zen hr hx hv]at h;simp only[QS]at h;have hf:f≠0:=of_decide_eq_false h.2;rw[←h.1,Zrk hv hf];rfl
  ·rw[Zem hr hx hc]at h;simp only[QS]at h;exact h.1.symm
theorem walk (v0:Value)(x0:List UInt8)(fp0:List Nat)(w:World)(H0:(Zaa Zdi).R w [v0] x0 fp0):
  Calls Tryz.prog 3 #[v0] w λe w'=>e=.returned (.bool true)/\Below w.heap.size w w':=by
 have HH:=Qh H0;obtain⟨a,cap,hv,hc,hm,h⟩:=H0;obtain rfl:v0=.slice a x0.length cap:=by simpa using hv
 unfold maxLen at hm;clear h hv;go_enter Tryz.func3,Tryz.ntmps3;by_cases pb:1048576<x0.length
 ·go_wp2;go_ret;exact⟨rfl,QD _ _⟩
 go_wp2_with fail
 refine(Zkq _ x0 fp0 _ HH.out).mono ?_;rintro e w1⟨vT,T,cE,v1,L,rfl,hT,Cv,hT9,hE,l8,Cw,hB⟩;obtain⟨f1,r1,-⟩:=hE.read;have yr:∀t∈L.map (·.d),Zd8 t:=λt ht=>by obtain⟨x,hx,rfl⟩:=List.mem_map.1 ht;exact l8 x hx
 have pH:(L.map (·.d)).length<=61:=by rw[QH];exact Cw
 generalize L.map (·.d)=l at r1 yr pH;have HI:Hid (∀(v:Value) (x:List Tok) (f:List Nat) (W:World),Below w1.heap.size w1 W->(Zaa sTok).R W [v] x f->Calls Tryz.prog 6 #[vT,v] W (Zhh T x W)):=λv x f W hW hx=>ZjZ vT T cE v x f W ((Zaa sMacro).below hT hW) hx;have HS:=Qh (λW (hW:Below w1.heap.size w1 W)=>ZjV vT T cE v1 l f1 W (by omega) (λk hk=>ZjF (Cv _ (QE hk))) (by omega) (hidL yr) ((Zaa sMacro).below hT hW) ((Zaa sTok).below r1 hW));have zk:=Qh (HI.out v1 l f1 w1 (QD _ _) r1);unfold Zhh at zk HS;have iG:=Qh r1;have d7:=Qh ((Zaa sTok).lt r1);obtain⟨aT,cT',rfl,-⟩:=Zac hT;obtain⟨a1,c1,rfl,-⟩:=Zac r1;rcases hx:Zb2 T l with⟨c,ok⟩;rw[hx]at zk HS;try dsimp only at zk HS
 have HX:=Qh hx;have hcc:(c != c)=false:=by simp
 have hoo:(ok != ok)=false:=by simp
 clear hx hT Cv hE l8 r1 yr hT9 Cw HH;go_wp2_with fail
 refine zk.out.mono ?_;rintro e w2⟨rfl,aF⟩;go_wp2_with fail
 refine(HS.out _ aF).mono ?_;rintro e w3⟨rfl,aC⟩;have dv:=aF.trans (aC.mono aF.size);have aQ:=hB.trans (dv.mono hB.size);clear zk HS aF aC;cases ok
 ·obtain rfl:=cond_bad HX.out;go_wp2_with (go_at_call 8;refine(alive _).mono ?_;rintro e w'⟨rfl,rfl⟩)
  go_ret;exact⟨rfl,aQ⟩
 by_cases bE:60<l.length+3
 ·have g1:(60:Int)<(l.length:Int)+3:=by omega
  clear bE;go_wp2_with (go_at_call 8;refine(alive _).mono ?_;rintro e w'⟨rfl,rfl⟩)
  go_ret;exact⟨rfl,aQ⟩
 have g1:¬(60:Int)<(l.length:Int)+3:=by omega
 have qn:=Qh ((Zaa sTok).below iG.out dv);have pL:=dv.size;have ba:=Zab w3 (.cells #[.int .i64 4,.string ⟨#[33]⟩,.bool false,.slice none 0 0,.int .i64 4,.string ⟨#[40]⟩,.bool false,.slice none 0 0] 32);have HLO:Hid (RowN sTok w3.heap.size 32 (.slice (some ⟨w3.heap.size,0,none⟩) 2 2) [(⟨[.int .i64 4,.string ⟨#[33]⟩,.bool false,.slice none 0 0],nT,[]⟩:Elem Tok),(⟨[.int .i64 4,.string ⟨#[40]⟩,.bool false,.slice none 0 0],oT,[]⟩:Elem Tok)] (w3.alloc (.cells #[.int .i64 4,.string ⟨#[33]⟩,.bool false,.slice none 0 0,.int .i64 4,.string ⟨#[40]⟩,.bool false,.slice none 0 0] 32))):=
  litN (S:=sTok) (e:=32) (w:=w3) (base:=w3.heap.size) [(⟨[.int .i64 4,.string ⟨#[33]⟩,.bool false,.slice none 0 0],nT,[]⟩:Elem Tok),(⟨[.int .i64 4,.string ⟨#[40]⟩,.bool false,.slice none 0 0],oT,[]⟩:Elem Tok)] (λx hx=>by
   rcases Q7.1 hx with rfl | hx
   ·rfl
   ·obtain rfl:=Qm hx;rfl) (λx hx=>by
   rcases Q7.1 hx with rfl | hx
   ·exact Zf0 33 w3
   ·obtain rfl:=Qm hx
    exact Zf0 40 w3) (QA _) (by simp)
 have Cf:=Qh ((Zaa sTok).below qn.out ba);have hBa:=aQ.trans (ba.mono aQ.size);obtain⟨nl,jH⟩:∃nl:Nat,Hid (nl=l.length):=⟨_,Qh rfl⟩;have yH:nl<=57:=by rw[jH.out];omega
 rw[show l.length=nl from jH.out.symm]at Cf g1 ⊢;have Cx:=Qh dv;clear bE dv ba;go_wp2_with (at_builtin;first | (refine ZbF ti_tok rfl (by decide) ZaX _ rfl (.tmp 58) (.tmp 59) rfl w3.heap.size (.slice (some ⟨w3.heap.size,0,none⟩) 2 2) (.slice a1 nl c1) l f1 rfl HLO.out rfl Cf.out (λb hb e=>by simp only[Value.ownBlock,Qi]at e;have:=d7.out b hb;omega) (by rw[←jH.out];unfold maxLen;simp;omega) (by rw[←jH.out];simp;omega) (by simp) ?_;intro v5 X w5 hX dN cz cG eq;have bg:Below w3.heap.size w3 w5:=((QD _ _).alloc (QA _) _).grown cG (by simp) (λb hb=>by simp only[Value.ownBlock,Qi]at hb;omega);have ba5:=Zab w5 (.cells #[.int .i64 4,.string ⟨#[41]⟩,.bool false,.slice none 0 0] 32);have im:=Qh (JS w5 (.cells #[.int .i64 4,.string ⟨#[41]⟩,.bool false,.slice none 0 0] 32));have jQ:=Qh (cz.below ba5);have bq:=bg.trans (ba5.mono bg.size);have eH:([(⟨[.int .i64 4,.string ⟨#[33]⟩,.bool false,.slice none 0 0],nT,[]⟩:Elem Tok),(⟨[.int .i64 4,.string ⟨#[40]⟩,.bool false,.slice none 0 0],oT,[]⟩:Elem Tok)]++X).length=nl+2:=(by rw[QC,jH.out,←hX,QH];simp;omega);obtain⟨a5,c5,mT,-⟩:=cz.val;rw[eH]at mT;subst mT;have zi:=Qh eH;have yD:=Qh hX;clear eH) | (refine ZaT (X:=[(⟨[.int .i64 4,.string ⟨#[41]⟩,.bool false,.slice none 0 0],cT,[]⟩:Elem Tok)]) ti_tok rfl (by decide) _ rfl (.tmp 60) (.tmp 62) rfl w3.heap.size (.slice a5 (nl+2) c5) rfl jQ.out ⟨w5.heap.size,0,none⟩ 1 1 rfl rfl (λx hx=>by obtain rfl:=Qm hx;exact⟨rfl,Zf0 41 _,by simp⟩) (λx hx=>by obtain rfl:=Qm hx;exact ZaX _ _ _ _ (Zf0 41 w5)) (λj u hj=>by rw[ZaZ,QX,cell_of_row _ _ _ _ _ _ im.out];simpa using hj) (by have:=zi.out;unfold maxLen;omega) (by have:=zi.out;omega) bq.size ?_;intro v7 w7 eQ dc iA))
 have db:Below w3.heap.size w3 w7:=bq.grown dc bq.size (λb hb=>(cz.mine b hb).1);have lq:=aQ.trans (db.mono aQ.size);obtain⟨f7,r7,g7,-⟩:=eQ.read;have hD7:([(⟨[.int .i64 4,.string ⟨#[33]⟩,.bool false,.slice none 0 0],nT,[]⟩:Elem Tok),(⟨[.int .i64 4,.string ⟨#[40]⟩,.bool false,.slice none 0 0],oT,[]⟩:Elem Tok)]++X++[(⟨[.int .i64 4,.string ⟨#[41]⟩,.bool false,.slice none 0 0],cT,[]⟩:Elem Tok)]).map (·.d)=nT::oT::(l++[cT]):=by rw[QG,QG,yD.out];simp[nT,oT,cT]
 rw[hD7]at r7;have ku:=Qh (HI.out v7 (nT::oT::(l++[cT])) f7 w7 (Cx.out.trans (db.mono Cx.out.size)) r7);have Cy:(nT::oT::(l++[cT])).length=nl+3:=by rw[jH.out];simp
 obtain⟨a7,c7,pk,-⟩:=Zac r7;rw[Cy]at pk;subst pk;unfold Zhh at ku;rcases hy:Zb2 T (nT::oT::(l++[cT])) with⟨d,good⟩;rw[hy]at ku;try dsimp only at ku
 have HY:=Qh hy;clear hy eQ dc iA r7 g7 hD7 cz cG eq dN bg ba5 bq db HI HLO Cf qn;cases good
 ·go_wp2_with fail
  refine ku.out.mono ?_;rintro e w8⟨rfl,cN⟩;go_wp2;go_ret;exact⟨rfl,lq.trans (cN.mono lq.size)⟩
 ·have cD:(d != c)=true:=by
   have h9:=ZnG HX.out HY.out;cases d <;> cases c <;> first | rfl | exact absurd rfl h9
  have jB:(d==c)=false:=by
   have h9:=ZnG HX.out HY.out;cases d <;> cases c <;> first | rfl | exact absurd rfl h9
  go_wp2_with fail
  refine ku.out.mono ?_;rintro e w8⟨rfl,cN⟩;go_wp2;go_ret;exact⟨rfl,lq.trans (cN.mono lq.size)⟩
theorem own:ownKnob Tryz.prog.godebug=none:=by kernel_rfl
theorem laidOut:laidOutB Tryz.prog=true:=by kernel_rfl
theorem readable:∀t∈Tryz.f3.params.toList,Tryz.prog.readableRec t=true/\t<Tryz.prog.types.size:=by
 rw[Tryz.params3];simp only[Q7,Qz,or_false];rintro t rfl;exact⟨by kernel_rfl,JW (by kernel_rfl)⟩
theorem lifted (os:Os)(lc:os.Started)(H:Type)(enc:TypeId × Value->H):
  ReturnsInHanded {} Tryz.checked os 3 .any (Rows.fnConditionOfSpec.pre6 enc Tryz.prog Tryz.f3 Rows.fnConditionOfRow.domain false) (Rows.fnConditionOfSpec.post enc Tryz.prog Tryz.f3 false true false false):=by
 refine returnsInHanded_of_change (C:=Tryz.checked) own lc (by kernel_rfl) Tryz.func3
  (ChangeSpec.witness6 (enc:=enc) (C:=Tryz.checked) false ⟨#[],#[.slice none 0 0],[]⟩ 8 (by kernel_rfl) (by kernel_rfl) (by kernel_rfl) (by kernel_rfl)) ?_
 intro W base args ds gs p9 Cz hW hcnd _;have CA:∀(j:Nat) t v,Tryz.f3.params[j]?=some t->args[j]?=some v->Value.okWide Tryz.prog W .any base t v:=Cz;have hW':=hW;obtain⟨p,q,oo,hV,rfl,qa,hnd⟩:=hW;have hA:DataW.TrodAll enc Tryz.prog W 0 (λ_=>true) true Tryz.f3.params.toList args.toList ds p:=oo;rw[Tryz.params3]at hA CA;obtain⟨v0,vs0,d0,ds0,p0,q0,hargs0,rfl,rfl,h0,r0⟩:=trodAll_cons hA;obtain⟨rfl,rfl,rfl⟩:=trodAll_nil r0;obtain rfl:args=#[v0]:=by cases args;simp_all
 obtain⟨rfl,rfl⟩:=trodVars_none hV;obtain⟨a0,len0,cK,rfl⟩:=okWide_slice Tryz.underlying22 (CA 0 22 v0 rfl rfl);obtain⟨x0,fp0,H0⟩:=open_arg (Zn9 Tryz.underlying22 (by kernel_rfl) (by decide) (Zpo Tryz.underlying5)) h0;refine(walk _ x0 fp0 W H0).mono λe W' ⟨he,hw⟩=>?_;subst he;exact⟨_,rfl,law_done laidOut readable rfl rfl Tryz.underlying4 hW' rfl rfl rfl hw⟩
theorem holds:Rows.FnConditionOfSaid:=
 OpenClaim.holds_of_wide 3 Tryz.f3 rfl rfl rfl rfl rfl rfl rfl ⟨rfl,rfl,rfl,rfl,rfl⟩ rfl rfl rfl rfl rfl (by kernel_rfl) Tryz.func3 (by kernel_rfl)
  (JW (by kernel_rfl)) (by unfold Func.isWrapper;first | (rw[if_pos (by decide +kernel)];kernel_rfl) | (rw[if_neg (by decide +kernel)];exact⟨rfl,rfl⟩))
  (λos lc H enc _=>lifted os lc H enc)
end Go.Proofs.YtipfpppcbmpjiaaGreat.lawConditionOf
