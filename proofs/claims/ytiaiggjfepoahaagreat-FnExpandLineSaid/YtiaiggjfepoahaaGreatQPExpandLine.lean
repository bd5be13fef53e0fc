/- Expanded lines are lines; with an empty table the line has the same tokens: for every input. No conditions. -/
import Derived.Test.YtiaiggjfepoahaaGreatZP19
set_option linter.unusedVariables false
set_option maxHeartbeats 16000000
set_option maxRecDepth 100000
set_option linter.unusedSimpArgs false
namespace Go.Proofs.YtiaiggjfepoahaaGreat.lawExpandLine
open Go.ChangeShapes Go.WideShapes Go.ChangeAt Go.RowKit Go.ChangeMaps
theorem walk (v0:Value) (x0:List UInt8) (fp0:List Nat) (w:World) (H0:(Zaa sByte).R w [v0] x0 fp0) :
  Calls Tryz.prog 3 #[v0] w λ e w'=>e=.returned (.bool true)/\Below w.heap.size w w':=by
 have HH:=Qh H0
 obtain⟨a,cap,hv,hc,hm,h⟩:=H0
 obtain rfl:v0=.slice a x0.length cap:=by simpa using hv
 unfold maxLen at hm
 clear h hv
 go_enter Tryz.func3,Tryz.ntmps3
 by_cases hbig:1048576<x0.length
 ·go_wp2
  go_ret
  exact⟨rfl,Below.refl _ _⟩
 go_wp2_with fail
 refine (ZiQ _ x0 fp0 _ HH.out).mono ?_
 rintro e w1 ⟨v1,t,fp,s,rfl,hR,hok,hl9,hs,hB⟩
 have HSM:Hid (∀ k,(hk:k<t.length)->MacSm t[k]):=λ k hk=>Zhk (hok _ (List.getElem_mem hk))
 have HI:Hid (∀ W,Below w1.heap.size w1 W->Calls Tryz.prog 7 #[v1,.string s] W (ZdD t s W)):=λ W hW=>ZeJ v1 t fp s W (ZbY (by omega)) ((Zaa sMacro).below hR hW)
 have HS:Hid (∀ W,Below w1.heap.size w1 W->Calls Tryz.prog 8 #[v1,.string s] W (ZdD t s W)):=λ W hW=>Ziq v1 t fp s W (by omega) HSM.out (ZbY (by omega)) ((Zaa sMacro).below hR hW)
 have HN:Hid (∀ W,Calls Tryz.prog 7 #[.slice none 0 0,.string s] W (ZdD [] s W)):=λ W=>ZeJ _ [] [] s W (ZbY (by omega)) (Zan sMacro _ _ 0 (by simp))
 have HT:=Qh (λ (W:World)=>Zbr s W (ZbY (by omega)))
 obtain⟨a1,c1,rfl,-⟩:=Zac hR
 clear hok hR HSM
 unfold ZdD at HI HS HN
 unfold Zbd at HT
 have hbb:∀ b:Bool,(b != b)=false:=by intro b;simp
 rcases hq:Zai s with⟨l,good⟩
 rw [hq] at HT
 try dsimp only at HT
 cases good
 ·rw [Zdd hq] at HI HS HN
  try dsimp only at HI HS HN
  have HT2:=Qh (λ (W:World)=>Zbr ⟨#[]⟩ W (ZbY (by decide)))
  unfold Zbd at HT2
  rcases hq2:Zai ⟨#[]⟩ with⟨l2,good2⟩
  rw [hq2] at HT2
  try dsimp only at HT2
  clear hq hq2
  go_wp2_with fail
  refine (HI.out _ (Below.refl _ _)).mono ?_
  rintro e w2 ⟨rfl,hb2⟩
  go_wp2_with fail
  refine (HS.out _ hb2).mono ?_
  rintro e w3 ⟨rfl,hb3⟩
  have hB3:=hB.trans ((hb2.trans (hb3.mono hb2.size)).mono hB.size)
  go_wp2_with fail
  refine (HT.out _).mono ?_
  rintro e w4 ⟨v4,f4,rfl,r4,-,b4⟩
  obtain⟨a4,c4,rfl,-⟩:=Zac r4
  have hB4:=hB3.trans (b4.mono hB3.size)
  clear r4
  go_wp2_with fail
  refine (HN.out _).mono ?_
  rintro e w5 ⟨rfl,b5⟩
  have hB5:=hB4.trans (b5.mono hB4.size)
  go_wp2_with fail
  refine (HT2.out _).mono ?_
  rintro e w6 ⟨v6,f6,rfl,r6,-,b6⟩
  obtain⟨a6,c6,rfl,-⟩:=Zac r6
  have hB6:=hB5.trans (b6.mono hB5.size)
  clear r6 hb2 hb3 b4 b5 b6 HI HS HN HT HT2
  go_wp2_with (go_at_call 12;refine (alive _).mono ?_;rintro e w' ⟨rfl,rfl⟩)
  go_ret
  exact⟨rfl,hB6⟩
 rcases hx:ZbC t s with⟨x,ok⟩
 rcases hp:ZaQ l with⟨y,well⟩
 rw [hx] at HI HS
 rw [Zj2 hq,hp] at HN
 try dsimp only at HI HS HN
 have hbb':=hbb ok
 have hxx:=ZaP (rfl:x=x)
 have HY:Hid (well=true->∃ out,Zai y=(out,true)/\ZaZ out l=true):=λ h=>by subst h;exact ZgQ hp
 have HYS:Hid (y.size<=1000):=by
  show _<=_
  cases well
  ·rw [Zfd hp];decide
  ·obtain⟨out,h1,-⟩:=HY.out rfl
   have:=ZcD (Za5 h1).2
   omega
 have HT2:=Qh (λ (W:World)=>Zbr y W (ZbY (by have:=HYS.out;omega)))
 unfold Zbd at HT2
 have HX0:Hid (ok=false->x=⟨#[]⟩):=λ h=>by subst h;exact Zj3 hx
 have HX1:Hid (ok=true->ZaC x=true):=λ h=>by subst h;exact(Zlp hx).2
 rcases hq2:Zai y with⟨l2,good2⟩
 rw [hq2] at HT2 HY
 try dsimp only at HT2
 clear hq hx hp hq2 hbb
 go_wp2_with fail
 refine (HI.out _ (Below.refl _ _)).mono ?_
 rintro e w2 ⟨rfl,hb2⟩
 go_wp2_with fail
 refine (HS.out _ hb2).mono ?_
 rintro e w3 ⟨rfl,hb3⟩
 have hB3:=hB.trans ((hb2.trans (hb3.mono hb2.size)).mono hB.size)
 cases ok
 ·have hx0:=HX0.out rfl
  subst hx0
  cases well
  ·skip
   go_wp2_with fail
   refine (HT.out _).mono ?_
   rintro e w4 ⟨v4,f4,rfl,r4,-,b4⟩
   have HR4:=Qh r4
   obtain⟨a4,c4,rfl,-⟩:=Zac r4
   have hB4:=hB3.trans (b4.mono hB3.size)
   clear r4
   go_wp2_with fail
   refine (HN.out _).mono ?_
   rintro e w5 ⟨rfl,b5⟩
   have hB5:=hB4.trans (b5.mono hB4.size)
   go_wp2_with fail
   refine (HT2.out _).mono ?_
   rintro e w6 ⟨v6,f6,rfl,r6,-,b6⟩
   obtain⟨a6,c6,rfl,-⟩:=Zac r6
   have hB6:=hB5.trans (b6.mono hB5.size)
   clear r6 b4 b5 b6 HT HN HT2 HY
   go_wp2_with (go_at_call 12;refine (alive _).mono ?_;rintro e w' ⟨rfl,rfl⟩)
   go_ret
   exact⟨rfl,hB6⟩
  ·skip
   go_wp2_with fail
   refine (HT.out _).mono ?_
   rintro e w4 ⟨v4,f4,rfl,r4,-,b4⟩
   have HR4:=Qh r4
   obtain⟨a4,c4,rfl,-⟩:=Zac r4
   have hB4:=hB3.trans (b4.mono hB3.size)
   clear r4
   go_wp2_with fail
   refine (HN.out _).mono ?_
   rintro e w5 ⟨rfl,b5⟩
   have hB5:=hB4.trans (b5.mono hB4.size)
   go_wp2_with fail
   refine (HT2.out _).mono ?_
   rintro e w6 ⟨v6,f6,rfl,r6,-,b6⟩
   have HC:=Qh (Zdk _ _ _ _ _ _ _ r6 ((Zaa sTok).below ((Zaa sTok).below HR4.out b5) b6))
   obtain⟨out,h1,h2⟩:=HY.out (by simp)
   obtain⟨rfl,rfl⟩:l2=out/\good2=true:=by simpa using h1
   rw [h2] at HC
   clear h1 h2
   obtain⟨a6,c6,rfl,-⟩:=Zac r6
   have hB6:=hB5.trans (b6.mono hB5.size)
   clear r6 b4 b5 b6 HT HN HT2 HY
   go_wp2_with fail
   refine HC.out.mono ?_
   rintro e w7 ⟨rfl,b7⟩
   have hB7:=hB6.trans (b7.mono hB6.size)
   clear HC
   go_wp2_with (go_at_call 12;refine (alive _).mono ?_;rintro e w' ⟨rfl,rfl⟩)
   go_ret
   exact⟨rfl,hB7⟩
 ·cases well
  ·skip
   go_wp2_with fail
   refine (HT.out _).mono ?_
   rintro e w4 ⟨v4,f4,rfl,r4,-,b4⟩
   have HR4:=Qh r4
   obtain⟨a4,c4,rfl,-⟩:=Zac r4
   have hB4:=hB3.trans (b4.mono hB3.size)
   clear r4
   go_wp2_with fail
   refine (HN.out _).mono ?_
   rintro e w5 ⟨rfl,b5⟩
   have hB5:=hB4.trans (b5.mono hB4.size)
   go_wp2_with fail
   refine (HT2.out _).mono ?_
   rintro e w6 ⟨v6,f6,rfl,r6,-,b6⟩
   obtain⟨a6,c6,rfl,-⟩:=Zac r6
   have hB6:=hB5.trans (b6.mono hB5.size)
   clear r6 b4 b5 b6 HT HN HT2 HY
   have HLV:=Qh (λ (W:World)=>ZbB x W (ZbY (by have:=ZcD (HX1.out (by simp));omega)))
   rw [HX1.out (by simp)] at HLV
   go_wp2_with fail
   refine (HLV.out _).mono ?_
   rintro e w8 ⟨rfl,rfl⟩
   go_wp2_with (go_at_call 12;refine (alive _).mono ?_;rintro e w' ⟨rfl,rfl⟩)
   go_ret
   exact⟨rfl,hB6⟩
  ·skip
   go_wp2_with fail
   refine (HT.out _).mono ?_
   rintro e w4 ⟨v4,f4,rfl,r4,-,b4⟩
   have HR4:=Qh r4
   obtain⟨a4,c4,rfl,-⟩:=Zac r4
   have hB4:=hB3.trans (b4.mono hB3.size)
   clear r4
   go_wp2_with fail
   refine (HN.out _).mono ?_
   rintro e w5 ⟨rfl,b5⟩
   have hB5:=hB4.trans (b5.mono hB4.size)
   go_wp2_with fail
   refine (HT2.out _).mono ?_
   rintro e w6 ⟨v6,f6,rfl,r6,-,b6⟩
   have HC:=Qh (Zdk _ _ _ _ _ _ _ r6 ((Zaa sTok).below ((Zaa sTok).below HR4.out b5) b6))
   obtain⟨out,h1,h2⟩:=HY.out (by simp)
   obtain⟨rfl,rfl⟩:l2=out/\good2=true:=by simpa using h1
   rw [h2] at HC
   clear h1 h2
   obtain⟨a6,c6,rfl,-⟩:=Zac r6
   have hB6:=hB5.trans (b6.mono hB5.size)
   clear r6 b4 b5 b6 HT HN HT2 HY
   go_wp2_with fail
   refine HC.out.mono ?_
   rintro e w7 ⟨rfl,b7⟩
   have hB7:=hB6.trans (b7.mono hB6.size)
   clear HC
   have HLV:=Qh (λ (W:World)=>ZbB x W (ZbY (by have:=ZcD (HX1.out (by simp));omega)))
   rw [HX1.out (by simp)] at HLV
   go_wp2_with fail
   refine (HLV.out _).mono ?_
   rintro e w8 ⟨rfl,rfl⟩
   go_wp2_with (go_at_call 12;refine (alive _).mono ?_;rintro e w' ⟨rfl,rfl⟩)
   go_ret
   exact⟨rfl,hB7⟩
theorem own:ownKnob Tryz.prog.godebug=none:=by kernel_rfl
theorem laidOut:laidOutB Tryz.prog=true:=by kernel_rfl
theorem readable:∀ t∈Tryz.f3.params.toList,Tryz.prog.readableRec t=true/\t<Tryz.prog.types.size:=by
 rw [Tryz.params3]
 simp only [List.mem_cons,List.not_mem_nil,or_false]
 rintro t rfl
 exact⟨by kernel_rfl,of_decide_eq_true (by kernel_rfl)⟩
theorem lifted (os:Os) (started:os.Started) (H:Type) (enc:TypeId × Value->H) :
  ReturnsInHanded {} Tryz.checked os 3 .any (Rows.fnExpandLineSpec.pre6 enc Tryz.prog Tryz.f3 Rows.fnExpandLineRow.domain false) (Rows.fnExpandLineSpec.post enc Tryz.prog Tryz.f3 false true false false):=by
 refine returnsInHanded_of_change (C:=Tryz.checked) own started (by kernel_rfl) Tryz.func3
  (ChangeSpec.witness6 (enc:=enc) (C:=Tryz.checked) false ⟨#[],#[.slice none 0 0],[]⟩ 8 (by kernel_rfl) (by kernel_rfl) (by kernel_rfl) (by kernel_rfl)) ?_
 intro W base args ds gs before hval0 hW hcnd _
 have hval:∀ (j:Nat) t v,Tryz.f3.params[j]?=some t->args[j]?=some v->Value.okWide Tryz.prog W .any base t v:=hval0
 have hW':=hW
 obtain⟨p,q,hA0,hV,rfl,hfz,hnd⟩:=hW
 have hA:DataW.TrodAll enc Tryz.prog W 0 (λ _=>true) true Tryz.f3.params.toList args.toList ds p:=hA0
 rw [Tryz.params3] at hA hval
 obtain⟨v0,vs0,d0,ds0,p0,q0,hargs0,rfl,rfl,h0,r0⟩:=trodAll_cons hA
 obtain⟨rfl,rfl,rfl⟩:=trodAll_nil r0
 obtain rfl:args=#[v0]:=by cases args;simp_all
 obtain⟨rfl,rfl⟩:=trodVars_none hV
 obtain⟨a0,len0,cap0,rfl⟩:=okWide_slice Tryz.underlying22 (hval 0 22 v0 rfl rfl)
 obtain⟨x0,fp0,H0⟩:=open_arg (Zls Tryz.underlying22 (by kernel_rfl) (by decide) (Zmu Tryz.underlying5)) h0
 refine (walk _ x0 fp0 W H0).mono λ e W' ⟨he,hw⟩=>?_
 subst he
 exact⟨_,rfl,law_done laidOut readable rfl rfl Tryz.underlying4 hW' rfl rfl rfl hw⟩
theorem holds:Rows.FnExpandLineSaid:=
 OpenClaim.holds_of_wide 3 Tryz.f3 rfl rfl rfl rfl rfl rfl rfl ⟨rfl,rfl,rfl,rfl,rfl⟩ rfl rfl rfl rfl rfl (by kernel_rfl) Tryz.func3 (by kernel_rfl)
  (of_decide_eq_true (by kernel_rfl)) (by unfold Func.isWrapper;first | (rw [if_pos (by decide +kernel)];kernel_rfl) | (rw [if_neg (by decide +kernel)];exact⟨rfl,rfl⟩))
  (λ os started H enc _=>lifted os started H enc)
end Go.Proofs.YtiaiggjfepoahaaGreat.lawExpandLine
