/- ConditionOf of the program answers as its model at every argument; it writes into none; its answer owns its memory. No conditions. -/
import Derived.Test.YtipfpppcbmpjiaaGreatZEConditionOf20
set_option linter.unusedVariables false
set_option maxHeartbeats 16000000
set_option maxRecDepth 100000
set_option linter.unusedSimpArgs false
namespace Go.Proofs.YtipfpppcbmpjiaaGreat.exactConditionOf
open Go.ChangeShapes Go.WideShapes Go.ChangeAt Go.RowKit Go.ChangeMaps
theorem boxes {w:World} {g:Nat} {arr:Array Value} {ty:TypeId} (h:w.heap[g]?=some (.cells arr ty (0,0))) {w':World} (hb:Below w.heap.size w w'):w'.heap[g]?=some (.cells arr ty (0,0)):=
 (hb.block g (Qg h).1).trans h
theorem boxK {w:World} {g:Nat} {arr:Array Value} {ty:TypeId} {fp:List Nat} (h:w.heap[g]?=some (.cells arr ty (0,0))) {w':World} (hk:Kept fp w w') (hn:g∉fp):w'.heap[g]?=some (.cells arr ty (0,0)):=
 (hk.block g (Qg h).1 hn).trans h
theorem boxlt {w:World} {g:Nat} {arr:Array Value} {ty:TypeId} (h:w.heap[g]?=some (.cells arr ty (0,0))):g<w.heap.size:=(Qg h).1
theorem box_new (w:World) (arr:Array Value) (ty:TypeId):(w.alloc (.cells arr ty)).heap[w.heap.size]?=some (.cells arr ty (0,0)):=by
 show (w.heap.push _)[_]?=_;simp
theorem walk (v0:Value) (x0:(List DMacro)) (fp0:List Nat) (v1:Value) (x1:(List Tok)) (fp1:List Nat) (w:World) (H0:(Zaa sMacro).R w [v0] x0 fp0) (H1:(Zaa sTok).R w [v1] x1 fp1) :
  Calls Tryz.prog 4 #[v0,v1] w λ e w'=>e=.returned (.bool true)/\Below w.heap.size w w':=by
 have HSP:=Qh (λ (W:World) (v0_:Value) (f0_:List Nat) (v1_:Value) (f1_:List Nat) (hw0_:ZaS x0<=1048576) (hw1_:ZaD x1<=1048576) (h0_:(Zaa sMacro).R W [v0_] x0 f0_) (h1_:(Zaa sTok).R W [v1_] x1 f1_)=>Zgi v0_ x0 f0_ v1_ x1 f1_ W hw0_ hw1_ h0_ h1_)
 have HIM:=Qh (λ (W:World) (v0_:Value) (f0_:List Nat) (v1_:Value) (f1_:List Nat) (hw0_:ZaS x0<=1048576) (hw1_:ZaD x1<=1048576) (h0_:(Zaa sMacro).R W [v0_] x0 f0_) (h1_:(Zaa sTok).R W [v1_] x1 f1_)=>Zgm v0_ x0 f0_ v1_ x1 f1_ W hw0_ hw1_ h0_ h1_)
 unfold ZeX at HSP HIM
 have HC:=Qh (Zic x0 x1)
 generalize condRes x0 x1=M at HSP HIM HC
 obtain⟨md,mb⟩:=M
 have hB:=Below.refl w.heap.size w
 have a0:=Seen.of H0
 have a1:=Seen.of H1
 clear H0 H1
 go_enter Tryz.func4,Tryz.ntmps4
 go_wp2_with fail
 refine (szMacroS _ _ _ _ _ (by omega) (by omega) a0.r).mono ?_
 rintro e W1 ⟨r0,rfl,hr0,b1⟩
 replace a0:=a0.below b1
 replace a1:=a1.below b1
 replace hB:=hB.trans (b1.mono hB.size)
 have hz1:w.heap.size<=W1.heap.size:=b1.size
 clear b1
 by_cases hneg0:r0<0
 ·go_wp2
  go_ret
  exact⟨rfl,hB⟩
 have hw0:=(hr0.good hneg0).1
 have hl0:=hr0.le (by omega)
 have HW0:Hid (ZaS x0<=1048576):=by show _<=_;omega
 clear hr0 hw0
 go_wp2_with fail
 refine (ZjY _ _ _ _ _ (by omega) (by omega) a1.r).mono ?_
 rintro e W2 ⟨r1,rfl,hr1,b2⟩
 replace a0:=a0.below b2
 replace a1:=a1.below b2
 replace hB:=hB.trans (b2.mono hB.size)
 have hz2:W1.heap.size<=W2.heap.size:=b2.size
 clear b2
 by_cases hneg1:r1<0
 ·go_wp2
  go_ret
  exact⟨rfl,hB⟩
 have hw1:=(hr1.good hneg1).1
 have hl1:=hr1.le (by omega)
 have HW1:Hid (ZaD x1<=1048576):=by show _<=_;omega
 clear hr1 hw1
 go_wp2_with fail
 refine (Zg9 _ _ _ _ HW0.out a0.r).mono ?_
 rintro e W3 ⟨v3,f4,rfl,r5,o6,b7⟩
 replace a0:=a0.below b7
 replace a1:=a1.below b7
 replace hB:=hB.trans (b7.mono hB.size)
 have hz3:W2.heap.size<=W3.heap.size:=b7.size
 clear b7
 have c8:=Live.of r5 o6
 clear r5 o6
 go_wp2_with fail
 refine (Ze6 _ _ _ _ HW1.out a1.r).mono ?_
 rintro e W4 ⟨v9,f10,rfl,r11,o12,b13⟩
 replace a0:=a0.below b13
 replace a1:=a1.below b13
 replace c8:=c8.below b13
 replace hB:=hB.trans (b13.mono hB.size)
 have hz4:W3.heap.size<=W4.heap.size:=b13.size
 clear b13
 have c14:=Live.of r11 o12
 clear r11 o12
 go_wp2_with fail
 refine (HSP.out _ _ _ _ _ HW0.out HW1.out c8.r c14.r).mono ?_
 rintro e W5 ⟨rfl,b15⟩
 replace a0:=a0.below b15
 replace a1:=a1.below b15
 replace c8:=c8.below b15
 replace c14:=c14.below b15
 replace hB:=hB.trans (b15.mono hB.size)
 have hz5:W4.heap.size<=W5.heap.size:=b15.size
 clear b15
 clear c8
 clear c14
 go_wp2_with fail
 refine (Zg9 _ _ _ _ HW0.out a0.r).mono ?_
 rintro e W6 ⟨v16,f17,rfl,r18,o19,b20⟩
 replace a0:=a0.below b20
 replace a1:=a1.below b20
 replace hB:=hB.trans (b20.mono hB.size)
 have hz6:W5.heap.size<=W6.heap.size:=b20.size
 clear b20
 have c21:=Live.of r18 o19
 clear r18 o19
 go_wp2_with fail
 refine (Ze6 _ _ _ _ HW1.out a1.r).mono ?_
 rintro e W7 ⟨v22,f23,rfl,r24,o25,b26⟩
 replace a0:=a0.below b26
 replace a1:=a1.below b26
 replace c21:=c21.below b26
 replace hB:=hB.trans (b26.mono hB.size)
 have hz7:W6.heap.size<=W7.heap.size:=b26.size
 clear b26
 have c27:=Live.of r24 o25
 clear r24 o25
 go_wp2_with fail
 refine (HIM.out _ _ _ _ _ HW0.out HW1.out c21.r c27.r).mono ?_
 rintro e W8 ⟨rfl,b28⟩
 replace a0:=a0.below b28
 replace a1:=a1.below b28
 replace c21:=c21.below b28
 replace c27:=c27.below b28
 replace hB:=hB.trans (b28.mono hB.size)
 have hz8:W7.heap.size<=W8.heap.size:=b28.size
 clear b28
 go_wp2_with fail
 refine (Zg9 _ _ _ _ HW0.out a0.r).mono ?_
 rintro e W9 ⟨v29,f30,rfl,r31,o32,b33⟩
 replace a0:=a0.below b33
 replace a1:=a1.below b33
 replace c21:=c21.below b33
 replace c27:=c27.below b33
 replace hB:=hB.trans (b33.mono hB.size)
 have hz9:W8.heap.size<=W9.heap.size:=b33.size
 clear b33
 have c34:=Live.of r31 o32
 clear r31 o32
 go_wp2_with fail
 refine (ZjI _ _ _ _ _ _ c21.r c34.r).mono ?_
 rintro e W10 ⟨rfl,b35⟩
 replace a0:=a0.below b35
 replace a1:=a1.below b35
 replace c21:=c21.below b35
 replace c27:=c27.below b35
 replace c34:=c34.below b35
 replace hB:=hB.trans (b35.mono hB.size)
 have hz10:W9.heap.size<=W10.heap.size:=b35.size
 clear b35
 clear c34
 go_wp2_with fail
 refine (Ze6 _ _ _ _ HW1.out a1.r).mono ?_
 rintro e W11 ⟨v36,f37,rfl,r38,o39,b40⟩
 replace a0:=a0.below b40
 replace a1:=a1.below b40
 replace c21:=c21.below b40
 replace c27:=c27.below b40
 replace hB:=hB.trans (b40.mono hB.size)
 have hz11:W10.heap.size<=W11.heap.size:=b40.size
 clear b40
 have c41:=Live.of r38 o39
 clear r38 o39
 go_wp2_with fail
 refine (ZfC _ _ _ _ _ _ c27.r c41.r).mono ?_
 rintro e W12 ⟨rfl,b42⟩
 replace a0:=a0.below b42
 replace a1:=a1.below b42
 replace c21:=c21.below b42
 replace c27:=c27.below b42
 replace c41:=c41.below b42
 replace hB:=hB.trans (b42.mono hB.size)
 have hz12:W11.heap.size<=W12.heap.size:=b42.size
 clear b42
 clear c41
 go_wp2
 go_ret
 exact⟨rfl,hB⟩
theorem own:ownKnob Tryz.prog.godebug=none:=by kernel_rfl
theorem laidOut:laidOutB Tryz.prog=true:=by kernel_rfl
theorem readable:∀ t∈Tryz.f4.params.toList,Tryz.prog.readableRec t=true/\t<Tryz.prog.types.size:=by
 rw [Tryz.params4]
 intro t ht
 simp only [List.mem_cons,List.not_mem_nil,or_false] at ht
 first
  | (subst ht;exact⟨by kernel_rfl,of_decide_eq_true (by kernel_rfl)⟩)
  | (rcases ht with rfl | rfl <;> exact⟨by kernel_rfl,of_decide_eq_true (by kernel_rfl)⟩)
theorem lifted (os:Os) (started:os.Started) (H:Type) (enc:TypeId × Value->H) :
  ReturnsInHanded {} Tryz.checked os 4 .any (Rows.fnExactConditionOfSpec.pre6 enc Tryz.prog Tryz.f4 Rows.fnExactConditionOfRow.domain false) (Rows.fnExactConditionOfSpec.post enc Tryz.prog Tryz.f4 false true false false):=by
 refine returnsInHanded_of_change (C:=Tryz.checked) own started (by kernel_rfl) Tryz.func4
  (ChangeSpec.witness6 (enc:=enc) (C:=Tryz.checked) false ⟨#[],#[.slice none 0 0,.slice none 0 0],[]⟩ 8 (by kernel_rfl) (by kernel_rfl) (by kernel_rfl) (by kernel_rfl)) ?_
 intro W base args ds gs before hval0 hW hcnd _
 have hval:∀ (j:Nat) t v,Tryz.f4.params[j]?=some t->args[j]?=some v->Value.okWide Tryz.prog W .any base t v:=hval0
 have hW':=hW
 obtain⟨p,q,hA0,hV,rfl,hfz,hnd⟩:=hW
 have hA:DataW.TrodAll enc Tryz.prog W 0 (λ _=>true) true Tryz.f4.params.toList args.toList ds p:=hA0
 rw [Tryz.params4] at hA hval
 obtain⟨v0,vs0,d0,ds0,p0,q0,hargs0,rfl,rfl,h0,r0⟩:=trodAll_cons hA
 obtain⟨v1,vs1,d1,ds1,p1,q1,hargs1,rfl,rfl,h1,r1⟩:=trodAll_cons r0
 obtain⟨rfl,rfl,rfl⟩:=trodAll_nil r1
 obtain rfl:args=#[v0,v1]:=by cases args;simp_all
 obtain⟨rfl,rfl⟩:=trodVars_none hV
 obtain⟨a0,len0,cap0,rfl⟩:=okWide_slice Tryz.underlying34 (hval 0 34 v0 rfl rfl)
 obtain⟨x0,fp0,H0⟩:=ZjT (Zcw Tryz.underlying34 (by kernel_rfl) (by decide) Zk6) h0
 obtain⟨a1,len1,cap1,rfl⟩:=okWide_slice Tryz.underlying35 (hval 1 35 v1 rfl rfl)
 obtain⟨x1,fp1,H1⟩:=ZjT (Zcw Tryz.underlying35 (by kernel_rfl) (by decide) ZgO) h1
 refine (walk _ x0 fp0 _ x1 fp1 W H0 H1).mono λ e W' ⟨he,hw⟩=>?_
 subst he
 exact⟨_,rfl,law_done laidOut readable rfl rfl Tryz.underlying4 hW' rfl rfl rfl hw⟩
theorem holds:Rows.FnExactConditionOfSaid:=
 OpenClaim.holds_of_wide 4 Tryz.f4 rfl rfl rfl rfl rfl rfl rfl ⟨rfl,rfl,rfl,rfl,rfl⟩ rfl rfl rfl rfl rfl (by kernel_rfl) Tryz.func4 (by kernel_rfl)
  (of_decide_eq_true (by kernel_rfl)) (by unfold Func.isWrapper;first | (rw [if_pos (by decide +kernel)];kernel_rfl) | (rw [if_neg (by decide +kernel)];exact⟨rfl,rfl⟩))
  (λ os started H enc _=>lifted os started H enc)
end Go.Proofs.YtipfpppcbmpjiaaGreat.exactConditionOf
