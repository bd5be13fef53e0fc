/- ExpandLine of the program answers as its model at every argument; it writes into none; its answer owns its memory. No conditions. -/
import Derived.Test.YtiaiggjfepoahaaGreatZE18
set_option linter.unusedVariables false
set_option maxHeartbeats 16000000
set_option maxRecDepth 100000
set_option linter.unusedSimpArgs false
namespace Go.Proofs.YtiaiggjfepoahaaGreat.exactExpandLine
open Go.ChangeShapes Go.WideShapes Go.ChangeAt Go.RowKit Go.ChangeMaps
theorem boxes {w:World} {g:Nat} {arr:Array Value} {ty:TypeId} (h:w.heap[g]?=some (.cells arr ty (0,0))) {w':World} (hb:Below w.heap.size w w'):w'.heap[g]?=some (.cells arr ty (0,0)):=
 (hb.block g (Qg h).1).trans h
theorem boxK {w:World} {g:Nat} {arr:Array Value} {ty:TypeId} {fp:List Nat} (h:w.heap[g]?=some (.cells arr ty (0,0))) {w':World} (hk:Kept fp w w') (hn:g∉fp):w'.heap[g]?=some (.cells arr ty (0,0)):=
 (hk.block g (Qg h).1 hn).trans h
theorem boxlt {w:World} {g:Nat} {arr:Array Value} {ty:TypeId} (h:w.heap[g]?=some (.cells arr ty (0,0))):g<w.heap.size:=(Qg h).1
theorem box_new (w:World) (arr:Array Value) (ty:TypeId):(w.alloc (.cells arr ty)).heap[w.heap.size]?=some (.cells arr ty (0,0)):=by
 show (w.heap.push _)[_]?=_;simp
theorem walk (v0:Value) (x0:(List DMacro)) (fp0:List Nat) (v1:Value) (x1:ByteArray) (fp1:List Nat) (w:World) (H0:(Zaa sMacro).R w [v0] x0 fp0) (H1:sStr.R w [v1] x1 fp1) :
  Calls Tryz.prog 5 #[v0,v1] w λ e w'=>e=.returned (.bool true)/\Below w.heap.size w w':=by
 obtain⟨h1,hok1,rfl⟩:=H1
 obtain rfl:v1=.string x1:=by simpa using h1
 have hs1:x1.size<=maxLen:=hok1
 unfold maxLen at hs1
 have HSP:=Qh (λ (W:World) (v0_:Value) (f0_:List Nat) (hw0_:Zaz x0<=1048576) (h0_:(Zaa sMacro).R W [v0_] x0 f0_)=>Zgn v0_ x0 f0_ x1 W hw0_ h0_ hok1)
 have HIM:=Qh (λ (W:World) (v0_:Value) (f0_:List Nat) (hw0_:Zaz x0<=1048576) (h0_:(Zaa sMacro).R W [v0_] x0 f0_)=>Zgo v0_ x0 f0_ x1 W hw0_ h0_ hok1)
 unfold ZdH at HSP HIM
 have HC:=Qh (ZiL x0 x1)
 generalize lineRes x0 x1=M at HSP HIM HC
 obtain⟨md,mb⟩:=M
 have hB:=Below.refl w.heap.size w
 have a0:=Seen.of H0
 clear H0
 go_enter Tryz.func5,Tryz.ntmps5
 by_cases hbig1:1048576<x1.size
 ·go_wp2
  go_ret
  exact⟨rfl,hB⟩
 go_wp2_with fail
 refine (ZjM _ _ _ _ _ (by omega) (by omega) a0.r).mono ?_
 rintro e W1 ⟨r0,rfl,hr0,b1⟩
 replace a0:=a0.below b1
 replace hB:=hB.trans (b1.mono hB.size)
 have hz1:w.heap.size<=W1.heap.size:=b1.size
 clear b1
 by_cases hneg0:r0<0
 ·go_wp2
  go_ret
  exact⟨rfl,hB⟩
 have hw0:=(hr0.good hneg0).1
 have hl0:=hr0.le (by omega)
 have HW0:Hid (Zaz x0<=1048576):=by show _<=_;omega
 clear hr0 hw0
 go_wp2_with fail
 refine (ZcA _ _ _ _ HW0.out a0.r).mono ?_
 rintro e W2 ⟨v2,f3,rfl,r4,o5,b6⟩
 replace a0:=a0.below b6
 replace hB:=hB.trans (b6.mono hB.size)
 have hz2:W1.heap.size<=W2.heap.size:=b6.size
 clear b6
 have c7:=Live.of r4 o5
 clear r4 o5
 go_wp2_with fail
 refine (HSP.out _ _ _ HW0.out c7.r).mono ?_
 rintro e W3 ⟨rfl,b8⟩
 replace a0:=a0.below b8
 replace c7:=c7.below b8
 replace hB:=hB.trans (b8.mono hB.size)
 have hz3:W2.heap.size<=W3.heap.size:=b8.size
 clear b8
 clear c7
 go_wp2_with fail
 refine (ZcA _ _ _ _ HW0.out a0.r).mono ?_
 rintro e W4 ⟨v9,f10,rfl,r11,o12,b13⟩
 replace a0:=a0.below b13
 replace hB:=hB.trans (b13.mono hB.size)
 have hz4:W3.heap.size<=W4.heap.size:=b13.size
 clear b13
 have c14:=Live.of r11 o12
 clear r11 o12
 go_wp2_with fail
 refine (HIM.out _ _ _ HW0.out c14.r).mono ?_
 rintro e W5 ⟨rfl,b15⟩
 replace a0:=a0.below b15
 replace c14:=c14.below b15
 replace hB:=hB.trans (b15.mono hB.size)
 have hz5:W4.heap.size<=W5.heap.size:=b15.size
 clear b15
 go_wp2_with fail
 refine (ZcA _ _ _ _ HW0.out a0.r).mono ?_
 rintro e W6 ⟨v16,f17,rfl,r18,o19,b20⟩
 replace a0:=a0.below b20
 replace c14:=c14.below b20
 replace hB:=hB.trans (b20.mono hB.size)
 have hz6:W5.heap.size<=W6.heap.size:=b20.size
 clear b20
 have c21:=Live.of r18 o19
 clear r18 o19
 go_wp2_with fail
 refine (Zfn _ _ _ _ _ _ c14.r c21.r).mono ?_
 rintro e W7 ⟨rfl,b22⟩
 replace a0:=a0.below b22
 replace c14:=c14.below b22
 replace c21:=c21.below b22
 replace hB:=hB.trans (b22.mono hB.size)
 have hz7:W6.heap.size<=W7.heap.size:=b22.size
 clear b22
 clear c21
 go_wp2
 go_ret
 exact⟨rfl,hB⟩
theorem own:ownKnob Tryz.prog.godebug=none:=by kernel_rfl
theorem laidOut:laidOutB Tryz.prog=true:=by kernel_rfl
theorem readable:∀ t∈Tryz.f5.params.toList,Tryz.prog.readableRec t=true/\t<Tryz.prog.types.size:=by
 rw [Tryz.params5]
 intro t ht
 simp only [List.mem_cons,List.not_mem_nil,or_false] at ht
 first
  | (subst ht;exact⟨by kernel_rfl,of_decide_eq_true (by kernel_rfl)⟩)
  | (rcases ht with rfl | rfl <;> exact⟨by kernel_rfl,of_decide_eq_true (by kernel_rfl)⟩)
theorem lifted (os:Os) (started:os.Started) (H:Type) (enc:TypeId × Value->H) :
  ReturnsInHanded {} Tryz.checked os 5 .any (Rows.fnExactExpandLineSpec.pre6 enc Tryz.prog Tryz.f5 Rows.fnExactExpandLineRow.domain false) (Rows.fnExactExpandLineSpec.post enc Tryz.prog Tryz.f5 false true false false):=by
 refine returnsInHanded_of_change (C:=Tryz.checked) own started (by kernel_rfl) Tryz.func5
  (ChangeSpec.witness6 (enc:=enc) (C:=Tryz.checked) false ⟨#[],#[.slice none 0 0,.string ByteArray.empty],[]⟩ 8 (by kernel_rfl) (by kernel_rfl) (by kernel_rfl) (by kernel_rfl)) ?_
 intro W base args ds gs before hval0 hW hcnd _
 have hval:∀ (j:Nat) t v,Tryz.f5.params[j]?=some t->args[j]?=some v->Value.okWide Tryz.prog W .any base t v:=hval0
 have hW':=hW
 obtain⟨p,q,hA0,hV,rfl,hfz,hnd⟩:=hW
 have hA:DataW.TrodAll enc Tryz.prog W 0 (λ _=>true) true Tryz.f5.params.toList args.toList ds p:=hA0
 rw [Tryz.params5] at hA hval
 obtain⟨v0,vs0,d0,ds0,p0,q0,hargs0,rfl,rfl,h0,r0⟩:=trodAll_cons hA
 obtain⟨v1,vs1,d1,ds1,p1,q1,hargs1,rfl,rfl,h1,r1⟩:=trodAll_cons r0
 obtain⟨rfl,rfl,rfl⟩:=trodAll_nil r1
 obtain rfl:args=#[v0,v1]:=by cases args;simp_all
 obtain⟨rfl,rfl⟩:=trodVars_none hV
 obtain⟨a0,len0,cap0,rfl⟩:=okWide_slice Tryz.underlying35 (hval 0 35 v0 rfl rfl)
 obtain⟨x0,fp0,H0⟩:=ZeO (Zb4 Tryz.underlying35 (by kernel_rfl) (by decide) ZgB) h0
 obtain⟨s1,rfl⟩:=okWide_string Tryz.underlying9 (hval 1 9 v1 rfl rfl)
 obtain⟨x1,fp1,H1⟩:=ZeO (Zdm Tryz.underlying9) h1
 refine (walk _ x0 fp0 _ x1 fp1 W H0 H1).mono λ e W' ⟨he,hw⟩=>?_
 subst he
 exact⟨_,rfl,Zjv laidOut readable rfl rfl Tryz.underlying4 hW' rfl rfl rfl hw⟩
theorem holds:Rows.FnExactExpandLineSaid:=
 OpenClaim.holds_of_wide 5 Tryz.f5 rfl rfl rfl rfl rfl rfl rfl ⟨rfl,rfl,rfl,rfl,rfl⟩ rfl rfl rfl rfl rfl (by kernel_rfl) Tryz.func5 (by kernel_rfl)
  (of_decide_eq_true (by kernel_rfl)) (by unfold Func.isWrapper;first | (rw [if_pos (by decide +kernel)];kernel_rfl) | (rw [if_neg (by decide +kernel)];exact⟨rfl,rfl⟩))
  (λ os started H enc _=>lifted os started H enc)
end Go.Proofs.YtiaiggjfepoahaaGreat.exactExpandLine
