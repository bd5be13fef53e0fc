/- What begins can end: after KindIf and KindEndif the levels are as before; KindElse twice is refused; of a level with KindElse exactly one branch is taken, if all others are. For every input. No conditions. -/
import Derived.Test.YtghikfggcnabeaaZU12
import Derived.Test.YtghikfggcnabeaaZU13
set_option linter.unusedVariables false
set_option linter.unusedSimpArgs false
namespace Go.Proofs.Ytghikfggcnabeaa.lawLevelStep
open Go.ChangeShapes Go.WideShapes Go.ChangeAt Go.RowKit Go.ChangeMaps


set_option maxHeartbeats 8000000 in
set_option maxRecDepth 100000 in
theorem walk (v0 : Value) (x0 : List UInt8) (fp0 : List Nat) (w : World) (H0 : (sSlice sByte).R w [v0] x0 fp0) :
  Calls Try.prog 4 #[v0] w fun e w' => e = .returned (.bool true) ∧ Below w.heap.size w w' := by
 have HH := Lib.hid H0
 obtain ⟨a, cap, hv, hc, hm, h⟩ := H0
 obtain rfl : v0 = .slice a x0.length cap := by simpa using hv
 unfold maxLen at hm
 clear h hv
 go_enter Try.func4, Try.ntmps4
 by_cases hbig : 1048576 < x0.length
 ·go_wp2
  go_ret
  exact ⟨rfl, Below.refl _ _⟩
 go_wp2_with fail
 refine (DrawLevelStep _ x0 fp0 _ HH.out).mono ?_
 rintro e w1 ⟨v1, l, f, k, h, rfl, hR, hl9, hk0, hk1, hB⟩
 clear HH
 have HI : Hid (∀ (v : Value) (x : List DLevel) (f : List Nat) (k : Int) (h : Bool) (W : World), x.length ≤ 100 → (sSlice sLevel).R W [v] x f → Calls Try.prog 12 #[v, .int .i64 k, .bool h] W (MineLev (stepL x k h) W)) := fun v x f k h W hl hx => impl_LevelStep v x f k h W (by omega) hx
 have HA : Hid (∀ (v : Value) (x : List DLevel) (f : List Nat) (W : World), (sSlice sLevel).R W [v] x f → Calls Try.prog 8 #[v] W fun e w' => e = .returned (.bool (actL x)) ∧ Below W.heap.size W w') := fun v x f W hx => impl_LevelsActive v x f W hx
 have HR1 := Lib.hid hR
 have HS1 := Lib.hid (fun W (hW : Below w1.heap.size w1 W) => spec_LevelStep v1 l f k h W (by omega) ((sSlice sLevel).below hR hW))
 have HI1 := Lib.hid (HI.out v1 l f k h w1 (by omega) hR)
 obtain ⟨a1, c1, rfl, hc1, hm1, -⟩ := open_rows hR
 unfold maxLen at hm1
 rcases hs : stepL l k h with ⟨x, ok⟩
 unfold MineLev at HI1 HS1
 rw [hs] at HI1 HS1
 try dsimp only at HI1 HS1
 have HSL := Lib.hid hs
 clear hR hs
 go_wp2_with fail
 refine HI1.out.mono ?_
 rintro e w2 ⟨v2, f2, rfl, R2, -, hb2⟩
 have hB2 := hB.trans (hb2.mono hB.size)
 have HR2 := Lib.hid R2
 clear HI1 R2
 go_wp2_with fail
 refine (HS1.out w2 hb2).mono ?_
 rintro e w3 ⟨v3, f3, rfl, R3, -, hb3⟩
 have hB3 := hB2.trans (hb3.mono hB2.size)
 have hb13 := hb2.trans (hb3.mono hb2.size)
 have HSS := Lib.hid (sameLevels_same v2 v3 x f2 f3 w3 ((sSlice sLevel).below HR2.out hb3) R3)
 have hoo : (ok != ok) = false := by simp
 clear HS1 R3
 go_wp2_with fail
 refine HSS.out.mono ?_
 rintro e w4 ⟨rfl, hb4⟩
 have hB4 := hB3.trans (hb4.mono hB3.size)
 have hb14 := hb13.trans (hb4.mono hb13.size)
 have HR4 := Lib.hid ((sSlice sLevel).below HR1.out hb14)
 clear HSS hb2 hB hB2 hb13 hB3 hb4
 cases ok
 ·obtain rfl := step_false HSL.out
  obtain ⟨a2, c2, rfl, -⟩ := open_rows HR2.out
  go_wp2_with (go_at_call 10; refine (alive _).mono ?_; rintro e w' ⟨rfl, rfl⟩)
  go_ret
  exact ⟨rfl, hB4⟩
 have hl8 := step_len HSL.out
 have HIF := Lib.hid (HI.out _ l f 3 h w4 (by omega) HR4.out)
 clear HSL HR2
 by_cases h8 : l.length = 8
 ·unfold MineLev at HIF
  rw [step_full ⟨by omega, by omega⟩ h8] at HIF
  try dsimp only at HIF
  have i8 : ((l.length : Int) == 8) = true := by simp; omega
  clear h8
  go_wp2_with fail
  refine HIF.out.mono ?_
  rintro e w5 ⟨v5, f5, rfl, -, -, hb5⟩
  go_wp2
  go_ret
  exact ⟨rfl, hB4.trans (hb5.mono hB4.size)⟩
 have h7 : l.length < 8 := by omega
 have HE1 := Lib.hid (step_begun (l := l) (h := h) h7)
 have HE2 := Lib.hid (step_turn (l := l) (h := h) h7)
 have HE3 := Lib.hid (step_twice (l := l) h7)
 have HE4 := Lib.hid (act_one (l := l) (h := h))
 unfold MineLev at HIF
 rw [step_begin ⟨by omega, by omega⟩ h7] at HIF
 try dsimp only at HIF
 obtain ⟨B, HBB⟩ : ∃ B : List DLevel, Hid (B = l ++ [⟨actL l && h, actL l && h, false⟩]) := ⟨_, Lib.hid rfl⟩
 obtain ⟨O, HOO⟩ : ∃ O : List DLevel, Hid (O = l ++ [⟨actL l && !(actL l && h), true, true⟩]) := ⟨_, Lib.hid rfl⟩
 have HE5 : Hid (stepL O 7 false = ([], false)) := by rw [HOO.out]; exact HE3.out _ _
 have HBL : Hid (B.length ≤ 100) := by show _ ≤ _; rw [HBB.out]; simp; omega
 have HOL : Hid (O.length ≤ 100) := by show _ ≤ _; rw [HOO.out]; simp; omega
 rw [show l ++ [⟨actL l && h, actL l && h, false⟩] = B from HBB.out.symm] at HE1 HE2 HE4 HIF
 rw [show l ++ [⟨actL l && !(actL l && h), true, true⟩] = O from HOO.out.symm] at HE2 HE4
 clear h8 HE3
 go_wp2_with fail
 refine HIF.out.mono ?_
 rintro e w5 ⟨v5, f5, rfl, R5, -, hb5⟩
 have hB5 := hB4.trans (hb5.mono hB4.size)
 have HR5 := Lib.hid ((sSlice sLevel).below HR4.out hb5)
 have HRB := Lib.hid R5
 have HIG := Lib.hid (HI.out _ B f5 8 false w5 HBL.out R5)
 unfold MineLev at HIG
 rw [HE1.out] at HIG
 try dsimp only at HIG
 clear HIF R5 HR4 hb5 hB4 HE1
 go_wp2_with fail
 refine HIG.out.mono ?_
 rintro e w6 ⟨v6, f6, rfl, R6, -, hb6⟩
 have hB6 := hB5.trans (hb6.mono hB5.size)
 have HR6 := Lib.hid ((sSlice sLevel).below HR5.out hb6)
 have HRB6 := Lib.hid ((sSlice sLevel).below HRB.out hb6)
 have HRE := Lib.hid R6
 have HIH := Lib.hid (HI.out _ B f5 7 false w6 HBL.out HRB6.out)
 unfold MineLev at HIH
 rw [HE2.out] at HIH
 try dsimp only at HIH
 clear HIG R6 HR5 HRB hb6 hB5 HE2
 go_wp2_with fail
 refine HIH.out.mono ?_
 rintro e w7 ⟨v7, f7, rfl, R7, -, hb7⟩
 have hB7 := hB6.trans (hb7.mono hB6.size)
 have HR7 := Lib.hid ((sSlice sLevel).below HR6.out hb7)
 have HRB7 := Lib.hid ((sSlice sLevel).below HRB6.out hb7)
 have HRE7 := Lib.hid ((sSlice sLevel).below HRE.out hb7)
 have HRO := Lib.hid R7
 have HIJ := Lib.hid (HI.out _ O f7 7 false w7 HOL.out R7)
 unfold MineLev at HIJ
 rw [HE5.out] at HIJ
 try dsimp only at HIJ
 clear HIH R7 HR6 HRB6 HRE hb7 hB6 HE5
 go_wp2_with fail
 refine HIJ.out.mono ?_
 rintro e w8 ⟨v8, f8, rfl, -, -, hb8⟩
 have hB8 := hB7.trans (hb8.mono hB7.size)
 have HR8 := Lib.hid ((sSlice sLevel).below HR7.out hb8)
 have HRB8 := Lib.hid ((sSlice sLevel).below HRB7.out hb8)
 have HRE8 := Lib.hid ((sSlice sLevel).below HRE7.out hb8)
 have HRO8 := Lib.hid ((sSlice sLevel).below HRO.out hb8)
 have HA1 := Lib.hid (HA.out _ B f5 w8 HRB8.out)
 have HA2 := Lib.hid (fun W (hW : Below w8.heap.size w8 W) => HA.out _ O f7 W ((sSlice sLevel).below HRO8.out hW))
 have HA3 := Lib.hid (fun W (hW : Below w8.heap.size w8 W) => HA.out _ l f W ((sSlice sLevel).below HR8.out hW))
 have HSS := Lib.hid (fun W (hW : Below w8.heap.size w8 W) => sameLevels_same _ _ l f6 f W ((sSlice sLevel).below HRE8.out hW) ((sSlice sLevel).below HR8.out hW))
 have h44 := HE4.out
 have hll : (actL l == actL l) = true := by simp
 generalize actL B = b1 at *
 generalize actL O = b2 at *
 generalize actL l = b0 at *
 clear HIJ HR7 HRB7 HRE7 HRO hb8 hB7 HE4
 go_wp2_with fail
 refine HA1.out.mono ?_
 rintro e w9 ⟨rfl, hb9⟩
 go_wp2_with fail
 refine (HA2.out w9 hb9).mono ?_
 rintro e wa ⟨rfl, hba⟩
 have hb9a := hb9.trans (hba.mono hb9.size)
 have hBa := hB8.trans (hb9a.mono hB8.size)
 clear HA1 HA2
 go_wp2_with fail
 refine (HSS.out wa hb9a).mono ?_
 rintro e wb ⟨rfl, hbb⟩
 have hb9b := hb9a.trans (hbb.mono hb9a.size)
 have hBb := hBa.trans (hbb.mono hBa.size)
 go_wp2_with fail
 refine (HA3.out wb hb9b).mono ?_
 rintro e wc ⟨rfl, hbc⟩
 have h45 : ((!(b1 == b2)) == b0) = true := by rw [← h44, bne]; simp
 go_wp2
 go_ret
 exact ⟨rfl, hBb.trans (hbc.mono hBb.size)⟩

theorem own : ownKnob Try.prog.godebug = none := by kernel_rfl
theorem laidOut : laidOutB Try.prog = true := by kernel_rfl
theorem readable : ∀ t ∈ Try.f4.params.toList, Try.prog.readableRec t = true ∧ t < Try.prog.types.size := by
 rw [Try.params4]
 simp only [List.mem_cons, List.not_mem_nil, or_false]
 rintro t rfl
 exact ⟨by kernel_rfl, of_decide_eq_true (by kernel_rfl)⟩

set_option maxRecDepth 100000 in
theorem lifted (os : Os) (started : os.Started) (H : Type) (enc : TypeId × Value → H) :
  ReturnsInHanded {} Try.checked os 4 .any (Rows.fnLevelStepSpec.pre6 enc Try.prog Try.f4 Rows.fnLevelStepRow.domain false) (Rows.fnLevelStepSpec.post enc Try.prog Try.f4 false true false false) := by
 refine returnsInHanded_of_change (C := Try.checked) own started (by kernel_rfl) Try.func4
  (ChangeSpec.witness6 (enc := enc) (C := Try.checked) false ⟨#[], #[.slice none 0 0], []⟩ 8 (by kernel_rfl) (by kernel_rfl) (by kernel_rfl) (by kernel_rfl)) ?_
 intro W base args ds gs before hval0 hW hcnd _
 have hval : ∀ (j : Nat) t v, Try.f4.params[j]? = some t → args[j]? = some v → Value.okWide Try.prog W .any base t v := hval0
 have hW' := hW
 obtain ⟨p, q, hA0, hV, rfl, hfz, hnd⟩ := hW
 have hA : DataW.TrodAll enc Try.prog W 0 (fun _ => true) true Try.f4.params.toList args.toList ds p := hA0
 rw [Try.params4] at hA hval
 obtain ⟨v0, vs0, d0, ds0, p0, q0, hargs0, rfl, rfl, h0, r0⟩ := trodAll_cons hA
 obtain ⟨rfl, rfl, rfl⟩ := trodAll_nil r0
 obtain rfl : args = #[v0] := by cases args; simp_all
 obtain ⟨rfl, rfl⟩ := trodVars_none hV
 obtain ⟨a0, len0, cap0, rfl⟩ := okWide_slice Try.underlying22 (hval 0 22 v0 rfl rfl)
 obtain ⟨x0, fp0, H0⟩ := open_arg (opens_slice Try.underlying22 (by kernel_rfl) (by decide) (opens_byte Try.underlying5)) h0
 refine (walk _ x0 fp0 W H0).mono fun e W' ⟨he, hw⟩ => ?_
 subst he
 exact ⟨_, rfl, law_done laidOut readable rfl rfl Try.underlying4 hW' rfl rfl rfl hw⟩

theorem holds : Rows.FnLevelStepSaid :=
 OpenClaim.holds_of_wide 4 Try.f4 rfl rfl rfl rfl rfl rfl rfl ⟨rfl, rfl, rfl, rfl, rfl⟩ rfl rfl rfl rfl rfl (by kernel_rfl) Try.func4 (by kernel_rfl)
  (of_decide_eq_true (by kernel_rfl)) (by unfold Func.isWrapper; first | (rw [if_pos (by decide +kernel)]; kernel_rfl) | (rw [if_neg (by decide +kernel)]; exact ⟨rfl, rfl⟩))
  (fun os started H enc _ => lifted os started H enc)


end Go.Proofs.Ytghikfggcnabeaa.lawLevelStep
