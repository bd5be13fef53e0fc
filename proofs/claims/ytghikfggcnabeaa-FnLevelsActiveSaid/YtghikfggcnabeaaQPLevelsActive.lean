/- Levels are active together: with one that is not taken none is active; a part of active ones is active. For every input. No conditions. -/
import Derived.Test.YtghikfggcnabeaaZU12
import Derived.Test.YtghikfggcnabeaaZU13
import Derived.Test.YtghikfggcnabeaaZU9
set_option linter.unusedVariables false
set_option linter.unusedSimpArgs false
namespace Go.Proofs.Ytghikfggcnabeaa.lawLevelsActive
open Go.ChangeShapes Go.WideShapes Go.ChangeAt Go.RowKit Go.ChangeMaps

theorem lev_lit (w : World) (x : DLevel) : RowN sLevel w.heap.size 27 (.slice (some ⟨w.heap.size, 0, none⟩) 1 1) ([x].map levE) (w.alloc (.cells #[.bool x.taken, .bool x.done_, .bool x.other] 27)) :=
 RowN.lit1 (x := levE x) (Nat.le_refl _) rfl (levE_R _ _)

set_option maxHeartbeats 8000000 in
set_option maxRecDepth 100000 in
theorem walk (v0 : Value) (x0 : List UInt8) (fp0 : List Nat) (w : World) (H0 : (sSlice sByte).R w [v0] x0 fp0) :
  Calls Try.prog 3 #[v0] w fun e w' => e = .returned (.bool true) ∧ Below w.heap.size w w' := by
 have HH := Lib.hid H0
 obtain ⟨a, cap, hv, hc, hm, h⟩ := H0
 obtain rfl : v0 = .slice a x0.length cap := by simpa using hv
 unfold maxLen at hm
 clear h hv
 go_enter Try.func3, Try.ntmps3
 by_cases hbig : 1048576 < x0.length
 ·go_wp2
  go_ret
  exact ⟨rfl, Below.refl _ _⟩
 go_wp2_with fail
 refine (DrawLevelsActive _ x0 fp0 _ HH.out).mono ?_
 rintro e w1 ⟨v1, l, f, rfl, hR, hl9, hB⟩
 clear HH
 have HI : Hid (∀ (v : Value) (x : List DLevel) (f : List Nat) (W : World), (sSlice sLevel).R W [v] x f → Calls Try.prog 8 #[v] W fun e w' => e = .returned (.bool (actL x)) ∧ Below W.heap.size W w') := fun v x f W hx => impl_LevelsActive v x f W hx
 have HR1 := Lib.hid hR
 obtain ⟨a1, c1, rfl, hc1, hm1, -⟩ := open_rows hR
 unfold maxLen at hm1
 have hcc : (actL l != actL l) = false := by simp
 clear hR
 go_wp2_with fail
 refine (HI.out _ l f w1 HR1.out).mono ?_
 rintro e w2 ⟨rfl, hb2⟩
 have HR2 := Lib.hid ((sSlice sLevel).below HR1.out hb2)
 have hB2 := hB.trans (hb2.mono hB.size)
 clear HR1 hb2 hB
 go_wp2_with fail
 refine (spec_LevelsActive _ l f w2 HR2.out).mono ?_
 rintro e w3 ⟨rfl, rfl⟩
 have hlit := Lib.hid (lev_lit w3 ⟨false, false, false⟩)
 have hba := alloc_below' w3 (.cells #[.bool false, .bool false, .bool false] 27)
 have HR3 := Lib.hid ((sSlice sLevel).below HR2.out hba)
 have HFL := Lib.hid ((sSlice sLevel).lt HR2.out)
 have hn2 : IntKind.i64.wrap (Int.tdiv (l.length : Int) 2) = ((l.length / 2 : Nat) : Int) := by
  rw [show Int.tdiv (l.length : Int) 2 = ((l.length / 2 : Nat) : Int) from rfl]; exact IntWalk.i64_in _ (by omega)
 go_wp2_with (at_builtin; refine wp_append_anyN ti_Level rfl (by decide) lev_one _ rfl (.tmp 17) (.tmp 18) rfl w3.heap.size (.slice (some ⟨w3.heap.size, 0, none⟩) 1 1) _ l f rfl hlit.out rfl HR3.out (fun b hb e => by simp only [Value.ownBlock, Option.some.injEq] at e; have := HFL.out b hb; omega) (by unfold maxLen; simp; omega) (by simp; omega) hba.size ?_; intro v5 X w5 hX hXf hG5 hg5 hp5)
 have hb5 : Below w3.heap.size w3 w5 := hba.grown hg5 hba.size (fun b hb => by simp only [Value.ownBlock, Option.some.injEq] at hb; omega)
 obtain ⟨f5, r5, -, -⟩ := hG5.read
 rw [List.map_append, hX, levE_d] at r5
 have HC := Lib.hid (HI.out v5 _ f5 w5 r5)
 rw [show ([(⟨false, false, false⟩ : DLevel)] ++ l) = ⟨false, false, false⟩ :: l from rfl, act_none _ rfl] at HC
 have HR5 := Lib.hid ((sSlice sLevel).below HR2.out hb5)
 have hB5 := hB2.trans (hb5.mono hB2.size)
 clear hG5 hg5 hp5 hX hXf r5 hlit HR3 HR2 hba hb5 hB2 hcc
 go_wp2_with fail
 refine HC.out.mono ?_
 rintro e w6 ⟨rfl, b6⟩
 have HR6 := Lib.hid ((sSlice sLevel).below HR5.out b6)
 have hB6 := hB5.trans (b6.mono hB5.size)
 clear HC HR5 b6 hB5
 cases hok : actL l
 ·go_wp2_with (go_at_call 10; refine (alive _).mono ?_; rintro e w' ⟨rfl, rfl⟩)
  go_ret
  exact ⟨rfl, hB6⟩
 ·have HP := Lib.hid (act_drop (l.length / 2) hok)
  clear hok
  by_cases hcc : c1 = l.length / 2
  ·obtain rfl : l = [] := List.eq_nil_of_length_eq_zero (by omega)
   have hc0 : c1 = 0 := hcc.trans rfl
   clear hcc hc1
   subst hc0
   have HC7 : Hid (∀ W, Calls Try.prog 8 #[.slice a1 0 0] W fun e w' => e = .returned (.bool true) ∧ Below W.heap.size W w') := fun W => HI.out _ [] [] W (slice_empty sLevel W a1 0 (Nat.zero_le _))
   go_wp2_with fail
   refine (HC7.out _).mono ?_
   rintro e w7 ⟨rfl, b7⟩
   have hB7 := hB6.trans (b7.mono hB6.size)
   go_wp2_with (go_at_call 10; refine (alive _).mono ?_; rintro e w' ⟨rfl, rfl⟩)
   go_ret
   exact ⟨rfl, hB7⟩
  ·obtain ⟨fpd, HD, -⟩ := slice_drop (l.length / 2) (by omega) HR6.out
   rw [if_neg hcc] at HD
   have HC7 := Lib.hid (HI.out _ _ fpd w6 HD)
   rw [HP.out] at HC7
   clear HD
   go_wp2_with fail
   refine HC7.out.mono ?_
   rintro e w7 ⟨rfl, b7⟩
   have hB7 := hB6.trans (b7.mono hB6.size)
   go_wp2_with (go_at_call 10; refine (alive _).mono ?_; rintro e w' ⟨rfl, rfl⟩)
   go_ret
   exact ⟨rfl, hB7⟩

theorem own : ownKnob Try.prog.godebug = none := by kernel_rfl
theorem laidOut : laidOutB Try.prog = true := by kernel_rfl
theorem readable : ∀ t ∈ Try.f3.params.toList, Try.prog.readableRec t = true ∧ t < Try.prog.types.size := by
 rw [Try.params3]
 simp only [List.mem_cons, List.not_mem_nil, or_false]
 rintro t rfl
 exact ⟨by kernel_rfl, of_decide_eq_true (by kernel_rfl)⟩

set_option maxRecDepth 100000 in
theorem lifted (os : Os) (started : os.Started) (H : Type) (enc : TypeId × Value → H) :
  ReturnsInHanded {} Try.checked os 3 .any (Rows.fnLevelsActiveSpec.pre6 enc Try.prog Try.f3 Rows.fnLevelsActiveRow.domain false) (Rows.fnLevelsActiveSpec.post enc Try.prog Try.f3 false true false false) := by
 refine returnsInHanded_of_change (C := Try.checked) own started (by kernel_rfl) Try.func3
  (ChangeSpec.witness6 (enc := enc) (C := Try.checked) false ⟨#[], #[.slice none 0 0], []⟩ 8 (by kernel_rfl) (by kernel_rfl) (by kernel_rfl) (by kernel_rfl)) ?_
 intro W base args ds gs before hval0 hW hcnd _
 have hval : ∀ (j : Nat) t v, Try.f3.params[j]? = some t → args[j]? = some v → Value.okWide Try.prog W .any base t v := hval0
 have hW' := hW
 obtain ⟨p, q, hA0, hV, rfl, hfz, hnd⟩ := hW
 have hA : DataW.TrodAll enc Try.prog W 0 (fun _ => true) true Try.f3.params.toList args.toList ds p := hA0
 rw [Try.params3] at hA hval
 obtain ⟨v0, vs0, d0, ds0, p0, q0, hargs0, rfl, rfl, h0, r0⟩ := trodAll_cons hA
 obtain ⟨rfl, rfl, rfl⟩ := trodAll_nil r0
 obtain rfl : args = #[v0] := by cases args; simp_all
 obtain ⟨rfl, rfl⟩ := trodVars_none hV
 obtain ⟨a0, len0, cap0, rfl⟩ := okWide_slice Try.underlying22 (hval 0 22 v0 rfl rfl)
 obtain ⟨x0, fp0, H0⟩ := open_arg (opens_slice Try.underlying22 (by kernel_rfl) (by decide) (opens_byte Try.underlying5)) h0
 refine (walk _ x0 fp0 W H0).mono fun e W' ⟨he, hw⟩ => ?_
 subst he
 exact ⟨_, rfl, law_done laidOut readable rfl rfl Try.underlying4 hW' rfl rfl rfl hw⟩

theorem holds : Rows.FnLevelsActiveSaid :=
 OpenClaim.holds_of_wide 3 Try.f3 rfl rfl rfl rfl rfl rfl rfl ⟨rfl, rfl, rfl, rfl, rfl⟩ rfl rfl rfl rfl rfl (by kernel_rfl) Try.func3 (by kernel_rfl)
  (of_decide_eq_true (by kernel_rfl)) (by unfold Func.isWrapper; first | (rw [if_pos (by decide +kernel)]; kernel_rfl) | (rw [if_neg (by decide +kernel)]; exact ⟨rfl, rfl⟩))
  (fun os started H enc _ => lifted os started H enc)


end Go.Proofs.Ytghikfggcnabeaa.lawLevelsActive
