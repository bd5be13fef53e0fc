/- Undefine: both answer alike; the table is valid, has not the name, and taking it away again changes nothing. For every input. No conditions. -/
import Derived.Test.YthbojipdhgidlabZPUndefine11
import Derived.Test.YthbojipdhgidlabZPUndefine12
set_option linter.unusedVariables false
set_option linter.unusedSimpArgs false
namespace Go.Proofs.Ythbojipdhgidlab.lawUndefine
open Go.ChangeShapes Go.WideShapes Go.ChangeAt Go.RowKit Go.ChangeMaps

set_option maxHeartbeats 8000000 in
set_option maxRecDepth 100000 in
theorem walk (v0 : Value) (x0 : List UInt8) (fp0 : List Nat) (w : World) (H0 : (sSlice sByte).R w [v0] x0 fp0) :
    Calls Try.prog 3 #[v0] w fun e w' => e = .returned (.bool true) ∧ Below w.heap.size w w' := by
  have HH := Lib.hid H0
  obtain ⟨a, cap, hv, hc, hm, h⟩ := H0
  obtain rfl : v0 = .slice a x0.length cap := by simpa using hv
  unfold maxLen at hm
  clear h hv
  go_enter Try.func3, Try.ntmps3
  by_cases hbig : 1048576 < x0.length
  · go_wp2
    go_ret
    exact ⟨rfl, Below.refl _ _⟩
  go_wp2_with fail
  refine (DrawUndefine _ x0 fp0 _ HH.out).mono ?_
  rintro e w1 ⟨v1, t, fp, s, rfl, hR, hok, hl9, hs, hB⟩
  have HSM : Hid (∀ k, (hk : k < t.length) → MacSm t[k]) := fun k hk => okMac_sm (hok _ (List.getElem_mem hk))
  have HSU : Hid (∀ k, (hk : k < (unDef t s).length) → MacSm (unDef t s)[k]) := fun k hk => okMac_sm (hok _ (unDef_mem (List.getElem_mem hk)))
  have hul : (unDef t s).length ≤ t.length := by
    unfold unDef
    split
    · exact List.length_filter_le _ _
    · simp
  have HU : Hid (∀ W, Below w1.heap.size w1 W → Calls Try.prog 7 #[v1, .string s] W (MineTab (unDef t s) W)) := fun W hW => impl_Undefine v1 t s fp W (by omega) HSM.out ((sSlice sMacro).below hR hW)
  have HS : Hid (∀ W, Below w1.heap.size w1 W → Calls Try.prog 9 #[v1, .string s] W (RetTab (unDef t s) W)) := fun W hW => spec_Undefine v1 t s fp W (by omega) HSM.out ((sSlice sMacro).below hR hW)
  have HV : Hid (∀ W, Below w1.heap.size w1 W → Calls Try.prog 10 #[v1] W (Says (tabOk t) W)) := fun W hW => impl_TableValid v1 t fp W ((sSlice sMacro).below hR hW)
  obtain ⟨a1, c1, rfl, -, hm1, -⟩ := open_rows hR
  clear hok hR HSM
  go_wp2_with fail
  refine (HU.out _ (Below.refl _ _)).mono ?_
  rintro e w2 ⟨v2, L, rfl, hE, hD, -, hb2⟩
  obtain ⟨f2, hr2, -⟩ := hE.read
  rw [hD] at hr2
  have HR2 := Lib.hid hr2
  have hB2 := hB.trans (hb2.mono hB.size)
  clear hE hD hr2
  go_wp2_with fail
  refine (HS.out _ hb2).mono ?_
  rintro e w3 ⟨v3, f3, rfl, hr3, -, hb3⟩
  have HR3 := Lib.hid ((sSlice sMacro).below HR2.out hb3)
  have hB3 := hB2.trans (hb3.mono hB2.size)
  have hb13 := hb2.trans (hb3.mono hb2.size)
  have HSA := Lib.hid (sameTable_same v2 v3 _ f2 f3 w3 HR3.out hr3)
  clear hr3 HR2
  go_wp2_with fail
  refine HSA.out.mono ?_
  rintro e w4 ⟨rfl, hb4⟩
  have HR4 := Lib.hid ((sSlice sMacro).below HR3.out hb4)
  have hB4 := hB3.trans (hb4.mono hB3.size)
  have hb14 := hb13.trans (hb4.mono hb13.size)
  have HVV := Lib.hid (HV.out _ hb14)
  clear HSA HR3
  cases ht : tabOk t
  · have HN : Hid (unDef t s = []) := by show _ = _; unfold unDef; rw [ht]; rfl
    rw [ht] at HVV
    rw [HN.out] at HR4
    obtain ⟨a2, c2, rfl, -, hm2, -⟩ := open_rows HR4.out
    clear ht
    go_wp2_with fail
    refine HVV.out.mono ?_
    rintro e w5 ⟨rfl, hb5⟩
    have hB5 := hB4.trans (hb5.mono hB4.size)
    go_wp2_with (go_at_call 11; refine (alive _).mono ?_; rintro e w' ⟨rfl, rfl⟩)
    go_ret
    exact ⟨rfl, hB5⟩
  · have hT2 := tab_unDef ht s
    have hLn := unDef_len ht s
    have hND : defd (unDef t s) s = false := by unfold defd; rw [isIn_gone, Bool.and_false]
    have hTW := unDef_twice t s
    rw [ht] at HVV
    generalize hU : unDef t s = U at *
    have H1 := Lib.hid (fun W (hW : Below w4.heap.size w4 W) => impl_TableValid v2 U f2 W ((sSlice sMacro).below HR4.out hW))
    have H2 := Lib.hid (fun W (hW : Below w4.heap.size w4 W) => impl_IsDefined v2 U s f2 W ((sSlice sMacro).below HR4.out hW))
    have H3 := Lib.hid (fun W (hW : Below w4.heap.size w4 W) => impl_Undefine v2 U s f2 W (by omega) HSU.out ((sSlice sMacro).below HR4.out hW))
    rw [hT2] at H1
    rw [hND] at H2
    rw [hTW] at H3
    obtain ⟨a2, c2, rfl, -, hm2, -⟩ := open_rows HR4.out
    unfold maxLen at hm2
    have hwl : IntKind.i64.wrap ((U.length : Int) + 1) = (U.length : Int) + 1 := IntWalk.i64_in _ (by omega)
    have hge : decide ((t.length : Int) ≤ (U.length : Int) + 1) = true := decide_eq_true (by omega)
    clear ht hT2 hND hTW HSU
    go_wp2_with fail
    refine HVV.out.mono ?_
    rintro e w5 ⟨rfl, hb5⟩
    have hB5 := hB4.trans (hb5.mono hB4.size)
    go_wp2_with fail
    refine (H1.out _ hb5).mono ?_
    rintro e w6 ⟨rfl, hb6⟩
    have hb46 := hb5.trans (hb6.mono hb5.size)
    go_wp2_with fail
    refine (H2.out _ hb46).mono ?_
    rintro e w7 ⟨rfl, hb7⟩
    have hb47 := hb46.trans (hb7.mono hb46.size)
    go_wp2_with fail
    refine (H3.out _ hb47).mono ?_
    rintro e w8 ⟨v8, L8, rfl, hE8, hD8, -, hb8⟩
    have hb48 := hb47.trans (hb8.mono hb47.size)
    obtain ⟨f8, hr8, -⟩ := hE8.read
    rw [hD8] at hr8
    have HSB := Lib.hid (sameTable_same v8 _ U f8 f2 w8 hr8 ((sSlice sMacro).below HR4.out hb48))
    clear hE8 hD8 hr8
    go_wp2_with fail
    refine HSB.out.mono ?_
    rintro e w9 ⟨rfl, hb9⟩
    have hB9 := (hB4.trans (hb48.mono hB4.size)).trans (hb9.mono (Nat.le_trans hB4.size hb48.size))
    go_wp2
    go_ret
    exact ⟨rfl, hB9⟩

theorem own : ownKnob Try.prog.godebug = none := by kernel_rfl
theorem laidOut : laidOutB Try.prog = true := by kernel_rfl
theorem readable : ∀ t ∈ Try.f3.params.toList, Try.prog.readableRec t = true ∧ t < Try.prog.types.size := by
  rw [Try.params3]
  simp only [List.mem_cons, List.not_mem_nil, or_false]
  rintro t rfl
  exact ⟨by kernel_rfl, of_decide_eq_true (by kernel_rfl)⟩

set_option maxRecDepth 100000 in
theorem lifted (os : Os) (started : os.Started) (H : Type) (enc : TypeId × Value → H) :
    ReturnsInHanded {} Try.checked os 3 .any (Rows.fnUndefineSpec.pre6 enc Try.prog Try.f3 Rows.fnUndefineRow.domain false) (Rows.fnUndefineSpec.post enc Try.prog Try.f3 false true false false) := by
  refine returnsInHanded_of_change (C := Try.checked) own started (by kernel_rfl) Try.func3
    (ChangeSpec.witness6 (enc := enc) (C := Try.checked) false ⟨#[], #[.slice none 0 0], []⟩ 8 (by kernel_rfl) (by kernel_rfl) (by kernel_rfl) (by kernel_rfl)) ?_
  intro W base args ds gs before hval0 hW hcnd _
  have hval : ∀ (j : Nat) t v, Try.f3.params[j]? = some t → args[j]? = some v → Value.okWide Try.prog W .any base t v := hval0
  have hW' := hW
  obtain ⟨p, q, hA0, hV, rfl, hfz, hnd⟩ := hW
  have hA : DataW.TrodAll enc Try.prog W 0 (fun _ => true) true Try.f3.params.toList args.toList ds p := hA0
  rw [Try.params3] at hA hval
  obtain ⟨v0, vs0, d0, ds0, p0, q0, hargs0, rfl, rfl, h0, r0⟩ := trodAll_cons hA
  obtain ⟨rfl, rfl, rfl⟩ := trodAll_nil r0
  obtain rfl : args = #[v0] := by cases args; simp_all
  obtain ⟨rfl, rfl⟩ := trodVars_none hV
  obtain ⟨a0, len0, cap0, rfl⟩ := okWide_slice Try.underlying22 (hval 0 22 v0 rfl rfl)
  obtain ⟨x0, fp0, H0⟩ := open_arg (opens_slice Try.underlying22 (by kernel_rfl) (by decide) (opens_byte Try.underlying5)) h0
  refine (walk _ x0 fp0 W H0).mono fun e W' ⟨he, hw⟩ => ?_
  subst he
  exact ⟨_, rfl, law_done laidOut readable rfl rfl Try.underlying4 hW' rfl rfl rfl hw⟩

theorem holds : Rows.FnUndefineSaid :=
  OpenClaim.holds_of_wide 3 Try.f3 rfl rfl rfl rfl rfl rfl rfl ⟨rfl, rfl, rfl, rfl, rfl⟩ rfl rfl rfl rfl rfl (by kernel_rfl) Try.func3 (by kernel_rfl)
    (of_decide_eq_true (by kernel_rfl)) (by unfold Func.isWrapper; first | (rw [if_pos (by decide +kernel)]; kernel_rfl) | (rw [if_neg (by decide +kernel)]; exact ⟨rfl, rfl⟩))
    (fun os started H enc _ => lifted os started H enc)


end Go.Proofs.Ythbojipdhgidlab.lawUndefine
