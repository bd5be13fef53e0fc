/- Stripped lines have no comments: stripping again changes nothing, and the line is not longer: for every input. No conditions. -/
import Derived.Test.YtegpienbgmfghaaStrip2
import Derived.Test.YtegpienbgmfghaaStrip3
import Derived.Test.YtegpienbgmfghaaDraw2
import Derived.Test.YtegpienbgmfghaaAlive
namespace Go.Proofs.Ytegpienbgmfghaa.lawStripComments
open Go.ChangeShapes Go.WideShapes Go.ChangeAt Go.RowKit Go.ChangeMaps

set_option maxHeartbeats 8000000 in
set_option maxRecDepth 100000 in
theorem walk (v0 : Value) (x0 : List UInt8) (fp0 : List Nat) (w : World) (H0 : (sSlice sByte).R w [v0] x0 fp0) (hE : Env w) :
    Calls Try.prog 6 #[v0] w fun e w' => e = .returned (.bool true) ∧ Below w.heap.size w w' := by
  have HH := Lib.hid H0
  obtain ⟨a, cap, hv, hc, hm, h⟩ := H0
  obtain rfl : v0 = .slice a x0.length cap := by simpa using hv
  unfold maxLen at hm
  clear h hv
  go_enter Try.func6, Try.ntmps6
  by_cases hbig : 1048576 < x0.length
  · go_wp2
    go_ret
    exact ⟨rfl, Below.refl _ _⟩
  go_wp2_with fail
  refine (DrawStripComments _ x0 fp0 _ HH.out).mono ?_
  rintro e w1 ⟨s, rfl, hs, hB1⟩
  have HS := Lib.hid (fun (x : ByteArray) (h : stripRes s = (x, true)) => strip_again h)
  have HN : Hid (stripRes s = ((stripRes s).1, false) → (stripRes s).1 = ⟨#[]⟩) := fun h => by
    unfold stripRes at h ⊢
    split <;> rename_i h0
    · rw [if_pos h0] at h
      cases hx : strip1 s 0 with
      | none => rfl
      | some x => rw [hx] at h; simp at h
    · rfl
  go_wp2_with fail
  refine (impl_StripComments s _ (small_ok (by omega)) (hE.below hB1 (Nat.le_refl _))).mono ?_
  rintro e w2 ⟨rfl, hB2⟩
  have hB3 := hB1.trans (hB2.mono hB1.size)
  go_wp2_with fail
  refine (spec_StripComments s _ (small_ok (by omega))).mono ?_
  rintro e w3 ⟨rfl, hB4⟩
  have hB5 := hB3.trans (hB4.mono hB3.size)
  clear hB4 hB2 hB3 hB1
  generalize hq : stripRes s = q at HS HN
  obtain ⟨x, b⟩ := q
  cases b
  · have hx : x = ⟨#[]⟩ := HN.out rfl
    subst hx
    go_wp2_with (go_at_call 11; refine (alive _).mono ?_; rintro e w' ⟨rfl, rfl⟩)
    go_ret
    exact ⟨rfl, hB5⟩
  · obtain ⟨r1, r2, r3⟩ := HS.out x rfl
    have R1 := Lib.hid r1
    clear r1 HS HN
    go_wp2_with fail
    refine (impl_StripComments x _ (small_ok (by omega)) (hE.below hB5 (Nat.le_refl _))).mono ?_
    rw [R1.out]
    rintro e w4 ⟨rfl, hB6⟩
    have hB7 := hB5.trans (hB6.mono hB5.size)
    go_wp2_with (go_at_call 9; refine (impl_LineValid x _ (small_ok (by omega))).mono ?_; rw [r3]; rintro e w' ⟨rfl, rfl⟩)
    go_ret
    exact ⟨rfl, hB7⟩

theorem own : ownKnob Try.prog.godebug = none := by kernel_rfl
theorem laidOut : laidOutB Try.prog = true := by kernel_rfl
theorem readable : ∀ t ∈ Try.f6.params.toList, Try.prog.readableRec t = true ∧ t < Try.prog.types.size := by
  rw [Try.params6]
  simp only [List.mem_cons, List.not_mem_nil, or_false]
  rintro t rfl
  exact ⟨by kernel_rfl, of_decide_eq_true (by kernel_rfl)⟩

set_option maxRecDepth 100000 in
theorem lifted (os : Os) (started : os.Started) (H : Type) (enc : TypeId × Value → H) :
    ReturnsInHanded {} Try.checked os 6 .any (Rows.fnStripCommentsSpec.pre6 enc Try.prog Try.f6 Rows.fnStripCommentsRow.domain false) (Rows.fnStripCommentsSpec.post enc Try.prog Try.f6 false true false false) := by
  refine returnsInHanded_of_change_shaped (C := Try.checked) own started (by kernel_rfl) Try.func6
    (ChangeSpec.witness6 (enc := enc) (C := Try.checked) false ⟨#[], #[.slice none 0 0], []⟩ 8 (by kernel_rfl) (by kernel_rfl) (by kernel_rfl) (by kernel_rfl)) ?_
  intro W base args ds gs before hval0 hW hcnd _ hsh _
  have hval : ∀ (j : Nat) t v, Try.f6.params[j]? = some t → args[j]? = some v → Value.okWide Try.prog W .any base t v := hval0
  have hW' := hW
  obtain ⟨p, q, hA0, hV, rfl, hfz, hnd⟩ := hW
  have hA : DataW.TrodAll enc Try.prog W 0 (fun _ => true) true Try.f6.params.toList args.toList ds p := hA0
  rw [Try.params6] at hA hval
  obtain ⟨v0, vs0, d0, ds0, p0, q0, hargs0, rfl, rfl, h0, r0⟩ := trodAll_cons hA
  obtain ⟨rfl, rfl, rfl⟩ := trodAll_nil r0
  obtain rfl : args = #[v0] := by cases args; simp_all
  obtain ⟨rfl, rfl⟩ := trodVars_none hV
  obtain ⟨a0, len0, cap0, rfl⟩ := okWide_slice Try.underlying22 (hval 0 22 v0 rfl rfl)
  obtain ⟨x0, fp0, H0⟩ := open_arg (opens_slice Try.underlying22 (by kernel_rfl) (by decide) (opens_byte Try.underlying5)) h0
  refine (walk _ x0 fp0 W H0 (Env.of_shaped hsh)).mono fun e W' ⟨he, hw⟩ => ?_
  subst he
  exact ⟨_, rfl, law_done laidOut readable rfl rfl Try.underlying4 hW' rfl rfl rfl hw⟩

theorem holds : Rows.FnStripCommentsSaid :=
  OpenClaim.holds_of_wide 6 Try.f6 rfl rfl rfl rfl rfl rfl rfl ⟨rfl, rfl, rfl, rfl, rfl⟩ rfl rfl rfl rfl rfl (by kernel_rfl) Try.func6 (by kernel_rfl)
    (of_decide_eq_true (by kernel_rfl)) (by unfold Func.isWrapper; first | (rw [if_pos (by decide +kernel)]; kernel_rfl) | (rw [if_neg (by decide +kernel)]; exact ⟨rfl, rfl⟩))
    (fun os started H enc _ => lifted os started H enc)

end Go.Proofs.Ytegpienbgmfghaa.lawStripComments
