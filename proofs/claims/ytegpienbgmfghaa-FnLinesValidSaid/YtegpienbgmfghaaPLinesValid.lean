/- Lines are valid one by one: with one that is not they are invalid; a part of valid ones is valid: for every input. No conditions. -/
import Derived.Test.YtegpienbgmfghaaDrawLines
import Derived.Test.YtegpienbgmfghaaSlices
import Derived.Test.YtegpienbgmfghaaStr
import Derived.Test.YtegpienbgmfghaaAlive
namespace Go.Proofs.Ytegpienbgmfghaa.lawLinesValid
open Go.ChangeShapes Go.WideShapes Go.ChangeAt Go.RowKit Go.ChangeMaps

theorem lines_bad (L : List ByteArray) : linesOk (⟨#[10]⟩ :: L) = false := by
  unfold linesOk
  have : lineOk ⟨#[10]⟩ = false := by decide
  simp [this]
theorem lines_part {L : List ByteArray} (h : linesOk L = true) (i : Nat) : linesOk (L.drop i) = true := by
  unfold linesOk at *
  rw [Bool.and_eq_true, decide_eq_true_eq, List.all_eq_true] at *
  refine ⟨by rw [List.length_drop]; omega, fun x hx => h.2 x (List.mem_of_mem_drop hx)⟩

set_option maxHeartbeats 8000000 in
set_option maxRecDepth 100000 in
theorem walk (v0 : Value) (x0 : List UInt8) (fp0 : List Nat) (w : World) (H0 : (sSlice sByte).R w [v0] x0 fp0) :
    Calls Try.prog 4 #[v0] w fun e w' => e = .returned (.bool true) ∧ Below w.heap.size w w' := by
  have HH := Lib.hid H0
  obtain ⟨a, cap, hv, hc, hm, h⟩ := H0
  obtain rfl : v0 = .slice a x0.length cap := by simpa using hv
  unfold maxLen at hm
  clear h hv
  go_enter Try.func4, Try.ntmps4
  by_cases hbig : 1048576 < x0.length
  · go_wp2
    go_ret
    exact ⟨rfl, Below.refl _ _⟩
  go_wp2_with fail
  refine (DrawLinesValid _ x0 fp0 _ HH.out).mono ?_
  rintro e w1 ⟨v, L, rfl, hown, hL, hbr, hB⟩
  have hB1 := hB
  obtain ⟨fp, HR, _, _⟩ := own_flat (ok := okStr) hown (fun i hi => small_ok (by have := hbr _ (List.getElem_mem hi); omega))
  have HP := Lib.hid (fun h i => lines_part (L := L) h i)
  have HL := Lib.hid HR
  obtain ⟨a2, cap2, rfl, hc2, hm2, _, _⟩ := open_strs HR
  unfold maxLen at hm2
  clear HR
  go_wp2_with fail
  refine (impl_LinesValid _ L fp _ HL.out).mono ?_
  rintro e w' ⟨rfl, rfl⟩
  go_wp2_with fail
  refine (spec_LinesValid _ L fp _ HL.out).mono ?_
  rintro e w' ⟨rfl, rfl⟩
  have hb0 : (w1.alloc (.cells #[.string ⟨#[10]⟩] 9)).ownsRow w1.heap.size 9 1 (.slice (some ⟨w1.heap.size, 0, none⟩) 1 1) [(⟨#[10]⟩ : ByteArray)].length ([(⟨#[10]⟩ : ByteArray)].map Value.string) := lit_own w1 _ [.string ⟨#[10]⟩] (by decide)
  go_wp2_with (at_builtin; refine wp_append_strs rfl (.tmp 16) (.tmp 17) rfl w1.heap.size w.heap.size _ _ [⟨#[10]⟩] L rfl hb0 rfl (hown.alloc _) (by simp; omega) (by simp) ?_; intro v3 w3 hown3 hg3)
  have hB3 := (hB1.alloc hB1.size (.cells #[.string ⟨#[10]⟩] 9)).grown hg3 (by have := hB1.size; simp; omega) (fun b hb => by have := (hb0.lt b hb).1; have := hB1.size; omega)
  obtain ⟨fp3, HR3, _, _⟩ := own_flat (ok := okStr) hown3 (fun i hi => small_ok (by
    have hm : ([⟨#[10]⟩] ++ L)[i] ∈ [(⟨#[10]⟩ : ByteArray)] ++ L := List.getElem_mem hi
    rcases List.mem_append.1 hm with hm | hm
    · have e : ([⟨#[10]⟩] ++ L)[i] = ⟨#[10]⟩ := by simpa using hm
      rw [e]; decide
    · have := hbr _ hm; omega))
  refine (impl_LinesValid _ _ fp3 _ HR3).mono ?_
  rw [show linesOk ([⟨#[10]⟩] ++ L) = false from lines_bad L]
  rintro e w' ⟨rfl, rfl⟩
  have HL3 := Lib.hid ((sSlice sStr).below HL.out (((Below.refl _ _).alloc (Nat.le_refl _) (.cells #[.string ⟨#[10]⟩] 9)).grown hg3 (by simp) (fun b hb => (hb0.lt b hb).1)))
  have HB3 := Lib.hid hB3
  clear hown3 HR3 hg3 hown hb0 hB3
  cases hok : linesOk L
  · go_wp2_with fail
    refine (alive _).mono ?_
    rintro e w' ⟨rfl, rfl⟩
    go_wp2
    go_ret
    exact ⟨rfl, HB3.out⟩
  · obtain ⟨fpd, HD, _⟩ := slice_drop (L.length / 2) (by omega) HL3.out
    have HP2 := Lib.hid (HP.out hok (L.length / 2))
    by_cases hcc : cap2 = L.length / 2
    · obtain rfl : L = [] := List.eq_nil_of_length_eq_zero (by omega)
      clear HD
      have hc0 : cap2 = 0 := hcc.trans rfl
      clear hcc hc2
      subst hc0
      go_wp2_with fail
      refine (impl_LinesValid _ [] [] _ (slice_empty sStr _ a2 0 (Nat.zero_le _))).mono ?_
      rw [show linesOk [] = true from rfl]
      rintro e w' ⟨rfl, rfl⟩
      go_wp2_with fail
      refine (alive _).mono ?_
      rintro e w' ⟨rfl, rfl⟩
      go_wp2
      go_ret
      exact ⟨rfl, HB3.out⟩
    · rw [if_neg hcc, show L.length / 2 * sStr.m = L.length / 2 from Nat.mul_one _] at HD
      have HD2 := Lib.hid HD
      clear HD
      go_wp2_with fail
      refine (impl_LinesValid _ _ fpd _ HD2.out).mono ?_
      rw [HP2.out]
      rintro e w' ⟨rfl, rfl⟩
      go_wp2_with fail
      refine (alive _).mono ?_
      rintro e w' ⟨rfl, rfl⟩
      go_wp2
      go_ret
      exact ⟨rfl, HB3.out⟩

theorem own : ownKnob Try.prog.godebug = none := by kernel_rfl
theorem laidOut : laidOutB Try.prog = true := by kernel_rfl
theorem readable : ∀ t ∈ Try.f4.params.toList, Try.prog.readableRec t = true ∧ t < Try.prog.types.size := by
  rw [Try.params4]
  simp only [List.mem_cons, List.not_mem_nil, or_false]
  rintro t rfl
  exact ⟨by kernel_rfl, of_decide_eq_true (by kernel_rfl)⟩

set_option maxRecDepth 100000 in
theorem lifted (os : Os) (started : os.Started) (H : Type) (enc : TypeId × Value → H) :
    ReturnsInHanded {} Try.checked os 4 .any (Rows.fnLinesValidSpec.pre6 enc Try.prog Try.f4 Rows.fnLinesValidRow.domain false) (Rows.fnLinesValidSpec.post enc Try.prog Try.f4 false true false false) := by
  refine returnsInHanded_of_change (C := Try.checked) own started (by kernel_rfl) Try.func4
    (ChangeSpec.witness6 (enc := enc) (C := Try.checked) false ⟨#[], #[.slice none 0 0], []⟩ 8 (by kernel_rfl) (by kernel_rfl) (by kernel_rfl) (by kernel_rfl)) ?_
  intro W base args ds gs before hval0 hW hcnd _
  have hval : ∀ (j : Nat) t v, Try.f4.params[j]? = some t → args[j]? = some v → Value.okWide Try.prog W .any base t v := hval0
  have hW' := hW
  obtain ⟨p, q, hA0, hV, rfl, hfz, hnd⟩ := hW
  have hA : DataW.TrodAll enc Try.prog W 0 (fun _ => true) true Try.f4.params.toList args.toList ds p := hA0
  rw [Try.params4] at hA hval
  obtain ⟨v0, vs0, d0, ds0, p0, q0, hargs0, rfl, rfl, h0, r0⟩ := trodAll_cons hA
  obtain ⟨rfl, rfl, rfl⟩ := trodAll_nil r0
  obtain rfl : args = #[v0] := by cases args; simp_all
  obtain ⟨rfl, rfl⟩ := trodVars_none hV
  obtain ⟨a0, len0, cap0, rfl⟩ := okWide_slice Try.underlying22 (hval 0 22 v0 rfl rfl)
  obtain ⟨x0, fp0, H0⟩ := open_arg (opens_slice Try.underlying22 (by kernel_rfl) (by decide) (opens_byte Try.underlying5)) h0
  refine (walk _ x0 fp0 W H0).mono fun e W' ⟨he, hw⟩ => ?_
  subst he
  exact ⟨_, rfl, law_done laidOut readable rfl rfl Try.underlying4 hW' rfl rfl rfl hw⟩

theorem holds : Rows.FnLinesValidSaid :=
  OpenClaim.holds_of_wide 4 Try.f4 rfl rfl rfl rfl rfl rfl rfl ⟨rfl, rfl, rfl, rfl, rfl⟩ rfl rfl rfl rfl rfl (by kernel_rfl) Try.func4 (by kernel_rfl)
    (of_decide_eq_true (by kernel_rfl)) (by unfold Func.isWrapper; first | (rw [if_pos (by decide +kernel)]; kernel_rfl) | (rw [if_neg (by decide +kernel)]; exact ⟨rfl, rfl⟩))
    (fun os started H enc _ => lifted os started H enc)

end Go.Proofs.Ytegpienbgmfghaa.lawLinesValid
