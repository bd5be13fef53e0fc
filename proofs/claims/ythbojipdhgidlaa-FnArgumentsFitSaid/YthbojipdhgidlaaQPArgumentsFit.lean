/- ArgumentsFit: both answer alike; only a macro with Function has arguments that fit, and as many as it has parameters, or the one without tokens if it has none. For every input. No conditions. -/
import Derived.Test.YthbojipdhgidlaaYV2
import Derived.Test.YthbojipdhgidlaaZU9
import Derived.Test.YthbojipdhgidlaaYV1
set_option linter.unusedVariables false
set_option linter.unusedSimpArgs false
namespace Go.Proofs.Ythbojipdhgidlaa.lawArgumentsFit
open Go.ChangeShapes Go.WideShapes Go.ChangeAt Go.RowKit Go.ChangeMaps

theorem fits_facts {m : DMacro} {A : List (List Tok)} (h : fits m A = true) : macOk m = true ∧ m.function = true ∧ (A.length = m.params.length ∨ (m.params.length = 0 ∧ A.length = 1)) := by
  unfold fits at h
  obtain ⟨h1, h2⟩ := Bool.and_eq_true_iff.1 h
  obtain ⟨h3, h4⟩ := Bool.and_eq_true_iff.1 h2
  refine ⟨h1, h3, ?_⟩
  have h5 := of_decide_eq_true h4
  by_cases hA : A.length = 1
  · rw [argN_one hA] at h5
    by_cases hp : m.params.length = 0
    · right; exact ⟨hp, hA⟩
    · left; rw [if_neg (fun h => hp h.1)] at h5; omega
  · rw [argN_other hA] at h5
    left; exact h5

set_option maxHeartbeats 8000000 in
set_option maxRecDepth 100000 in
theorem walk (v0 : Value) (x0 : List UInt8) (fp0 : List Nat) (w : World) (H0 : (sSlice sByte).R w [v0] x0 fp0) :
    Calls Try.prog 4 #[v0] w fun e w' => e = .returned (.bool true) ∧ Below w.heap.size w w' := by
  have HH := Lib.hid H0
  obtain ⟨a, cap, hv, hc, hm, h⟩ := H0
  obtain rfl : v0 = .slice a x0.length cap := by simpa using hv
  unfold maxLen at hm
  clear h hv
  go_enter Try.func4, Try.ntmps4
  by_cases hbig : 1048576 < x0.length
  · go_wp2
    go_ret
    exact ⟨rfl, Below.refl _ _⟩
  go_wp2_with fail
  refine (DrawArgumentsFit _ x0 fp0 _ HH.out).mono ?_
  rintro e w1 ⟨nm, f, s2, s3, ps, bd, fp, va, A, fpa, rfl, hT, hA, hB⟩
  have HI := Lib.hid (fun W (hW : Below w1.heap.size w1 W) => impl_ArgumentsFit _ ⟨nm, f, ps, bd⟩ fp va A fpa W (sMacro.below hT hW) ((sSlice sToks).below hA hW))
  have HS := Lib.hid (fun W (hW : Below w1.heap.size w1 W) => spec_ArgumentsFit _ ⟨nm, f, ps, bd⟩ fp va A fpa W (sMacro.below hT hW) ((sSlice sToks).below hA hW))
  have HV := Lib.hid (fun W (hW : Below w1.heap.size w1 W) => impl_MacroValid _ ⟨nm, f, ps, bd⟩ fp W (sMacro.below hT hW))
  obtain ⟨h2', h3', p2, p3, hcs, -, K2, K3, -⟩ := hT
  simp only [List.cons.injEq, Value.string.injEq, Value.bool.injEq, and_true, true_and] at hcs
  obtain ⟨e2, e3⟩ := hcs
  subst e2 e3
  obtain ⟨a2, c2, rfl, -⟩ := open_strs K2
  obtain ⟨a3, c3, rfl, -⟩ := open_rows K3
  obtain ⟨aa, ca, rfl, -, hca, -⟩ := open_rows hA
  clear K2 K3 hA
  have b0 := alloc_below' w1 (.cells #[.string nm, .bool f, .slice a2 ps.length c2, .slice a3 bd.length c3] 32)
  have HX := Lib.hid (heap_alloc_new w1 (.cells #[.string nm, .bool f, .slice a2 ps.length c2, .slice a3 bd.length c3] 32))
  have hF := @fits_facts ⟨nm, f, ps, bd⟩ A
  generalize fits ⟨nm, f, ps, bd⟩ A = ok at HI HS hF
  have HF := Lib.hid hF
  clear hF
  have hne : (ok != ok) = false := by simp
  go_wp2_with fail
  refine (HI.out _ b0).mono ?_
  rintro e w2 ⟨rfl, hb2⟩
  have hb12 := b0.trans (hb2.mono b0.size)
  have HX2 := Lib.hid ((hb2.block _ (Array.getElem?_eq_some_iff.1 HX.out).1).trans HX.out)
  have x0' : w2.cell? ⟨w1.heap.size, 0, none⟩ = some (.string nm) := cell_of_row _ _ 0 _ _ _ HX2.out
  have x1' : w2.cell? ⟨w1.heap.size, 1, none⟩ = some (.bool f) := cell_of_row _ _ 1 _ _ _ HX2.out
  have x2' : w2.cell? ⟨w1.heap.size, 2, none⟩ = some (.slice a2 ps.length c2) := cell_of_row _ _ 2 _ _ _ HX2.out
  have x3' : w2.cell? ⟨w1.heap.size, 3, none⟩ = some (.slice a3 bd.length c3) := cell_of_row _ _ 3 _ _ _ HX2.out
  clear HX b0 hb2
  go_wp2_with fail
  refine (HS.out _ hb12).mono ?_
  rintro e w3 ⟨rfl, hb3⟩
  have hb13 := hb12.trans (hb3.mono hb12.size)
  have HX3 := Lib.hid ((hb3.block _ (Array.getElem?_eq_some_iff.1 HX2.out).1).trans HX2.out)
  have hB3 := hB.trans (hb13.mono hB.size)
  have y0 : w3.cell? ⟨w1.heap.size, 0, none⟩ = some (.string nm) := cell_of_row _ _ 0 _ _ _ HX3.out
  have y1 : w3.cell? ⟨w1.heap.size, 1, none⟩ = some (.bool f) := cell_of_row _ _ 1 _ _ _ HX3.out
  have y2 : w3.cell? ⟨w1.heap.size, 2, none⟩ = some (.slice a2 ps.length c2) := cell_of_row _ _ 2 _ _ _ HX3.out
  have y3 : w3.cell? ⟨w1.heap.size, 3, none⟩ = some (.slice a3 bd.length c3) := cell_of_row _ _ 3 _ _ _ HX3.out
  clear x0' x1' x2' x3' HX2 hb12 hb3 HI HS
  cases ok
  · go_wp2_with (go_at_call 17; refine (alive _).mono ?_; rintro e w' ⟨rfl, rfl⟩)
    go_ret
    exact ⟨rfl, hB3⟩
  · obtain ⟨q1, q2, q3⟩ := HF.out rfl
    subst q2
    have HVV := Lib.hid (HV.out _ hb13)
    rw [q1] at HVV
    clear q1 HF HV
    go_wp2_with fail
    refine HVV.out.mono ?_
    rintro e w4 ⟨rfl, hb4⟩
    have hB4 := hB3.trans (hb4.mono hB3.size)
    have HX4 := Lib.hid ((hb4.block _ (Array.getElem?_eq_some_iff.1 HX3.out).1).trans HX3.out)
    have z2 : w4.cell? ⟨w1.heap.size, 2, none⟩ = some (.slice a2 ps.length c2) := cell_of_row _ _ 2 _ _ _ HX4.out
    clear HVV y0 y1 y2 y3
    by_cases hq : A.length = ps.length
    · have e1 : ((A.length : Int) == (ps.length : Int)) = true := by rw [hq]; simp
      clear q3 hq
      go_wp2_with (go_at_call 17; refine (alive _).mono ?_; rintro e w' ⟨rfl, rfl⟩)
      go_ret
      exact ⟨rfl, hB4⟩
    · have hq2 : ps.length = 0 ∧ A.length = 1 := q3.resolve_left hq
      have e1 : ((A.length : Int) == (ps.length : Int)) = false := by simp; omega
      have e2 : ((ps.length : Int) == 0) = true := by simp [hq2.1]
      have e3 : ((A.length : Int) == 1) = true := by simp [hq2.2]
      clear q3 hq hq2
      go_wp2_with (go_at_call 17; refine (alive _).mono ?_; rintro e w' ⟨rfl, rfl⟩)
      go_ret
      exact ⟨rfl, hB4⟩

theorem own : ownKnob Try.prog.godebug = none := by kernel_rfl
theorem laidOut : laidOutB Try.prog = true := by kernel_rfl
theorem readable : ∀ t ∈ Try.f4.params.toList, Try.prog.readableRec t = true ∧ t < Try.prog.types.size := by
  rw [Try.params4]
  simp only [List.mem_cons, List.not_mem_nil, or_false]
  rintro t rfl
  exact ⟨by kernel_rfl, of_decide_eq_true (by kernel_rfl)⟩

set_option maxRecDepth 100000 in
theorem lifted (os : Os) (started : os.Started) (H : Type) (enc : TypeId × Value → H) :
    ReturnsInHanded {} Try.checked os 4 .any (Rows.fnArgumentsFitSpec.pre6 enc Try.prog Try.f4 Rows.fnArgumentsFitRow.domain false) (Rows.fnArgumentsFitSpec.post enc Try.prog Try.f4 false true false false) := by
  refine returnsInHanded_of_change (C := Try.checked) own started (by kernel_rfl) Try.func4
    (ChangeSpec.witness6 (enc := enc) (C := Try.checked) false ⟨#[], #[.slice none 0 0], []⟩ 8 (by kernel_rfl) (by kernel_rfl) (by kernel_rfl) (by kernel_rfl)) ?_
  intro W base args ds gs before hval0 hW hcnd _
  have hval : ∀ (j : Nat) t v, Try.f4.params[j]? = some t → args[j]? = some v → Value.okWide Try.prog W .any base t v := hval0
  have hW' := hW
  obtain ⟨p, q, hA0, hV, rfl, hfz, hnd⟩ := hW
  have hA : DataW.TrodAll enc Try.prog W 0 (fun _ => true) true Try.f4.params.toList args.toList ds p := hA0
  rw [Try.params4] at hA hval
  obtain ⟨v0, vs0, d0, ds0, p0, q0, hargs0, rfl, rfl, h0, r0⟩ := trodAll_cons hA
  obtain ⟨rfl, rfl, rfl⟩ := trodAll_nil r0
  obtain rfl : args = #[v0] := by cases args; simp_all
  obtain ⟨rfl, rfl⟩ := trodVars_none hV
  obtain ⟨a0, len0, cap0, rfl⟩ := okWide_slice Try.underlying39 (hval 0 39 v0 rfl rfl)
  obtain ⟨x0, fp0, H0⟩ := open_arg (opens_slice Try.underlying39 (by kernel_rfl) (by decide) (opens_byte Try.underlying5)) h0
  refine (walk _ x0 fp0 W H0).mono fun e W' ⟨he, hw⟩ => ?_
  subst he
  exact ⟨_, rfl, law_done laidOut readable rfl rfl Try.underlying4 hW' rfl rfl rfl hw⟩

theorem holds : Rows.FnArgumentsFitSaid :=
  OpenClaim.holds_of_wide 4 Try.f4 rfl rfl rfl rfl rfl rfl rfl ⟨rfl, rfl, rfl, rfl, rfl⟩ rfl rfl rfl rfl rfl (by kernel_rfl) Try.func4 (by kernel_rfl)
    (of_decide_eq_true (by kernel_rfl)) (by unfold Func.isWrapper; first | (rw [if_pos (by decide +kernel)]; kernel_rfl) | (rw [if_neg (by decide +kernel)]; exact ⟨rfl, rfl⟩))
    (fun os started H enc _ => lifted os started H enc)


end Go.Proofs.Ythbojipdhgidlaa.lawArgumentsFit
