/- LinesValid of the program answers as its model at every argument; it writes into none; its answer owns its memory. No conditions. -/
import Derived.Test.YtogflkpaebeipaaLive
import Derived.Test.YtogflkpaebeipaaOpen
namespace Go.Proofs.Ytogflkpaebeipaa.exactLinesValid
open Go.ChangeShapes Go.WideShapes Go.ChangeAt Go.RowKit Go.ChangeMaps

theorem spec_LinesValid (v : Value) (l : List ByteArray) (fp : List Nat) (w : World) (H : (sSlice sStr).R w [v] l fp) :
    Calls Try.prog 15 #[v] w fun e w' => e = .returned (.bool (linesOk l)) ∧ Below w.heap.size w w' :=
  (Ytogflkpaebeipaa.spec_LinesValid v l fp w H).mono fun e w' ⟨h1, h2⟩ => ⟨h1, h2 ▸ Below.refl _ _⟩
theorem impl_LinesValid (v : Value) (l : List ByteArray) (fp : List Nat) (w : World) (H : (sSlice sStr).R w [v] l fp) :
    Calls Try.prog 14 #[v] w fun e w' => e = .returned (.bool (linesOk l)) ∧ Below w.heap.size w w' :=
  (Ytogflkpaebeipaa.impl_LinesValid v l fp w H).mono fun e w' ⟨h1, h2⟩ => ⟨h1, h2 ▸ Below.refl _ _⟩

set_option maxHeartbeats 8000000 in
set_option maxRecDepth 100000 in
theorem walk (v0 : Value) (x0 : (List ByteArray)) (fp0 : List Nat) (w : World) (H0 : (sSlice sStr).R w [v0] x0 fp0) :
    Calls Try.prog 7 #[v0] w fun e w' => e = .returned (.bool true) ∧ Below w.heap.size w w' := by
  go_enter Try.func7, Try.ntmps7
  go_wp2_with fail
  refine (szStringS _ _ _ _ _ (by omega) (by omega) H0).mono ?_
  rintro e w' ⟨r0, rfl, hr0, rfl⟩
  by_cases hneg0 : r0 < 0
  · go_wp2
    go_ret
    exact ⟨rfl, Below.refl _ _⟩
  have hw0 := (hr0.good hneg0).1
  have hl0 := hr0.le (by omega)
  have HW0 : Hid (wtStringS x0 ≤ 1048576) := by show _ ≤ _; omega
  clear hr0 hw0
  have hB := Below.refl w.heap.size w
  have a0 := Seen.of H0
  clear H0
  go_wp2_with fail
  refine (toStringS _ _ _ _ HW0.out a0.r).mono ?_
  rintro e W1 ⟨v1, f2, rfl, r3, o4, b5⟩
  replace a0 := a0.below b5
  replace hB := hB.trans (b5.mono hB.size)
  have hz1 : w.heap.size ≤ W1.heap.size := b5.size
  clear b5
  have c6 := Live.of r3 o4
  clear r3 o4
  go_wp2_with fail
  refine (spec_LinesValid _ _ _ _ c6.r).mono ?_
  rintro e W2 ⟨rfl, b7⟩
  replace a0 := a0.below b7
  replace c6 := c6.below b7
  replace hB := hB.trans (b7.mono hB.size)
  have hz2 : W1.heap.size ≤ W2.heap.size := b7.size
  clear b7
  clear c6
  go_wp2_with fail
  refine (toStringS _ _ _ _ HW0.out a0.r).mono ?_
  rintro e W3 ⟨v8, f9, rfl, r10, o11, b12⟩
  replace a0 := a0.below b12
  replace hB := hB.trans (b12.mono hB.size)
  have hz3 : W2.heap.size ≤ W3.heap.size := b12.size
  clear b12
  have c13 := Live.of r10 o11
  clear r10 o11
  go_wp2_with fail
  refine (impl_LinesValid _ _ _ _ c13.r).mono ?_
  rintro e W4 ⟨rfl, b14⟩
  replace a0 := a0.below b14
  replace c13 := c13.below b14
  replace hB := hB.trans (b14.mono hB.size)
  have hz4 : W3.heap.size ≤ W4.heap.size := b14.size
  clear b14
  go_wp2_with fail
  refine (toStringS _ _ _ _ HW0.out a0.r).mono ?_
  rintro e W5 ⟨v15, f16, rfl, r17, o18, b19⟩
  replace a0 := a0.below b19
  replace c13 := c13.below b19
  replace hB := hB.trans (b19.mono hB.size)
  have hz5 : W4.heap.size ≤ W5.heap.size := b19.size
  clear b19
  have c20 := Live.of r17 o18
  clear r17 o18
  go_wp2_with fail
  refine (eqStringS_same _ _ _ _ _ _ c13.r c20.r).mono ?_
  rintro e W6 ⟨rfl, b21⟩
  replace a0 := a0.below b21
  replace c13 := c13.below b21
  replace c20 := c20.below b21
  replace hB := hB.trans (b21.mono hB.size)
  have hz6 : W5.heap.size ≤ W6.heap.size := b21.size
  clear b21
  clear c20
  go_wp2
  go_ret
  exact ⟨rfl, hB⟩

theorem own : ownKnob Try.prog.godebug = none := by kernel_rfl
theorem laidOut : laidOutB Try.prog = true := by kernel_rfl
theorem readable : ∀ t ∈ Try.f7.params.toList, Try.prog.readableRec t = true ∧ t < Try.prog.types.size := by
  rw [Try.params7]
  simp only [List.mem_cons, List.not_mem_nil, or_false]
  rintro t rfl
  exact ⟨by kernel_rfl, of_decide_eq_true (by kernel_rfl)⟩

set_option maxRecDepth 100000 in
theorem lifted (os : Os) (started : os.Started) (H : Type) (enc : TypeId × Value → H) :
    ReturnsInHanded {} Try.checked os 7 .any (Rows.fnExactLinesValidSpec.pre6 enc Try.prog Try.f7 Rows.fnExactLinesValidRow.domain false) (Rows.fnExactLinesValidSpec.post enc Try.prog Try.f7 false true false false) := by
  refine returnsInHanded_of_change (C := Try.checked) own started (by kernel_rfl) Try.func7
    (ChangeSpec.witness6 (enc := enc) (C := Try.checked) false ⟨#[], #[.slice none 0 0], []⟩ 8 (by kernel_rfl) (by kernel_rfl) (by kernel_rfl) (by kernel_rfl)) ?_
  intro W base args ds gs before hval0 hW hcnd _
  have hval : ∀ (j : Nat) t v, Try.f7.params[j]? = some t → args[j]? = some v → Value.okWide Try.prog W .any base t v := hval0
  have hW' := hW
  obtain ⟨p, q, hA0, hV, rfl, hfz, hnd⟩ := hW
  have hA : DataW.TrodAll enc Try.prog W 0 (fun _ => true) true Try.f7.params.toList args.toList ds p := hA0
  rw [Try.params7] at hA hval
  obtain ⟨v0, vs0, d0, ds0, p0, q0, hargs0, rfl, rfl, h0, r0⟩ := trodAll_cons hA
  obtain ⟨rfl, rfl, rfl⟩ := trodAll_nil r0
  obtain rfl : args = #[v0] := by cases args; simp_all
  obtain ⟨rfl, rfl⟩ := trodVars_none hV
  obtain ⟨a0, len0, cap0, rfl⟩ := okWide_slice Try.underlying27 (hval 0 27 v0 rfl rfl)
  obtain ⟨x0, fp0, H0⟩ := open_arg (opens_slice Try.underlying27 (by kernel_rfl) (by decide) (opens_str Try.underlying9)) h0
  refine (walk _ x0 fp0 W H0).mono fun e W' ⟨he, hw⟩ => ?_
  subst he
  exact ⟨_, rfl, law_done laidOut readable rfl rfl Try.underlying4 hW' rfl rfl rfl hw⟩

theorem holds : Rows.FnExactLinesValidSaid :=
  OpenClaim.holds_of_wide 7 Try.f7 rfl rfl rfl rfl rfl rfl rfl ⟨rfl, rfl, rfl, rfl, rfl⟩ rfl rfl rfl rfl rfl (by kernel_rfl) Try.func7 (by kernel_rfl)
    (of_decide_eq_true (by kernel_rfl)) (by unfold Func.isWrapper; first | (rw [if_pos (by decide +kernel)]; kernel_rfl) | (rw [if_neg (by decide +kernel)]; exact ⟨rfl, rfl⟩))
    (fun os started H enc _ => lifted os started H enc)


end Go.Proofs.Ytogflkpaebeipaa.exactLinesValid
