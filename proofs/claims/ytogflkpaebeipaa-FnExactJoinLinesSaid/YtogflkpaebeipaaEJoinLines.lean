/- JoinLines of the program answers as its model at every argument; it writes into none; its answer owns its memory. No conditions. -/
import Derived.Test.YtogflkpaebeipaaJoin2
import Derived.Test.YtogflkpaebeipaaLive
import Derived.Test.YtogflkpaebeipaaOpen
namespace Go.Proofs.Ytogflkpaebeipaa.exactJoinLines
open Go.ChangeShapes Go.WideShapes Go.ChangeAt Go.RowKit Go.ChangeMaps

set_option maxHeartbeats 8000000 in
set_option maxRecDepth 100000 in
theorem walk (v0 : Value) (x0 : (List ByteArray)) (fp0 : List Nat) (w : World) (H0 : (sSlice sStr).R w [v0] x0 fp0) :
    Calls Try.prog 8 #[v0] w fun e w' => e = .returned (.bool true) ∧ Below w.heap.size w w' := by
  have HC := Lib.hid (JoinLines_cnt x0)
  go_enter Try.func8, Try.ntmps8
  go_wp2_with fail
  refine (szStringS _ _ _ _ _ (by omega) (by omega) H0).mono ?_
  rintro e w' ⟨r0, rfl, hr0, rfl⟩
  by_cases hneg0 : r0 < 0
  · go_wp2
    go_ret
    exact ⟨rfl, Below.refl _ _⟩
  have hw0 := (hr0.good hneg0).1
  have hl0 := hr0.le (by omega)
  have HW0 : Hid (wtStringS x0 ≤ 1048576) := by show _ ≤ _; omega
  clear hr0 hw0
  have hB := Below.refl w.heap.size w
  have a0 := Seen.of H0
  clear H0
  go_wp2_with fail
  refine (toStringS _ _ _ _ HW0.out a0.r).mono ?_
  rintro e W1 ⟨v1, f2, rfl, r3, o4, b5⟩
  replace a0 := a0.below b5
  replace hB := hB.trans (b5.mono hB.size)
  have hz1 : w.heap.size ≤ W1.heap.size := b5.size
  clear b5
  have c6 := Live.of r3 o4
  clear r3 o4
  go_wp2_with fail
  refine (spec_JoinLines _ _ _ _ c6.r).mono ?_
  rintro e W2 ⟨v8, v9, f10, f11, rfl, r12, r13, o14, b7⟩
  replace a0 := a0.below b7
  replace c6 := c6.below b7
  replace hB := hB.trans (b7.mono hB.size)
  have hz2 : W1.heap.size ≤ W2.heap.size := b7.size
  clear b7
  obtain ⟨o15, o16, D17⟩ := Own.split o14
  clear o14
  have g18 := Live.of r12 o15
  clear r12 o15
  have g19 := Live.of r13 o16
  clear r13 o16
  clear c6
  go_wp2_with fail
  refine (toStringS _ _ _ _ HW0.out a0.r).mono ?_
  rintro e W3 ⟨v20, f21, rfl, r22, o23, b24⟩
  replace a0 := a0.below b24
  replace g18 := g18.below b24
  replace g19 := g19.below b24
  replace hB := hB.trans (b24.mono hB.size)
  have hz3 : W2.heap.size ≤ W3.heap.size := b24.size
  clear b24
  have c25 := Live.of r22 o23
  clear r22 o23
  go_wp2_with fail
  refine (impl_JoinLines _ _ _ _ c25.r).mono ?_
  rintro e W4 ⟨v27, v28, f29, f30, rfl, r31, r32, o33, b26⟩
  replace a0 := a0.below b26
  replace g18 := g18.below b26
  replace g19 := g19.below b26
  replace c25 := c25.below b26
  replace hB := hB.trans (b26.mono hB.size)
  have hz4 : W3.heap.size ≤ W4.heap.size := b26.size
  clear b26
  obtain ⟨o34, o35, D36⟩ := Own.split o33
  clear o33
  have g37 := Live.of r31 o34
  clear r31 o34
  have g38 := Live.of r32 o35
  clear r32 o35
  go_wp2_with fail
  refine (eqStringS_same _ _ _ _ _ _ g37.r g18.r).mono ?_
  rintro e W5 ⟨rfl, b39⟩
  replace a0 := a0.below b39
  replace g18 := g18.below b39
  replace g19 := g19.below b39
  replace c25 := c25.below b39
  replace g37 := g37.below b39
  replace g38 := g38.below b39
  replace hB := hB.trans (b39.mono hB.size)
  have hz5 : W4.heap.size ≤ W5.heap.size := b39.size
  clear b39
  go_wp2_with fail
  refine (eqIntS_same _ _ _ _ _ _ g38.r g19.r).mono ?_
  rintro e W6 ⟨rfl, b40⟩
  replace a0 := a0.below b40
  replace g18 := g18.below b40
  replace g19 := g19.below b40
  replace c25 := c25.below b40
  replace g37 := g37.below b40
  replace g38 := g38.below b40
  replace hB := hB.trans (b40.mono hB.size)
  have hz6 : W5.heap.size ≤ W6.heap.size := b40.size
  clear b40
  go_wp2_with fail
  refine (toStringS _ _ _ _ HW0.out a0.r).mono ?_
  rintro e W7 ⟨v41, f42, rfl, r43, o44, b45⟩
  replace a0 := a0.below b45
  replace g18 := g18.below b45
  replace g19 := g19.below b45
  replace c25 := c25.below b45
  replace g37 := g37.below b45
  replace g38 := g38.below b45
  replace hB := hB.trans (b45.mono hB.size)
  have hz7 : W6.heap.size ≤ W7.heap.size := b45.size
  clear b45
  have c46 := Live.of r43 o44
  clear r43 o44
  go_wp2_with fail
  refine (eqStringS_same _ _ _ _ _ _ c25.r c46.r).mono ?_
  rintro e W8 ⟨rfl, b47⟩
  replace a0 := a0.below b47
  replace g18 := g18.below b47
  replace g19 := g19.below b47
  replace c25 := c25.below b47
  replace g37 := g37.below b47
  replace g38 := g38.below b47
  replace c46 := c46.below b47
  replace hB := hB.trans (b47.mono hB.size)
  have hz8 : W7.heap.size ≤ W8.heap.size := b47.size
  clear b47
  clear c46
  go_wp2_with fail
  refine (markStringS _ _ _ W2.heap.size _ _ (by first | omega | (have hc := HC.out; have hw0 := HW0.out; simp only [JoinLines_Cnt, wtStringS, List.length_map, marks_len] at *; omega)) (by first | omega | (have hc := HC.out; have hw0 := HW0.out; simp only [JoinLines_Cnt, wtStringS, List.length_map, marks_len] at *; omega)) c25.r c25.o).mono ?_
  rintro e W9 ⟨rfl, r48, o49, hk⟩
  replace a0 := a0.kept hk c25.o (by omega)
  replace g18 := g18.kept hk c25.o (by omega)
  replace g19 := g19.kept hk c25.o (by omega)
  replace g37 := g37.kept' hk (fun b hb => Nat.lt_of_lt_of_le (c25.hi b hb) (by omega))
  replace g38 := g38.kept' hk (fun b hb => Nat.lt_of_lt_of_le (c25.hi b hb) (by omega))
  replace hB := hB.trans (hk.below' c25.o (by first | exact Nat.le_refl _ | omega) (by omega))
  have hz9 : W8.heap.size ≤ W9.heap.size := hk.size
  replace c25 : Live _ _ _ _ _ _ _ := ⟨r48, o49, c25.hi⟩
  clear r48 o49 hk
  go_wp2_with fail
  refine (eqStringS_same _ _ _ _ _ _ g37.r g18.r).mono ?_
  rintro e W10 ⟨rfl, b51⟩
  replace a0 := a0.below b51
  replace g18 := g18.below b51
  replace g19 := g19.below b51
  replace c25 := c25.below b51
  replace g37 := g37.below b51
  replace g38 := g38.below b51
  replace hB := hB.trans (b51.mono hB.size)
  have hz10 : W9.heap.size ≤ W10.heap.size := b51.size
  clear b51
  go_wp2_with fail
  refine (eqIntS_same _ _ _ _ _ _ g38.r g19.r).mono ?_
  rintro e W11 ⟨rfl, b52⟩
  replace a0 := a0.below b52
  replace g18 := g18.below b52
  replace g19 := g19.below b52
  replace c25 := c25.below b52
  replace g37 := g37.below b52
  replace g38 := g38.below b52
  replace hB := hB.trans (b52.mono hB.size)
  have hz11 : W10.heap.size ≤ W11.heap.size := b52.size
  clear b52
  clear c25
  go_wp2_with fail
  refine (markStringS _ _ _ W3.heap.size _ _ (by first | omega | (have hc := HC.out; have hw0 := HW0.out; simp only [JoinLines_Cnt, wtStringS, List.length_map, marks_len] at *; omega)) (by first | omega | (have hc := HC.out; have hw0 := HW0.out; simp only [JoinLines_Cnt, wtStringS, List.length_map, marks_len] at *; omega)) g37.r g37.o).mono ?_
  rintro e W12 ⟨rfl, r53, o54, hk⟩
  replace a0 := a0.kept hk g37.o (by omega)
  replace g18 := g18.kept hk g37.o (by omega)
  replace g19 := g19.kept hk g37.o (by omega)
  replace g38 := g38.keptD hk (D36.symm)
  replace hB := hB.trans (hk.below' g37.o (by first | exact Nat.le_refl _ | omega) (by omega))
  have hz12 : W11.heap.size ≤ W12.heap.size := hk.size
  replace g37 : Live _ _ _ _ _ _ _ := ⟨r53, o54, g37.hi⟩
  clear r53 o54 hk
  go_wp2_with fail
  refine (markIntS _ _ _ W3.heap.size _ _ (by first | omega | (have hc := HC.out; have hw0 := HW0.out; simp only [JoinLines_Cnt, wtStringS, List.length_map, marks_len] at *; omega)) (by first | omega | (have hc := HC.out; have hw0 := HW0.out; simp only [JoinLines_Cnt, wtStringS, List.length_map, marks_len] at *; omega)) g38.r g38.o).mono ?_
  rintro e W13 ⟨rfl, r56, o57, hk⟩
  replace a0 := a0.kept hk g38.o (by omega)
  replace g18 := g18.kept hk g38.o (by omega)
  replace g19 := g19.kept hk g38.o (by omega)
  replace g37 := g37.keptD hk (D36)
  replace hB := hB.trans (hk.below' g38.o (by first | exact Nat.le_refl _ | omega) (by omega))
  have hz13 : W12.heap.size ≤ W13.heap.size := hk.size
  replace g38 : Live _ _ _ _ _ _ _ := ⟨r56, o57, g38.hi⟩
  clear r56 o57 hk
  go_wp2_with fail
  refine (heldStringS _ _ _ _ _ (by first | omega | (have hc := HC.out; have hw0 := HW0.out; simp only [JoinLines_Cnt, wtStringS, List.length_map, marks_len] at *; omega)) (by first | omega | (have hc := HC.out; have hw0 := HW0.out; simp only [JoinLines_Cnt, wtStringS, List.length_map, marks_len] at *; omega)) g37.r).mono ?_
  rintro e W14 ⟨rfl, b59⟩
  replace a0 := a0.below b59
  replace g18 := g18.below b59
  replace g19 := g19.below b59
  replace g37 := g37.below b59
  replace g38 := g38.below b59
  replace hB := hB.trans (b59.mono hB.size)
  have hz14 : W13.heap.size ≤ W14.heap.size := b59.size
  clear b59
  go_wp2_with fail
  refine (heldIntS _ _ _ _ _ (by first | omega | (have hc := HC.out; have hw0 := HW0.out; simp only [JoinLines_Cnt, wtStringS, List.length_map, marks_len] at *; omega)) (by first | omega | (have hc := HC.out; have hw0 := HW0.out; simp only [JoinLines_Cnt, wtStringS, List.length_map, marks_len] at *; omega)) g38.r).mono ?_
  rintro e W15 ⟨rfl, b60⟩
  replace a0 := a0.below b60
  replace g18 := g18.below b60
  replace g19 := g19.below b60
  replace g37 := g37.below b60
  replace g38 := g38.below b60
  replace hB := hB.trans (b60.mono hB.size)
  have hz15 : W14.heap.size ≤ W15.heap.size := b60.size
  clear b60
  go_wp2_with fail
  refine (toStringS _ _ _ _ HW0.out a0.r).mono ?_
  rintro e W16 ⟨v61, f62, rfl, r63, o64, b65⟩
  replace a0 := a0.below b65
  replace g18 := g18.below b65
  replace g19 := g19.below b65
  replace g37 := g37.below b65
  replace g38 := g38.below b65
  replace hB := hB.trans (b65.mono hB.size)
  have hz16 : W15.heap.size ≤ W16.heap.size := b65.size
  clear b65
  have c66 := Live.of r63 o64
  clear r63 o64
  go_wp2_with fail
  refine (impl_JoinLines _ _ _ _ c66.r).mono ?_
  rintro e W17 ⟨v68, v69, f70, f71, rfl, r72, r73, o74, b67⟩
  replace a0 := a0.below b67
  replace g18 := g18.below b67
  replace g19 := g19.below b67
  replace g37 := g37.below b67
  replace g38 := g38.below b67
  replace c66 := c66.below b67
  replace hB := hB.trans (b67.mono hB.size)
  have hz17 : W16.heap.size ≤ W17.heap.size := b67.size
  clear b67
  obtain ⟨o75, o76, D77⟩ := Own.split o74
  clear o74
  have g78 := Live.of r72 o75
  clear r72 o75
  have g79 := Live.of r73 o76
  clear r73 o76
  go_wp2_with fail
  refine (eqStringS_same _ _ _ _ _ _ g78.r g18.r).mono ?_
  rintro e W18 ⟨rfl, b80⟩
  replace a0 := a0.below b80
  replace g18 := g18.below b80
  replace g19 := g19.below b80
  replace g37 := g37.below b80
  replace g38 := g38.below b80
  replace c66 := c66.below b80
  replace g78 := g78.below b80
  replace g79 := g79.below b80
  replace hB := hB.trans (b80.mono hB.size)
  have hz18 : W17.heap.size ≤ W18.heap.size := b80.size
  clear b80
  go_wp2_with fail
  refine (eqIntS_same _ _ _ _ _ _ g79.r g19.r).mono ?_
  rintro e W19 ⟨rfl, b81⟩
  replace a0 := a0.below b81
  replace g18 := g18.below b81
  replace g19 := g19.below b81
  replace g37 := g37.below b81
  replace g38 := g38.below b81
  replace c66 := c66.below b81
  replace g78 := g78.below b81
  replace g79 := g79.below b81
  replace hB := hB.trans (b81.mono hB.size)
  have hz19 : W18.heap.size ≤ W19.heap.size := b81.size
  clear b81
  go_wp2_with fail
  refine (heldStringS _ _ _ _ _ (by first | omega | (have hc := HC.out; have hw0 := HW0.out; simp only [JoinLines_Cnt, wtStringS, List.length_map, marks_len] at *; omega)) (by first | omega | (have hc := HC.out; have hw0 := HW0.out; simp only [JoinLines_Cnt, wtStringS, List.length_map, marks_len] at *; omega)) g37.r).mono ?_
  rintro e W20 ⟨rfl, b82⟩
  replace a0 := a0.below b82
  replace g18 := g18.below b82
  replace g19 := g19.below b82
  replace g37 := g37.below b82
  replace g38 := g38.below b82
  replace c66 := c66.below b82
  replace g78 := g78.below b82
  replace g79 := g79.below b82
  replace hB := hB.trans (b82.mono hB.size)
  have hz20 : W19.heap.size ≤ W20.heap.size := b82.size
  clear b82
  go_wp2_with fail
  refine (heldIntS _ _ _ _ _ (by first | omega | (have hc := HC.out; have hw0 := HW0.out; simp only [JoinLines_Cnt, wtStringS, List.length_map, marks_len] at *; omega)) (by first | omega | (have hc := HC.out; have hw0 := HW0.out; simp only [JoinLines_Cnt, wtStringS, List.length_map, marks_len] at *; omega)) g38.r).mono ?_
  rintro e W21 ⟨rfl, b83⟩
  replace a0 := a0.below b83
  replace g18 := g18.below b83
  replace g19 := g19.below b83
  replace g37 := g37.below b83
  replace g38 := g38.below b83
  replace c66 := c66.below b83
  replace g78 := g78.below b83
  replace g79 := g79.below b83
  replace hB := hB.trans (b83.mono hB.size)
  have hz21 : W20.heap.size ≤ W21.heap.size := b83.size
  clear b83
  go_wp2
  go_ret
  exact ⟨rfl, hB⟩

theorem own : ownKnob Try.prog.godebug = none := by kernel_rfl
theorem laidOut : laidOutB Try.prog = true := by kernel_rfl
theorem readable : ∀ t ∈ Try.f8.params.toList, Try.prog.readableRec t = true ∧ t < Try.prog.types.size := by
  rw [Try.params8]
  simp only [List.mem_cons, List.not_mem_nil, or_false]
  rintro t rfl
  exact ⟨by kernel_rfl, of_decide_eq_true (by kernel_rfl)⟩

set_option maxRecDepth 100000 in
theorem lifted (os : Os) (started : os.Started) (H : Type) (enc : TypeId × Value → H) :
    ReturnsInHanded {} Try.checked os 8 .any (Rows.fnExactJoinLinesSpec.pre6 enc Try.prog Try.f8 Rows.fnExactJoinLinesRow.domain false) (Rows.fnExactJoinLinesSpec.post enc Try.prog Try.f8 false true false false) := by
  refine returnsInHanded_of_change (C := Try.checked) own started (by kernel_rfl) Try.func8
    (ChangeSpec.witness6 (enc := enc) (C := Try.checked) false ⟨#[], #[.slice none 0 0], []⟩ 8 (by kernel_rfl) (by kernel_rfl) (by kernel_rfl) (by kernel_rfl)) ?_
  intro W base args ds gs before hval0 hW hcnd _
  have hval : ∀ (j : Nat) t v, Try.f8.params[j]? = some t → args[j]? = some v → Value.okWide Try.prog W .any base t v := hval0
  have hW' := hW
  obtain ⟨p, q, hA0, hV, rfl, hfz, hnd⟩ := hW
  have hA : DataW.TrodAll enc Try.prog W 0 (fun _ => true) true Try.f8.params.toList args.toList ds p := hA0
  rw [Try.params8] at hA hval
  obtain ⟨v0, vs0, d0, ds0, p0, q0, hargs0, rfl, rfl, h0, r0⟩ := trodAll_cons hA
  obtain ⟨rfl, rfl, rfl⟩ := trodAll_nil r0
  obtain rfl : args = #[v0] := by cases args; simp_all
  obtain ⟨rfl, rfl⟩ := trodVars_none hV
  obtain ⟨a0, len0, cap0, rfl⟩ := okWide_slice Try.underlying27 (hval 0 27 v0 rfl rfl)
  obtain ⟨x0, fp0, H0⟩ := open_arg (opens_slice Try.underlying27 (by kernel_rfl) (by decide) (opens_str Try.underlying9)) h0
  refine (walk _ x0 fp0 W H0).mono fun e W' ⟨he, hw⟩ => ?_
  subst he
  exact ⟨_, rfl, law_done laidOut readable rfl rfl Try.underlying4 hW' rfl rfl rfl hw⟩

theorem holds : Rows.FnExactJoinLinesSaid :=
  OpenClaim.holds_of_wide 8 Try.f8 rfl rfl rfl rfl rfl rfl rfl ⟨rfl, rfl, rfl, rfl, rfl⟩ rfl rfl rfl rfl rfl (by kernel_rfl) Try.func8 (by kernel_rfl)
    (of_decide_eq_true (by kernel_rfl)) (by unfold Func.isWrapper; first | (rw [if_pos (by decide +kernel)]; kernel_rfl) | (rw [if_neg (by decide +kernel)]; exact ⟨rfl, rfl⟩))
    (fun os started H enc _ => lifted os started H enc)


end Go.Proofs.Ytogflkpaebeipaa.exactJoinLines
