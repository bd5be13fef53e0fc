/- TokensOf of the program answers as its model at every argument; it writes into none; its answer owns its memory. No conditions. -/
import Derived.Test.YtncniilhhgjhnaaTok4
import Derived.Test.YtncniilhhgjhnaaTok8
import Derived.Test.YtncniilhhgjhnaaOpen
namespace Go.Proofs.Ytncniilhhgjhnaa.exactTokensOf
open Go.ChangeShapes Go.WideShapes Go.ChangeAt Go.RowKit Go.ChangeMaps

set_option maxHeartbeats 8000000 in
set_option maxRecDepth 100000 in
theorem walk (v0 : Value) (x0 : ByteArray) (fp0 : List Nat) (w : World) (H0 : sStr.R w [v0] x0 fp0) :
    Calls Try.prog 4 #[v0] w fun e w' => e = .returned (.bool true) ∧ Below w.heap.size w w' := by
  obtain ⟨h0, hok0, rfl⟩ := H0
  obtain rfl : v0 = .string x0 := by simpa using h0
  have HC := Lib.hid (TokensOf_cnt x0)
  go_enter Try.func4, Try.ntmps4
  have hs0 : x0.size ≤ maxLen := hok0
  unfold maxLen at hs0
  by_cases hbig0 : 1048576 < x0.size
  · go_wp2
    go_ret
    exact ⟨rfl, Below.refl _ _⟩
  have hB := Below.refl w.heap.size w
  go_wp2_with fail
  refine (spec_TokensOf x0 _ hok0).mono ?_
  rintro e W1 ⟨v2, f3, rfl, r4, o5, b1⟩
  replace hB := hB.trans (b1.mono hB.size)
  have hz1 : w.heap.size ≤ W1.heap.size := b1.size
  clear b1
  have g6 := Live.of r4 o5
  clear r4 o5
  go_wp2_with fail
  refine (impl_TokensOf x0 _ hok0).mono ?_
  rintro e W2 ⟨v8, f9, rfl, r10, o11, b7⟩
  replace g6 := g6.below b7
  replace hB := hB.trans (b7.mono hB.size)
  have hz2 : W1.heap.size ≤ W2.heap.size := b7.size
  clear b7
  have g12 := Live.of r10 o11
  clear r10 o11
  go_wp2_with fail
  refine (eqTokenS_same _ _ _ _ _ _ g12.r g6.r).mono ?_
  rintro e W3 ⟨rfl, b13⟩
  replace g6 := g6.below b13
  replace g12 := g12.below b13
  replace hB := hB.trans (b13.mono hB.size)
  have hz3 : W2.heap.size ≤ W3.heap.size := b13.size
  clear b13
  go_wp2_with fail
  refine (markTokenS _ _ _ W1.heap.size _ _ (by first | omega | (have hc := HC.out; simp only [TokensOf_Cnt, List.length_map, marks_len] at *; omega)) (by first | omega | (have hc := HC.out; simp only [TokensOf_Cnt, List.length_map, marks_len] at *; omega)) g12.r g12.o).mono ?_
  rintro e W4 ⟨rfl, r14, o15, hk⟩
  replace g6 := g6.kept hk g12.o (by omega)
  replace hB := hB.trans (hk.below' g12.o (by first | exact Nat.le_refl _ | omega) (by omega))
  have hz4 : W3.heap.size ≤ W4.heap.size := hk.size
  replace g12 : Live _ _ _ _ _ _ _ := ⟨r14, o15, g12.hi⟩
  clear r14 o15 hk
  go_wp2_with fail
  refine (heldTokenS _ _ _ _ _ (by first | omega | (have hc := HC.out; simp only [TokensOf_Cnt, List.length_map, marks_len] at *; omega)) (by first | omega | (have hc := HC.out; simp only [TokensOf_Cnt, List.length_map, marks_len] at *; omega)) g12.r).mono ?_
  rintro e W5 ⟨rfl, b17⟩
  replace g6 := g6.below b17
  replace g12 := g12.below b17
  replace hB := hB.trans (b17.mono hB.size)
  have hz5 : W4.heap.size ≤ W5.heap.size := b17.size
  clear b17
  go_wp2_with fail
  refine (impl_TokensOf x0 _ hok0).mono ?_
  rintro e W6 ⟨v19, f20, rfl, r21, o22, b18⟩
  replace g6 := g6.below b18
  replace g12 := g12.below b18
  replace hB := hB.trans (b18.mono hB.size)
  have hz6 : W5.heap.size ≤ W6.heap.size := b18.size
  clear b18
  have g23 := Live.of r21 o22
  clear r21 o22
  go_wp2_with fail
  refine (eqTokenS_same _ _ _ _ _ _ g23.r g6.r).mono ?_
  rintro e W7 ⟨rfl, b24⟩
  replace g6 := g6.below b24
  replace g12 := g12.below b24
  replace g23 := g23.below b24
  replace hB := hB.trans (b24.mono hB.size)
  have hz7 : W6.heap.size ≤ W7.heap.size := b24.size
  clear b24
  go_wp2_with fail
  refine (heldTokenS _ _ _ _ _ (by first | omega | (have hc := HC.out; simp only [TokensOf_Cnt, List.length_map, marks_len] at *; omega)) (by first | omega | (have hc := HC.out; simp only [TokensOf_Cnt, List.length_map, marks_len] at *; omega)) g12.r).mono ?_
  rintro e W8 ⟨rfl, b25⟩
  replace g6 := g6.below b25
  replace g12 := g12.below b25
  replace g23 := g23.below b25
  replace hB := hB.trans (b25.mono hB.size)
  have hz8 : W7.heap.size ≤ W8.heap.size := b25.size
  clear b25
  go_wp2
  go_ret
  exact ⟨rfl, hB⟩

theorem own : ownKnob Try.prog.godebug = none := by kernel_rfl
theorem laidOut : laidOutB Try.prog = true := by kernel_rfl
theorem readable : ∀ t ∈ Try.f4.params.toList, Try.prog.readableRec t = true ∧ t < Try.prog.types.size := by
  rw [Try.params4]
  simp only [List.mem_cons, List.not_mem_nil, or_false]
  rintro t rfl
  exact ⟨by kernel_rfl, of_decide_eq_true (by kernel_rfl)⟩

set_option maxRecDepth 100000 in
theorem lifted (os : Os) (started : os.Started) (H : Type) (enc : TypeId × Value → H) :
    ReturnsInHanded {} Try.checked os 4 .any (Rows.fnExactTokensOfSpec.pre6 enc Try.prog Try.f4 Rows.fnExactTokensOfRow.domain false) (Rows.fnExactTokensOfSpec.post enc Try.prog Try.f4 false true false false) := by
  refine returnsInHanded_of_change (C := Try.checked) own started (by kernel_rfl) Try.func4
    (ChangeSpec.witness6 (enc := enc) (C := Try.checked) false ⟨#[], #[.string ByteArray.empty], []⟩ 8 (by kernel_rfl) (by kernel_rfl) (by kernel_rfl) (by kernel_rfl)) ?_
  intro W base args ds gs before hval0 hW hcnd _
  have hval : ∀ (j : Nat) t v, Try.f4.params[j]? = some t → args[j]? = some v → Value.okWide Try.prog W .any base t v := hval0
  have hW' := hW
  obtain ⟨p, q, hA0, hV, rfl, hfz, hnd⟩ := hW
  have hA : DataW.TrodAll enc Try.prog W 0 (fun _ => true) true Try.f4.params.toList args.toList ds p := hA0
  rw [Try.params4] at hA hval
  obtain ⟨v0, vs0, d0, ds0, p0, q0, hargs0, rfl, rfl, h0, r0⟩ := trodAll_cons hA
  obtain ⟨rfl, rfl, rfl⟩ := trodAll_nil r0
  obtain rfl : args = #[v0] := by cases args; simp_all
  obtain ⟨rfl, rfl⟩ := trodVars_none hV
  obtain ⟨s0, rfl⟩ := okWide_string Try.underlying9 (hval 0 9 v0 rfl rfl)
  obtain ⟨x0, fp0, H0⟩ := open_arg (opens_str Try.underlying9) h0
  refine (walk _ x0 fp0 W H0).mono fun e W' ⟨he, hw⟩ => ?_
  subst he
  exact ⟨_, rfl, law_done laidOut readable rfl rfl Try.underlying4 hW' rfl rfl rfl hw⟩

theorem holds : Rows.FnExactTokensOfSaid :=
  OpenClaim.holds_of_wide 4 Try.f4 rfl rfl rfl rfl rfl rfl rfl ⟨rfl, rfl, rfl, rfl, rfl⟩ rfl rfl rfl rfl rfl (by kernel_rfl) Try.func4 (by kernel_rfl)
    (of_decide_eq_true (by kernel_rfl)) (by unfold Func.isWrapper; first | (rw [if_pos (by decide +kernel)]; kernel_rfl) | (rw [if_neg (by decide +kernel)]; exact ⟨rfl, rfl⟩))
    (fun os started H enc _ => lifted os started H enc)


end Go.Proofs.Ytncniilhhgjhnaa.exactTokensOf
