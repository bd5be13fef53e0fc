/- LevelsActive of the program answers as its model at every argument; it writes into none; its answer owns its memory. No conditions. -/
import Derived.Test.YtghikfggcnabeaaZU12
import Derived.Test.YtghikfggcnabeaaZU2
set_option linter.unusedVariables false
set_option linter.unusedSimpArgs false
namespace Go.Proofs.Ytghikfggcnabeaa.exactLevelsActive
open Go.ChangeShapes Go.WideShapes Go.ChangeAt Go.RowKit Go.ChangeMaps

theorem boxes {w : World} {g : Nat} {arr : Array Value} {ty : TypeId} (h : w.heap[g]? = some (.cells arr ty (0, 0))) {w' : World} (hb : Below w.heap.size w w') : w'.heap[g]? = some (.cells arr ty (0, 0)) :=
 (hb.block g (Array.getElem?_eq_some_iff.1 h).1).trans h
theorem boxK {w : World} {g : Nat} {arr : Array Value} {ty : TypeId} {fp : List Nat} (h : w.heap[g]? = some (.cells arr ty (0, 0))) {w' : World} (hk : Kept fp w w') (hn : g ∉ fp) : w'.heap[g]? = some (.cells arr ty (0, 0)) :=
 (hk.block g (Array.getElem?_eq_some_iff.1 h).1 hn).trans h
theorem boxlt {w : World} {g : Nat} {arr : Array Value} {ty : TypeId} (h : w.heap[g]? = some (.cells arr ty (0, 0))) : g < w.heap.size := (Array.getElem?_eq_some_iff.1 h).1
theorem box_new (w : World) (arr : Array Value) (ty : TypeId) : (w.alloc (.cells arr ty)).heap[w.heap.size]? = some (.cells arr ty (0, 0)) := by
 show (w.heap.push _)[_]? = _; simp

set_option maxHeartbeats 16000000 in
set_option maxRecDepth 100000 in
theorem walk (v0 : Value) (x0 : (List DLevel)) (fp0 : List Nat) (w : World) (H0 : (sSlice sLevel).R w [v0] x0 fp0) :
  Calls Try.prog 5 #[v0] w fun e w' => e = .returned (.bool true) ∧ Below w.heap.size w w' := by
 have HSP := Lib.hid (fun (W : World) (v0_ : Value) (f0_ : List Nat) (hw0_ : wtLevelS x0 ≤ 1048576) (h0_ : (sSlice sLevel).R W [v0_] x0 f0_) => spec_LevelsActive_w v0_ x0 f0_ W hw0_ h0_)
 have HIM := Lib.hid (fun (W : World) (v0_ : Value) (f0_ : List Nat) (hw0_ : wtLevelS x0 ≤ 1048576) (h0_ : (sSlice sLevel).R W [v0_] x0 f0_) => impl_LevelsActive_w v0_ x0 f0_ W hw0_ h0_)
 have HC := Lib.hid (LevelsActive_cnt x0)
 generalize actL x0 = md at HSP HIM HC
 have hB := Below.refl w.heap.size w
 have a0 := Seen.of H0
 clear H0
 go_enter Try.func5, Try.ntmps5
 go_wp2_with fail
 refine (szLevelS _ _ _ _ _ (by omega) (by omega) a0.r).mono ?_
 rintro e W1 ⟨r0, rfl, hr0, b1⟩
 replace a0 := a0.below b1
 replace hB := hB.trans (b1.mono hB.size)
 have hz1 : w.heap.size ≤ W1.heap.size := b1.size
 clear b1
 by_cases hneg0 : r0 < 0
 ·go_wp2
  go_ret
  exact ⟨rfl, hB⟩
 have hw0 := (hr0.good hneg0).1
 have hl0 := hr0.le (by omega)
 have HW0 : Hid (wtLevelS x0 ≤ 1048576) := by show _ ≤ _; omega
 clear hr0 hw0
 go_wp2_with fail
 refine (toLevelS _ _ _ _ HW0.out a0.r).mono ?_
 rintro e W2 ⟨v2, f3, rfl, r4, o5, b6⟩
 replace a0 := a0.below b6
 replace hB := hB.trans (b6.mono hB.size)
 have hz2 : W1.heap.size ≤ W2.heap.size := b6.size
 clear b6
 have c7 := Live.of r4 o5
 clear r4 o5
 go_wp2_with fail
 refine (HSP.out _ _ _ HW0.out c7.r).mono ?_
 rintro e W3 ⟨rfl, b8⟩
 replace a0 := a0.below b8
 replace c7 := c7.below b8
 replace hB := hB.trans (b8.mono hB.size)
 have hz3 : W2.heap.size ≤ W3.heap.size := b8.size
 clear b8
 clear c7
 go_wp2_with fail
 refine (toLevelS _ _ _ _ HW0.out a0.r).mono ?_
 rintro e W4 ⟨v9, f10, rfl, r11, o12, b13⟩
 replace a0 := a0.below b13
 replace hB := hB.trans (b13.mono hB.size)
 have hz4 : W3.heap.size ≤ W4.heap.size := b13.size
 clear b13
 have c14 := Live.of r11 o12
 clear r11 o12
 go_wp2_with fail
 refine (HIM.out _ _ _ HW0.out c14.r).mono ?_
 rintro e W5 ⟨rfl, b15⟩
 replace a0 := a0.below b15
 replace c14 := c14.below b15
 replace hB := hB.trans (b15.mono hB.size)
 have hz5 : W4.heap.size ≤ W5.heap.size := b15.size
 clear b15
 go_wp2_with fail
 refine (toLevelS _ _ _ _ HW0.out a0.r).mono ?_
 rintro e W6 ⟨v16, f17, rfl, r18, o19, b20⟩
 replace a0 := a0.below b20
 replace c14 := c14.below b20
 replace hB := hB.trans (b20.mono hB.size)
 have hz6 : W5.heap.size ≤ W6.heap.size := b20.size
 clear b20
 have c21 := Live.of r18 o19
 clear r18 o19
 go_wp2_with fail
 refine (eqLevelS_same _ _ _ _ _ _ c14.r c21.r).mono ?_
 rintro e W7 ⟨rfl, b22⟩
 replace a0 := a0.below b22
 replace c14 := c14.below b22
 replace c21 := c21.below b22
 replace hB := hB.trans (b22.mono hB.size)
 have hz7 : W6.heap.size ≤ W7.heap.size := b22.size
 clear b22
 clear c21
 go_wp2
 go_ret
 exact ⟨rfl, hB⟩

theorem own : ownKnob Try.prog.godebug = none := by kernel_rfl
theorem laidOut : laidOutB Try.prog = true := by kernel_rfl
theorem readable : ∀ t ∈ Try.f5.params.toList, Try.prog.readableRec t = true ∧ t < Try.prog.types.size := by
 rw [Try.params5]
 simp only [List.mem_cons, List.not_mem_nil, or_false]
 rintro t rfl
 exact ⟨by kernel_rfl, of_decide_eq_true (by kernel_rfl)⟩

set_option maxRecDepth 100000 in
theorem lifted (os : Os) (started : os.Started) (H : Type) (enc : TypeId × Value → H) :
  ReturnsInHanded {} Try.checked os 5 .any (Rows.fnExactLevelsActiveSpec.pre6 enc Try.prog Try.f5 Rows.fnExactLevelsActiveRow.domain false) (Rows.fnExactLevelsActiveSpec.post enc Try.prog Try.f5 false true false false) := by
 refine returnsInHanded_of_change (C := Try.checked) own started (by kernel_rfl) Try.func5
  (ChangeSpec.witness6 (enc := enc) (C := Try.checked) false ⟨#[], #[.slice none 0 0], []⟩ 8 (by kernel_rfl) (by kernel_rfl) (by kernel_rfl) (by kernel_rfl)) ?_
 intro W base args ds gs before hval0 hW hcnd _
 have hval : ∀ (j : Nat) t v, Try.f5.params[j]? = some t → args[j]? = some v → Value.okWide Try.prog W .any base t v := hval0
 have hW' := hW
 obtain ⟨p, q, hA0, hV, rfl, hfz, hnd⟩ := hW
 have hA : DataW.TrodAll enc Try.prog W 0 (fun _ => true) true Try.f5.params.toList args.toList ds p := hA0
 rw [Try.params5] at hA hval
 obtain ⟨v0, vs0, d0, ds0, p0, q0, hargs0, rfl, rfl, h0, r0⟩ := trodAll_cons hA
 obtain ⟨rfl, rfl, rfl⟩ := trodAll_nil r0
 obtain rfl : args = #[v0] := by cases args; simp_all
 obtain ⟨rfl, rfl⟩ := trodVars_none hV
 obtain ⟨a0, len0, cap0, rfl⟩ := okWide_slice Try.underlying35 (hval 0 35 v0 rfl rfl)
 obtain ⟨x0, fp0, H0⟩ := open_arg (opens_slice Try.underlying35 (by kernel_rfl) (by decide) opens_Level) h0
 refine (walk _ x0 fp0 W H0).mono fun e W' ⟨he, hw⟩ => ?_
 subst he
 exact ⟨_, rfl, law_done laidOut readable rfl rfl Try.underlying4 hW' rfl rfl rfl hw⟩

theorem holds : Rows.FnExactLevelsActiveSaid :=
 OpenClaim.holds_of_wide 5 Try.f5 rfl rfl rfl rfl rfl rfl rfl ⟨rfl, rfl, rfl, rfl, rfl⟩ rfl rfl rfl rfl rfl (by kernel_rfl) Try.func5 (by kernel_rfl)
  (of_decide_eq_true (by kernel_rfl)) (by unfold Func.isWrapper; first | (rw [if_pos (by decide +kernel)]; kernel_rfl) | (rw [if_neg (by decide +kernel)]; exact ⟨rfl, rfl⟩))
  (fun os started H enc _ => lifted os started H enc)


end Go.Proofs.Ytghikfggcnabeaa.exactLevelsActive
