/- TokenValid of the program answers as its model at every argument; it writes into none; its answer owns its memory. No conditions. -/
import Derived.Test.YtncniilhhgjhnaaTok7
import Derived.Test.YtncniilhhgjhnaaTokA
import Derived.Test.YtncniilhhgjhnaaOpen
namespace Go.Proofs.Ytncniilhhgjhnaa.exactTokenValid
open Go.ChangeShapes Go.WideShapes Go.ChangeAt Go.RowKit Go.ChangeMaps

theorem boxes {w : World} {g : Nat} {arr : Array Value} {ty : TypeId} (h : w.heap[g]? = some (.cells arr ty (0, 0))) {w' : World} (hb : Below w.heap.size w w') : w'.heap[g]? = some (.cells arr ty (0, 0)) :=
  (hb.block g (Array.getElem?_eq_some_iff.1 h).1).trans h
theorem box_new (w : World) (arr : Array Value) (ty : TypeId) : (w.alloc (.cells arr ty)).heap[w.heap.size]? = some (.cells arr ty (0, 0)) := by
  show (w.heap.push _)[_]? = _; simp

set_option maxHeartbeats 8000000 in
set_option maxRecDepth 100000 in
theorem walk (v0 : List Value) (x0 : Tok) (fp0 : List Nat) (w : World) (H0 : sTok.R w v0 x0 fp0) :
    Calls Try.prog 5 #[.agg v0.toArray] w fun e w' => e = .returned (.bool true) ∧ Below w.heap.size w w' := by
  have a0 := Seen.of H0
  obtain ⟨h0, rfl, -⟩ := H0
  have hB := alloc_below' w (.cells #[.int .i64 x0.kind, .string x0.text, .bool x0.spaced, h0] 36)
  replace a0 := a0.below hB
  have HX := Lib.hid (box_new w #[.int .i64 x0.kind, .string x0.text, .bool x0.spaced, h0] 36)
  have g0 := w.heap.size
  go_enter Try.func5, Try.ntmps5
  go_wp2_with fail
  refine (szToken _ _ _ _ _ (by omega) (by omega) a0.r).mono ?_
  rintro e W1 ⟨r0, rfl, hr0, b1⟩
  replace a0 := a0.below b1
  replace HX := Lib.hid (boxes HX.out b1)
  replace hB := hB.trans (b1.mono hB.size)
  clear b1
  by_cases hneg0 : r0 < 0
  · go_wp2
    go_ret
    exact ⟨rfl, hB⟩
  have hw0 := (hr0.good hneg0).1
  have hl0 := hr0.le (by omega)
  have HW0 : Hid (wtToken x0 ≤ 1048576) := by show _ ≤ _; omega
  clear hr0 hw0
  have q0 : W1.cell? ⟨w.heap.size, 0, none⟩ = some (.int .i64 x0.kind) := cell_of_row _ _ 0 _ _ _ HX.out
  have q1 : W1.cell? ⟨w.heap.size, 1, none⟩ = some (.string x0.text) := cell_of_row _ _ 1 _ _ _ HX.out
  have q2 : W1.cell? ⟨w.heap.size, 2, none⟩ = some (.bool x0.spaced) := cell_of_row _ _ 2 _ _ _ HX.out
  have q3 : W1.cell? ⟨w.heap.size, 3, none⟩ = some h0 := cell_of_row _ _ 3 _ _ _ HX.out
  go_wp2_with fail
  refine (toToken _ _ _ _ HW0.out a0.r).mono ?_
  clear q0 q1 q2 q3
  rintro e W2 ⟨v2, f3, rfl, r4, o5, b6⟩
  replace a0 := a0.below b6
  replace HX := Lib.hid (boxes HX.out b6)
  replace hB := hB.trans (b6.mono hB.size)
  have c7 := Live.of r4 o5
  clear r4 o5 b6
  go_wp2_with fail
  refine (spec_TokenValid _ _ _ _ c7.r).mono ?_
  rintro e W3 ⟨rfl, b8⟩
  clear c7
  replace a0 := a0.below b8
  replace HX := Lib.hid (boxes HX.out b8)
  replace hB := hB.trans (b8.mono hB.size)
  clear b8
  have q0 : W3.cell? ⟨w.heap.size, 0, none⟩ = some (.int .i64 x0.kind) := cell_of_row _ _ 0 _ _ _ HX.out
  have q1 : W3.cell? ⟨w.heap.size, 1, none⟩ = some (.string x0.text) := cell_of_row _ _ 1 _ _ _ HX.out
  have q2 : W3.cell? ⟨w.heap.size, 2, none⟩ = some (.bool x0.spaced) := cell_of_row _ _ 2 _ _ _ HX.out
  have q3 : W3.cell? ⟨w.heap.size, 3, none⟩ = some h0 := cell_of_row _ _ 3 _ _ _ HX.out
  go_wp2_with fail
  refine (toToken _ _ _ _ HW0.out a0.r).mono ?_
  clear q0 q1 q2 q3
  rintro e W4 ⟨v9, f10, rfl, r11, o12, b13⟩
  replace a0 := a0.below b13
  replace HX := Lib.hid (boxes HX.out b13)
  replace hB := hB.trans (b13.mono hB.size)
  clear b13
  have c14 := Live.of r11 o12
  obtain ⟨h9, rfl, -, -, k9⟩ := r11
  obtain ⟨a9, cap9, rfl, -⟩ := open_rows k9
  clear k9
  clear o12
  have b15 := alloc_below' W4 (.cells #[.int .i64 x0.kind, .string x0.text, .bool x0.spaced, .slice a9 x0.hidden.length cap9] 25)
  replace a0 := a0.below b15
  replace HX := Lib.hid (boxes HX.out b15)
  replace hB := hB.trans (b15.mono hB.size)
  replace c14 := c14.below b15
  have HY := Lib.hid (box_new W4 #[.int .i64 x0.kind, .string x0.text, .bool x0.spaced, .slice a9 x0.hidden.length cap9] 25)
  clear b15
  go_wp2_with fail
  refine (impl_TokenValid _ _ _ _ c14.r).mono ?_
  rintro e W5 ⟨rfl, b15⟩
  replace a0 := a0.below b15
  replace HX := Lib.hid (boxes HX.out b15)
  replace HY := Lib.hid (boxes HY.out b15)
  replace hB := hB.trans (b15.mono hB.size)
  replace c14 := c14.below b15
  clear b15
  have hg1 : w.heap.size < W5.heap.size := (Array.getElem?_eq_some_iff.1 HX.out).1
  have hg2 : W4.heap.size < W5.heap.size := (Array.getElem?_eq_some_iff.1 HY.out).1
  have HD : Hid (∀ W, Below W5.heap.size W5 W → Calls Try.prog 16 #[.agg #[.int .i64 x0.kind, .string x0.text, .bool x0.spaced, h0]] W (MadeC sTok x0 W)) := fun W hW => toToken _ _ _ W HW0.out (a0.r |> fun r => sTok.below r hW)
  have HE : Hid (∀ W cs fp, Below W5.heap.size W5 W → sTok.R W cs x0 fp → Calls Try.prog 17 #[.agg #[.int .i64 x0.kind, .string x0.text, .bool x0.spaced, .slice a9 x0.hidden.length cap9], .agg cs.toArray] W fun e w' => e = .returned (.bool true) ∧ Below W.heap.size W w') := fun W cs fp hW hr => eqToken_same _ _ _ _ _ W (sTok.below c14.r hW) hr
  go_wp2_with fail
  have q0 : W5.cell? ⟨w.heap.size, 0, none⟩ = some (.int .i64 x0.kind) := cell_of_row _ _ 0 _ _ _ HX.out
  have q1 : W5.cell? ⟨w.heap.size, 1, none⟩ = some (.string x0.text) := cell_of_row _ _ 1 _ _ _ HX.out
  have q2 : W5.cell? ⟨w.heap.size, 2, none⟩ = some (.bool x0.spaced) := cell_of_row _ _ 2 _ _ _ HX.out
  have q3 : W5.cell? ⟨w.heap.size, 3, none⟩ = some h0 := cell_of_row _ _ 3 _ _ _ HX.out
  have q4 : W5.cell? ⟨W4.heap.size, 0, none⟩ = some (.int .i64 x0.kind) := cell_of_row _ _ 0 _ _ _ HY.out
  have q5 : W5.cell? ⟨W4.heap.size, 1, none⟩ = some (.string x0.text) := cell_of_row _ _ 1 _ _ _ HY.out
  have q6 : W5.cell? ⟨W4.heap.size, 2, none⟩ = some (.bool x0.spaced) := cell_of_row _ _ 2 _ _ _ HY.out
  have q7 : W5.cell? ⟨W4.heap.size, 3, none⟩ = some (.slice a9 x0.hidden.length cap9) := cell_of_row _ _ 3 _ _ _ HY.out
  go_region_held3 (fun w' => w'.cell? ⟨w.heap.size, 0, none⟩ = some (.int .i64 x0.kind) ∧ w'.cell? ⟨w.heap.size, 1, none⟩ = some (.string x0.text) ∧ w'.cell? ⟨w.heap.size, 2, none⟩ = some (.bool x0.spaced) ∧ w'.cell? ⟨w.heap.size, 3, none⟩ = some h0 ∧ w'.cell? ⟨W4.heap.size, 0, none⟩ = some (.int .i64 x0.kind) ∧ w'.cell? ⟨W4.heap.size, 1, none⟩ = some (.string x0.text) ∧ w'.cell? ⟨W4.heap.size, 2, none⟩ = some (.bool x0.spaced) ∧ w'.cell? ⟨W4.heap.size, 3, none⟩ = some (.slice a9 x0.hidden.length cap9))
    (first | exact ⟨q0, q1, q2, q3, q4, q5, q6, q7⟩ | exact ⟨(b30.cell (by simp; omega)).trans q0, (b30.cell (by simp; omega)).trans q1, (b30.cell (by simp; omega)).trans q2, (b30.cell (by simp; omega)).trans q3, (b30.cell (by simp; omega)).trans q4, (b30.cell (by simp; omega)).trans q5, (b30.cell (by simp; omega)).trans q6, (b30.cell (by simp; omega)).trans q7⟩ | exact ⟨((b30.trans (b31.mono b30.size)).cell (by simp; omega)).trans q0, ((b30.trans (b31.mono b30.size)).cell (by simp; omega)).trans q1, ((b30.trans (b31.mono b30.size)).cell (by simp; omega)).trans q2, ((b30.trans (b31.mono b30.size)).cell (by simp; omega)).trans q3, ((b30.trans (b31.mono b30.size)).cell (by simp; omega)).trans q4, ((b30.trans (b31.mono b30.size)).cell (by simp; omega)).trans q5, ((b30.trans (b31.mono b30.size)).cell (by simp; omega)).trans q6, ((b30.trans (b31.mono b30.size)).cell (by simp; omega)).trans q7⟩)
    (first
      | (go_at_call 16; refine (HD.out _ (belowN (Below.refl _ _) 1)).mono ?_; rintro e w2 ⟨cs2, fp2, rfl, r2, o2, b30⟩)
      | (go_at_call 17; refine (HE.out _ _ _ ((belowN (Below.refl _ _) 1).trans (b30.mono (Nat.le_refl _))) r2).mono ?_; rintro e w3 ⟨rfl, b31⟩))
  have hB' := hB.trans (((belowN (Below.refl W5.heap.size W5) 1).trans (b30.trans (b31.mono b30.size))).mono hB.size)
  clear q0 q1 q2 q3 q4 q5 q6 q7
  go_wp2
  go_ret
  exact ⟨rfl, hB'⟩

theorem own : ownKnob Try.prog.godebug = none := by kernel_rfl
theorem laidOut : laidOutB Try.prog = true := by kernel_rfl
theorem readable : ∀ t ∈ Try.f5.params.toList, Try.prog.readableRec t = true ∧ t < Try.prog.types.size := by
  rw [Try.params5]
  simp only [List.mem_cons, List.not_mem_nil, or_false]
  rintro t rfl
  exact ⟨by kernel_rfl, of_decide_eq_true (by kernel_rfl)⟩

set_option maxRecDepth 100000 in
theorem lifted (os : Os) (started : os.Started) (H : Type) (enc : TypeId × Value → H) :
    ReturnsInHanded {} Try.checked os 5 .any (Rows.fnExactTokenValidSpec.pre6 enc Try.prog Try.f5 Rows.fnExactTokenValidRow.domain false) (Rows.fnExactTokenValidSpec.post enc Try.prog Try.f5 false true false false) := by
  refine returnsInHanded_of_change (C := Try.checked) own started (by kernel_rfl) Try.func5
    (ChangeSpec.witness6 (enc := enc) (C := Try.checked) false ⟨#[], #[zero_Token], []⟩ 8 (by kernel_rfl) (by kernel_rfl) (by kernel_rfl) (by kernel_rfl)) ?_
  intro W base args ds gs before hval0 hW hcnd _
  have hval : ∀ (j : Nat) t v, Try.f5.params[j]? = some t → args[j]? = some v → Value.okWide Try.prog W .any base t v := hval0
  have hW' := hW
  obtain ⟨p, q, hA0, hV, rfl, hfz, hnd⟩ := hW
  have hA : DataW.TrodAll enc Try.prog W 0 (fun _ => true) true Try.f5.params.toList args.toList ds p := hA0
  rw [Try.params5] at hA hval
  obtain ⟨v0, vs0, d0, ds0, p0, q0, hargs0, rfl, rfl, h0, r0⟩ := trodAll_cons hA
  obtain ⟨rfl, rfl, rfl⟩ := trodAll_nil r0
  obtain rfl : args = #[v0] := by cases args; simp_all
  obtain ⟨rfl, rfl⟩ := trodVars_none hV
  obtain ⟨cs0, rfl, _⟩ := okWide_struct Try.underlying36 (hval 0 36 v0 rfl rfl)
  obtain ⟨x0, fp0, H0⟩ := open_arg opens_Token h0
  refine (walk _ x0 fp0 W H0).mono fun e W' ⟨he, hw⟩ => ?_
  subst he
  exact ⟨_, rfl, law_done laidOut readable rfl rfl Try.underlying4 hW' rfl rfl rfl hw⟩

theorem holds : Rows.FnExactTokenValidSaid :=
  OpenClaim.holds_of_wide 5 Try.f5 rfl rfl rfl rfl rfl rfl rfl ⟨rfl, rfl, rfl, rfl, rfl⟩ rfl rfl rfl rfl rfl (by kernel_rfl) Try.func5 (by kernel_rfl)
    (of_decide_eq_true (by kernel_rfl)) (by unfold Func.isWrapper; first | (rw [if_pos (by decide +kernel)]; kernel_rfl) | (rw [if_neg (by decide +kernel)]; exact ⟨rfl, rfl⟩))
    (fun os started H enc _ => lifted os started H enc)


end Go.Proofs.Ytncniilhhgjhnaa.exactTokenValid
