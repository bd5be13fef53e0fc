/- TokenBytes of the program answers as its model at every argument; it writes into none; its answer owns its memory. No conditions. -/
import Derived.Test.YtgjjidjkpmmcoaaZU7
import Derived.Test.YtgjjidjkpmmcoaaZU4
import Derived.Test.YtgjjidjkpmmcoaaZU2
set_option linter.unusedVariables false
set_option linter.unusedSimpArgs false
namespace Go.Proofs.Ytgjjidjkpmmcoaa.exactTokenBytes
open Go.ChangeShapes Go.WideShapes Go.ChangeAt Go.RowKit Go.ChangeMaps

theorem boxes {w : World} {g : Nat} {arr : Array Value} {ty : TypeId} (h : w.heap[g]? = some (.cells arr ty (0, 0))) {w' : World} (hb : Below w.heap.size w w') : w'.heap[g]? = some (.cells arr ty (0, 0)) :=
  (hb.block g (Array.getElem?_eq_some_iff.1 h).1).trans h
theorem boxK {w : World} {g : Nat} {arr : Array Value} {ty : TypeId} {fp : List Nat} (h : w.heap[g]? = some (.cells arr ty (0, 0))) {w' : World} (hk : Kept fp w w') (hn : g ∉ fp) : w'.heap[g]? = some (.cells arr ty (0, 0)) :=
  (hk.block g (Array.getElem?_eq_some_iff.1 h).1 hn).trans h
theorem boxlt {w : World} {g : Nat} {arr : Array Value} {ty : TypeId} (h : w.heap[g]? = some (.cells arr ty (0, 0))) : g < w.heap.size := (Array.getElem?_eq_some_iff.1 h).1
theorem box_new (w : World) (arr : Array Value) (ty : TypeId) : (w.alloc (.cells arr ty)).heap[w.heap.size]? = some (.cells arr ty (0, 0)) := by
  show (w.heap.push _)[_]? = _; simp

set_option maxHeartbeats 16000000 in
set_option maxRecDepth 100000 in
theorem walk (v0 : List Value) (x0 : Tok) (fp0 : List Nat) (w : World) (H0 : sTok.R w v0 x0 fp0) :
    Calls Try.prog 3 #[.agg v0.toArray] w fun e w' => e = .returned (.bool true) ∧ Below w.heap.size w w' := by
  have hB := Below.refl w.heap.size w
  have a0 := Seen.of H0
  obtain ⟨h1, rfl, -, -, K2⟩ := H0
  clear K2
  have b4 := alloc_below' w (.cells #[.int .i64 x0.kind, .string x0.text, .bool x0.spaced, h1] 24)
  have HB5 := Lib.hid (box_new w #[.int .i64 x0.kind, .string x0.text, .bool x0.spaced, h1] 24)
  replace a0 := a0.below b4
  replace hB := hB.trans (b4.mono hB.size)
  have hz1 : w.heap.size ≤ (w.alloc (.cells #[.int .i64 x0.kind, .string x0.text, .bool x0.spaced, h1] 24)).heap.size := b4.size
  clear b4
  have hy1 : w.heap.size + 1 ≤ (w.alloc (.cells #[.int .i64 x0.kind, .string x0.text, .bool x0.spaced, h1] 24)).heap.size := boxlt HB5.out
  go_enter Try.func3, Try.ntmps3
  have q6 : (w.alloc (.cells #[.int .i64 x0.kind, .string x0.text, .bool x0.spaced, h1] 24)).cell? ⟨w.heap.size, 0, none⟩ = some (.int .i64 x0.kind) := cell_of_row _ _ 0 _ _ _ HB5.out
  have q7 : (w.alloc (.cells #[.int .i64 x0.kind, .string x0.text, .bool x0.spaced, h1] 24)).cell? ⟨w.heap.size, 1, none⟩ = some (.string x0.text) := cell_of_row _ _ 1 _ _ _ HB5.out
  have q8 : (w.alloc (.cells #[.int .i64 x0.kind, .string x0.text, .bool x0.spaced, h1] 24)).cell? ⟨w.heap.size, 2, none⟩ = some (.bool x0.spaced) := cell_of_row _ _ 2 _ _ _ HB5.out
  have q9 : (w.alloc (.cells #[.int .i64 x0.kind, .string x0.text, .bool x0.spaced, h1] 24)).cell? ⟨w.heap.size, 3, none⟩ = some (h1) := cell_of_row _ _ 3 _ _ _ HB5.out
  go_wp2_with fail
  refine (szToken _ _ _ _ _ (by omega) (by omega) a0.r).mono ?_
  clear q6 q7 q8 q9
  rintro e W2 ⟨r0, rfl, hr0, b10⟩
  replace a0 := a0.below b10
  replace HB5 := Lib.hid (boxes HB5.out b10)
  replace hB := hB.trans (b10.mono hB.size)
  have hz2 : (w.alloc (.cells #[.int .i64 x0.kind, .string x0.text, .bool x0.spaced, h1] 24)).heap.size ≤ W2.heap.size := b10.size
  clear b10
  by_cases hneg0 : r0 < 0
  · go_wp2
    go_ret
    exact ⟨rfl, hB⟩
  have hw0 := (hr0.good hneg0).1
  have hl0 := hr0.le (by omega)
  have HW0 : Hid (wtToken x0 ≤ 1048576) := by show _ ≤ _; omega
  clear hr0 hw0
  have q16 : W2.cell? ⟨w.heap.size, 0, none⟩ = some (.int .i64 x0.kind) := cell_of_row _ _ 0 _ _ _ HB5.out
  have q17 : W2.cell? ⟨w.heap.size, 1, none⟩ = some (.string x0.text) := cell_of_row _ _ 1 _ _ _ HB5.out
  have q18 : W2.cell? ⟨w.heap.size, 2, none⟩ = some (.bool x0.spaced) := cell_of_row _ _ 2 _ _ _ HB5.out
  have q19 : W2.cell? ⟨w.heap.size, 3, none⟩ = some (h1) := cell_of_row _ _ 3 _ _ _ HB5.out
  go_wp2_with fail
  refine (toToken _ _ _ _ HW0.out a0.r).mono ?_
  clear q16 q17 q18 q19
  rintro e W3 ⟨v11, f12, rfl, r13, o14, b15⟩
  replace a0 := a0.below b15
  replace HB5 := Lib.hid (boxes HB5.out b15)
  replace hB := hB.trans (b15.mono hB.size)
  have hz3 : W2.heap.size ≤ W3.heap.size := b15.size
  clear b15
  have c20 := Live.of r13 o14
  obtain ⟨h21, rfl, -, -, K22⟩ := r13
  obtain ⟨a24, cap25, rfl, -⟩ := open_rows K22
  clear K22
  clear o14
  go_wp2_with fail
  refine (spec_TokenBytes _ _ _ _ c20.r).mono ?_
  rintro e W4 ⟨rfl, b26⟩
  replace a0 := a0.below b26
  replace c20 := c20.below b26
  replace HB5 := Lib.hid (boxes HB5.out b26)
  replace hB := hB.trans (b26.mono hB.size)
  have hz4 : W3.heap.size ≤ W4.heap.size := b26.size
  clear b26
  clear c20
  have q32 : W4.cell? ⟨w.heap.size, 0, none⟩ = some (.int .i64 x0.kind) := cell_of_row _ _ 0 _ _ _ HB5.out
  have q33 : W4.cell? ⟨w.heap.size, 1, none⟩ = some (.string x0.text) := cell_of_row _ _ 1 _ _ _ HB5.out
  have q34 : W4.cell? ⟨w.heap.size, 2, none⟩ = some (.bool x0.spaced) := cell_of_row _ _ 2 _ _ _ HB5.out
  have q35 : W4.cell? ⟨w.heap.size, 3, none⟩ = some (h1) := cell_of_row _ _ 3 _ _ _ HB5.out
  go_wp2_with fail
  refine (toToken _ _ _ _ HW0.out a0.r).mono ?_
  clear q32 q33 q34 q35
  rintro e W5 ⟨v27, f28, rfl, r29, o30, b31⟩
  replace a0 := a0.below b31
  replace HB5 := Lib.hid (boxes HB5.out b31)
  replace hB := hB.trans (b31.mono hB.size)
  have hz5 : W4.heap.size ≤ W5.heap.size := b31.size
  clear b31
  have c36 := Live.of r29 o30
  obtain ⟨h37, rfl, -, -, K38⟩ := r29
  obtain ⟨a40, cap41, rfl, -⟩ := open_rows K38
  clear K38
  clear o30
  have b42 := alloc_below' W5 (.cells #[.int .i64 x0.kind, .string x0.text, .bool x0.spaced, .slice a40 x0.hidden.length cap41] 28)
  have HB43 := Lib.hid (box_new W5 #[.int .i64 x0.kind, .string x0.text, .bool x0.spaced, .slice a40 x0.hidden.length cap41] 28)
  replace a0 := a0.below b42
  replace c36 := c36.below b42
  replace HB5 := Lib.hid (boxes HB5.out b42)
  replace hB := hB.trans (b42.mono hB.size)
  have hz6 : W5.heap.size ≤ (W5.alloc (.cells #[.int .i64 x0.kind, .string x0.text, .bool x0.spaced, .slice a40 x0.hidden.length cap41] 28)).heap.size := b42.size
  clear b42
  have hy6 : W5.heap.size + 1 ≤ (W5.alloc (.cells #[.int .i64 x0.kind, .string x0.text, .bool x0.spaced, .slice a40 x0.hidden.length cap41] 28)).heap.size := boxlt HB43.out
  have q45 : (W5.alloc (.cells #[.int .i64 x0.kind, .string x0.text, .bool x0.spaced, .slice a40 x0.hidden.length cap41] 28)).cell? ⟨W5.heap.size, 0, none⟩ = some (.int .i64 x0.kind) := cell_of_row _ _ 0 _ _ _ HB43.out
  have q46 : (W5.alloc (.cells #[.int .i64 x0.kind, .string x0.text, .bool x0.spaced, .slice a40 x0.hidden.length cap41] 28)).cell? ⟨W5.heap.size, 1, none⟩ = some (.string x0.text) := cell_of_row _ _ 1 _ _ _ HB43.out
  have q47 : (W5.alloc (.cells #[.int .i64 x0.kind, .string x0.text, .bool x0.spaced, .slice a40 x0.hidden.length cap41] 28)).cell? ⟨W5.heap.size, 2, none⟩ = some (.bool x0.spaced) := cell_of_row _ _ 2 _ _ _ HB43.out
  have q48 : (W5.alloc (.cells #[.int .i64 x0.kind, .string x0.text, .bool x0.spaced, .slice a40 x0.hidden.length cap41] 28)).cell? ⟨W5.heap.size, 3, none⟩ = some (.slice a40 x0.hidden.length cap41) := cell_of_row _ _ 3 _ _ _ HB43.out
  go_wp2_with fail
  refine (impl_TokenBytes _ _ _ _ c36.r).mono ?_
  clear q45 q46 q47 q48
  rintro e W7 ⟨rfl, b44⟩
  replace a0 := a0.below b44
  replace c36 := c36.below b44
  replace HB5 := Lib.hid (boxes HB5.out b44)
  replace HB43 := Lib.hid (boxes HB43.out b44)
  replace hB := hB.trans (b44.mono hB.size)
  have hz7 : (W5.alloc (.cells #[.int .i64 x0.kind, .string x0.text, .bool x0.spaced, .slice a40 x0.hidden.length cap41] 28)).heap.size ≤ W7.heap.size := b44.size
  clear b44
  have hga := boxlt HB5.out
  have hgb := boxlt HB43.out
  have HD49 : Hid (∀ W, Below W7.heap.size W7 W → Calls Try.prog 9 #[.agg #[.int .i64 x0.kind, .string x0.text, .bool x0.spaced, h1]] W (MadeC sTok x0 W)) := fun W hW => toToken _ _ _ W HW0.out (sTok.below a0.r hW)
  have HE50 : Hid (∀ W cs fp, Below W7.heap.size W7 W → sTok.R W cs x0 fp → Calls Try.prog 11 #[.agg #[.int .i64 x0.kind, .string x0.text, .bool x0.spaced, .slice a40 x0.hidden.length cap41], .agg cs.toArray] W fun e w' => e = .returned (.bool true) ∧ Below W.heap.size W w') := fun W cs fp hW hr => eqToken_same _ _ _ _ _ W (sTok.below c36.r hW) hr
  go_wp2_with fail
  have q51 : W7.cell? ⟨w.heap.size, 0, none⟩ = some (.int .i64 x0.kind) := cell_of_row _ _ 0 _ _ _ HB5.out
  have q52 : W7.cell? ⟨w.heap.size, 1, none⟩ = some (.string x0.text) := cell_of_row _ _ 1 _ _ _ HB5.out
  have q53 : W7.cell? ⟨w.heap.size, 2, none⟩ = some (.bool x0.spaced) := cell_of_row _ _ 2 _ _ _ HB5.out
  have q54 : W7.cell? ⟨w.heap.size, 3, none⟩ = some (h1) := cell_of_row _ _ 3 _ _ _ HB5.out
  have q55 : W7.cell? ⟨W5.heap.size, 0, none⟩ = some (.int .i64 x0.kind) := cell_of_row _ _ 0 _ _ _ HB43.out
  have q56 : W7.cell? ⟨W5.heap.size, 1, none⟩ = some (.string x0.text) := cell_of_row _ _ 1 _ _ _ HB43.out
  have q57 : W7.cell? ⟨W5.heap.size, 2, none⟩ = some (.bool x0.spaced) := cell_of_row _ _ 2 _ _ _ HB43.out
  have q58 : W7.cell? ⟨W5.heap.size, 3, none⟩ = some (.slice a40 x0.hidden.length cap41) := cell_of_row _ _ 3 _ _ _ HB43.out
  go_region_held3 (fun w' => w'.cell? ⟨w.heap.size, 0, none⟩ = some (.int .i64 x0.kind) ∧ w'.cell? ⟨w.heap.size, 1, none⟩ = some (.string x0.text) ∧ w'.cell? ⟨w.heap.size, 2, none⟩ = some (.bool x0.spaced) ∧ w'.cell? ⟨w.heap.size, 3, none⟩ = some (h1) ∧ w'.cell? ⟨W5.heap.size, 0, none⟩ = some (.int .i64 x0.kind) ∧ w'.cell? ⟨W5.heap.size, 1, none⟩ = some (.string x0.text) ∧ w'.cell? ⟨W5.heap.size, 2, none⟩ = some (.bool x0.spaced) ∧ w'.cell? ⟨W5.heap.size, 3, none⟩ = some (.slice a40 x0.hidden.length cap41))
    (first | exact ⟨q51, q52, q53, q54, q55, q56, q57, q58⟩ | exact ⟨(b30.cell (by simp; omega)).trans q51, (b30.cell (by simp; omega)).trans q52, (b30.cell (by simp; omega)).trans q53, (b30.cell (by simp; omega)).trans q54, (b30.cell (by simp; omega)).trans q55, (b30.cell (by simp; omega)).trans q56, (b30.cell (by simp; omega)).trans q57, (b30.cell (by simp; omega)).trans q58⟩ | exact ⟨((b30.trans (b31.mono b30.size)).cell (by simp; omega)).trans q51, ((b30.trans (b31.mono b30.size)).cell (by simp; omega)).trans q52, ((b30.trans (b31.mono b30.size)).cell (by simp; omega)).trans q53, ((b30.trans (b31.mono b30.size)).cell (by simp; omega)).trans q54, ((b30.trans (b31.mono b30.size)).cell (by simp; omega)).trans q55, ((b30.trans (b31.mono b30.size)).cell (by simp; omega)).trans q56, ((b30.trans (b31.mono b30.size)).cell (by simp; omega)).trans q57, ((b30.trans (b31.mono b30.size)).cell (by simp; omega)).trans q58⟩)
    (first
      | (go_at_call 9; refine (HD49.out _ (belowN (Below.refl _ _) 1)).mono ?_; rintro e w2 ⟨cs2, fp2, rfl, r2, o2, b30⟩)
      | (go_at_call 11; refine (HE50.out _ _ _ ((belowN (Below.refl _ _) 1).trans (b30.mono (Nat.le_refl _))) r2).mono ?_; rintro e w3 ⟨rfl, b31⟩))
  have b59 := (belowN (Below.refl W7.heap.size W7) 1).trans (b30.trans (b31.mono b30.size))
  clear q51 q52 q53 q54 q55 q56 q57 q58
  clear HD49 HE50 hga hgb
  replace a0 := a0.below b59
  replace c36 := c36.below b59
  replace HB5 := Lib.hid (boxes HB5.out b59)
  replace HB43 := Lib.hid (boxes HB43.out b59)
  replace hB := hB.trans (b59.mono hB.size)
  have hz8 : W7.heap.size ≤ w3.heap.size := b59.size
  clear b59
  clear b30 b31
  generalize w3 = W9 at *
  go_wp2
  go_ret
  exact ⟨rfl, hB⟩

theorem own : ownKnob Try.prog.godebug = none := by kernel_rfl
theorem laidOut : laidOutB Try.prog = true := by kernel_rfl
theorem readable : ∀ t ∈ Try.f3.params.toList, Try.prog.readableRec t = true ∧ t < Try.prog.types.size := by
  rw [Try.params3]
  simp only [List.mem_cons, List.not_mem_nil, or_false]
  rintro t rfl
  exact ⟨by kernel_rfl, of_decide_eq_true (by kernel_rfl)⟩

set_option maxRecDepth 100000 in
theorem lifted (os : Os) (started : os.Started) (H : Type) (enc : TypeId × Value → H) :
    ReturnsInHanded {} Try.checked os 3 .any (Rows.fnExactTokenBytesSpec.pre6 enc Try.prog Try.f3 Rows.fnExactTokenBytesRow.domain false) (Rows.fnExactTokenBytesSpec.post enc Try.prog Try.f3 false true false false) := by
  refine returnsInHanded_of_change (C := Try.checked) own started (by kernel_rfl) Try.func3
    (ChangeSpec.witness6 (enc := enc) (C := Try.checked) false ⟨#[], #[zero_Token], []⟩ 8 (by kernel_rfl) (by kernel_rfl) (by kernel_rfl) (by kernel_rfl)) ?_
  intro W base args ds gs before hval0 hW hcnd _
  have hval : ∀ (j : Nat) t v, Try.f3.params[j]? = some t → args[j]? = some v → Value.okWide Try.prog W .any base t v := hval0
  have hW' := hW
  obtain ⟨p, q, hA0, hV, rfl, hfz, hnd⟩ := hW
  have hA : DataW.TrodAll enc Try.prog W 0 (fun _ => true) true Try.f3.params.toList args.toList ds p := hA0
  rw [Try.params3] at hA hval
  obtain ⟨v0, vs0, d0, ds0, p0, q0, hargs0, rfl, rfl, h0, r0⟩ := trodAll_cons hA
  obtain ⟨rfl, rfl, rfl⟩ := trodAll_nil r0
  obtain rfl : args = #[v0] := by cases args; simp_all
  obtain ⟨rfl, rfl⟩ := trodVars_none hV
  obtain ⟨cs0, rfl, _⟩ := okWide_struct Try.underlying24 (hval 0 24 v0 rfl rfl)
  obtain ⟨x0, fp0, H0⟩ := open_arg opens_Token h0
  refine (walk _ x0 fp0 W H0).mono fun e W' ⟨he, hw⟩ => ?_
  subst he
  exact ⟨_, rfl, law_done laidOut readable rfl rfl Try.underlying4 hW' rfl rfl rfl hw⟩

theorem holds : Rows.FnExactTokenBytesSaid :=
  OpenClaim.holds_of_wide 3 Try.f3 rfl rfl rfl rfl rfl rfl rfl ⟨rfl, rfl, rfl, rfl, rfl⟩ rfl rfl rfl rfl rfl (by kernel_rfl) Try.func3 (by kernel_rfl)
    (of_decide_eq_true (by kernel_rfl)) (by unfold Func.isWrapper; first | (rw [if_pos (by decide +kernel)]; kernel_rfl) | (rw [if_neg (by decide +kernel)]; exact ⟨rfl, rfl⟩))
    (fun os started H enc _ => lifted os started H enc)


end Go.Proofs.Ytgjjidjkpmmcoaa.exactTokenBytes
