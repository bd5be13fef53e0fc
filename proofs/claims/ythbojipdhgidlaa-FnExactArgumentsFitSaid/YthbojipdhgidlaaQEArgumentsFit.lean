/- ArgumentsFit of the program answers as its model at every argument; it writes into none; its answer owns its memory. No conditions. -/
import Derived.Test.YthbojipdhgidlaaZU9
import Derived.Test.YthbojipdhgidlaaZU2
set_option linter.unusedVariables false
set_option linter.unusedSimpArgs false
namespace Go.Proofs.Ythbojipdhgidlaa.exactArgumentsFit
open Go.ChangeShapes Go.WideShapes Go.ChangeAt Go.RowKit Go.ChangeMaps

theorem boxes {w : World} {g : Nat} {arr : Array Value} {ty : TypeId} (h : w.heap[g]? = some (.cells arr ty (0, 0))) {w' : World} (hb : Below w.heap.size w w') : w'.heap[g]? = some (.cells arr ty (0, 0)) :=
  (hb.block g (Array.getElem?_eq_some_iff.1 h).1).trans h
theorem boxK {w : World} {g : Nat} {arr : Array Value} {ty : TypeId} {fp : List Nat} (h : w.heap[g]? = some (.cells arr ty (0, 0))) {w' : World} (hk : Kept fp w w') (hn : g ∉ fp) : w'.heap[g]? = some (.cells arr ty (0, 0)) :=
  (hk.block g (Array.getElem?_eq_some_iff.1 h).1 hn).trans h
theorem boxlt {w : World} {g : Nat} {arr : Array Value} {ty : TypeId} (h : w.heap[g]? = some (.cells arr ty (0, 0))) : g < w.heap.size := (Array.getElem?_eq_some_iff.1 h).1
theorem box_new (w : World) (arr : Array Value) (ty : TypeId) : (w.alloc (.cells arr ty)).heap[w.heap.size]? = some (.cells arr ty (0, 0)) := by
  show (w.heap.push _)[_]? = _; simp

set_option maxHeartbeats 16000000 in
set_option maxRecDepth 100000 in
theorem walk (v0 : List Value) (x0 : DMacro) (fp0 : List Nat) (v1 : Value) (x1 : (List (List Tok))) (fp1 : List Nat) (w : World) (H0 : sMacro.R w v0 x0 fp0) (H1 : (sSlice (sSlice sTok)).R w [v1] x1 fp1) :
    Calls Try.prog 3 #[.agg v0.toArray, v1] w fun e w' => e = .returned (.bool true) ∧ Below w.heap.size w w' := by
  have hB := Below.refl w.heap.size w
  have a0 := Seen.of H0
  have a1 := Seen.of H1
  obtain ⟨h1, h2, p5, p6, rfl, -, K3, K4, rfl⟩ := H0
  clear K3
  clear K4
  clear H1
  have b7 := alloc_below' w (.cells #[.string x0.name, .bool x0.function, h1, h2] 25)
  have HB8 := Lib.hid (box_new w #[.string x0.name, .bool x0.function, h1, h2] 25)
  replace a0 := a0.below b7
  replace a1 := a1.below b7
  replace hB := hB.trans (b7.mono hB.size)
  have hz1 : w.heap.size ≤ (w.alloc (.cells #[.string x0.name, .bool x0.function, h1, h2] 25)).heap.size := b7.size
  clear b7
  have hy1 : w.heap.size + 1 ≤ (w.alloc (.cells #[.string x0.name, .bool x0.function, h1, h2] 25)).heap.size := boxlt HB8.out
  go_enter Try.func3, Try.ntmps3
  have q9 : (w.alloc (.cells #[.string x0.name, .bool x0.function, h1, h2] 25)).cell? ⟨w.heap.size, 0, none⟩ = some (.string x0.name) := cell_of_row _ _ 0 _ _ _ HB8.out
  have q10 : (w.alloc (.cells #[.string x0.name, .bool x0.function, h1, h2] 25)).cell? ⟨w.heap.size, 1, none⟩ = some (.bool x0.function) := cell_of_row _ _ 1 _ _ _ HB8.out
  have q11 : (w.alloc (.cells #[.string x0.name, .bool x0.function, h1, h2] 25)).cell? ⟨w.heap.size, 2, none⟩ = some (h1) := cell_of_row _ _ 2 _ _ _ HB8.out
  have q12 : (w.alloc (.cells #[.string x0.name, .bool x0.function, h1, h2] 25)).cell? ⟨w.heap.size, 3, none⟩ = some (h2) := cell_of_row _ _ 3 _ _ _ HB8.out
  go_wp2_with fail
  refine (szMacro _ _ _ _ _ (by omega) (by omega) a0.r).mono ?_
  clear q9 q10 q11 q12
  rintro e W2 ⟨r0, rfl, hr0, b13⟩
  replace a0 := a0.below b13
  replace a1 := a1.below b13
  replace HB8 := Lib.hid (boxes HB8.out b13)
  replace hB := hB.trans (b13.mono hB.size)
  have hz2 : (w.alloc (.cells #[.string x0.name, .bool x0.function, h1, h2] 25)).heap.size ≤ W2.heap.size := b13.size
  clear b13
  by_cases hneg0 : r0 < 0
  · go_wp2
    go_ret
    exact ⟨rfl, hB⟩
  have hw0 := (hr0.good hneg0).1
  have hl0 := hr0.le (by omega)
  have HW0 : Hid (wtMacro x0 ≤ 1048576) := by show _ ≤ _; omega
  clear hr0 hw0
  go_wp2_with fail
  refine (szTokenSS _ _ _ _ _ (by omega) (by omega) a1.r).mono ?_
  rintro e W3 ⟨r1, rfl, hr1, b14⟩
  replace a0 := a0.below b14
  replace a1 := a1.below b14
  replace HB8 := Lib.hid (boxes HB8.out b14)
  replace hB := hB.trans (b14.mono hB.size)
  have hz3 : W2.heap.size ≤ W3.heap.size := b14.size
  clear b14
  by_cases hneg1 : r1 < 0
  · go_wp2
    go_ret
    exact ⟨rfl, hB⟩
  have hw1 := (hr1.good hneg1).1
  have hl1 := hr1.le (by omega)
  have HW1 : Hid (wtTokenSS x1 ≤ 1048576) := by show _ ≤ _; omega
  clear hr1 hw1
  have q20 : W3.cell? ⟨w.heap.size, 0, none⟩ = some (.string x0.name) := cell_of_row _ _ 0 _ _ _ HB8.out
  have q21 : W3.cell? ⟨w.heap.size, 1, none⟩ = some (.bool x0.function) := cell_of_row _ _ 1 _ _ _ HB8.out
  have q22 : W3.cell? ⟨w.heap.size, 2, none⟩ = some (h1) := cell_of_row _ _ 2 _ _ _ HB8.out
  have q23 : W3.cell? ⟨w.heap.size, 3, none⟩ = some (h2) := cell_of_row _ _ 3 _ _ _ HB8.out
  go_wp2_with fail
  refine (toMacro _ _ _ _ HW0.out a0.r).mono ?_
  clear q20 q21 q22 q23
  rintro e W4 ⟨v15, f16, rfl, r17, o18, b19⟩
  replace a0 := a0.below b19
  replace a1 := a1.below b19
  replace HB8 := Lib.hid (boxes HB8.out b19)
  replace hB := hB.trans (b19.mono hB.size)
  have hz4 : W3.heap.size ≤ W4.heap.size := b19.size
  clear b19
  have c24 := Live.of r17 o18
  obtain ⟨h25, h26, p29, p30, rfl, -, K27, K28, rfl⟩ := r17
  obtain ⟨a31, cap32, rfl, -⟩ := open_rows K27
  clear K27
  obtain ⟨a33, cap34, rfl, -⟩ := open_rows K28
  clear K28
  clear o18
  go_wp2_with fail
  refine (toTokenSS _ _ _ _ HW1.out a1.r).mono ?_
  rintro e W5 ⟨v35, f36, rfl, r37, o38, b39⟩
  replace a0 := a0.below b39
  replace a1 := a1.below b39
  replace c24 := c24.below b39
  replace HB8 := Lib.hid (boxes HB8.out b39)
  replace hB := hB.trans (b39.mono hB.size)
  have hz5 : W4.heap.size ≤ W5.heap.size := b39.size
  clear b39
  have c40 := Live.of r37 o38
  clear r37 o38
  go_wp2_with fail
  refine (spec_ArgumentsFit _ _ _ _ _ _ _ c24.r c40.r).mono ?_
  rintro e W6 ⟨rfl, b41⟩
  replace a0 := a0.below b41
  replace a1 := a1.below b41
  replace c24 := c24.below b41
  replace c40 := c40.below b41
  replace HB8 := Lib.hid (boxes HB8.out b41)
  replace hB := hB.trans (b41.mono hB.size)
  have hz6 : W5.heap.size ≤ W6.heap.size := b41.size
  clear b41
  clear c24
  clear c40
  have q47 : W6.cell? ⟨w.heap.size, 0, none⟩ = some (.string x0.name) := cell_of_row _ _ 0 _ _ _ HB8.out
  have q48 : W6.cell? ⟨w.heap.size, 1, none⟩ = some (.bool x0.function) := cell_of_row _ _ 1 _ _ _ HB8.out
  have q49 : W6.cell? ⟨w.heap.size, 2, none⟩ = some (h1) := cell_of_row _ _ 2 _ _ _ HB8.out
  have q50 : W6.cell? ⟨w.heap.size, 3, none⟩ = some (h2) := cell_of_row _ _ 3 _ _ _ HB8.out
  go_wp2_with fail
  refine (toMacro _ _ _ _ HW0.out a0.r).mono ?_
  clear q47 q48 q49 q50
  rintro e W7 ⟨v42, f43, rfl, r44, o45, b46⟩
  replace a0 := a0.below b46
  replace a1 := a1.below b46
  replace HB8 := Lib.hid (boxes HB8.out b46)
  replace hB := hB.trans (b46.mono hB.size)
  have hz7 : W6.heap.size ≤ W7.heap.size := b46.size
  clear b46
  have c51 := Live.of r44 o45
  obtain ⟨h52, h53, p56, p57, rfl, -, K54, K55, rfl⟩ := r44
  obtain ⟨a58, cap59, rfl, -⟩ := open_rows K54
  clear K54
  obtain ⟨a60, cap61, rfl, -⟩ := open_rows K55
  clear K55
  clear o45
  have b62 := alloc_below' W7 (.cells #[.string x0.name, .bool x0.function, .slice a58 x0.params.length cap59, .slice a60 x0.body.length cap61] 32)
  have HB63 := Lib.hid (box_new W7 #[.string x0.name, .bool x0.function, .slice a58 x0.params.length cap59, .slice a60 x0.body.length cap61] 32)
  replace a0 := a0.below b62
  replace a1 := a1.below b62
  replace c51 := c51.below b62
  replace HB8 := Lib.hid (boxes HB8.out b62)
  replace hB := hB.trans (b62.mono hB.size)
  have hz8 : W7.heap.size ≤ (W7.alloc (.cells #[.string x0.name, .bool x0.function, .slice a58 x0.params.length cap59, .slice a60 x0.body.length cap61] 32)).heap.size := b62.size
  clear b62
  have hy8 : W7.heap.size + 1 ≤ (W7.alloc (.cells #[.string x0.name, .bool x0.function, .slice a58 x0.params.length cap59, .slice a60 x0.body.length cap61] 32)).heap.size := boxlt HB63.out
  go_wp2_with fail
  refine (toTokenSS _ _ _ _ HW1.out a1.r).mono ?_
  rintro e W9 ⟨v64, f65, rfl, r66, o67, b68⟩
  replace a0 := a0.below b68
  replace a1 := a1.below b68
  replace c51 := c51.below b68
  replace HB8 := Lib.hid (boxes HB8.out b68)
  replace HB63 := Lib.hid (boxes HB63.out b68)
  replace hB := hB.trans (b68.mono hB.size)
  have hz9 : (W7.alloc (.cells #[.string x0.name, .bool x0.function, .slice a58 x0.params.length cap59, .slice a60 x0.body.length cap61] 32)).heap.size ≤ W9.heap.size := b68.size
  clear b68
  have c69 := Live.of r66 o67
  clear r66 o67
  have q71 : W9.cell? ⟨W7.heap.size, 0, none⟩ = some (.string x0.name) := cell_of_row _ _ 0 _ _ _ HB63.out
  have q72 : W9.cell? ⟨W7.heap.size, 1, none⟩ = some (.bool x0.function) := cell_of_row _ _ 1 _ _ _ HB63.out
  have q73 : W9.cell? ⟨W7.heap.size, 2, none⟩ = some (.slice a58 x0.params.length cap59) := cell_of_row _ _ 2 _ _ _ HB63.out
  have q74 : W9.cell? ⟨W7.heap.size, 3, none⟩ = some (.slice a60 x0.body.length cap61) := cell_of_row _ _ 3 _ _ _ HB63.out
  go_wp2_with fail
  refine (impl_ArgumentsFit _ _ _ _ _ _ _ c51.r c69.r).mono ?_
  clear q71 q72 q73 q74
  rintro e W10 ⟨rfl, b70⟩
  replace a0 := a0.below b70
  replace a1 := a1.below b70
  replace c51 := c51.below b70
  replace c69 := c69.below b70
  replace HB8 := Lib.hid (boxes HB8.out b70)
  replace HB63 := Lib.hid (boxes HB63.out b70)
  replace hB := hB.trans (b70.mono hB.size)
  have hz10 : W9.heap.size ≤ W10.heap.size := b70.size
  clear b70
  have hga := boxlt HB8.out
  have hgb := boxlt HB63.out
  have HD75 : Hid (∀ W, Below W10.heap.size W10 W → Calls Try.prog 10 #[.agg #[.string x0.name, .bool x0.function, h1, h2]] W (MadeC sMacro x0 W)) := fun W hW => toMacro _ _ _ W HW0.out (sMacro.below a0.r hW)
  have HE76 : Hid (∀ W cs fp, Below W10.heap.size W10 W → sMacro.R W cs x0 fp → Calls Try.prog 13 #[.agg #[.string x0.name, .bool x0.function, .slice a58 x0.params.length cap59, .slice a60 x0.body.length cap61], .agg cs.toArray] W fun e w' => e = .returned (.bool true) ∧ Below W.heap.size W w') := fun W cs fp hW hr => eqMacro_same _ _ _ _ _ W (sMacro.below c51.r hW) hr
  go_wp2_with fail
  have q77 : W10.cell? ⟨w.heap.size, 0, none⟩ = some (.string x0.name) := cell_of_row _ _ 0 _ _ _ HB8.out
  have q78 : W10.cell? ⟨w.heap.size, 1, none⟩ = some (.bool x0.function) := cell_of_row _ _ 1 _ _ _ HB8.out
  have q79 : W10.cell? ⟨w.heap.size, 2, none⟩ = some (h1) := cell_of_row _ _ 2 _ _ _ HB8.out
  have q80 : W10.cell? ⟨w.heap.size, 3, none⟩ = some (h2) := cell_of_row _ _ 3 _ _ _ HB8.out
  have q81 : W10.cell? ⟨W7.heap.size, 0, none⟩ = some (.string x0.name) := cell_of_row _ _ 0 _ _ _ HB63.out
  have q82 : W10.cell? ⟨W7.heap.size, 1, none⟩ = some (.bool x0.function) := cell_of_row _ _ 1 _ _ _ HB63.out
  have q83 : W10.cell? ⟨W7.heap.size, 2, none⟩ = some (.slice a58 x0.params.length cap59) := cell_of_row _ _ 2 _ _ _ HB63.out
  have q84 : W10.cell? ⟨W7.heap.size, 3, none⟩ = some (.slice a60 x0.body.length cap61) := cell_of_row _ _ 3 _ _ _ HB63.out
  go_region_held3 (fun w' => w'.cell? ⟨w.heap.size, 0, none⟩ = some (.string x0.name) ∧ w'.cell? ⟨w.heap.size, 1, none⟩ = some (.bool x0.function) ∧ w'.cell? ⟨w.heap.size, 2, none⟩ = some (h1) ∧ w'.cell? ⟨w.heap.size, 3, none⟩ = some (h2) ∧ w'.cell? ⟨W7.heap.size, 0, none⟩ = some (.string x0.name) ∧ w'.cell? ⟨W7.heap.size, 1, none⟩ = some (.bool x0.function) ∧ w'.cell? ⟨W7.heap.size, 2, none⟩ = some (.slice a58 x0.params.length cap59) ∧ w'.cell? ⟨W7.heap.size, 3, none⟩ = some (.slice a60 x0.body.length cap61))
    (first | exact ⟨q77, q78, q79, q80, q81, q82, q83, q84⟩ | exact ⟨(b30.cell (by simp; omega)).trans q77, (b30.cell (by simp; omega)).trans q78, (b30.cell (by simp; omega)).trans q79, (b30.cell (by simp; omega)).trans q80, (b30.cell (by simp; omega)).trans q81, (b30.cell (by simp; omega)).trans q82, (b30.cell (by simp; omega)).trans q83, (b30.cell (by simp; omega)).trans q84⟩ | exact ⟨((b30.trans (b31.mono b30.size)).cell (by simp; omega)).trans q77, ((b30.trans (b31.mono b30.size)).cell (by simp; omega)).trans q78, ((b30.trans (b31.mono b30.size)).cell (by simp; omega)).trans q79, ((b30.trans (b31.mono b30.size)).cell (by simp; omega)).trans q80, ((b30.trans (b31.mono b30.size)).cell (by simp; omega)).trans q81, ((b30.trans (b31.mono b30.size)).cell (by simp; omega)).trans q82, ((b30.trans (b31.mono b30.size)).cell (by simp; omega)).trans q83, ((b30.trans (b31.mono b30.size)).cell (by simp; omega)).trans q84⟩)
    (first
      | (go_at_call 10; refine (HD75.out _ (belowN (Below.refl _ _) 1)).mono ?_; rintro e w2 ⟨cs2, fp2, rfl, r2, o2, b30⟩)
      | (go_at_call 13; refine (HE76.out _ _ _ ((belowN (Below.refl _ _) 1).trans (b30.mono (Nat.le_refl _))) r2).mono ?_; rintro e w3 ⟨rfl, b31⟩))
  have b85 := (belowN (Below.refl W10.heap.size W10) 1).trans (b30.trans (b31.mono b30.size))
  clear q77 q78 q79 q80 q81 q82 q83 q84
  clear HD75 HE76 hga hgb
  replace a0 := a0.below b85
  replace a1 := a1.below b85
  replace c51 := c51.below b85
  replace c69 := c69.below b85
  replace HB8 := Lib.hid (boxes HB8.out b85)
  replace HB63 := Lib.hid (boxes HB63.out b85)
  replace hB := hB.trans (b85.mono hB.size)
  have hz11 : W10.heap.size ≤ w3.heap.size := b85.size
  clear b85
  clear b30 b31
  generalize w3 = W12 at *
  go_wp2_with fail
  refine (toTokenSS _ _ _ _ HW1.out a1.r).mono ?_
  rintro e W13 ⟨v86, f87, rfl, r88, o89, b90⟩
  replace a0 := a0.below b90
  replace a1 := a1.below b90
  replace c51 := c51.below b90
  replace c69 := c69.below b90
  replace HB8 := Lib.hid (boxes HB8.out b90)
  replace HB63 := Lib.hid (boxes HB63.out b90)
  replace hB := hB.trans (b90.mono hB.size)
  have hz12 : W12.heap.size ≤ W13.heap.size := b90.size
  clear b90
  have c91 := Live.of r88 o89
  clear r88 o89
  go_wp2_with fail
  refine (eqTokenSS_same _ _ _ _ _ _ c69.r c91.r).mono ?_
  rintro e W14 ⟨rfl, b92⟩
  replace a0 := a0.below b92
  replace a1 := a1.below b92
  replace c51 := c51.below b92
  replace c69 := c69.below b92
  replace c91 := c91.below b92
  replace HB8 := Lib.hid (boxes HB8.out b92)
  replace HB63 := Lib.hid (boxes HB63.out b92)
  replace hB := hB.trans (b92.mono hB.size)
  have hz13 : W13.heap.size ≤ W14.heap.size := b92.size
  clear b92
  clear c91
  go_wp2
  go_ret
  exact ⟨rfl, hB⟩

theorem own : ownKnob Try.prog.godebug = none := by kernel_rfl
theorem laidOut : laidOutB Try.prog = true := by kernel_rfl
theorem readable : ∀ t ∈ Try.f3.params.toList, Try.prog.readableRec t = true ∧ t < Try.prog.types.size := by
  rw [Try.params3]
  intro t ht
  simp only [List.mem_cons, List.not_mem_nil, or_false] at ht
  first
    | (subst ht; exact ⟨by kernel_rfl, of_decide_eq_true (by kernel_rfl)⟩)
    | (rcases ht with rfl | rfl <;> exact ⟨by kernel_rfl, of_decide_eq_true (by kernel_rfl)⟩)

set_option maxRecDepth 100000 in
theorem lifted (os : Os) (started : os.Started) (H : Type) (enc : TypeId × Value → H) :
    ReturnsInHanded {} Try.checked os 3 .any (Rows.fnExactArgumentsFitSpec.pre6 enc Try.prog Try.f3 Rows.fnExactArgumentsFitRow.domain false) (Rows.fnExactArgumentsFitSpec.post enc Try.prog Try.f3 false true false false) := by
  refine returnsInHanded_of_change (C := Try.checked) own started (by kernel_rfl) Try.func3
    (ChangeSpec.witness6 (enc := enc) (C := Try.checked) false ⟨#[], #[zero_Macro, .slice none 0 0], []⟩ 8 (by kernel_rfl) (by kernel_rfl) (by kernel_rfl) (by kernel_rfl)) ?_
  intro W base args ds gs before hval0 hW hcnd _
  have hval : ∀ (j : Nat) t v, Try.f3.params[j]? = some t → args[j]? = some v → Value.okWide Try.prog W .any base t v := hval0
  have hW' := hW
  obtain ⟨p, q, hA0, hV, rfl, hfz, hnd⟩ := hW
  have hA : DataW.TrodAll enc Try.prog W 0 (fun _ => true) true Try.f3.params.toList args.toList ds p := hA0
  rw [Try.params3] at hA hval
  obtain ⟨v0, vs0, d0, ds0, p0, q0, hargs0, rfl, rfl, h0, r0⟩ := trodAll_cons hA
  obtain ⟨v1, vs1, d1, ds1, p1, q1, hargs1, rfl, rfl, h1, r1⟩ := trodAll_cons r0
  obtain ⟨rfl, rfl, rfl⟩ := trodAll_nil r1
  obtain rfl : args = #[v0, v1] := by cases args; simp_all
  obtain ⟨rfl, rfl⟩ := trodVars_none hV
  obtain ⟨cs0, rfl, _⟩ := okWide_struct Try.underlying25 (hval 0 25 v0 rfl rfl)
  obtain ⟨x0, fp0, H0⟩ := open_arg opens_Macro h0
  obtain ⟨a1, len1, cap1, rfl⟩ := okWide_slice Try.underlying26 (hval 1 26 v1 rfl rfl)
  obtain ⟨x1, fp1, H1⟩ := open_arg (opens_slice Try.underlying26 (by kernel_rfl) (by decide) (opens_slice Try.underlying23 (by kernel_rfl) (by decide) opens_Token)) h1
  refine (walk _ x0 fp0 _ x1 fp1 W H0 H1).mono fun e W' ⟨he, hw⟩ => ?_
  subst he
  exact ⟨_, rfl, law_done laidOut readable rfl rfl Try.underlying4 hW' rfl rfl rfl hw⟩

theorem holds : Rows.FnExactArgumentsFitSaid :=
  OpenClaim.holds_of_wide 3 Try.f3 rfl rfl rfl rfl rfl rfl rfl ⟨rfl, rfl, rfl, rfl, rfl⟩ rfl rfl rfl rfl rfl (by kernel_rfl) Try.func3 (by kernel_rfl)
    (of_decide_eq_true (by kernel_rfl)) (by unfold Func.isWrapper; first | (rw [if_pos (by decide +kernel)]; kernel_rfl) | (rw [if_neg (by decide +kernel)]; exact ⟨rfl, rfl⟩))
    (fun os started H enc _ => lifted os started H enc)


end Go.Proofs.Ythbojipdhgidlaa.exactArgumentsFit
