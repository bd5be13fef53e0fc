/- MacroText of the program answers as its model at every argument; it writes into none; its answer owns its memory. No conditions. -/
import Derived.Test.YtigbaeokccknaaaMac7
import Derived.Test.YtigbaeokccknaaaOpen
namespace Go.Proofs.Ytigbaeokccknaaa.exactMacroText
open Go.ChangeShapes Go.WideShapes Go.ChangeAt Go.RowKit Go.ChangeMaps

theorem boxes {w : World} {g : Nat} {arr : Array Value} {ty : TypeId} (h : w.heap[g]? = some (.cells arr ty (0, 0))) {w' : World} (hb : Below w.heap.size w w') : w'.heap[g]? = some (.cells arr ty (0, 0)) :=
  (hb.block g (Array.getElem?_eq_some_iff.1 h).1).trans h
theorem boxK {w : World} {g : Nat} {arr : Array Value} {ty : TypeId} {fp : List Nat} (h : w.heap[g]? = some (.cells arr ty (0, 0))) {w' : World} (hk : Kept fp w w') (hn : g ∉ fp) : w'.heap[g]? = some (.cells arr ty (0, 0)) :=
  (hk.block g (Array.getElem?_eq_some_iff.1 h).1 hn).trans h
theorem boxlt {w : World} {g : Nat} {arr : Array Value} {ty : TypeId} (h : w.heap[g]? = some (.cells arr ty (0, 0))) : g < w.heap.size := (Array.getElem?_eq_some_iff.1 h).1
theorem box_new (w : World) (arr : Array Value) (ty : TypeId) : (w.alloc (.cells arr ty)).heap[w.heap.size]? = some (.cells arr ty (0, 0)) := by
  show (w.heap.push _)[_]? = _; simp

set_option maxHeartbeats 16000000 in
set_option maxRecDepth 100000 in
theorem walk (v0 : List Value) (x0 : DMacro) (fp0 : List Nat) (w : World) (H0 : sMacro.R w v0 x0 fp0) :
    Calls Try.prog 7 #[.agg v0.toArray] w fun e w' => e = .returned (.bool true) ∧ Below w.heap.size w w' := by
  have hB := Below.refl w.heap.size w
  have a0 := Seen.of H0
  obtain ⟨h1, h2, p5, p6, rfl, -, K3, K4, rfl⟩ := H0
  clear K3
  clear K4
  have b7 := alloc_below' w (.cells #[.string x0.name, .bool x0.function, h1, h2] 43)
  have HB8 := Lib.hid (box_new w #[.string x0.name, .bool x0.function, h1, h2] 43)
  replace a0 := a0.below b7
  replace hB := hB.trans (b7.mono hB.size)
  have hz1 : w.heap.size ≤ (w.alloc (.cells #[.string x0.name, .bool x0.function, h1, h2] 43)).heap.size := b7.size
  clear b7
  have hy1 : w.heap.size + 1 ≤ (w.alloc (.cells #[.string x0.name, .bool x0.function, h1, h2] 43)).heap.size := boxlt HB8.out
  go_enter Try.func7, Try.ntmps7
  have q9 : (w.alloc (.cells #[.string x0.name, .bool x0.function, h1, h2] 43)).cell? ⟨w.heap.size, 0, none⟩ = some (.string x0.name) := cell_of_row _ _ 0 _ _ _ HB8.out
  have q10 : (w.alloc (.cells #[.string x0.name, .bool x0.function, h1, h2] 43)).cell? ⟨w.heap.size, 1, none⟩ = some (.bool x0.function) := cell_of_row _ _ 1 _ _ _ HB8.out
  have q11 : (w.alloc (.cells #[.string x0.name, .bool x0.function, h1, h2] 43)).cell? ⟨w.heap.size, 2, none⟩ = some (h1) := cell_of_row _ _ 2 _ _ _ HB8.out
  have q12 : (w.alloc (.cells #[.string x0.name, .bool x0.function, h1, h2] 43)).cell? ⟨w.heap.size, 3, none⟩ = some (h2) := cell_of_row _ _ 3 _ _ _ HB8.out
  go_wp2_with fail
  refine (szMacro _ _ _ _ _ (by omega) (by omega) a0.r).mono ?_
  clear q9 q10 q11 q12
  rintro e W2 ⟨r0, rfl, hr0, b13⟩
  replace a0 := a0.below b13
  replace HB8 := Lib.hid (boxes HB8.out b13)
  replace hB := hB.trans (b13.mono hB.size)
  have hz2 : (w.alloc (.cells #[.string x0.name, .bool x0.function, h1, h2] 43)).heap.size ≤ W2.heap.size := b13.size
  clear b13
  by_cases hneg0 : r0 < 0
  · go_wp2
    go_ret
    exact ⟨rfl, hB⟩
  have hw0 := (hr0.good hneg0).1
  have hl0 := hr0.le (by omega)
  have HW0 : Hid (wtMacro x0 ≤ 1048576) := by show _ ≤ _; omega
  clear hr0 hw0
  have q19 : W2.cell? ⟨w.heap.size, 0, none⟩ = some (.string x0.name) := cell_of_row _ _ 0 _ _ _ HB8.out
  have q20 : W2.cell? ⟨w.heap.size, 1, none⟩ = some (.bool x0.function) := cell_of_row _ _ 1 _ _ _ HB8.out
  have q21 : W2.cell? ⟨w.heap.size, 2, none⟩ = some (h1) := cell_of_row _ _ 2 _ _ _ HB8.out
  have q22 : W2.cell? ⟨w.heap.size, 3, none⟩ = some (h2) := cell_of_row _ _ 3 _ _ _ HB8.out
  go_wp2_with fail
  refine (toMacro _ _ _ _ HW0.out a0.r).mono ?_
  clear q19 q20 q21 q22
  rintro e W3 ⟨v14, f15, rfl, r16, o17, b18⟩
  replace a0 := a0.below b18
  replace HB8 := Lib.hid (boxes HB8.out b18)
  replace hB := hB.trans (b18.mono hB.size)
  have hz3 : W2.heap.size ≤ W3.heap.size := b18.size
  clear b18
  have c23 := Live.of r16 o17
  obtain ⟨h24, h25, p28, p29, rfl, -, K26, K27, rfl⟩ := r16
  obtain ⟨a30, cap31, rfl, -⟩ := open_rows K26
  clear K26
  obtain ⟨a32, cap33, rfl, -⟩ := open_rows K27
  clear K27
  clear o17
  go_wp2_with fail
  refine (spec_MacroText _ _ _ _ c23.r).mono ?_
  rintro e W4 ⟨rfl, b34⟩
  replace a0 := a0.below b34
  replace c23 := c23.below b34
  replace HB8 := Lib.hid (boxes HB8.out b34)
  replace hB := hB.trans (b34.mono hB.size)
  have hz4 : W3.heap.size ≤ W4.heap.size := b34.size
  clear b34
  clear c23
  have q40 : W4.cell? ⟨w.heap.size, 0, none⟩ = some (.string x0.name) := cell_of_row _ _ 0 _ _ _ HB8.out
  have q41 : W4.cell? ⟨w.heap.size, 1, none⟩ = some (.bool x0.function) := cell_of_row _ _ 1 _ _ _ HB8.out
  have q42 : W4.cell? ⟨w.heap.size, 2, none⟩ = some (h1) := cell_of_row _ _ 2 _ _ _ HB8.out
  have q43 : W4.cell? ⟨w.heap.size, 3, none⟩ = some (h2) := cell_of_row _ _ 3 _ _ _ HB8.out
  go_wp2_with fail
  refine (toMacro _ _ _ _ HW0.out a0.r).mono ?_
  clear q40 q41 q42 q43
  rintro e W5 ⟨v35, f36, rfl, r37, o38, b39⟩
  replace a0 := a0.below b39
  replace HB8 := Lib.hid (boxes HB8.out b39)
  replace hB := hB.trans (b39.mono hB.size)
  have hz5 : W4.heap.size ≤ W5.heap.size := b39.size
  clear b39
  have c44 := Live.of r37 o38
  obtain ⟨h45, h46, p49, p50, rfl, -, K47, K48, rfl⟩ := r37
  obtain ⟨a51, cap52, rfl, -⟩ := open_rows K47
  clear K47
  obtain ⟨a53, cap54, rfl, -⟩ := open_rows K48
  clear K48
  clear o38
  have b55 := alloc_below' W5 (.cells #[.string x0.name, .bool x0.function, .slice a51 x0.params.length cap52, .slice a53 x0.body.length cap54] 26)
  have HB56 := Lib.hid (box_new W5 #[.string x0.name, .bool x0.function, .slice a51 x0.params.length cap52, .slice a53 x0.body.length cap54] 26)
  replace a0 := a0.below b55
  replace c44 := c44.below b55
  replace HB8 := Lib.hid (boxes HB8.out b55)
  replace hB := hB.trans (b55.mono hB.size)
  have hz6 : W5.heap.size ≤ (W5.alloc (.cells #[.string x0.name, .bool x0.function, .slice a51 x0.params.length cap52, .slice a53 x0.body.length cap54] 26)).heap.size := b55.size
  clear b55
  have hy6 : W5.heap.size + 1 ≤ (W5.alloc (.cells #[.string x0.name, .bool x0.function, .slice a51 x0.params.length cap52, .slice a53 x0.body.length cap54] 26)).heap.size := boxlt HB56.out
  have q58 : (W5.alloc (.cells #[.string x0.name, .bool x0.function, .slice a51 x0.params.length cap52, .slice a53 x0.body.length cap54] 26)).cell? ⟨W5.heap.size, 0, none⟩ = some (.string x0.name) := cell_of_row _ _ 0 _ _ _ HB56.out
  have q59 : (W5.alloc (.cells #[.string x0.name, .bool x0.function, .slice a51 x0.params.length cap52, .slice a53 x0.body.length cap54] 26)).cell? ⟨W5.heap.size, 1, none⟩ = some (.bool x0.function) := cell_of_row _ _ 1 _ _ _ HB56.out
  have q60 : (W5.alloc (.cells #[.string x0.name, .bool x0.function, .slice a51 x0.params.length cap52, .slice a53 x0.body.length cap54] 26)).cell? ⟨W5.heap.size, 2, none⟩ = some (.slice a51 x0.params.length cap52) := cell_of_row _ _ 2 _ _ _ HB56.out
  have q61 : (W5.alloc (.cells #[.string x0.name, .bool x0.function, .slice a51 x0.params.length cap52, .slice a53 x0.body.length cap54] 26)).cell? ⟨W5.heap.size, 3, none⟩ = some (.slice a53 x0.body.length cap54) := cell_of_row _ _ 3 _ _ _ HB56.out
  go_wp2_with fail
  refine (impl_MacroText _ _ _ _ c44.r).mono ?_
  clear q58 q59 q60 q61
  rintro e W7 ⟨rfl, b57⟩
  replace a0 := a0.below b57
  replace c44 := c44.below b57
  replace HB8 := Lib.hid (boxes HB8.out b57)
  replace HB56 := Lib.hid (boxes HB56.out b57)
  replace hB := hB.trans (b57.mono hB.size)
  have hz7 : (W5.alloc (.cells #[.string x0.name, .bool x0.function, .slice a51 x0.params.length cap52, .slice a53 x0.body.length cap54] 26)).heap.size ≤ W7.heap.size := b57.size
  clear b57
  have hga := boxlt HB8.out
  have hgb := boxlt HB56.out
  have HD62 : Hid (∀ W, Below W7.heap.size W7 W → Calls Try.prog 24 #[.agg #[.string x0.name, .bool x0.function, h1, h2]] W (MadeC sMacro x0 W)) := fun W hW => toMacro _ _ _ W HW0.out (sMacro.below a0.r hW)
  have HE63 : Hid (∀ W cs fp, Below W7.heap.size W7 W → sMacro.R W cs x0 fp → Calls Try.prog 25 #[.agg #[.string x0.name, .bool x0.function, .slice a51 x0.params.length cap52, .slice a53 x0.body.length cap54], .agg cs.toArray] W fun e w' => e = .returned (.bool true) ∧ Below W.heap.size W w') := fun W cs fp hW hr => eqMacro_same _ _ _ _ _ W (sMacro.below c44.r hW) hr
  go_wp2_with fail
  have q64 : W7.cell? ⟨w.heap.size, 0, none⟩ = some (.string x0.name) := cell_of_row _ _ 0 _ _ _ HB8.out
  have q65 : W7.cell? ⟨w.heap.size, 1, none⟩ = some (.bool x0.function) := cell_of_row _ _ 1 _ _ _ HB8.out
  have q66 : W7.cell? ⟨w.heap.size, 2, none⟩ = some (h1) := cell_of_row _ _ 2 _ _ _ HB8.out
  have q67 : W7.cell? ⟨w.heap.size, 3, none⟩ = some (h2) := cell_of_row _ _ 3 _ _ _ HB8.out
  have q68 : W7.cell? ⟨W5.heap.size, 0, none⟩ = some (.string x0.name) := cell_of_row _ _ 0 _ _ _ HB56.out
  have q69 : W7.cell? ⟨W5.heap.size, 1, none⟩ = some (.bool x0.function) := cell_of_row _ _ 1 _ _ _ HB56.out
  have q70 : W7.cell? ⟨W5.heap.size, 2, none⟩ = some (.slice a51 x0.params.length cap52) := cell_of_row _ _ 2 _ _ _ HB56.out
  have q71 : W7.cell? ⟨W5.heap.size, 3, none⟩ = some (.slice a53 x0.body.length cap54) := cell_of_row _ _ 3 _ _ _ HB56.out
  go_region_held3 (fun w' => w'.cell? ⟨w.heap.size, 0, none⟩ = some (.string x0.name) ∧ w'.cell? ⟨w.heap.size, 1, none⟩ = some (.bool x0.function) ∧ w'.cell? ⟨w.heap.size, 2, none⟩ = some (h1) ∧ w'.cell? ⟨w.heap.size, 3, none⟩ = some (h2) ∧ w'.cell? ⟨W5.heap.size, 0, none⟩ = some (.string x0.name) ∧ w'.cell? ⟨W5.heap.size, 1, none⟩ = some (.bool x0.function) ∧ w'.cell? ⟨W5.heap.size, 2, none⟩ = some (.slice a51 x0.params.length cap52) ∧ w'.cell? ⟨W5.heap.size, 3, none⟩ = some (.slice a53 x0.body.length cap54))
    (first | exact ⟨q64, q65, q66, q67, q68, q69, q70, q71⟩ | exact ⟨(b30.cell (by simp; omega)).trans q64, (b30.cell (by simp; omega)).trans q65, (b30.cell (by simp; omega)).trans q66, (b30.cell (by simp; omega)).trans q67, (b30.cell (by simp; omega)).trans q68, (b30.cell (by simp; omega)).trans q69, (b30.cell (by simp; omega)).trans q70, (b30.cell (by simp; omega)).trans q71⟩ | exact ⟨((b30.trans (b31.mono b30.size)).cell (by simp; omega)).trans q64, ((b30.trans (b31.mono b30.size)).cell (by simp; omega)).trans q65, ((b30.trans (b31.mono b30.size)).cell (by simp; omega)).trans q66, ((b30.trans (b31.mono b30.size)).cell (by simp; omega)).trans q67, ((b30.trans (b31.mono b30.size)).cell (by simp; omega)).trans q68, ((b30.trans (b31.mono b30.size)).cell (by simp; omega)).trans q69, ((b30.trans (b31.mono b30.size)).cell (by simp; omega)).trans q70, ((b30.trans (b31.mono b30.size)).cell (by simp; omega)).trans q71⟩)
    (first
      | (go_at_call 24; refine (HD62.out _ (belowN (Below.refl _ _) 1)).mono ?_; rintro e w2 ⟨cs2, fp2, rfl, r2, o2, b30⟩)
      | (go_at_call 25; refine (HE63.out _ _ _ ((belowN (Below.refl _ _) 1).trans (b30.mono (Nat.le_refl _))) r2).mono ?_; rintro e w3 ⟨rfl, b31⟩))
  have b72 := (belowN (Below.refl W7.heap.size W7) 1).trans (b30.trans (b31.mono b30.size))
  clear q64 q65 q66 q67 q68 q69 q70 q71
  clear HD62 HE63 hga hgb
  replace a0 := a0.below b72
  replace c44 := c44.below b72
  replace HB8 := Lib.hid (boxes HB8.out b72)
  replace HB56 := Lib.hid (boxes HB56.out b72)
  replace hB := hB.trans (b72.mono hB.size)
  have hz8 : W7.heap.size ≤ w3.heap.size := b72.size
  clear b72
  clear b30 b31
  generalize w3 = W9 at *
  go_wp2
  go_ret
  exact ⟨rfl, hB⟩

theorem own : ownKnob Try.prog.godebug = none := by kernel_rfl
theorem laidOut : laidOutB Try.prog = true := by kernel_rfl
theorem readable : ∀ t ∈ Try.f7.params.toList, Try.prog.readableRec t = true ∧ t < Try.prog.types.size := by
  rw [Try.params7]
  simp only [List.mem_cons, List.not_mem_nil, or_false]
  rintro t rfl
  exact ⟨by kernel_rfl, of_decide_eq_true (by kernel_rfl)⟩

set_option maxRecDepth 100000 in
theorem lifted (os : Os) (started : os.Started) (H : Type) (enc : TypeId × Value → H) :
    ReturnsInHanded {} Try.checked os 7 .any (Rows.fnExactMacroTextSpec.pre6 enc Try.prog Try.f7 Rows.fnExactMacroTextRow.domain false) (Rows.fnExactMacroTextSpec.post enc Try.prog Try.f7 false true false false) := by
  refine returnsInHanded_of_change (C := Try.checked) own started (by kernel_rfl) Try.func7
    (ChangeSpec.witness6 (enc := enc) (C := Try.checked) false ⟨#[], #[zero_Macro], []⟩ 8 (by kernel_rfl) (by kernel_rfl) (by kernel_rfl) (by kernel_rfl)) ?_
  intro W base args ds gs before hval0 hW hcnd _
  have hval : ∀ (j : Nat) t v, Try.f7.params[j]? = some t → args[j]? = some v → Value.okWide Try.prog W .any base t v := hval0
  have hW' := hW
  obtain ⟨p, q, hA0, hV, rfl, hfz, hnd⟩ := hW
  have hA : DataW.TrodAll enc Try.prog W 0 (fun _ => true) true Try.f7.params.toList args.toList ds p := hA0
  rw [Try.params7] at hA hval
  obtain ⟨v0, vs0, d0, ds0, p0, q0, hargs0, rfl, rfl, h0, r0⟩ := trodAll_cons hA
  obtain ⟨rfl, rfl, rfl⟩ := trodAll_nil r0
  obtain rfl : args = #[v0] := by cases args; simp_all
  obtain ⟨rfl, rfl⟩ := trodVars_none hV
  obtain ⟨cs0, rfl, _⟩ := okWide_struct Try.underlying43 (hval 0 43 v0 rfl rfl)
  obtain ⟨x0, fp0, H0⟩ := open_arg opens_Macro h0
  refine (walk _ x0 fp0 W H0).mono fun e W' ⟨he, hw⟩ => ?_
  subst he
  exact ⟨_, rfl, law_done laidOut readable rfl rfl Try.underlying4 hW' rfl rfl rfl hw⟩

theorem holds : Rows.FnExactMacroTextSaid :=
  OpenClaim.holds_of_wide 7 Try.f7 rfl rfl rfl rfl rfl rfl rfl ⟨rfl, rfl, rfl, rfl, rfl⟩ rfl rfl rfl rfl rfl (by kernel_rfl) Try.func7 (by kernel_rfl)
    (of_decide_eq_true (by kernel_rfl)) (by unfold Func.isWrapper; first | (rw [if_pos (by decide +kernel)]; kernel_rfl) | (rw [if_neg (by decide +kernel)]; exact ⟨rfl, rfl⟩))
    (fun os started H enc _ => lifted os started H enc)


end Go.Proofs.Ytigbaeokccknaaa.exactMacroText
