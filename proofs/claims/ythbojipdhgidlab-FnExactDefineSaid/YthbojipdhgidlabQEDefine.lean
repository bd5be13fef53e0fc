/- Define of the program answers as its model at every argument; it writes into none; its answer owns its memory. No conditions. -/
import Derived.Test.YthbojipdhgidlabYV1
import Derived.Test.YthbojipdhgidlabZPUndefine2
set_option linter.unusedVariables false
set_option linter.unusedSimpArgs false
namespace Go.Proofs.Ythbojipdhgidlab.exactDefine
open Go.ChangeShapes Go.WideShapes Go.ChangeAt Go.RowKit Go.ChangeMaps

theorem boxes {w : World} {g : Nat} {arr : Array Value} {ty : TypeId} (h : w.heap[g]? = some (.cells arr ty (0, 0))) {w' : World} (hb : Below w.heap.size w w') : w'.heap[g]? = some (.cells arr ty (0, 0)) :=
  (hb.block g (Array.getElem?_eq_some_iff.1 h).1).trans h
theorem boxK {w : World} {g : Nat} {arr : Array Value} {ty : TypeId} {fp : List Nat} (h : w.heap[g]? = some (.cells arr ty (0, 0))) {w' : World} (hk : Kept fp w w') (hn : g ∉ fp) : w'.heap[g]? = some (.cells arr ty (0, 0)) :=
  (hk.block g (Array.getElem?_eq_some_iff.1 h).1 hn).trans h
theorem boxlt {w : World} {g : Nat} {arr : Array Value} {ty : TypeId} (h : w.heap[g]? = some (.cells arr ty (0, 0))) : g < w.heap.size := (Array.getElem?_eq_some_iff.1 h).1
theorem box_new (w : World) (arr : Array Value) (ty : TypeId) : (w.alloc (.cells arr ty)).heap[w.heap.size]? = some (.cells arr ty (0, 0)) := by
  show (w.heap.push _)[_]? = _; simp

set_option maxHeartbeats 16000000 in
set_option maxRecDepth 100000 in
theorem walk (v0 : Value) (x0 : (List DMacro)) (fp0 : List Nat) (v1 : List Value) (x1 : DMacro) (fp1 : List Nat) (w : World) (H0 : (sSlice sMacro).R w [v0] x0 fp0) (H1 : sMacro.R w v1 x1 fp1) :
    Calls Try.prog 5 #[v0, .agg v1.toArray] w fun e w' => e = .returned (.bool true) ∧ Below w.heap.size w w' := by
  have HSP := Lib.hid (fun (W : World) (v0_ : Value) (f0_ : List Nat) (v1_ : List Value) (f1_ : List Nat) (hw0_ : wtMacroS x0 ≤ 1048576) (hw1_ : wtMacro x1 ≤ 1048576) (h0_ : (sSlice sMacro).R W [v0_] x0 f0_) (h1_ : sMacro.R W v1_ x1 f1_) => spec_Define_w v0_ x0 f0_ v1_ x1 f1_ W hw0_ hw1_ h0_ h1_)
  have HIM := Lib.hid (fun (W : World) (v0_ : Value) (f0_ : List Nat) (v1_ : List Value) (f1_ : List Nat) (hw0_ : wtMacroS x0 ≤ 1048576) (hw1_ : wtMacro x1 ≤ 1048576) (h0_ : (sSlice sMacro).R W [v0_] x0 f0_) (h1_ : sMacro.R W v1_ x1 f1_) => impl_Define_w v0_ x0 f0_ v1_ x1 f1_ W hw0_ hw1_ h0_ h1_)
  unfold RetDefW at HSP
  unfold MineDefW at HIM
  have HC := Lib.hid (Define_cnt x0 x1)
  generalize defM x0 x1 = M at HSP HIM HC
  obtain ⟨md, mb⟩ := M
  have hB := Below.refl w.heap.size w
  have a0 := Seen.of H0
  have a1 := Seen.of H1
  obtain ⟨h1, h2, p5, p6, rfl, -, K3, K4, rfl⟩ := H1
  clear K3
  clear K4
  clear H0
  have b7 := alloc_below' w (.cells #[.string x1.name, .bool x1.function, h1, h2] 43)
  have HB8 := Lib.hid (box_new w #[.string x1.name, .bool x1.function, h1, h2] 43)
  replace a0 := a0.below b7
  replace a1 := a1.below b7
  replace hB := hB.trans (b7.mono hB.size)
  have hz1 : w.heap.size ≤ (w.alloc (.cells #[.string x1.name, .bool x1.function, h1, h2] 43)).heap.size := b7.size
  clear b7
  have hy1 : w.heap.size + 1 ≤ (w.alloc (.cells #[.string x1.name, .bool x1.function, h1, h2] 43)).heap.size := boxlt HB8.out
  go_enter Try.func5, Try.ntmps5
  go_wp2_with fail
  refine (szMacroS _ _ _ _ _ (by omega) (by omega) a0.r).mono ?_
  rintro e W2 ⟨r0, rfl, hr0, b9⟩
  replace a0 := a0.below b9
  replace a1 := a1.below b9
  replace HB8 := Lib.hid (boxes HB8.out b9)
  replace hB := hB.trans (b9.mono hB.size)
  have hz2 : (w.alloc (.cells #[.string x1.name, .bool x1.function, h1, h2] 43)).heap.size ≤ W2.heap.size := b9.size
  clear b9
  by_cases hneg0 : r0 < 0
  · go_wp2
    go_ret
    exact ⟨rfl, hB⟩
  have hw0 := (hr0.good hneg0).1
  have hl0 := hr0.le (by omega)
  have HW0 : Hid (wtMacroS x0 ≤ 1048576) := by show _ ≤ _; omega
  clear hr0 hw0
  have q10 : W2.cell? ⟨w.heap.size, 0, none⟩ = some (.string x1.name) := cell_of_row _ _ 0 _ _ _ HB8.out
  have q11 : W2.cell? ⟨w.heap.size, 1, none⟩ = some (.bool x1.function) := cell_of_row _ _ 1 _ _ _ HB8.out
  have q12 : W2.cell? ⟨w.heap.size, 2, none⟩ = some (h1) := cell_of_row _ _ 2 _ _ _ HB8.out
  have q13 : W2.cell? ⟨w.heap.size, 3, none⟩ = some (h2) := cell_of_row _ _ 3 _ _ _ HB8.out
  go_wp2_with fail
  refine (szMacro _ _ _ _ _ (by omega) (by omega) a1.r).mono ?_
  clear q10 q11 q12 q13
  rintro e W3 ⟨r1, rfl, hr1, b14⟩
  replace a0 := a0.below b14
  replace a1 := a1.below b14
  replace HB8 := Lib.hid (boxes HB8.out b14)
  replace hB := hB.trans (b14.mono hB.size)
  have hz3 : W2.heap.size ≤ W3.heap.size := b14.size
  clear b14
  by_cases hneg1 : r1 < 0
  · go_wp2
    go_ret
    exact ⟨rfl, hB⟩
  have hw1 := (hr1.good hneg1).1
  have hl1 := hr1.le (by omega)
  have HW1 : Hid (wtMacro x1 ≤ 1048576) := by show _ ≤ _; omega
  clear hr1 hw1
  have HD15 : Hid (∀ W, Below W3.heap.size W3 W → Calls Try.prog 18 #[v0] W (Made (sSlice sMacro) x0 W)) := fun W hW => toMacroS _ _ _ W HW0.out ((sSlice sMacro).below a0.r hW)
  have HD16 : Hid (∀ W, Below W3.heap.size W3 W → Calls Try.prog 19 #[.agg #[.string x1.name, .bool x1.function, h1, h2]] W (MadeC sMacro x1 W)) := fun W hW => toMacro _ _ _ W HW1.out (sMacro.below a1.r hW)
  have hcs : Below W3.heap.size W3 W3.drew := belowN (Below.refl _ _) 1
  have hg17 := boxlt HB8.out
  go_wp2_with fail
  have q18 : W3.cell? ⟨w.heap.size, 0, none⟩ = some (.string x1.name) := cell_of_row _ _ 0 _ _ _ HB8.out
  have q19 : W3.cell? ⟨w.heap.size, 1, none⟩ = some (.bool x1.function) := cell_of_row _ _ 1 _ _ _ HB8.out
  have q20 : W3.cell? ⟨w.heap.size, 2, none⟩ = some (h1) := cell_of_row _ _ 2 _ _ _ HB8.out
  have q21 : W3.cell? ⟨w.heap.size, 3, none⟩ = some (h2) := cell_of_row _ _ 3 _ _ _ HB8.out
  go_region_held3 (fun w' => w'.cell? ⟨w.heap.size, 0, none⟩ = some (.string x1.name) ∧ w'.cell? ⟨w.heap.size, 1, none⟩ = some (.bool x1.function) ∧ w'.cell? ⟨w.heap.size, 2, none⟩ = some (h1) ∧ w'.cell? ⟨w.heap.size, 3, none⟩ = some (h2))
    (first | exact ⟨q18, q19, q20, q21⟩ | exact ⟨(hc0.cell (by simp; omega)).trans q18, (hc0.cell (by simp; omega)).trans q19, (hc0.cell (by simp; omega)).trans q20, (hc0.cell (by simp; omega)).trans q21⟩ | exact ⟨(hc1.cell (by simp; omega)).trans q18, (hc1.cell (by simp; omega)).trans q19, (hc1.cell (by simp; omega)).trans q20, (hc1.cell (by simp; omega)).trans q21⟩ | exact ⟨(hcF.cell (by simp; omega)).trans q18, (hcF.cell (by simp; omega)).trans q19, (hcF.cell (by simp; omega)).trans q20, (hcF.cell (by simp; omega)).trans q21⟩)
    (first
      | (go_at_call 18; (with_reducible refine (HD15.out _ hcs).mono ?_); rintro e wr0 ⟨cr0, fr0, rfl, rr0, or0, br0⟩; have hc0 := (belowN (Below.refl W3.heap.size W3) 1).trans (br0.mono (Nat.le_refl _)))
      | (go_at_call 19; (with_reducible refine (HD16.out _ hc0).mono ?_); rintro e wr1 ⟨cr1, fr1, rfl, rr1, or1, br1⟩; have hc1 := hc0.trans (br1.mono hc0.size))
      | (go_at_call 15; refine (HSP.out _ _ _ _ _ HW0.out HW1.out ((sSlice sMacro).below rr0 br1) (rr1)).mono ?_; rintro e W4 ⟨v23, f24, rfl, r25, -, bF⟩; have hcF := hc1.trans (bF.mono hc1.size)))
  have b22 := hcF
  clear q18 q19 q20 q21
  clear HD15 HD16 hcs hg17 hcF bF hc1 rr1 or1 br1 hc0 rr0 or0 br0
  replace a0 := a0.below b22
  replace a1 := a1.below b22
  replace HB8 := Lib.hid (boxes HB8.out b22)
  replace hB := hB.trans (b22.mono hB.size)
  have hz4 : W3.heap.size ≤ W4.heap.size := b22.size
  clear b22
  have g27 := Seen.of r25
  clear r25
  go_wp2_with fail
  refine (toMacroS _ _ _ _ HW0.out a0.r).mono ?_
  rintro e W5 ⟨v28, f29, rfl, r30, o31, b32⟩
  replace a0 := a0.below b32
  replace a1 := a1.below b32
  replace g27 := g27.below b32
  replace HB8 := Lib.hid (boxes HB8.out b32)
  replace hB := hB.trans (b32.mono hB.size)
  have hz5 : W4.heap.size ≤ W5.heap.size := b32.size
  clear b32
  have c33 := Live.of r30 o31
  clear r30 o31
  have q39 : W5.cell? ⟨w.heap.size, 0, none⟩ = some (.string x1.name) := cell_of_row _ _ 0 _ _ _ HB8.out
  have q40 : W5.cell? ⟨w.heap.size, 1, none⟩ = some (.bool x1.function) := cell_of_row _ _ 1 _ _ _ HB8.out
  have q41 : W5.cell? ⟨w.heap.size, 2, none⟩ = some (h1) := cell_of_row _ _ 2 _ _ _ HB8.out
  have q42 : W5.cell? ⟨w.heap.size, 3, none⟩ = some (h2) := cell_of_row _ _ 3 _ _ _ HB8.out
  go_wp2_with fail
  refine (toMacro _ _ _ _ HW1.out a1.r).mono ?_
  clear q39 q40 q41 q42
  rintro e W6 ⟨v34, f35, rfl, r36, o37, b38⟩
  replace a0 := a0.below b38
  replace a1 := a1.below b38
  replace g27 := g27.below b38
  replace c33 := c33.below b38
  replace HB8 := Lib.hid (boxes HB8.out b38)
  replace hB := hB.trans (b38.mono hB.size)
  have hz6 : W5.heap.size ≤ W6.heap.size := b38.size
  clear b38
  have c43 := Live.of r36 o37
  obtain ⟨h44, h45, p48, p49, rfl, -, K46, K47, rfl⟩ := r36
  obtain ⟨a50, cap51, rfl, -⟩ := open_rows K46
  clear K46
  obtain ⟨a52, cap53, rfl, -⟩ := open_rows K47
  clear K47
  clear o37
  have b54 := alloc_below' W6 (.cells #[.string x1.name, .bool x1.function, .slice a50 x1.params.length cap51, .slice a52 x1.body.length cap53] 35)
  have HB55 := Lib.hid (box_new W6 #[.string x1.name, .bool x1.function, .slice a50 x1.params.length cap51, .slice a52 x1.body.length cap53] 35)
  replace a0 := a0.below b54
  replace a1 := a1.below b54
  replace g27 := g27.below b54
  replace c33 := c33.below b54
  replace c43 := c43.below b54
  replace HB8 := Lib.hid (boxes HB8.out b54)
  replace hB := hB.trans (b54.mono hB.size)
  have hz7 : W6.heap.size ≤ (W6.alloc (.cells #[.string x1.name, .bool x1.function, .slice a50 x1.params.length cap51, .slice a52 x1.body.length cap53] 35)).heap.size := b54.size
  clear b54
  have hy7 : W6.heap.size + 1 ≤ (W6.alloc (.cells #[.string x1.name, .bool x1.function, .slice a50 x1.params.length cap51, .slice a52 x1.body.length cap53] 35)).heap.size := boxlt HB55.out
  have q57 : (W6.alloc (.cells #[.string x1.name, .bool x1.function, .slice a50 x1.params.length cap51, .slice a52 x1.body.length cap53] 35)).cell? ⟨W6.heap.size, 0, none⟩ = some (.string x1.name) := cell_of_row _ _ 0 _ _ _ HB55.out
  have q58 : (W6.alloc (.cells #[.string x1.name, .bool x1.function, .slice a50 x1.params.length cap51, .slice a52 x1.body.length cap53] 35)).cell? ⟨W6.heap.size, 1, none⟩ = some (.bool x1.function) := cell_of_row _ _ 1 _ _ _ HB55.out
  have q59 : (W6.alloc (.cells #[.string x1.name, .bool x1.function, .slice a50 x1.params.length cap51, .slice a52 x1.body.length cap53] 35)).cell? ⟨W6.heap.size, 2, none⟩ = some (.slice a50 x1.params.length cap51) := cell_of_row _ _ 2 _ _ _ HB55.out
  have q60 : (W6.alloc (.cells #[.string x1.name, .bool x1.function, .slice a50 x1.params.length cap51, .slice a52 x1.body.length cap53] 35)).cell? ⟨W6.heap.size, 3, none⟩ = some (.slice a52 x1.body.length cap53) := cell_of_row _ _ 3 _ _ _ HB55.out
  go_wp2_with fail
  refine (HIM.out _ _ _ _ _ HW0.out HW1.out c33.r c43.r).mono ?_
  clear q57 q58 q59 q60
  rintro e W8 ⟨v61, f62, rfl, r63, o64, b56⟩
  replace a0 := a0.below b56
  replace a1 := a1.below b56
  replace g27 := g27.below b56
  replace c33 := c33.below b56
  replace c43 := c43.below b56
  replace HB8 := Lib.hid (boxes HB8.out b56)
  replace HB55 := Lib.hid (boxes HB55.out b56)
  replace hB := hB.trans (b56.mono hB.size)
  have hz8 : (W6.alloc (.cells #[.string x1.name, .bool x1.function, .slice a50 x1.params.length cap51, .slice a52 x1.body.length cap53] 35)).heap.size ≤ W8.heap.size := b56.size
  clear b56
  have g65 := Live.of r63 o64
  clear o64
  clear r63
  go_wp2_with fail
  refine (eqMacroS_same _ _ _ _ _ _ g65.r g27.r).mono ?_
  rintro e W9 ⟨rfl, b66⟩
  replace a0 := a0.below b66
  replace a1 := a1.below b66
  replace g27 := g27.below b66
  replace c33 := c33.below b66
  replace c43 := c43.below b66
  replace g65 := g65.below b66
  replace HB8 := Lib.hid (boxes HB8.out b66)
  replace HB55 := Lib.hid (boxes HB55.out b66)
  replace hB := hB.trans (b66.mono hB.size)
  have hz9 : W8.heap.size ≤ W9.heap.size := b66.size
  clear b66
  go_wp2_with fail
  refine (toMacroS _ _ _ _ HW0.out a0.r).mono ?_
  rintro e W10 ⟨v67, f68, rfl, r69, o70, b71⟩
  replace a0 := a0.below b71
  replace a1 := a1.below b71
  replace g27 := g27.below b71
  replace c33 := c33.below b71
  replace c43 := c43.below b71
  replace g65 := g65.below b71
  replace HB8 := Lib.hid (boxes HB8.out b71)
  replace HB55 := Lib.hid (boxes HB55.out b71)
  replace hB := hB.trans (b71.mono hB.size)
  have hz10 : W9.heap.size ≤ W10.heap.size := b71.size
  clear b71
  have c72 := Live.of r69 o70
  clear r69 o70
  go_wp2_with fail
  refine (eqMacroS_same _ _ _ _ _ _ c33.r c72.r).mono ?_
  rintro e W11 ⟨rfl, b73⟩
  replace a0 := a0.below b73
  replace a1 := a1.below b73
  replace g27 := g27.below b73
  replace c33 := c33.below b73
  replace c43 := c43.below b73
  replace g65 := g65.below b73
  replace c72 := c72.below b73
  replace HB8 := Lib.hid (boxes HB8.out b73)
  replace HB55 := Lib.hid (boxes HB55.out b73)
  replace hB := hB.trans (b73.mono hB.size)
  have hz11 : W10.heap.size ≤ W11.heap.size := b73.size
  clear b73
  clear c72
  have hga := boxlt HB8.out
  have hgb := boxlt HB55.out
  have HD74 : Hid (∀ W, Below W11.heap.size W11 W → Calls Try.prog 19 #[.agg #[.string x1.name, .bool x1.function, h1, h2]] W (MadeC sMacro x1 W)) := fun W hW => toMacro _ _ _ W HW1.out (sMacro.below a1.r hW)
  have HE75 : Hid (∀ W cs fp, Below W11.heap.size W11 W → sMacro.R W cs x1 fp → Calls Try.prog 21 #[.agg #[.string x1.name, .bool x1.function, .slice a50 x1.params.length cap51, .slice a52 x1.body.length cap53], .agg cs.toArray] W fun e w' => e = .returned (.bool true) ∧ Below W.heap.size W w') := fun W cs fp hW hr => eqMacro_same _ _ _ _ _ W (sMacro.below c43.r hW) hr
  go_wp2_with fail
  have q76 : W11.cell? ⟨w.heap.size, 0, none⟩ = some (.string x1.name) := cell_of_row _ _ 0 _ _ _ HB8.out
  have q77 : W11.cell? ⟨w.heap.size, 1, none⟩ = some (.bool x1.function) := cell_of_row _ _ 1 _ _ _ HB8.out
  have q78 : W11.cell? ⟨w.heap.size, 2, none⟩ = some (h1) := cell_of_row _ _ 2 _ _ _ HB8.out
  have q79 : W11.cell? ⟨w.heap.size, 3, none⟩ = some (h2) := cell_of_row _ _ 3 _ _ _ HB8.out
  have q80 : W11.cell? ⟨W6.heap.size, 0, none⟩ = some (.string x1.name) := cell_of_row _ _ 0 _ _ _ HB55.out
  have q81 : W11.cell? ⟨W6.heap.size, 1, none⟩ = some (.bool x1.function) := cell_of_row _ _ 1 _ _ _ HB55.out
  have q82 : W11.cell? ⟨W6.heap.size, 2, none⟩ = some (.slice a50 x1.params.length cap51) := cell_of_row _ _ 2 _ _ _ HB55.out
  have q83 : W11.cell? ⟨W6.heap.size, 3, none⟩ = some (.slice a52 x1.body.length cap53) := cell_of_row _ _ 3 _ _ _ HB55.out
  go_region_held3 (fun w' => w'.cell? ⟨w.heap.size, 0, none⟩ = some (.string x1.name) ∧ w'.cell? ⟨w.heap.size, 1, none⟩ = some (.bool x1.function) ∧ w'.cell? ⟨w.heap.size, 2, none⟩ = some (h1) ∧ w'.cell? ⟨w.heap.size, 3, none⟩ = some (h2) ∧ w'.cell? ⟨W6.heap.size, 0, none⟩ = some (.string x1.name) ∧ w'.cell? ⟨W6.heap.size, 1, none⟩ = some (.bool x1.function) ∧ w'.cell? ⟨W6.heap.size, 2, none⟩ = some (.slice a50 x1.params.length cap51) ∧ w'.cell? ⟨W6.heap.size, 3, none⟩ = some (.slice a52 x1.body.length cap53))
    (first | exact ⟨q76, q77, q78, q79, q80, q81, q82, q83⟩ | exact ⟨(b30.cell (by simp; omega)).trans q76, (b30.cell (by simp; omega)).trans q77, (b30.cell (by simp; omega)).trans q78, (b30.cell (by simp; omega)).trans q79, (b30.cell (by simp; omega)).trans q80, (b30.cell (by simp; omega)).trans q81, (b30.cell (by simp; omega)).trans q82, (b30.cell (by simp; omega)).trans q83⟩ | exact ⟨((b30.trans (b31.mono b30.size)).cell (by simp; omega)).trans q76, ((b30.trans (b31.mono b30.size)).cell (by simp; omega)).trans q77, ((b30.trans (b31.mono b30.size)).cell (by simp; omega)).trans q78, ((b30.trans (b31.mono b30.size)).cell (by simp; omega)).trans q79, ((b30.trans (b31.mono b30.size)).cell (by simp; omega)).trans q80, ((b30.trans (b31.mono b30.size)).cell (by simp; omega)).trans q81, ((b30.trans (b31.mono b30.size)).cell (by simp; omega)).trans q82, ((b30.trans (b31.mono b30.size)).cell (by simp; omega)).trans q83⟩)
    (first
      | (go_at_call 19; refine (HD74.out _ (belowN (Below.refl _ _) 1)).mono ?_; rintro e w2 ⟨cs2, fp2, rfl, r2, o2, b30⟩)
      | (go_at_call 21; refine (HE75.out _ _ _ ((belowN (Below.refl _ _) 1).trans (b30.mono (Nat.le_refl _))) r2).mono ?_; rintro e w3 ⟨rfl, b31⟩))
  have b84 := (belowN (Below.refl W11.heap.size W11) 1).trans (b30.trans (b31.mono b30.size))
  clear q76 q77 q78 q79 q80 q81 q82 q83
  clear HD74 HE75 hga hgb
  replace a0 := a0.below b84
  replace a1 := a1.below b84
  replace g27 := g27.below b84
  replace c33 := c33.below b84
  replace c43 := c43.below b84
  replace g65 := g65.below b84
  replace HB8 := Lib.hid (boxes HB8.out b84)
  replace HB55 := Lib.hid (boxes HB55.out b84)
  replace hB := hB.trans (b84.mono hB.size)
  have hz12 : W11.heap.size ≤ w3.heap.size := b84.size
  clear b84
  clear b30 b31
  generalize w3 = W13 at *
  go_wp2_with fail
  refine (markMacroS _ _ _ W4.heap.size _ _ (by first | omega | (have hc := HC.out; have hw0 := HW0.out; have hw1 := HW1.out; have hn0 := cntMacroS_le x0; have hn1 := cntVMacro_le x1; omega)) (by first | omega | (have hc := HC.out; have hw0 := HW0.out; have hw1 := HW1.out; have hn0 := cntMacroS_le x0; have hn1 := cntVMacro_le x1; omega)) c33.r c33.o).mono ?_
  rintro e W14 ⟨rfl, r85, o86, hk⟩
  replace a0 := a0.kept hk c33.o (by omega)
  replace a1 := a1.kept hk c33.o (by omega)
  replace g27 := g27.kept hk c33.o (by omega)
  replace c43 := c43.kept' hk (fun b hb => Nat.lt_of_lt_of_le (c33.hi b hb) (by omega))
  replace g65 := g65.kept' hk (fun b hb => Nat.lt_of_lt_of_le (c33.hi b hb) (by omega))
  replace HB8 := Lib.hid (boxK HB8.out hk (fun hx => by have h1 := (c33.o.2 _ hx).1; have h2 := c33.hi _ hx; omega))
  replace HB55 := Lib.hid (boxK HB55.out hk (fun hx => by have h1 := (c33.o.2 _ hx).1; have h2 := c33.hi _ hx; omega))
  replace hB := hB.trans (hk.below' c33.o (by first | exact Nat.le_refl _ | omega) (by omega))
  have hz13 : W13.heap.size ≤ W14.heap.size := hk.size
  replace c33 : Live _ _ _ _ _ _ _ := ⟨r85, o86, c33.hi⟩
  clear r85 o86 hk
  have q89 : W14.cell? ⟨W6.heap.size, 0, none⟩ = some (.string x1.name) := cell_of_row _ _ 0 _ _ _ HB55.out
  have q90 : W14.cell? ⟨W6.heap.size, 1, none⟩ = some (.bool x1.function) := cell_of_row _ _ 1 _ _ _ HB55.out
  have q91 : W14.cell? ⟨W6.heap.size, 2, none⟩ = some (.slice a50 x1.params.length cap51) := cell_of_row _ _ 2 _ _ _ HB55.out
  have q92 : W14.cell? ⟨W6.heap.size, 3, none⟩ = some (.slice a52 x1.body.length cap53) := cell_of_row _ _ 3 _ _ _ HB55.out
  go_wp2_with fail
  refine (markMacro _ _ _ W5.heap.size _ _ (by first | omega | (have hc := HC.out; have hw0 := HW0.out; have hw1 := HW1.out; have hn0 := cntMacroS_le x0; have hn1 := cntVMacro_le x1; omega)) (by first | omega | (have hc := HC.out; have hw0 := HW0.out; have hw1 := HW1.out; have hn0 := cntMacroS_le x0; have hn1 := cntVMacro_le x1; omega)) c43.r c43.o).mono ?_
  clear q89 q90 q91 q92
  rintro e W15 ⟨rfl, r87, o88, hk⟩
  replace a0 := a0.kept hk c43.o (by omega)
  replace a1 := a1.kept hk c43.o (by omega)
  replace g27 := g27.kept hk c43.o (by omega)
  replace c33 := c33.kept hk c43.o (by omega)
  replace g65 := g65.kept' hk (fun b hb => Nat.lt_of_lt_of_le (c43.hi b hb) (by omega))
  replace HB8 := Lib.hid (boxK HB8.out hk (fun hx => by have h1 := (c43.o.2 _ hx).1; have h2 := c43.hi _ hx; omega))
  replace HB55 := Lib.hid (boxK HB55.out hk (fun hx => by have h1 := (c43.o.2 _ hx).1; have h2 := c43.hi _ hx; omega))
  replace hB := hB.trans (hk.below' c43.o (by first | exact Nat.le_refl _ | omega) (by omega))
  have hz14 : W14.heap.size ≤ W15.heap.size := hk.size
  replace c43 : Live _ _ _ _ _ _ _ := ⟨r87, o88, c43.hi⟩
  clear r87 o88 hk
  go_wp2_with fail
  refine (eqMacroS_same _ _ _ _ _ _ g65.r g27.r).mono ?_
  rintro e W16 ⟨rfl, b93⟩
  replace a0 := a0.below b93
  replace a1 := a1.below b93
  replace g27 := g27.below b93
  replace c33 := c33.below b93
  replace c43 := c43.below b93
  replace g65 := g65.below b93
  replace HB8 := Lib.hid (boxes HB8.out b93)
  replace HB55 := Lib.hid (boxes HB55.out b93)
  replace hB := hB.trans (b93.mono hB.size)
  have hz15 : W15.heap.size ≤ W16.heap.size := b93.size
  clear b93
  clear c33
  clear c43
  clear HB55
  go_wp2_with fail
  refine (markMacroS _ _ _ (W6.alloc (.cells #[.string x1.name, .bool x1.function, .slice a50 x1.params.length cap51, .slice a52 x1.body.length cap53] 35)).heap.size _ _ (by first | omega | (have hc := HC.out; have hw0 := HW0.out; have hw1 := HW1.out; have hn0 := cntMacroS_le x0; have hn1 := cntVMacro_le x1; omega)) (by first | omega | (have hc := HC.out; have hw0 := HW0.out; have hw1 := HW1.out; have hn0 := cntMacroS_le x0; have hn1 := cntVMacro_le x1; omega)) g65.r g65.o).mono ?_
  rintro e W17 ⟨rfl, r94, o95, hk⟩
  replace a0 := a0.kept hk g65.o (by omega)
  replace a1 := a1.kept hk g65.o (by omega)
  replace g27 := g27.kept hk g65.o (by omega)
  replace HB8 := Lib.hid (boxK HB8.out hk (fun hx => by have h1 := (g65.o.2 _ hx).1; have h2 := g65.hi _ hx; omega))
  replace hB := hB.trans (hk.below' g65.o (by first | exact Nat.le_refl _ | omega) (by omega))
  have hz16 : W16.heap.size ≤ W17.heap.size := hk.size
  replace g65 : Live _ _ _ _ _ _ _ := ⟨r94, o95, g65.hi⟩
  clear r94 o95 hk
  go_wp2_with fail
  refine (heldMacroS _ _ _ _ _ (by first | omega | (have hc := HC.out; have hw0 := HW0.out; have hw1 := HW1.out; have hn0 := cntMacroS_le x0; have hn1 := cntVMacro_le x1; omega)) (by first | omega | (have hc := HC.out; have hw0 := HW0.out; have hw1 := HW1.out; have hn0 := cntMacroS_le x0; have hn1 := cntVMacro_le x1; omega)) g65.r).mono ?_
  rintro e W18 ⟨rfl, b96⟩
  replace a0 := a0.below b96
  replace a1 := a1.below b96
  replace g27 := g27.below b96
  replace g65 := g65.below b96
  replace HB8 := Lib.hid (boxes HB8.out b96)
  replace hB := hB.trans (b96.mono hB.size)
  have hz17 : W17.heap.size ≤ W18.heap.size := b96.size
  clear b96
  have HD97 : Hid (∀ W, Below W18.heap.size W18 W → Calls Try.prog 18 #[v0] W (Made (sSlice sMacro) x0 W)) := fun W hW => toMacroS _ _ _ W HW0.out ((sSlice sMacro).below a0.r hW)
  have HD98 : Hid (∀ W, Below W18.heap.size W18 W → Calls Try.prog 19 #[.agg #[.string x1.name, .bool x1.function, h1, h2]] W (MadeC sMacro x1 W)) := fun W hW => toMacro _ _ _ W HW1.out (sMacro.below a1.r hW)
  have hcs : Below W18.heap.size W18 W18.drew := belowN (Below.refl _ _) 1
  have hg99 := boxlt HB8.out
  go_wp2_with fail
  have q100 : W18.cell? ⟨w.heap.size, 0, none⟩ = some (.string x1.name) := cell_of_row _ _ 0 _ _ _ HB8.out
  have q101 : W18.cell? ⟨w.heap.size, 1, none⟩ = some (.bool x1.function) := cell_of_row _ _ 1 _ _ _ HB8.out
  have q102 : W18.cell? ⟨w.heap.size, 2, none⟩ = some (h1) := cell_of_row _ _ 2 _ _ _ HB8.out
  have q103 : W18.cell? ⟨w.heap.size, 3, none⟩ = some (h2) := cell_of_row _ _ 3 _ _ _ HB8.out
  go_region_held3 (fun w' => w'.cell? ⟨w.heap.size, 0, none⟩ = some (.string x1.name) ∧ w'.cell? ⟨w.heap.size, 1, none⟩ = some (.bool x1.function) ∧ w'.cell? ⟨w.heap.size, 2, none⟩ = some (h1) ∧ w'.cell? ⟨w.heap.size, 3, none⟩ = some (h2))
    (first | exact ⟨q100, q101, q102, q103⟩ | exact ⟨(hc0.cell (by simp; omega)).trans q100, (hc0.cell (by simp; omega)).trans q101, (hc0.cell (by simp; omega)).trans q102, (hc0.cell (by simp; omega)).trans q103⟩ | exact ⟨(hc1.cell (by simp; omega)).trans q100, (hc1.cell (by simp; omega)).trans q101, (hc1.cell (by simp; omega)).trans q102, (hc1.cell (by simp; omega)).trans q103⟩ | exact ⟨(hcF.cell (by simp; omega)).trans q100, (hcF.cell (by simp; omega)).trans q101, (hcF.cell (by simp; omega)).trans q102, (hcF.cell (by simp; omega)).trans q103⟩)
    (first
      | (go_at_call 18; (with_reducible refine (HD97.out _ hcs).mono ?_); rintro e wr0 ⟨cr0, fr0, rfl, rr0, or0, br0⟩; have hc0 := (belowN (Below.refl W18.heap.size W18) 1).trans (br0.mono (Nat.le_refl _)))
      | (go_at_call 19; (with_reducible refine (HD98.out _ hc0).mono ?_); rintro e wr1 ⟨cr1, fr1, rfl, rr1, or1, br1⟩; have hc1 := hc0.trans (br1.mono hc0.size))
      | (go_at_call 14; refine (HIM.out _ _ _ _ _ HW0.out HW1.out ((sSlice sMacro).below rr0 br1) (rr1)).mono ?_; rintro e W19 ⟨v105, f106, rfl, r107, o108, bF⟩; have hcF := hc1.trans (bF.mono hc1.size)))
  have b104 := hcF
  replace o108 := o108.lower hc1.size
  clear q100 q101 q102 q103
  clear HD97 HD98 hcs hg99 hcF bF hc1 rr1 or1 br1 hc0 rr0 or0 br0
  replace a0 := a0.below b104
  replace a1 := a1.below b104
  replace g27 := g27.below b104
  replace g65 := g65.below b104
  replace HB8 := Lib.hid (boxes HB8.out b104)
  replace hB := hB.trans (b104.mono hB.size)
  have hz18 : W18.heap.size ≤ W19.heap.size := b104.size
  clear b104
  have g109 := Live.of r107 o108
  clear o108
  clear r107
  go_wp2_with fail
  refine (eqMacroS_same _ _ _ _ _ _ g109.r g27.r).mono ?_
  rintro e W20 ⟨rfl, b110⟩
  replace a0 := a0.below b110
  replace a1 := a1.below b110
  replace g27 := g27.below b110
  replace g65 := g65.below b110
  replace g109 := g109.below b110
  replace HB8 := Lib.hid (boxes HB8.out b110)
  replace hB := hB.trans (b110.mono hB.size)
  have hz19 : W19.heap.size ≤ W20.heap.size := b110.size
  clear b110
  go_wp2_with fail
  refine (heldMacroS _ _ _ _ _ (by first | omega | (have hc := HC.out; have hw0 := HW0.out; have hw1 := HW1.out; have hn0 := cntMacroS_le x0; have hn1 := cntVMacro_le x1; omega)) (by first | omega | (have hc := HC.out; have hw0 := HW0.out; have hw1 := HW1.out; have hn0 := cntMacroS_le x0; have hn1 := cntVMacro_le x1; omega)) g65.r).mono ?_
  rintro e W21 ⟨rfl, b111⟩
  replace a0 := a0.below b111
  replace a1 := a1.below b111
  replace g27 := g27.below b111
  replace g65 := g65.below b111
  replace g109 := g109.below b111
  replace HB8 := Lib.hid (boxes HB8.out b111)
  replace hB := hB.trans (b111.mono hB.size)
  have hz20 : W20.heap.size ≤ W21.heap.size := b111.size
  clear b111
  go_wp2
  go_ret
  exact ⟨rfl, hB⟩

theorem own : ownKnob Try.prog.godebug = none := by kernel_rfl
theorem laidOut : laidOutB Try.prog = true := by kernel_rfl
theorem readable : ∀ t ∈ Try.f5.params.toList, Try.prog.readableRec t = true ∧ t < Try.prog.types.size := by
  rw [Try.params5]
  intro t ht
  simp only [List.mem_cons, List.not_mem_nil, or_false] at ht
  first
    | (subst ht; exact ⟨by kernel_rfl, of_decide_eq_true (by kernel_rfl)⟩)
    | (rcases ht with rfl | rfl <;> exact ⟨by kernel_rfl, of_decide_eq_true (by kernel_rfl)⟩)

set_option maxRecDepth 100000 in
theorem lifted (os : Os) (started : os.Started) (H : Type) (enc : TypeId × Value → H) :
    ReturnsInHanded {} Try.checked os 5 .any (Rows.fnExactDefineSpec.pre6 enc Try.prog Try.f5 Rows.fnExactDefineRow.domain false) (Rows.fnExactDefineSpec.post enc Try.prog Try.f5 false true false false) := by
  refine returnsInHanded_of_change (C := Try.checked) own started (by kernel_rfl) Try.func5
    (ChangeSpec.witness6 (enc := enc) (C := Try.checked) false ⟨#[], #[.slice none 0 0, zero_Macro], []⟩ 8 (by kernel_rfl) (by kernel_rfl) (by kernel_rfl) (by kernel_rfl)) ?_
  intro W base args ds gs before hval0 hW hcnd _
  have hval : ∀ (j : Nat) t v, Try.f5.params[j]? = some t → args[j]? = some v → Value.okWide Try.prog W .any base t v := hval0
  have hW' := hW
  obtain ⟨p, q, hA0, hV, rfl, hfz, hnd⟩ := hW
  have hA : DataW.TrodAll enc Try.prog W 0 (fun _ => true) true Try.f5.params.toList args.toList ds p := hA0
  rw [Try.params5] at hA hval
  obtain ⟨v0, vs0, d0, ds0, p0, q0, hargs0, rfl, rfl, h0, r0⟩ := trodAll_cons hA
  obtain ⟨v1, vs1, d1, ds1, p1, q1, hargs1, rfl, rfl, h1, r1⟩ := trodAll_cons r0
  obtain ⟨rfl, rfl, rfl⟩ := trodAll_nil r1
  obtain rfl : args = #[v0, v1] := by cases args; simp_all
  obtain ⟨rfl, rfl⟩ := trodVars_none hV
  obtain ⟨a0, len0, cap0, rfl⟩ := okWide_slice Try.underlying40 (hval 0 40 v0 rfl rfl)
  obtain ⟨x0, fp0, H0⟩ := open_arg (opens_slice Try.underlying40 (by kernel_rfl) (by decide) opens_Macro) h0
  obtain ⟨cs1, rfl, _⟩ := okWide_struct Try.underlying43 (hval 1 43 v1 rfl rfl)
  obtain ⟨x1, fp1, H1⟩ := open_arg opens_Macro h1
  refine (walk _ x0 fp0 _ x1 fp1 W H0 H1).mono fun e W' ⟨he, hw⟩ => ?_
  subst he
  exact ⟨_, rfl, law_done laidOut readable rfl rfl Try.underlying4 hW' rfl rfl rfl hw⟩

theorem holds : Rows.FnExactDefineSaid :=
  OpenClaim.holds_of_wide 5 Try.f5 rfl rfl rfl rfl rfl rfl rfl ⟨rfl, rfl, rfl, rfl, rfl⟩ rfl rfl rfl rfl rfl (by kernel_rfl) Try.func5 (by kernel_rfl)
    (of_decide_eq_true (by kernel_rfl)) (by unfold Func.isWrapper; first | (rw [if_pos (by decide +kernel)]; kernel_rfl) | (rw [if_neg (by decide +kernel)]; exact ⟨rfl, rfl⟩))
    (fun os started H enc _ => lifted os started H enc)


end Go.Proofs.Ythbojipdhgidlab.exactDefine
