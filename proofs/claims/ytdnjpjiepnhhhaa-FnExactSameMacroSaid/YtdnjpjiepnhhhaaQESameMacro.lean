/- SameMacro of the program answers as its model at every argument; it writes into none; its answer owns its memory. No conditions. -/
import Derived.Test.YtdnjpjiepnhhhaaZU9
import Derived.Test.YtdnjpjiepnhhhaaZU2
set_option linter.unusedVariables false
set_option linter.unusedSimpArgs false
namespace Go.Proofs.Ytdnjpjiepnhhhaa.exactSameMacro
open Go.ChangeShapes Go.WideShapes Go.ChangeAt Go.RowKit Go.ChangeMaps

theorem boxes {w : World} {g : Nat} {arr : Array Value} {ty : TypeId} (h : w.heap[g]? = some (.cells arr ty (0, 0))) {w' : World} (hb : Below w.heap.size w w') : w'.heap[g]? = some (.cells arr ty (0, 0)) :=
  (hb.block g (Array.getElem?_eq_some_iff.1 h).1).trans h
theorem boxK {w : World} {g : Nat} {arr : Array Value} {ty : TypeId} {fp : List Nat} (h : w.heap[g]? = some (.cells arr ty (0, 0))) {w' : World} (hk : Kept fp w w') (hn : g ∉ fp) : w'.heap[g]? = some (.cells arr ty (0, 0)) :=
  (hk.block g (Array.getElem?_eq_some_iff.1 h).1 hn).trans h
theorem boxlt {w : World} {g : Nat} {arr : Array Value} {ty : TypeId} (h : w.heap[g]? = some (.cells arr ty (0, 0))) : g < w.heap.size := (Array.getElem?_eq_some_iff.1 h).1
theorem box_new (w : World) (arr : Array Value) (ty : TypeId) : (w.alloc (.cells arr ty)).heap[w.heap.size]? = some (.cells arr ty (0, 0)) := by
  show (w.heap.push _)[_]? = _; simp

set_option maxHeartbeats 16000000 in
set_option maxRecDepth 100000 in
theorem walk (v0 : List Value) (x0 : DMacro) (fp0 : List Nat) (v1 : List Value) (x1 : DMacro) (fp1 : List Nat) (w : World) (H0 : sMacro.R w v0 x0 fp0) (H1 : sMacro.R w v1 x1 fp1) :
    Calls Try.prog 4 #[.agg v0.toArray, .agg v1.toArray] w fun e w' => e = .returned (.bool true) ∧ Below w.heap.size w w' := by
  have hB := Below.refl w.heap.size w
  have a0 := Seen.of H0
  have a1 := Seen.of H1
  obtain ⟨h1, h2, p5, p6, rfl, -, K3, K4, rfl⟩ := H0
  clear K3
  clear K4
  obtain ⟨h7, h8, p11, p12, rfl, -, K9, K10, rfl⟩ := H1
  clear K9
  clear K10
  have b13 := alloc_below' w (.cells #[.string x0.name, .bool x0.function, h1, h2] 37)
  have HB14 := Lib.hid (box_new w #[.string x0.name, .bool x0.function, h1, h2] 37)
  replace a0 := a0.below b13
  replace a1 := a1.below b13
  replace hB := hB.trans (b13.mono hB.size)
  have hz1 : w.heap.size ≤ (w.alloc (.cells #[.string x0.name, .bool x0.function, h1, h2] 37)).heap.size := b13.size
  clear b13
  have hy1 : w.heap.size + 1 ≤ (w.alloc (.cells #[.string x0.name, .bool x0.function, h1, h2] 37)).heap.size := boxlt HB14.out
  have b15 := alloc_below' (w.alloc (.cells #[.string x0.name, .bool x0.function, h1, h2] 37)) (.cells #[.string x1.name, .bool x1.function, h7, h8] 37)
  have HB16 := Lib.hid (box_new (w.alloc (.cells #[.string x0.name, .bool x0.function, h1, h2] 37)) #[.string x1.name, .bool x1.function, h7, h8] 37)
  replace a0 := a0.below b15
  replace a1 := a1.below b15
  replace HB14 := Lib.hid (boxes HB14.out b15)
  replace hB := hB.trans (b15.mono hB.size)
  have hz2 : (w.alloc (.cells #[.string x0.name, .bool x0.function, h1, h2] 37)).heap.size ≤ ((w.alloc (.cells #[.string x0.name, .bool x0.function, h1, h2] 37)).alloc (.cells #[.string x1.name, .bool x1.function, h7, h8] 37)).heap.size := b15.size
  clear b15
  have hy2 : (w.alloc (.cells #[.string x0.name, .bool x0.function, h1, h2] 37)).heap.size + 1 ≤ ((w.alloc (.cells #[.string x0.name, .bool x0.function, h1, h2] 37)).alloc (.cells #[.string x1.name, .bool x1.function, h7, h8] 37)).heap.size := boxlt HB16.out
  replace HB16 : Hid (((w.alloc (.cells #[.string x0.name, .bool x0.function, h1, h2] 37)).alloc (.cells #[.string x1.name, .bool x1.function, h7, h8] 37)).heap[w.heap.size + 1]? = some (.cells #[.string x1.name, .bool x1.function, h7, h8] 37 (0, 0))) := by have := HB16.out; rwa [show (w.alloc (.cells #[.string x0.name, .bool x0.function, h1, h2] 37)).heap.size = w.heap.size + 1 from by simp] at this
  go_enter Try.func4, Try.ntmps4
  have q17 : ((w.alloc (.cells #[.string x0.name, .bool x0.function, h1, h2] 37)).alloc (.cells #[.string x1.name, .bool x1.function, h7, h8] 37)).cell? ⟨w.heap.size, 0, none⟩ = some (.string x0.name) := cell_of_row _ _ 0 _ _ _ HB14.out
  have q18 : ((w.alloc (.cells #[.string x0.name, .bool x0.function, h1, h2] 37)).alloc (.cells #[.string x1.name, .bool x1.function, h7, h8] 37)).cell? ⟨w.heap.size, 1, none⟩ = some (.bool x0.function) := cell_of_row _ _ 1 _ _ _ HB14.out
  have q19 : ((w.alloc (.cells #[.string x0.name, .bool x0.function, h1, h2] 37)).alloc (.cells #[.string x1.name, .bool x1.function, h7, h8] 37)).cell? ⟨w.heap.size, 2, none⟩ = some (h1) := cell_of_row _ _ 2 _ _ _ HB14.out
  have q20 : ((w.alloc (.cells #[.string x0.name, .bool x0.function, h1, h2] 37)).alloc (.cells #[.string x1.name, .bool x1.function, h7, h8] 37)).cell? ⟨w.heap.size, 3, none⟩ = some (h2) := cell_of_row _ _ 3 _ _ _ HB14.out
  go_wp2_with fail
  refine (szMacro _ _ _ _ _ (by omega) (by omega) a0.r).mono ?_
  clear q17 q18 q19 q20
  rintro e W3 ⟨r0, rfl, hr0, b21⟩
  replace a0 := a0.below b21
  replace a1 := a1.below b21
  replace HB14 := Lib.hid (boxes HB14.out b21)
  replace HB16 := Lib.hid (boxes HB16.out b21)
  replace hB := hB.trans (b21.mono hB.size)
  have hz3 : ((w.alloc (.cells #[.string x0.name, .bool x0.function, h1, h2] 37)).alloc (.cells #[.string x1.name, .bool x1.function, h7, h8] 37)).heap.size ≤ W3.heap.size := b21.size
  clear b21
  by_cases hneg0 : r0 < 0
  · go_wp2
    go_ret
    exact ⟨rfl, hB⟩
  have hw0 := (hr0.good hneg0).1
  have hl0 := hr0.le (by omega)
  have HW0 : Hid (wtMacro x0 ≤ 1048576) := by show _ ≤ _; omega
  clear hr0 hw0
  have q22 : W3.cell? ⟨w.heap.size + 1, 0, none⟩ = some (.string x1.name) := cell_of_row _ _ 0 _ _ _ HB16.out
  have q23 : W3.cell? ⟨w.heap.size + 1, 1, none⟩ = some (.bool x1.function) := cell_of_row _ _ 1 _ _ _ HB16.out
  have q24 : W3.cell? ⟨w.heap.size + 1, 2, none⟩ = some (h7) := cell_of_row _ _ 2 _ _ _ HB16.out
  have q25 : W3.cell? ⟨w.heap.size + 1, 3, none⟩ = some (h8) := cell_of_row _ _ 3 _ _ _ HB16.out
  go_wp2_with fail
  refine (szMacro _ _ _ _ _ (by omega) (by omega) a1.r).mono ?_
  clear q22 q23 q24 q25
  rintro e W4 ⟨r1, rfl, hr1, b26⟩
  replace a0 := a0.below b26
  replace a1 := a1.below b26
  replace HB14 := Lib.hid (boxes HB14.out b26)
  replace HB16 := Lib.hid (boxes HB16.out b26)
  replace hB := hB.trans (b26.mono hB.size)
  have hz4 : W3.heap.size ≤ W4.heap.size := b26.size
  clear b26
  by_cases hneg1 : r1 < 0
  · go_wp2
    go_ret
    exact ⟨rfl, hB⟩
  have hw1 := (hr1.good hneg1).1
  have hl1 := hr1.le (by omega)
  have HW1 : Hid (wtMacro x1 ≤ 1048576) := by show _ ≤ _; omega
  clear hr1 hw1
  have HD27 : Hid (∀ W, Below W4.heap.size W4 W → Calls Try.prog 19 #[.agg #[.string x0.name, .bool x0.function, h1, h2]] W (MadeC sMacro x0 W)) := fun W hW => toMacro _ _ _ W HW0.out (sMacro.below a0.r hW)
  have HD28 : Hid (∀ W, Below W4.heap.size W4 W → Calls Try.prog 19 #[.agg #[.string x1.name, .bool x1.function, h7, h8]] W (MadeC sMacro x1 W)) := fun W hW => toMacro _ _ _ W HW1.out (sMacro.below a1.r hW)
  have hcs : Below W4.heap.size W4 W4.drew := belowN (Below.refl _ _) 1
  have hg29 := boxlt HB14.out
  have hg30 := boxlt HB16.out
  go_wp2_with fail
  have q31 : W4.cell? ⟨w.heap.size, 0, none⟩ = some (.string x0.name) := cell_of_row _ _ 0 _ _ _ HB14.out
  have q32 : W4.cell? ⟨w.heap.size, 1, none⟩ = some (.bool x0.function) := cell_of_row _ _ 1 _ _ _ HB14.out
  have q33 : W4.cell? ⟨w.heap.size, 2, none⟩ = some (h1) := cell_of_row _ _ 2 _ _ _ HB14.out
  have q34 : W4.cell? ⟨w.heap.size, 3, none⟩ = some (h2) := cell_of_row _ _ 3 _ _ _ HB14.out
  have q35 : W4.cell? ⟨w.heap.size + 1, 0, none⟩ = some (.string x1.name) := cell_of_row _ _ 0 _ _ _ HB16.out
  have q36 : W4.cell? ⟨w.heap.size + 1, 1, none⟩ = some (.bool x1.function) := cell_of_row _ _ 1 _ _ _ HB16.out
  have q37 : W4.cell? ⟨w.heap.size + 1, 2, none⟩ = some (h7) := cell_of_row _ _ 2 _ _ _ HB16.out
  have q38 : W4.cell? ⟨w.heap.size + 1, 3, none⟩ = some (h8) := cell_of_row _ _ 3 _ _ _ HB16.out
  go_region_held3 (fun w' => w'.cell? ⟨w.heap.size, 0, none⟩ = some (.string x0.name) ∧ w'.cell? ⟨w.heap.size, 1, none⟩ = some (.bool x0.function) ∧ w'.cell? ⟨w.heap.size, 2, none⟩ = some (h1) ∧ w'.cell? ⟨w.heap.size, 3, none⟩ = some (h2) ∧ w'.cell? ⟨w.heap.size + 1, 0, none⟩ = some (.string x1.name) ∧ w'.cell? ⟨w.heap.size + 1, 1, none⟩ = some (.bool x1.function) ∧ w'.cell? ⟨w.heap.size + 1, 2, none⟩ = some (h7) ∧ w'.cell? ⟨w.heap.size + 1, 3, none⟩ = some (h8))
    (first | exact ⟨q31, q32, q33, q34, q35, q36, q37, q38⟩ | exact ⟨(hc0.cell (by simp; omega)).trans q31, (hc0.cell (by simp; omega)).trans q32, (hc0.cell (by simp; omega)).trans q33, (hc0.cell (by simp; omega)).trans q34, (hc0.cell (by simp; omega)).trans q35, (hc0.cell (by simp; omega)).trans q36, (hc0.cell (by simp; omega)).trans q37, (hc0.cell (by simp; omega)).trans q38⟩ | exact ⟨(hc1.cell (by simp; omega)).trans q31, (hc1.cell (by simp; omega)).trans q32, (hc1.cell (by simp; omega)).trans q33, (hc1.cell (by simp; omega)).trans q34, (hc1.cell (by simp; omega)).trans q35, (hc1.cell (by simp; omega)).trans q36, (hc1.cell (by simp; omega)).trans q37, (hc1.cell (by simp; omega)).trans q38⟩ | exact ⟨(hcF.cell (by simp; omega)).trans q31, (hcF.cell (by simp; omega)).trans q32, (hcF.cell (by simp; omega)).trans q33, (hcF.cell (by simp; omega)).trans q34, (hcF.cell (by simp; omega)).trans q35, (hcF.cell (by simp; omega)).trans q36, (hcF.cell (by simp; omega)).trans q37, (hcF.cell (by simp; omega)).trans q38⟩)
    (first
      | (go_at_call 19; (with_reducible refine (HD27.out _ hcs).mono ?_); rintro e wr0 ⟨cr0, fr0, rfl, rr0, or0, br0⟩; have hc0 := (belowN (Below.refl W4.heap.size W4) 1).trans (br0.mono (Nat.le_refl _)))
      | (go_at_call 19; (with_reducible refine (HD28.out _ hc0).mono ?_); rintro e wr1 ⟨cr1, fr1, rfl, rr1, or1, br1⟩; have hc1 := hc0.trans (br1.mono hc0.size))
      | (go_at_call 18; refine (spec_SameMacro _ _ _ _ _ _ _ (sMacro.below rr0 br1) (rr1)).mono ?_; rintro e W5 ⟨rfl, bF⟩; have hcF := hc1.trans (bF.mono hc1.size)))
  have b39 := hcF
  clear q31 q32 q33 q34 q35 q36 q37 q38
  clear HD27 HD28 hcs hg29 hg30 hcF bF hc1 rr1 or1 br1 hc0 rr0 or0 br0
  replace a0 := a0.below b39
  replace a1 := a1.below b39
  replace HB14 := Lib.hid (boxes HB14.out b39)
  replace HB16 := Lib.hid (boxes HB16.out b39)
  replace hB := hB.trans (b39.mono hB.size)
  have hz5 : W4.heap.size ≤ W5.heap.size := b39.size
  clear b39
  have q45 : W5.cell? ⟨w.heap.size, 0, none⟩ = some (.string x0.name) := cell_of_row _ _ 0 _ _ _ HB14.out
  have q46 : W5.cell? ⟨w.heap.size, 1, none⟩ = some (.bool x0.function) := cell_of_row _ _ 1 _ _ _ HB14.out
  have q47 : W5.cell? ⟨w.heap.size, 2, none⟩ = some (h1) := cell_of_row _ _ 2 _ _ _ HB14.out
  have q48 : W5.cell? ⟨w.heap.size, 3, none⟩ = some (h2) := cell_of_row _ _ 3 _ _ _ HB14.out
  go_wp2_with fail
  refine (toMacro _ _ _ _ HW0.out a0.r).mono ?_
  clear q45 q46 q47 q48
  rintro e W6 ⟨v40, f41, rfl, r42, o43, b44⟩
  replace a0 := a0.below b44
  replace a1 := a1.below b44
  replace HB14 := Lib.hid (boxes HB14.out b44)
  replace HB16 := Lib.hid (boxes HB16.out b44)
  replace hB := hB.trans (b44.mono hB.size)
  have hz6 : W5.heap.size ≤ W6.heap.size := b44.size
  clear b44
  have c49 := Live.of r42 o43
  obtain ⟨h50, h51, p54, p55, rfl, -, K52, K53, rfl⟩ := r42
  obtain ⟨a56, cap57, rfl, -⟩ := open_rows K52
  clear K52
  obtain ⟨a58, cap59, rfl, -⟩ := open_rows K53
  clear K53
  clear o43
  have b60 := alloc_below' W6 (.cells #[.string x0.name, .bool x0.function, .slice a56 x0.params.length cap57, .slice a58 x0.body.length cap59] 27)
  have HB61 := Lib.hid (box_new W6 #[.string x0.name, .bool x0.function, .slice a56 x0.params.length cap57, .slice a58 x0.body.length cap59] 27)
  replace a0 := a0.below b60
  replace a1 := a1.below b60
  replace c49 := c49.below b60
  replace HB14 := Lib.hid (boxes HB14.out b60)
  replace HB16 := Lib.hid (boxes HB16.out b60)
  replace hB := hB.trans (b60.mono hB.size)
  have hz7 : W6.heap.size ≤ (W6.alloc (.cells #[.string x0.name, .bool x0.function, .slice a56 x0.params.length cap57, .slice a58 x0.body.length cap59] 27)).heap.size := b60.size
  clear b60
  have hy7 : W6.heap.size + 1 ≤ (W6.alloc (.cells #[.string x0.name, .bool x0.function, .slice a56 x0.params.length cap57, .slice a58 x0.body.length cap59] 27)).heap.size := boxlt HB61.out
  have q67 : (W6.alloc (.cells #[.string x0.name, .bool x0.function, .slice a56 x0.params.length cap57, .slice a58 x0.body.length cap59] 27)).cell? ⟨w.heap.size + 1, 0, none⟩ = some (.string x1.name) := cell_of_row _ _ 0 _ _ _ HB16.out
  have q68 : (W6.alloc (.cells #[.string x0.name, .bool x0.function, .slice a56 x0.params.length cap57, .slice a58 x0.body.length cap59] 27)).cell? ⟨w.heap.size + 1, 1, none⟩ = some (.bool x1.function) := cell_of_row _ _ 1 _ _ _ HB16.out
  have q69 : (W6.alloc (.cells #[.string x0.name, .bool x0.function, .slice a56 x0.params.length cap57, .slice a58 x0.body.length cap59] 27)).cell? ⟨w.heap.size + 1, 2, none⟩ = some (h7) := cell_of_row _ _ 2 _ _ _ HB16.out
  have q70 : (W6.alloc (.cells #[.string x0.name, .bool x0.function, .slice a56 x0.params.length cap57, .slice a58 x0.body.length cap59] 27)).cell? ⟨w.heap.size + 1, 3, none⟩ = some (h8) := cell_of_row _ _ 3 _ _ _ HB16.out
  go_wp2_with fail
  refine (toMacro _ _ _ _ HW1.out a1.r).mono ?_
  clear q67 q68 q69 q70
  rintro e W8 ⟨v62, f63, rfl, r64, o65, b66⟩
  replace a0 := a0.below b66
  replace a1 := a1.below b66
  replace c49 := c49.below b66
  replace HB14 := Lib.hid (boxes HB14.out b66)
  replace HB16 := Lib.hid (boxes HB16.out b66)
  replace HB61 := Lib.hid (boxes HB61.out b66)
  replace hB := hB.trans (b66.mono hB.size)
  have hz8 : (W6.alloc (.cells #[.string x0.name, .bool x0.function, .slice a56 x0.params.length cap57, .slice a58 x0.body.length cap59] 27)).heap.size ≤ W8.heap.size := b66.size
  clear b66
  have c71 := Live.of r64 o65
  obtain ⟨h72, h73, p76, p77, rfl, -, K74, K75, rfl⟩ := r64
  obtain ⟨a78, cap79, rfl, -⟩ := open_rows K74
  clear K74
  obtain ⟨a80, cap81, rfl, -⟩ := open_rows K75
  clear K75
  clear o65
  have b82 := alloc_below' W8 (.cells #[.string x1.name, .bool x1.function, .slice a78 x1.params.length cap79, .slice a80 x1.body.length cap81] 27)
  have HB83 := Lib.hid (box_new W8 #[.string x1.name, .bool x1.function, .slice a78 x1.params.length cap79, .slice a80 x1.body.length cap81] 27)
  replace a0 := a0.below b82
  replace a1 := a1.below b82
  replace c49 := c49.below b82
  replace c71 := c71.below b82
  replace HB14 := Lib.hid (boxes HB14.out b82)
  replace HB16 := Lib.hid (boxes HB16.out b82)
  replace HB61 := Lib.hid (boxes HB61.out b82)
  replace hB := hB.trans (b82.mono hB.size)
  have hz9 : W8.heap.size ≤ (W8.alloc (.cells #[.string x1.name, .bool x1.function, .slice a78 x1.params.length cap79, .slice a80 x1.body.length cap81] 27)).heap.size := b82.size
  clear b82
  have hy9 : W8.heap.size + 1 ≤ (W8.alloc (.cells #[.string x1.name, .bool x1.function, .slice a78 x1.params.length cap79, .slice a80 x1.body.length cap81] 27)).heap.size := boxlt HB83.out
  have q85 : (W8.alloc (.cells #[.string x1.name, .bool x1.function, .slice a78 x1.params.length cap79, .slice a80 x1.body.length cap81] 27)).cell? ⟨W6.heap.size, 0, none⟩ = some (.string x0.name) := cell_of_row _ _ 0 _ _ _ HB61.out
  have q86 : (W8.alloc (.cells #[.string x1.name, .bool x1.function, .slice a78 x1.params.length cap79, .slice a80 x1.body.length cap81] 27)).cell? ⟨W6.heap.size, 1, none⟩ = some (.bool x0.function) := cell_of_row _ _ 1 _ _ _ HB61.out
  have q87 : (W8.alloc (.cells #[.string x1.name, .bool x1.function, .slice a78 x1.params.length cap79, .slice a80 x1.body.length cap81] 27)).cell? ⟨W6.heap.size, 2, none⟩ = some (.slice a56 x0.params.length cap57) := cell_of_row _ _ 2 _ _ _ HB61.out
  have q88 : (W8.alloc (.cells #[.string x1.name, .bool x1.function, .slice a78 x1.params.length cap79, .slice a80 x1.body.length cap81] 27)).cell? ⟨W6.heap.size, 3, none⟩ = some (.slice a58 x0.body.length cap59) := cell_of_row _ _ 3 _ _ _ HB61.out
  have q89 : (W8.alloc (.cells #[.string x1.name, .bool x1.function, .slice a78 x1.params.length cap79, .slice a80 x1.body.length cap81] 27)).cell? ⟨W8.heap.size, 0, none⟩ = some (.string x1.name) := cell_of_row _ _ 0 _ _ _ HB83.out
  have q90 : (W8.alloc (.cells #[.string x1.name, .bool x1.function, .slice a78 x1.params.length cap79, .slice a80 x1.body.length cap81] 27)).cell? ⟨W8.heap.size, 1, none⟩ = some (.bool x1.function) := cell_of_row _ _ 1 _ _ _ HB83.out
  have q91 : (W8.alloc (.cells #[.string x1.name, .bool x1.function, .slice a78 x1.params.length cap79, .slice a80 x1.body.length cap81] 27)).cell? ⟨W8.heap.size, 2, none⟩ = some (.slice a78 x1.params.length cap79) := cell_of_row _ _ 2 _ _ _ HB83.out
  have q92 : (W8.alloc (.cells #[.string x1.name, .bool x1.function, .slice a78 x1.params.length cap79, .slice a80 x1.body.length cap81] 27)).cell? ⟨W8.heap.size, 3, none⟩ = some (.slice a80 x1.body.length cap81) := cell_of_row _ _ 3 _ _ _ HB83.out
  go_wp2_with fail
  refine (impl_SameMacro _ _ _ _ _ _ _ c49.r c71.r).mono ?_
  clear q85 q86 q87 q88 q89 q90 q91 q92
  rintro e W10 ⟨rfl, b84⟩
  replace a0 := a0.below b84
  replace a1 := a1.below b84
  replace c49 := c49.below b84
  replace c71 := c71.below b84
  replace HB14 := Lib.hid (boxes HB14.out b84)
  replace HB16 := Lib.hid (boxes HB16.out b84)
  replace HB61 := Lib.hid (boxes HB61.out b84)
  replace HB83 := Lib.hid (boxes HB83.out b84)
  replace hB := hB.trans (b84.mono hB.size)
  have hz10 : (W8.alloc (.cells #[.string x1.name, .bool x1.function, .slice a78 x1.params.length cap79, .slice a80 x1.body.length cap81] 27)).heap.size ≤ W10.heap.size := b84.size
  clear b84
  have hga := boxlt HB14.out
  have hgb := boxlt HB61.out
  have HD93 : Hid (∀ W, Below W10.heap.size W10 W → Calls Try.prog 19 #[.agg #[.string x0.name, .bool x0.function, h1, h2]] W (MadeC sMacro x0 W)) := fun W hW => toMacro _ _ _ W HW0.out (sMacro.below a0.r hW)
  have HE94 : Hid (∀ W cs fp, Below W10.heap.size W10 W → sMacro.R W cs x0 fp → Calls Try.prog 12 #[.agg #[.string x0.name, .bool x0.function, .slice a56 x0.params.length cap57, .slice a58 x0.body.length cap59], .agg cs.toArray] W fun e w' => e = .returned (.bool true) ∧ Below W.heap.size W w') := fun W cs fp hW hr => eqMacro_same _ _ _ _ _ W (sMacro.below c49.r hW) hr
  go_wp2_with fail
  have q95 : W10.cell? ⟨w.heap.size, 0, none⟩ = some (.string x0.name) := cell_of_row _ _ 0 _ _ _ HB14.out
  have q96 : W10.cell? ⟨w.heap.size, 1, none⟩ = some (.bool x0.function) := cell_of_row _ _ 1 _ _ _ HB14.out
  have q97 : W10.cell? ⟨w.heap.size, 2, none⟩ = some (h1) := cell_of_row _ _ 2 _ _ _ HB14.out
  have q98 : W10.cell? ⟨w.heap.size, 3, none⟩ = some (h2) := cell_of_row _ _ 3 _ _ _ HB14.out
  have q99 : W10.cell? ⟨W6.heap.size, 0, none⟩ = some (.string x0.name) := cell_of_row _ _ 0 _ _ _ HB61.out
  have q100 : W10.cell? ⟨W6.heap.size, 1, none⟩ = some (.bool x0.function) := cell_of_row _ _ 1 _ _ _ HB61.out
  have q101 : W10.cell? ⟨W6.heap.size, 2, none⟩ = some (.slice a56 x0.params.length cap57) := cell_of_row _ _ 2 _ _ _ HB61.out
  have q102 : W10.cell? ⟨W6.heap.size, 3, none⟩ = some (.slice a58 x0.body.length cap59) := cell_of_row _ _ 3 _ _ _ HB61.out
  go_region_held3 (fun w' => w'.cell? ⟨w.heap.size, 0, none⟩ = some (.string x0.name) ∧ w'.cell? ⟨w.heap.size, 1, none⟩ = some (.bool x0.function) ∧ w'.cell? ⟨w.heap.size, 2, none⟩ = some (h1) ∧ w'.cell? ⟨w.heap.size, 3, none⟩ = some (h2) ∧ w'.cell? ⟨W6.heap.size, 0, none⟩ = some (.string x0.name) ∧ w'.cell? ⟨W6.heap.size, 1, none⟩ = some (.bool x0.function) ∧ w'.cell? ⟨W6.heap.size, 2, none⟩ = some (.slice a56 x0.params.length cap57) ∧ w'.cell? ⟨W6.heap.size, 3, none⟩ = some (.slice a58 x0.body.length cap59))
    (first | exact ⟨q95, q96, q97, q98, q99, q100, q101, q102⟩ | exact ⟨(b30.cell (by simp; omega)).trans q95, (b30.cell (by simp; omega)).trans q96, (b30.cell (by simp; omega)).trans q97, (b30.cell (by simp; omega)).trans q98, (b30.cell (by simp; omega)).trans q99, (b30.cell (by simp; omega)).trans q100, (b30.cell (by simp; omega)).trans q101, (b30.cell (by simp; omega)).trans q102⟩ | exact ⟨((b30.trans (b31.mono b30.size)).cell (by simp; omega)).trans q95, ((b30.trans (b31.mono b30.size)).cell (by simp; omega)).trans q96, ((b30.trans (b31.mono b30.size)).cell (by simp; omega)).trans q97, ((b30.trans (b31.mono b30.size)).cell (by simp; omega)).trans q98, ((b30.trans (b31.mono b30.size)).cell (by simp; omega)).trans q99, ((b30.trans (b31.mono b30.size)).cell (by simp; omega)).trans q100, ((b30.trans (b31.mono b30.size)).cell (by simp; omega)).trans q101, ((b30.trans (b31.mono b30.size)).cell (by simp; omega)).trans q102⟩)
    (first
      | (go_at_call 19; refine (HD93.out _ (belowN (Below.refl _ _) 1)).mono ?_; rintro e w2 ⟨cs2, fp2, rfl, r2, o2, b30⟩)
      | (go_at_call 12; refine (HE94.out _ _ _ ((belowN (Below.refl _ _) 1).trans (b30.mono (Nat.le_refl _))) r2).mono ?_; rintro e w3 ⟨rfl, b31⟩))
  have b103 := (belowN (Below.refl W10.heap.size W10) 1).trans (b30.trans (b31.mono b30.size))
  clear q95 q96 q97 q98 q99 q100 q101 q102
  clear HD93 HE94 hga hgb
  replace a0 := a0.below b103
  replace a1 := a1.below b103
  replace c49 := c49.below b103
  replace c71 := c71.below b103
  replace HB14 := Lib.hid (boxes HB14.out b103)
  replace HB16 := Lib.hid (boxes HB16.out b103)
  replace HB61 := Lib.hid (boxes HB61.out b103)
  replace HB83 := Lib.hid (boxes HB83.out b103)
  replace hB := hB.trans (b103.mono hB.size)
  have hz11 : W10.heap.size ≤ w3.heap.size := b103.size
  clear b103
  clear b30 b31
  generalize w3 = W12 at *
  have hga := boxlt HB16.out
  have hgb := boxlt HB83.out
  have HD104 : Hid (∀ W, Below W12.heap.size W12 W → Calls Try.prog 19 #[.agg #[.string x1.name, .bool x1.function, h7, h8]] W (MadeC sMacro x1 W)) := fun W hW => toMacro _ _ _ W HW1.out (sMacro.below a1.r hW)
  have HE105 : Hid (∀ W cs fp, Below W12.heap.size W12 W → sMacro.R W cs x1 fp → Calls Try.prog 12 #[.agg #[.string x1.name, .bool x1.function, .slice a78 x1.params.length cap79, .slice a80 x1.body.length cap81], .agg cs.toArray] W fun e w' => e = .returned (.bool true) ∧ Below W.heap.size W w') := fun W cs fp hW hr => eqMacro_same _ _ _ _ _ W (sMacro.below c71.r hW) hr
  go_wp2_with fail
  have q106 : W12.cell? ⟨w.heap.size + 1, 0, none⟩ = some (.string x1.name) := cell_of_row _ _ 0 _ _ _ HB16.out
  have q107 : W12.cell? ⟨w.heap.size + 1, 1, none⟩ = some (.bool x1.function) := cell_of_row _ _ 1 _ _ _ HB16.out
  have q108 : W12.cell? ⟨w.heap.size + 1, 2, none⟩ = some (h7) := cell_of_row _ _ 2 _ _ _ HB16.out
  have q109 : W12.cell? ⟨w.heap.size + 1, 3, none⟩ = some (h8) := cell_of_row _ _ 3 _ _ _ HB16.out
  have q110 : W12.cell? ⟨W8.heap.size, 0, none⟩ = some (.string x1.name) := cell_of_row _ _ 0 _ _ _ HB83.out
  have q111 : W12.cell? ⟨W8.heap.size, 1, none⟩ = some (.bool x1.function) := cell_of_row _ _ 1 _ _ _ HB83.out
  have q112 : W12.cell? ⟨W8.heap.size, 2, none⟩ = some (.slice a78 x1.params.length cap79) := cell_of_row _ _ 2 _ _ _ HB83.out
  have q113 : W12.cell? ⟨W8.heap.size, 3, none⟩ = some (.slice a80 x1.body.length cap81) := cell_of_row _ _ 3 _ _ _ HB83.out
  go_region_held3 (fun w' => w'.cell? ⟨w.heap.size + 1, 0, none⟩ = some (.string x1.name) ∧ w'.cell? ⟨w.heap.size + 1, 1, none⟩ = some (.bool x1.function) ∧ w'.cell? ⟨w.heap.size + 1, 2, none⟩ = some (h7) ∧ w'.cell? ⟨w.heap.size + 1, 3, none⟩ = some (h8) ∧ w'.cell? ⟨W8.heap.size, 0, none⟩ = some (.string x1.name) ∧ w'.cell? ⟨W8.heap.size, 1, none⟩ = some (.bool x1.function) ∧ w'.cell? ⟨W8.heap.size, 2, none⟩ = some (.slice a78 x1.params.length cap79) ∧ w'.cell? ⟨W8.heap.size, 3, none⟩ = some (.slice a80 x1.body.length cap81))
    (first | exact ⟨q106, q107, q108, q109, q110, q111, q112, q113⟩ | exact ⟨(b30.cell (by simp; omega)).trans q106, (b30.cell (by simp; omega)).trans q107, (b30.cell (by simp; omega)).trans q108, (b30.cell (by simp; omega)).trans q109, (b30.cell (by simp; omega)).trans q110, (b30.cell (by simp; omega)).trans q111, (b30.cell (by simp; omega)).trans q112, (b30.cell (by simp; omega)).trans q113⟩ | exact ⟨((b30.trans (b31.mono b30.size)).cell (by simp; omega)).trans q106, ((b30.trans (b31.mono b30.size)).cell (by simp; omega)).trans q107, ((b30.trans (b31.mono b30.size)).cell (by simp; omega)).trans q108, ((b30.trans (b31.mono b30.size)).cell (by simp; omega)).trans q109, ((b30.trans (b31.mono b30.size)).cell (by simp; omega)).trans q110, ((b30.trans (b31.mono b30.size)).cell (by simp; omega)).trans q111, ((b30.trans (b31.mono b30.size)).cell (by simp; omega)).trans q112, ((b30.trans (b31.mono b30.size)).cell (by simp; omega)).trans q113⟩)
    (first
      | (go_at_call 19; refine (HD104.out _ (belowN (Below.refl _ _) 1)).mono ?_; rintro e w2 ⟨cs2, fp2, rfl, r2, o2, b30⟩)
      | (go_at_call 12; refine (HE105.out _ _ _ ((belowN (Below.refl _ _) 1).trans (b30.mono (Nat.le_refl _))) r2).mono ?_; rintro e w3 ⟨rfl, b31⟩))
  have b114 := (belowN (Below.refl W12.heap.size W12) 1).trans (b30.trans (b31.mono b30.size))
  clear q106 q107 q108 q109 q110 q111 q112 q113
  clear HD104 HE105 hga hgb
  replace a0 := a0.below b114
  replace a1 := a1.below b114
  replace c49 := c49.below b114
  replace c71 := c71.below b114
  replace HB14 := Lib.hid (boxes HB14.out b114)
  replace HB16 := Lib.hid (boxes HB16.out b114)
  replace HB61 := Lib.hid (boxes HB61.out b114)
  replace HB83 := Lib.hid (boxes HB83.out b114)
  replace hB := hB.trans (b114.mono hB.size)
  have hz12 : W12.heap.size ≤ w3.heap.size := b114.size
  clear b114
  clear b30 b31
  generalize w3 = W13 at *
  go_wp2
  go_ret
  exact ⟨rfl, hB⟩

theorem own : ownKnob Try.prog.godebug = none := by kernel_rfl
theorem laidOut : laidOutB Try.prog = true := by kernel_rfl
theorem readable : ∀ t ∈ Try.f4.params.toList, Try.prog.readableRec t = true ∧ t < Try.prog.types.size := by
  rw [Try.params4]
  intro t ht
  simp only [List.mem_cons, List.not_mem_nil, or_false] at ht
  first
    | (subst ht; exact ⟨by kernel_rfl, of_decide_eq_true (by kernel_rfl)⟩)
    | (rcases ht with rfl | rfl <;> exact ⟨by kernel_rfl, of_decide_eq_true (by kernel_rfl)⟩)

set_option maxRecDepth 100000 in
theorem lifted (os : Os) (started : os.Started) (H : Type) (enc : TypeId × Value → H) :
    ReturnsInHanded {} Try.checked os 4 .any (Rows.fnExactSameMacroSpec.pre6 enc Try.prog Try.f4 Rows.fnExactSameMacroRow.domain false) (Rows.fnExactSameMacroSpec.post enc Try.prog Try.f4 false true false false) := by
  refine returnsInHanded_of_change (C := Try.checked) own started (by kernel_rfl) Try.func4
    (ChangeSpec.witness6 (enc := enc) (C := Try.checked) false ⟨#[], #[zero_Macro, zero_Macro], []⟩ 8 (by kernel_rfl) (by kernel_rfl) (by kernel_rfl) (by kernel_rfl)) ?_
  intro W base args ds gs before hval0 hW hcnd _
  have hval : ∀ (j : Nat) t v, Try.f4.params[j]? = some t → args[j]? = some v → Value.okWide Try.prog W .any base t v := hval0
  have hW' := hW
  obtain ⟨p, q, hA0, hV, rfl, hfz, hnd⟩ := hW
  have hA : DataW.TrodAll enc Try.prog W 0 (fun _ => true) true Try.f4.params.toList args.toList ds p := hA0
  rw [Try.params4] at hA hval
  obtain ⟨v0, vs0, d0, ds0, p0, q0, hargs0, rfl, rfl, h0, r0⟩ := trodAll_cons hA
  obtain ⟨v1, vs1, d1, ds1, p1, q1, hargs1, rfl, rfl, h1, r1⟩ := trodAll_cons r0
  obtain ⟨rfl, rfl, rfl⟩ := trodAll_nil r1
  obtain rfl : args = #[v0, v1] := by cases args; simp_all
  obtain ⟨rfl, rfl⟩ := trodVars_none hV
  obtain ⟨cs0, rfl, _⟩ := okWide_struct Try.underlying37 (hval 0 37 v0 rfl rfl)
  obtain ⟨x0, fp0, H0⟩ := open_arg opens_Macro h0
  obtain ⟨cs1, rfl, _⟩ := okWide_struct Try.underlying37 (hval 1 37 v1 rfl rfl)
  obtain ⟨x1, fp1, H1⟩ := open_arg opens_Macro h1
  refine (walk _ x0 fp0 _ x1 fp1 W H0 H1).mono fun e W' ⟨he, hw⟩ => ?_
  subst he
  exact ⟨_, rfl, law_done laidOut readable rfl rfl Try.underlying4 hW' rfl rfl rfl hw⟩

theorem holds : Rows.FnExactSameMacroSaid :=
  OpenClaim.holds_of_wide 4 Try.f4 rfl rfl rfl rfl rfl rfl rfl ⟨rfl, rfl, rfl, rfl, rfl⟩ rfl rfl rfl rfl rfl (by kernel_rfl) Try.func4 (by kernel_rfl)
    (of_decide_eq_true (by kernel_rfl)) (by unfold Func.isWrapper; first | (rw [if_pos (by decide +kernel)]; kernel_rfl) | (rw [if_neg (by decide +kernel)]; exact ⟨rfl, rfl⟩))
    (fun os started H enc _ => lifted os started H enc)


end Go.Proofs.Ytdnjpjiepnhhhaa.exactSameMacro
