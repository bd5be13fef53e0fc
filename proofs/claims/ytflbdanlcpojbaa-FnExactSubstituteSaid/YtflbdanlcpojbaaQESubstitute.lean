/- Substitute of the program answers as its model at every argument; it writes into none; its answer owns its memory. No conditions. -/
import Derived.Test.YtflbdanlcpojbaaZU13
import Derived.Test.YtflbdanlcpojbaaZU2
set_option linter.unusedVariables false
set_option linter.unusedSimpArgs false
namespace Go.Proofs.Ytflbdanlcpojbaa.exactSubstitute
open Go.ChangeShapes Go.WideShapes Go.ChangeAt Go.RowKit Go.ChangeMaps

theorem boxes {w : World} {g : Nat} {arr : Array Value} {ty : TypeId} (h : w.heap[g]? = some (.cells arr ty (0, 0))) {w' : World} (hb : Below w.heap.size w w') : w'.heap[g]? = some (.cells arr ty (0, 0)) :=
  (hb.block g (Array.getElem?_eq_some_iff.1 h).1).trans h
theorem boxK {w : World} {g : Nat} {arr : Array Value} {ty : TypeId} {fp : List Nat} (h : w.heap[g]? = some (.cells arr ty (0, 0))) {w' : World} (hk : Kept fp w w') (hn : g ∉ fp) : w'.heap[g]? = some (.cells arr ty (0, 0)) :=
  (hk.block g (Array.getElem?_eq_some_iff.1 h).1 hn).trans h
theorem boxlt {w : World} {g : Nat} {arr : Array Value} {ty : TypeId} (h : w.heap[g]? = some (.cells arr ty (0, 0))) : g < w.heap.size := (Array.getElem?_eq_some_iff.1 h).1
theorem box_new (w : World) (arr : Array Value) (ty : TypeId) : (w.alloc (.cells arr ty)).heap[w.heap.size]? = some (.cells arr ty (0, 0)) := by
  show (w.heap.push _)[_]? = _; simp

set_option maxHeartbeats 16000000 in
set_option maxRecDepth 100000 in
theorem walk (v0 : List Value) (x0 : DMacro) (fp0 : List Nat) (v1 : Value) (x1 : (List (List Tok))) (fp1 : List Nat) (v2 : Value) (x2 : (List (List Tok))) (fp2 : List Nat) (w : World) (H0 : sMacro.R w v0 x0 fp0) (H1 : (sSlice (sSlice sTok)).R w [v1] x1 fp1) (H2 : (sSlice (sSlice sTok)).R w [v2] x2 fp2) :
    Calls Try.prog 4 #[.agg v0.toArray, v1, v2] w fun e w' => e = .returned (.bool true) ∧ Below w.heap.size w w' := by
  have HSP := Lib.hid (fun (W : World) (v0_ : List Value) (f0_ : List Nat) (v1_ : Value) (f1_ : List Nat) (v2_ : Value) (f2_ : List Nat) (hw0_ : wtMacro x0 ≤ 1048576) (hw1_ : wtTokenSS x1 ≤ 1048576) (hw2_ : wtTokenSS x2 ≤ 1048576) (h0_ : sMacro.R W v0_ x0 f0_) (h1_ : (sSlice (sSlice sTok)).R W [v1_] x1 f1_) (h2_ : (sSlice (sSlice sTok)).R W [v2_] x2 f2_) => spec_Substitute_w v0_ x0 f0_ v1_ x1 f1_ v2_ x2 f2_ W hw0_ hw1_ hw2_ h0_ h1_ h2_)
  have HIM := Lib.hid (fun (W : World) (v0_ : List Value) (f0_ : List Nat) (v1_ : Value) (f1_ : List Nat) (v2_ : Value) (f2_ : List Nat) (hw0_ : wtMacro x0 ≤ 1048576) (hw1_ : wtTokenSS x1 ≤ 1048576) (hw2_ : wtTokenSS x2 ≤ 1048576) (h0_ : sMacro.R W v0_ x0 f0_) (h1_ : (sSlice (sSlice sTok)).R W [v1_] x1 f1_) (h2_ : (sSlice (sSlice sTok)).R W [v2_] x2 f2_) => impl_Substitute_w v0_ x0 f0_ v1_ x1 f1_ v2_ x2 f2_ W hw0_ hw1_ hw2_ h0_ h1_ h2_)
  unfold RetSub at HSP
  unfold MineSub at HIM
  have HC := Lib.hid (Substitute_cnt x0 x1 x2)
  generalize subRes x0 x1 x2 = M at HSP HIM HC
  obtain ⟨md, mb⟩ := M
  have hB := Below.refl w.heap.size w
  have a0 := Seen.of H0
  have a1 := Seen.of H1
  have a2 := Seen.of H2
  obtain ⟨h1, h2, p5, p6, rfl, -, K3, K4, rfl⟩ := H0
  clear K3
  clear K4
  clear H1 H2
  have b7 := alloc_below' w (.cells #[.string x0.name, .bool x0.function, h1, h2] 39)
  have HB8 := Lib.hid (box_new w #[.string x0.name, .bool x0.function, h1, h2] 39)
  replace a0 := a0.below b7
  replace a1 := a1.below b7
  replace a2 := a2.below b7
  replace hB := hB.trans (b7.mono hB.size)
  have hz1 : w.heap.size ≤ (w.alloc (.cells #[.string x0.name, .bool x0.function, h1, h2] 39)).heap.size := b7.size
  clear b7
  have hy1 : w.heap.size + 1 ≤ (w.alloc (.cells #[.string x0.name, .bool x0.function, h1, h2] 39)).heap.size := boxlt HB8.out
  go_enter Try.func4, Try.ntmps4
  have q9 : (w.alloc (.cells #[.string x0.name, .bool x0.function, h1, h2] 39)).cell? ⟨w.heap.size, 0, none⟩ = some (.string x0.name) := cell_of_row _ _ 0 _ _ _ HB8.out
  have q10 : (w.alloc (.cells #[.string x0.name, .bool x0.function, h1, h2] 39)).cell? ⟨w.heap.size, 1, none⟩ = some (.bool x0.function) := cell_of_row _ _ 1 _ _ _ HB8.out
  have q11 : (w.alloc (.cells #[.string x0.name, .bool x0.function, h1, h2] 39)).cell? ⟨w.heap.size, 2, none⟩ = some (h1) := cell_of_row _ _ 2 _ _ _ HB8.out
  have q12 : (w.alloc (.cells #[.string x0.name, .bool x0.function, h1, h2] 39)).cell? ⟨w.heap.size, 3, none⟩ = some (h2) := cell_of_row _ _ 3 _ _ _ HB8.out
  go_wp2_with fail
  refine (szMacro _ _ _ _ _ (by omega) (by omega) a0.r).mono ?_
  clear q9 q10 q11 q12
  rintro e W2 ⟨r0, rfl, hr0, b13⟩
  replace a0 := a0.below b13
  replace a1 := a1.below b13
  replace a2 := a2.below b13
  replace HB8 := Lib.hid (boxes HB8.out b13)
  replace hB := hB.trans (b13.mono hB.size)
  have hz2 : (w.alloc (.cells #[.string x0.name, .bool x0.function, h1, h2] 39)).heap.size ≤ W2.heap.size := b13.size
  clear b13
  by_cases hneg0 : r0 < 0
  · go_wp2
    go_ret
    exact ⟨rfl, hB⟩
  have hw0 := (hr0.good hneg0).1
  have hl0 := hr0.le (by omega)
  have HW0 : Hid (wtMacro x0 ≤ 1048576) := by show _ ≤ _; omega
  clear hr0 hw0
  go_wp2_with fail
  refine (szTokenSS _ _ _ _ _ (by omega) (by omega) a1.r).mono ?_
  rintro e W3 ⟨r1, rfl, hr1, b14⟩
  replace a0 := a0.below b14
  replace a1 := a1.below b14
  replace a2 := a2.below b14
  replace HB8 := Lib.hid (boxes HB8.out b14)
  replace hB := hB.trans (b14.mono hB.size)
  have hz3 : W2.heap.size ≤ W3.heap.size := b14.size
  clear b14
  by_cases hneg1 : r1 < 0
  · go_wp2
    go_ret
    exact ⟨rfl, hB⟩
  have hw1 := (hr1.good hneg1).1
  have hl1 := hr1.le (by omega)
  have HW1 : Hid (wtTokenSS x1 ≤ 1048576) := by show _ ≤ _; omega
  clear hr1 hw1
  go_wp2_with fail
  refine (szTokenSS _ _ _ _ _ (by omega) (by omega) a2.r).mono ?_
  rintro e W4 ⟨r2, rfl, hr2, b15⟩
  replace a0 := a0.below b15
  replace a1 := a1.below b15
  replace a2 := a2.below b15
  replace HB8 := Lib.hid (boxes HB8.out b15)
  replace hB := hB.trans (b15.mono hB.size)
  have hz4 : W3.heap.size ≤ W4.heap.size := b15.size
  clear b15
  by_cases hneg2 : r2 < 0
  · go_wp2
    go_ret
    exact ⟨rfl, hB⟩
  have hw2 := (hr2.good hneg2).1
  have hl2 := hr2.le (by omega)
  have HW2 : Hid (wtTokenSS x2 ≤ 1048576) := by show _ ≤ _; omega
  clear hr2 hw2
  have q21 : W4.cell? ⟨w.heap.size, 0, none⟩ = some (.string x0.name) := cell_of_row _ _ 0 _ _ _ HB8.out
  have q22 : W4.cell? ⟨w.heap.size, 1, none⟩ = some (.bool x0.function) := cell_of_row _ _ 1 _ _ _ HB8.out
  have q23 : W4.cell? ⟨w.heap.size, 2, none⟩ = some (h1) := cell_of_row _ _ 2 _ _ _ HB8.out
  have q24 : W4.cell? ⟨w.heap.size, 3, none⟩ = some (h2) := cell_of_row _ _ 3 _ _ _ HB8.out
  go_wp2_with fail
  refine (toMacro _ _ _ _ HW0.out a0.r).mono ?_
  clear q21 q22 q23 q24
  rintro e W5 ⟨v16, f17, rfl, r18, o19, b20⟩
  replace a0 := a0.below b20
  replace a1 := a1.below b20
  replace a2 := a2.below b20
  replace HB8 := Lib.hid (boxes HB8.out b20)
  replace hB := hB.trans (b20.mono hB.size)
  have hz5 : W4.heap.size ≤ W5.heap.size := b20.size
  clear b20
  have c25 := Live.of r18 o19
  obtain ⟨h26, h27, p30, p31, rfl, -, K28, K29, rfl⟩ := r18
  obtain ⟨a32, cap33, rfl, -⟩ := open_rows K28
  clear K28
  obtain ⟨a34, cap35, rfl, -⟩ := open_rows K29
  clear K29
  clear o19
  go_wp2_with fail
  refine (toTokenSS _ _ _ _ HW1.out a1.r).mono ?_
  rintro e W6 ⟨v36, f37, rfl, r38, o39, b40⟩
  replace a0 := a0.below b40
  replace a1 := a1.below b40
  replace a2 := a2.below b40
  replace c25 := c25.below b40
  replace HB8 := Lib.hid (boxes HB8.out b40)
  replace hB := hB.trans (b40.mono hB.size)
  have hz6 : W5.heap.size ≤ W6.heap.size := b40.size
  clear b40
  have c41 := Live.of r38 o39
  clear r38 o39
  go_wp2_with fail
  refine (toTokenSS _ _ _ _ HW2.out a2.r).mono ?_
  rintro e W7 ⟨v42, f43, rfl, r44, o45, b46⟩
  replace a0 := a0.below b46
  replace a1 := a1.below b46
  replace a2 := a2.below b46
  replace c25 := c25.below b46
  replace c41 := c41.below b46
  replace HB8 := Lib.hid (boxes HB8.out b46)
  replace hB := hB.trans (b46.mono hB.size)
  have hz7 : W6.heap.size ≤ W7.heap.size := b46.size
  clear b46
  have c47 := Live.of r44 o45
  clear r44 o45
  go_wp2_with fail
  refine (HSP.out _ _ _ _ _ _ _ HW0.out HW1.out HW2.out c25.r c41.r c47.r).mono ?_
  rintro e W8 ⟨v49, f50, rfl, r51, -, b48⟩
  replace a0 := a0.below b48
  replace a1 := a1.below b48
  replace a2 := a2.below b48
  replace c25 := c25.below b48
  replace c41 := c41.below b48
  replace c47 := c47.below b48
  replace HB8 := Lib.hid (boxes HB8.out b48)
  replace hB := hB.trans (b48.mono hB.size)
  have hz8 : W7.heap.size ≤ W8.heap.size := b48.size
  clear b48
  have g53 := Seen.of r51
  clear r51
  clear c25
  clear c41
  clear c47
  have q59 : W8.cell? ⟨w.heap.size, 0, none⟩ = some (.string x0.name) := cell_of_row _ _ 0 _ _ _ HB8.out
  have q60 : W8.cell? ⟨w.heap.size, 1, none⟩ = some (.bool x0.function) := cell_of_row _ _ 1 _ _ _ HB8.out
  have q61 : W8.cell? ⟨w.heap.size, 2, none⟩ = some (h1) := cell_of_row _ _ 2 _ _ _ HB8.out
  have q62 : W8.cell? ⟨w.heap.size, 3, none⟩ = some (h2) := cell_of_row _ _ 3 _ _ _ HB8.out
  go_wp2_with fail
  refine (toMacro _ _ _ _ HW0.out a0.r).mono ?_
  clear q59 q60 q61 q62
  rintro e W9 ⟨v54, f55, rfl, r56, o57, b58⟩
  replace a0 := a0.below b58
  replace a1 := a1.below b58
  replace a2 := a2.below b58
  replace g53 := g53.below b58
  replace HB8 := Lib.hid (boxes HB8.out b58)
  replace hB := hB.trans (b58.mono hB.size)
  have hz9 : W8.heap.size ≤ W9.heap.size := b58.size
  clear b58
  have c63 := Live.of r56 o57
  obtain ⟨h64, h65, p68, p69, rfl, -, K66, K67, rfl⟩ := r56
  obtain ⟨a70, cap71, rfl, -⟩ := open_rows K66
  clear K66
  obtain ⟨a72, cap73, rfl, -⟩ := open_rows K67
  clear K67
  clear o57
  have b74 := alloc_below' W9 (.cells #[.string x0.name, .bool x0.function, .slice a70 x0.params.length cap71, .slice a72 x0.body.length cap73] 26)
  have HB75 := Lib.hid (box_new W9 #[.string x0.name, .bool x0.function, .slice a70 x0.params.length cap71, .slice a72 x0.body.length cap73] 26)
  replace a0 := a0.below b74
  replace a1 := a1.below b74
  replace a2 := a2.below b74
  replace g53 := g53.below b74
  replace c63 := c63.below b74
  replace HB8 := Lib.hid (boxes HB8.out b74)
  replace hB := hB.trans (b74.mono hB.size)
  have hz10 : W9.heap.size ≤ (W9.alloc (.cells #[.string x0.name, .bool x0.function, .slice a70 x0.params.length cap71, .slice a72 x0.body.length cap73] 26)).heap.size := b74.size
  clear b74
  have hy10 : W9.heap.size + 1 ≤ (W9.alloc (.cells #[.string x0.name, .bool x0.function, .slice a70 x0.params.length cap71, .slice a72 x0.body.length cap73] 26)).heap.size := boxlt HB75.out
  go_wp2_with fail
  refine (toTokenSS _ _ _ _ HW1.out a1.r).mono ?_
  rintro e W11 ⟨v76, f77, rfl, r78, o79, b80⟩
  replace a0 := a0.below b80
  replace a1 := a1.below b80
  replace a2 := a2.below b80
  replace g53 := g53.below b80
  replace c63 := c63.below b80
  replace HB8 := Lib.hid (boxes HB8.out b80)
  replace HB75 := Lib.hid (boxes HB75.out b80)
  replace hB := hB.trans (b80.mono hB.size)
  have hz11 : (W9.alloc (.cells #[.string x0.name, .bool x0.function, .slice a70 x0.params.length cap71, .slice a72 x0.body.length cap73] 26)).heap.size ≤ W11.heap.size := b80.size
  clear b80
  have c81 := Live.of r78 o79
  clear r78 o79
  go_wp2_with fail
  refine (toTokenSS _ _ _ _ HW2.out a2.r).mono ?_
  rintro e W12 ⟨v82, f83, rfl, r84, o85, b86⟩
  replace a0 := a0.below b86
  replace a1 := a1.below b86
  replace a2 := a2.below b86
  replace g53 := g53.below b86
  replace c63 := c63.below b86
  replace c81 := c81.below b86
  replace HB8 := Lib.hid (boxes HB8.out b86)
  replace HB75 := Lib.hid (boxes HB75.out b86)
  replace hB := hB.trans (b86.mono hB.size)
  have hz12 : W11.heap.size ≤ W12.heap.size := b86.size
  clear b86
  have c87 := Live.of r84 o85
  clear r84 o85
  have q89 : W12.cell? ⟨W9.heap.size, 0, none⟩ = some (.string x0.name) := cell_of_row _ _ 0 _ _ _ HB75.out
  have q90 : W12.cell? ⟨W9.heap.size, 1, none⟩ = some (.bool x0.function) := cell_of_row _ _ 1 _ _ _ HB75.out
  have q91 : W12.cell? ⟨W9.heap.size, 2, none⟩ = some (.slice a70 x0.params.length cap71) := cell_of_row _ _ 2 _ _ _ HB75.out
  have q92 : W12.cell? ⟨W9.heap.size, 3, none⟩ = some (.slice a72 x0.body.length cap73) := cell_of_row _ _ 3 _ _ _ HB75.out
  go_wp2_with fail
  refine (HIM.out _ _ _ _ _ _ _ HW0.out HW1.out HW2.out c63.r c81.r c87.r).mono ?_
  clear q89 q90 q91 q92
  rintro e W13 ⟨v93, f94, rfl, r95, o96, b88⟩
  replace a0 := a0.below b88
  replace a1 := a1.below b88
  replace a2 := a2.below b88
  replace g53 := g53.below b88
  replace c63 := c63.below b88
  replace c81 := c81.below b88
  replace c87 := c87.below b88
  replace HB8 := Lib.hid (boxes HB8.out b88)
  replace HB75 := Lib.hid (boxes HB75.out b88)
  replace hB := hB.trans (b88.mono hB.size)
  have hz13 : W12.heap.size ≤ W13.heap.size := b88.size
  clear b88
  have g97 := Live.of r95 o96
  clear o96
  clear r95
  go_wp2_with fail
  refine (eqTokenS_same _ _ _ _ _ _ g97.r g53.r).mono ?_
  rintro e W14 ⟨rfl, b98⟩
  replace a0 := a0.below b98
  replace a1 := a1.below b98
  replace a2 := a2.below b98
  replace g53 := g53.below b98
  replace c63 := c63.below b98
  replace c81 := c81.below b98
  replace c87 := c87.below b98
  replace g97 := g97.below b98
  replace HB8 := Lib.hid (boxes HB8.out b98)
  replace HB75 := Lib.hid (boxes HB75.out b98)
  replace hB := hB.trans (b98.mono hB.size)
  have hz14 : W13.heap.size ≤ W14.heap.size := b98.size
  clear b98
  have hga := boxlt HB8.out
  have hgb := boxlt HB75.out
  have HD99 : Hid (∀ W, Below W14.heap.size W14 W → Calls Try.prog 12 #[.agg #[.string x0.name, .bool x0.function, h1, h2]] W (MadeC sMacro x0 W)) := fun W hW => toMacro _ _ _ W HW0.out (sMacro.below a0.r hW)
  have HE100 : Hid (∀ W cs fp, Below W14.heap.size W14 W → sMacro.R W cs x0 fp → Calls Try.prog 15 #[.agg #[.string x0.name, .bool x0.function, .slice a70 x0.params.length cap71, .slice a72 x0.body.length cap73], .agg cs.toArray] W fun e w' => e = .returned (.bool true) ∧ Below W.heap.size W w') := fun W cs fp hW hr => eqMacro_same _ _ _ _ _ W (sMacro.below c63.r hW) hr
  go_wp2_with fail
  have q101 : W14.cell? ⟨w.heap.size, 0, none⟩ = some (.string x0.name) := cell_of_row _ _ 0 _ _ _ HB8.out
  have q102 : W14.cell? ⟨w.heap.size, 1, none⟩ = some (.bool x0.function) := cell_of_row _ _ 1 _ _ _ HB8.out
  have q103 : W14.cell? ⟨w.heap.size, 2, none⟩ = some (h1) := cell_of_row _ _ 2 _ _ _ HB8.out
  have q104 : W14.cell? ⟨w.heap.size, 3, none⟩ = some (h2) := cell_of_row _ _ 3 _ _ _ HB8.out
  have q105 : W14.cell? ⟨W9.heap.size, 0, none⟩ = some (.string x0.name) := cell_of_row _ _ 0 _ _ _ HB75.out
  have q106 : W14.cell? ⟨W9.heap.size, 1, none⟩ = some (.bool x0.function) := cell_of_row _ _ 1 _ _ _ HB75.out
  have q107 : W14.cell? ⟨W9.heap.size, 2, none⟩ = some (.slice a70 x0.params.length cap71) := cell_of_row _ _ 2 _ _ _ HB75.out
  have q108 : W14.cell? ⟨W9.heap.size, 3, none⟩ = some (.slice a72 x0.body.length cap73) := cell_of_row _ _ 3 _ _ _ HB75.out
  go_region_held3 (fun w' => w'.cell? ⟨w.heap.size, 0, none⟩ = some (.string x0.name) ∧ w'.cell? ⟨w.heap.size, 1, none⟩ = some (.bool x0.function) ∧ w'.cell? ⟨w.heap.size, 2, none⟩ = some (h1) ∧ w'.cell? ⟨w.heap.size, 3, none⟩ = some (h2) ∧ w'.cell? ⟨W9.heap.size, 0, none⟩ = some (.string x0.name) ∧ w'.cell? ⟨W9.heap.size, 1, none⟩ = some (.bool x0.function) ∧ w'.cell? ⟨W9.heap.size, 2, none⟩ = some (.slice a70 x0.params.length cap71) ∧ w'.cell? ⟨W9.heap.size, 3, none⟩ = some (.slice a72 x0.body.length cap73))
    (first | exact ⟨q101, q102, q103, q104, q105, q106, q107, q108⟩ | exact ⟨(b30.cell (by simp; omega)).trans q101, (b30.cell (by simp; omega)).trans q102, (b30.cell (by simp; omega)).trans q103, (b30.cell (by simp; omega)).trans q104, (b30.cell (by simp; omega)).trans q105, (b30.cell (by simp; omega)).trans q106, (b30.cell (by simp; omega)).trans q107, (b30.cell (by simp; omega)).trans q108⟩ | exact ⟨((b30.trans (b31.mono b30.size)).cell (by simp; omega)).trans q101, ((b30.trans (b31.mono b30.size)).cell (by simp; omega)).trans q102, ((b30.trans (b31.mono b30.size)).cell (by simp; omega)).trans q103, ((b30.trans (b31.mono b30.size)).cell (by simp; omega)).trans q104, ((b30.trans (b31.mono b30.size)).cell (by simp; omega)).trans q105, ((b30.trans (b31.mono b30.size)).cell (by simp; omega)).trans q106, ((b30.trans (b31.mono b30.size)).cell (by simp; omega)).trans q107, ((b30.trans (b31.mono b30.size)).cell (by simp; omega)).trans q108⟩)
    (first
      | (go_at_call 12; refine (HD99.out _ (belowN (Below.refl _ _) 1)).mono ?_; rintro e w2 ⟨cs2, fp2, rfl, r2, o2, b30⟩)
      | (go_at_call 15; refine (HE100.out _ _ _ ((belowN (Below.refl _ _) 1).trans (b30.mono (Nat.le_refl _))) r2).mono ?_; rintro e w3 ⟨rfl, b31⟩))
  have b109 := (belowN (Below.refl W14.heap.size W14) 1).trans (b30.trans (b31.mono b30.size))
  clear q101 q102 q103 q104 q105 q106 q107 q108
  clear HD99 HE100 hga hgb
  replace a0 := a0.below b109
  replace a1 := a1.below b109
  replace a2 := a2.below b109
  replace g53 := g53.below b109
  replace c63 := c63.below b109
  replace c81 := c81.below b109
  replace c87 := c87.below b109
  replace g97 := g97.below b109
  replace HB8 := Lib.hid (boxes HB8.out b109)
  replace HB75 := Lib.hid (boxes HB75.out b109)
  replace hB := hB.trans (b109.mono hB.size)
  have hz15 : W14.heap.size ≤ w3.heap.size := b109.size
  clear b109
  clear b30 b31
  generalize w3 = W16 at *
  go_wp2_with fail
  refine (toTokenSS _ _ _ _ HW1.out a1.r).mono ?_
  rintro e W17 ⟨v110, f111, rfl, r112, o113, b114⟩
  replace a0 := a0.below b114
  replace a1 := a1.below b114
  replace a2 := a2.below b114
  replace g53 := g53.below b114
  replace c63 := c63.below b114
  replace c81 := c81.below b114
  replace c87 := c87.below b114
  replace g97 := g97.below b114
  replace HB8 := Lib.hid (boxes HB8.out b114)
  replace HB75 := Lib.hid (boxes HB75.out b114)
  replace hB := hB.trans (b114.mono hB.size)
  have hz16 : W16.heap.size ≤ W17.heap.size := b114.size
  clear b114
  have c115 := Live.of r112 o113
  clear r112 o113
  go_wp2_with fail
  refine (eqTokenSS_same _ _ _ _ _ _ c81.r c115.r).mono ?_
  rintro e W18 ⟨rfl, b116⟩
  replace a0 := a0.below b116
  replace a1 := a1.below b116
  replace a2 := a2.below b116
  replace g53 := g53.below b116
  replace c63 := c63.below b116
  replace c81 := c81.below b116
  replace c87 := c87.below b116
  replace g97 := g97.below b116
  replace c115 := c115.below b116
  replace HB8 := Lib.hid (boxes HB8.out b116)
  replace HB75 := Lib.hid (boxes HB75.out b116)
  replace hB := hB.trans (b116.mono hB.size)
  have hz17 : W17.heap.size ≤ W18.heap.size := b116.size
  clear b116
  clear c115
  go_wp2_with fail
  refine (toTokenSS _ _ _ _ HW2.out a2.r).mono ?_
  rintro e W19 ⟨v117, f118, rfl, r119, o120, b121⟩
  replace a0 := a0.below b121
  replace a1 := a1.below b121
  replace a2 := a2.below b121
  replace g53 := g53.below b121
  replace c63 := c63.below b121
  replace c81 := c81.below b121
  replace c87 := c87.below b121
  replace g97 := g97.below b121
  replace HB8 := Lib.hid (boxes HB8.out b121)
  replace HB75 := Lib.hid (boxes HB75.out b121)
  replace hB := hB.trans (b121.mono hB.size)
  have hz18 : W18.heap.size ≤ W19.heap.size := b121.size
  clear b121
  have c122 := Live.of r119 o120
  clear r119 o120
  go_wp2_with fail
  refine (eqTokenSS_same _ _ _ _ _ _ c87.r c122.r).mono ?_
  rintro e W20 ⟨rfl, b123⟩
  replace a0 := a0.below b123
  replace a1 := a1.below b123
  replace a2 := a2.below b123
  replace g53 := g53.below b123
  replace c63 := c63.below b123
  replace c81 := c81.below b123
  replace c87 := c87.below b123
  replace g97 := g97.below b123
  replace c122 := c122.below b123
  replace HB8 := Lib.hid (boxes HB8.out b123)
  replace HB75 := Lib.hid (boxes HB75.out b123)
  replace hB := hB.trans (b123.mono hB.size)
  have hz19 : W19.heap.size ≤ W20.heap.size := b123.size
  clear b123
  clear c122
  have q126 : W20.cell? ⟨W9.heap.size, 0, none⟩ = some (.string x0.name) := cell_of_row _ _ 0 _ _ _ HB75.out
  have q127 : W20.cell? ⟨W9.heap.size, 1, none⟩ = some (.bool x0.function) := cell_of_row _ _ 1 _ _ _ HB75.out
  have q128 : W20.cell? ⟨W9.heap.size, 2, none⟩ = some (.slice a70 x0.params.length cap71) := cell_of_row _ _ 2 _ _ _ HB75.out
  have q129 : W20.cell? ⟨W9.heap.size, 3, none⟩ = some (.slice a72 x0.body.length cap73) := cell_of_row _ _ 3 _ _ _ HB75.out
  go_wp2_with fail
  refine (markMacro _ _ _ W8.heap.size _ _ (by first | omega | (have hc := HC.out; have hw0 := HW0.out; have hw1 := HW1.out; have hw2 := HW2.out; have hn0 := cntVMacro_le x0; have hn1 := cntTokenSS_le x1; have hn2 := cntTokenSS_le x2; omega)) (by first | omega | (have hc := HC.out; have hw0 := HW0.out; have hw1 := HW1.out; have hw2 := HW2.out; have hn0 := cntVMacro_le x0; have hn1 := cntTokenSS_le x1; have hn2 := cntTokenSS_le x2; omega)) c63.r c63.o).mono ?_
  clear q126 q127 q128 q129
  rintro e W21 ⟨rfl, r124, o125, hk⟩
  replace a0 := a0.kept hk c63.o (by omega)
  replace a1 := a1.kept hk c63.o (by omega)
  replace a2 := a2.kept hk c63.o (by omega)
  replace g53 := g53.kept hk c63.o (by omega)
  replace c81 := c81.kept' hk (fun b hb => Nat.lt_of_lt_of_le (c63.hi b hb) (by omega))
  replace c87 := c87.kept' hk (fun b hb => Nat.lt_of_lt_of_le (c63.hi b hb) (by omega))
  replace g97 := g97.kept' hk (fun b hb => Nat.lt_of_lt_of_le (c63.hi b hb) (by omega))
  replace HB8 := Lib.hid (boxK HB8.out hk (fun hx => by have h1 := (c63.o.2 _ hx).1; have h2 := c63.hi _ hx; omega))
  replace HB75 := Lib.hid (boxK HB75.out hk (fun hx => by have h1 := (c63.o.2 _ hx).1; have h2 := c63.hi _ hx; omega))
  replace hB := hB.trans (hk.below' c63.o (by first | exact Nat.le_refl _ | omega) (by omega))
  have hz20 : W20.heap.size ≤ W21.heap.size := hk.size
  replace c63 : Live _ _ _ _ _ _ _ := ⟨r124, o125, c63.hi⟩
  clear r124 o125 hk
  go_wp2_with fail
  refine (markTokenSS _ _ _ (W9.alloc (.cells #[.string x0.name, .bool x0.function, .slice a70 x0.params.length cap71, .slice a72 x0.body.length cap73] 26)).heap.size _ _ (by first | omega | (have hc := HC.out; have hw0 := HW0.out; have hw1 := HW1.out; have hw2 := HW2.out; have hn0 := cntVMacro_le x0; have hn1 := cntTokenSS_le x1; have hn2 := cntTokenSS_le x2; omega)) (by first | omega | (have hc := HC.out; have hw0 := HW0.out; have hw1 := HW1.out; have hw2 := HW2.out; have hn0 := cntVMacro_le x0; have hn1 := cntTokenSS_le x1; have hn2 := cntTokenSS_le x2; omega)) c81.r c81.o).mono ?_
  rintro e W22 ⟨rfl, r130, o131, hk⟩
  replace a0 := a0.kept hk c81.o (by omega)
  replace a1 := a1.kept hk c81.o (by omega)
  replace a2 := a2.kept hk c81.o (by omega)
  replace g53 := g53.kept hk c81.o (by omega)
  replace c63 := c63.kept hk c81.o (by omega)
  replace c87 := c87.kept' hk (fun b hb => Nat.lt_of_lt_of_le (c81.hi b hb) (by omega))
  replace g97 := g97.kept' hk (fun b hb => Nat.lt_of_lt_of_le (c81.hi b hb) (by omega))
  replace HB8 := Lib.hid (boxK HB8.out hk (fun hx => by have h1 := (c81.o.2 _ hx).1; have h2 := c81.hi _ hx; omega))
  replace HB75 := Lib.hid (boxK HB75.out hk (fun hx => by have h1 := (c81.o.2 _ hx).1; have h2 := c81.hi _ hx; omega))
  replace hB := hB.trans (hk.below' c81.o (by first | exact Nat.le_refl _ | omega) (by omega))
  have hz21 : W21.heap.size ≤ W22.heap.size := hk.size
  replace c81 : Live _ _ _ _ _ _ _ := ⟨r130, o131, c81.hi⟩
  clear r130 o131 hk
  go_wp2_with fail
  refine (markTokenSS _ _ _ W11.heap.size _ _ (by first | omega | (have hc := HC.out; have hw0 := HW0.out; have hw1 := HW1.out; have hw2 := HW2.out; have hn0 := cntVMacro_le x0; have hn1 := cntTokenSS_le x1; have hn2 := cntTokenSS_le x2; omega)) (by first | omega | (have hc := HC.out; have hw0 := HW0.out; have hw1 := HW1.out; have hw2 := HW2.out; have hn0 := cntVMacro_le x0; have hn1 := cntTokenSS_le x1; have hn2 := cntTokenSS_le x2; omega)) c87.r c87.o).mono ?_
  rintro e W23 ⟨rfl, r132, o133, hk⟩
  replace a0 := a0.kept hk c87.o (by omega)
  replace a1 := a1.kept hk c87.o (by omega)
  replace a2 := a2.kept hk c87.o (by omega)
  replace g53 := g53.kept hk c87.o (by omega)
  replace c63 := c63.kept hk c87.o (by omega)
  replace c81 := c81.kept hk c87.o (by omega)
  replace g97 := g97.kept' hk (fun b hb => Nat.lt_of_lt_of_le (c87.hi b hb) (by omega))
  replace HB8 := Lib.hid (boxK HB8.out hk (fun hx => by have h1 := (c87.o.2 _ hx).1; have h2 := c87.hi _ hx; omega))
  replace HB75 := Lib.hid (boxK HB75.out hk (fun hx => by have h1 := (c87.o.2 _ hx).1; have h2 := c87.hi _ hx; omega))
  replace hB := hB.trans (hk.below' c87.o (by first | exact Nat.le_refl _ | omega) (by omega))
  have hz22 : W22.heap.size ≤ W23.heap.size := hk.size
  replace c87 : Live _ _ _ _ _ _ _ := ⟨r132, o133, c87.hi⟩
  clear r132 o133 hk
  go_wp2_with fail
  refine (eqTokenS_same _ _ _ _ _ _ g97.r g53.r).mono ?_
  rintro e W24 ⟨rfl, b134⟩
  replace a0 := a0.below b134
  replace a1 := a1.below b134
  replace a2 := a2.below b134
  replace g53 := g53.below b134
  replace c63 := c63.below b134
  replace c81 := c81.below b134
  replace c87 := c87.below b134
  replace g97 := g97.below b134
  replace HB8 := Lib.hid (boxes HB8.out b134)
  replace HB75 := Lib.hid (boxes HB75.out b134)
  replace hB := hB.trans (b134.mono hB.size)
  have hz23 : W23.heap.size ≤ W24.heap.size := b134.size
  clear b134
  clear c63
  clear HB75
  clear c81
  clear c87
  go_wp2_with fail
  refine (markTokenS _ _ _ W12.heap.size _ _ (by first | omega | (have hc := HC.out; have hw0 := HW0.out; have hw1 := HW1.out; have hw2 := HW2.out; have hn0 := cntVMacro_le x0; have hn1 := cntTokenSS_le x1; have hn2 := cntTokenSS_le x2; omega)) (by first | omega | (have hc := HC.out; have hw0 := HW0.out; have hw1 := HW1.out; have hw2 := HW2.out; have hn0 := cntVMacro_le x0; have hn1 := cntTokenSS_le x1; have hn2 := cntTokenSS_le x2; omega)) g97.r g97.o).mono ?_
  rintro e W25 ⟨rfl, r135, o136, hk⟩
  replace a0 := a0.kept hk g97.o (by omega)
  replace a1 := a1.kept hk g97.o (by omega)
  replace a2 := a2.kept hk g97.o (by omega)
  replace g53 := g53.kept hk g97.o (by omega)
  replace HB8 := Lib.hid (boxK HB8.out hk (fun hx => by have h1 := (g97.o.2 _ hx).1; have h2 := g97.hi _ hx; omega))
  replace hB := hB.trans (hk.below' g97.o (by first | exact Nat.le_refl _ | omega) (by omega))
  have hz24 : W24.heap.size ≤ W25.heap.size := hk.size
  replace g97 : Live _ _ _ _ _ _ _ := ⟨r135, o136, g97.hi⟩
  clear r135 o136 hk
  go_wp2_with fail
  refine (heldTokenS _ _ _ _ _ (by first | omega | (have hc := HC.out; have hw0 := HW0.out; have hw1 := HW1.out; have hw2 := HW2.out; have hn0 := cntVMacro_le x0; have hn1 := cntTokenSS_le x1; have hn2 := cntTokenSS_le x2; omega)) (by first | omega | (have hc := HC.out; have hw0 := HW0.out; have hw1 := HW1.out; have hw2 := HW2.out; have hn0 := cntVMacro_le x0; have hn1 := cntTokenSS_le x1; have hn2 := cntTokenSS_le x2; omega)) g97.r).mono ?_
  rintro e W26 ⟨rfl, b137⟩
  replace a0 := a0.below b137
  replace a1 := a1.below b137
  replace a2 := a2.below b137
  replace g53 := g53.below b137
  replace g97 := g97.below b137
  replace HB8 := Lib.hid (boxes HB8.out b137)
  replace hB := hB.trans (b137.mono hB.size)
  have hz25 : W25.heap.size ≤ W26.heap.size := b137.size
  clear b137
  have q143 : W26.cell? ⟨w.heap.size, 0, none⟩ = some (.string x0.name) := cell_of_row _ _ 0 _ _ _ HB8.out
  have q144 : W26.cell? ⟨w.heap.size, 1, none⟩ = some (.bool x0.function) := cell_of_row _ _ 1 _ _ _ HB8.out
  have q145 : W26.cell? ⟨w.heap.size, 2, none⟩ = some (h1) := cell_of_row _ _ 2 _ _ _ HB8.out
  have q146 : W26.cell? ⟨w.heap.size, 3, none⟩ = some (h2) := cell_of_row _ _ 3 _ _ _ HB8.out
  go_wp2_with fail
  refine (toMacro _ _ _ _ HW0.out a0.r).mono ?_
  clear q143 q144 q145 q146
  rintro e W27 ⟨v138, f139, rfl, r140, o141, b142⟩
  replace a0 := a0.below b142
  replace a1 := a1.below b142
  replace a2 := a2.below b142
  replace g53 := g53.below b142
  replace g97 := g97.below b142
  replace HB8 := Lib.hid (boxes HB8.out b142)
  replace hB := hB.trans (b142.mono hB.size)
  have hz26 : W26.heap.size ≤ W27.heap.size := b142.size
  clear b142
  have c147 := Live.of r140 o141
  obtain ⟨h148, h149, p152, p153, rfl, -, K150, K151, rfl⟩ := r140
  obtain ⟨a154, cap155, rfl, -⟩ := open_rows K150
  clear K150
  obtain ⟨a156, cap157, rfl, -⟩ := open_rows K151
  clear K151
  clear o141
  go_wp2_with fail
  refine (toTokenSS _ _ _ _ HW1.out a1.r).mono ?_
  rintro e W28 ⟨v158, f159, rfl, r160, o161, b162⟩
  replace a0 := a0.below b162
  replace a1 := a1.below b162
  replace a2 := a2.below b162
  replace g53 := g53.below b162
  replace g97 := g97.below b162
  replace c147 := c147.below b162
  replace HB8 := Lib.hid (boxes HB8.out b162)
  replace hB := hB.trans (b162.mono hB.size)
  have hz27 : W27.heap.size ≤ W28.heap.size := b162.size
  clear b162
  have c163 := Live.of r160 o161
  clear r160 o161
  go_wp2_with fail
  refine (toTokenSS _ _ _ _ HW2.out a2.r).mono ?_
  rintro e W29 ⟨v164, f165, rfl, r166, o167, b168⟩
  replace a0 := a0.below b168
  replace a1 := a1.below b168
  replace a2 := a2.below b168
  replace g53 := g53.below b168
  replace g97 := g97.below b168
  replace c147 := c147.below b168
  replace c163 := c163.below b168
  replace HB8 := Lib.hid (boxes HB8.out b168)
  replace hB := hB.trans (b168.mono hB.size)
  have hz28 : W28.heap.size ≤ W29.heap.size := b168.size
  clear b168
  have c169 := Live.of r166 o167
  clear r166 o167
  go_wp2_with fail
  refine (HIM.out _ _ _ _ _ _ _ HW0.out HW1.out HW2.out c147.r c163.r c169.r).mono ?_
  rintro e W30 ⟨v171, f172, rfl, r173, o174, b170⟩
  replace a0 := a0.below b170
  replace a1 := a1.below b170
  replace a2 := a2.below b170
  replace g53 := g53.below b170
  replace g97 := g97.below b170
  replace c147 := c147.below b170
  replace c163 := c163.below b170
  replace c169 := c169.below b170
  replace HB8 := Lib.hid (boxes HB8.out b170)
  replace hB := hB.trans (b170.mono hB.size)
  have hz29 : W29.heap.size ≤ W30.heap.size := b170.size
  clear b170
  have g175 := Live.of r173 o174
  clear o174
  clear r173
  go_wp2_with fail
  refine (eqTokenS_same _ _ _ _ _ _ g175.r g53.r).mono ?_
  rintro e W31 ⟨rfl, b176⟩
  replace a0 := a0.below b176
  replace a1 := a1.below b176
  replace a2 := a2.below b176
  replace g53 := g53.below b176
  replace g97 := g97.below b176
  replace c147 := c147.below b176
  replace c163 := c163.below b176
  replace c169 := c169.below b176
  replace g175 := g175.below b176
  replace HB8 := Lib.hid (boxes HB8.out b176)
  replace hB := hB.trans (b176.mono hB.size)
  have hz30 : W30.heap.size ≤ W31.heap.size := b176.size
  clear b176
  go_wp2_with fail
  refine (heldTokenS _ _ _ _ _ (by first | omega | (have hc := HC.out; have hw0 := HW0.out; have hw1 := HW1.out; have hw2 := HW2.out; have hn0 := cntVMacro_le x0; have hn1 := cntTokenSS_le x1; have hn2 := cntTokenSS_le x2; omega)) (by first | omega | (have hc := HC.out; have hw0 := HW0.out; have hw1 := HW1.out; have hw2 := HW2.out; have hn0 := cntVMacro_le x0; have hn1 := cntTokenSS_le x1; have hn2 := cntTokenSS_le x2; omega)) g97.r).mono ?_
  rintro e W32 ⟨rfl, b177⟩
  replace a0 := a0.below b177
  replace a1 := a1.below b177
  replace a2 := a2.below b177
  replace g53 := g53.below b177
  replace g97 := g97.below b177
  replace c147 := c147.below b177
  replace c163 := c163.below b177
  replace c169 := c169.below b177
  replace g175 := g175.below b177
  replace HB8 := Lib.hid (boxes HB8.out b177)
  replace hB := hB.trans (b177.mono hB.size)
  have hz31 : W31.heap.size ≤ W32.heap.size := b177.size
  clear b177
  go_wp2
  go_ret
  exact ⟨rfl, hB⟩

theorem own : ownKnob Try.prog.godebug = none := by kernel_rfl
theorem laidOut : laidOutB Try.prog = true := by kernel_rfl
theorem readable : ∀ t ∈ Try.f4.params.toList, Try.prog.readableRec t = true ∧ t < Try.prog.types.size := by
  rw [Try.params4]
  intro t ht
  simp only [List.mem_cons, List.not_mem_nil, or_false] at ht
  first
    | (subst ht; exact ⟨by kernel_rfl, of_decide_eq_true (by kernel_rfl)⟩)
    | (rcases ht with rfl | rfl | rfl <;> exact ⟨by kernel_rfl, of_decide_eq_true (by kernel_rfl)⟩)

set_option maxRecDepth 100000 in
theorem lifted (os : Os) (started : os.Started) (H : Type) (enc : TypeId × Value → H) :
    ReturnsInHanded {} Try.checked os 4 .any (Rows.fnExactSubstituteSpec.pre6 enc Try.prog Try.f4 Rows.fnExactSubstituteRow.domain false) (Rows.fnExactSubstituteSpec.post enc Try.prog Try.f4 false true false false) := by
  refine returnsInHanded_of_change (C := Try.checked) own started (by kernel_rfl) Try.func4
    (ChangeSpec.witness6 (enc := enc) (C := Try.checked) false ⟨#[], #[zero_Macro, .slice none 0 0, .slice none 0 0], []⟩ 8 (by kernel_rfl) (by kernel_rfl) (by kernel_rfl) (by kernel_rfl)) ?_
  intro W base args ds gs before hval0 hW hcnd _
  have hval : ∀ (j : Nat) t v, Try.f4.params[j]? = some t → args[j]? = some v → Value.okWide Try.prog W .any base t v := hval0
  have hW' := hW
  obtain ⟨p, q, hA0, hV, rfl, hfz, hnd⟩ := hW
  have hA : DataW.TrodAll enc Try.prog W 0 (fun _ => true) true Try.f4.params.toList args.toList ds p := hA0
  rw [Try.params4] at hA hval
  obtain ⟨v0, vs0, d0, ds0, p0, q0, hargs0, rfl, rfl, h0, r0⟩ := trodAll_cons hA
  obtain ⟨v1, vs1, d1, ds1, p1, q1, hargs1, rfl, rfl, h1, r1⟩ := trodAll_cons r0
  obtain ⟨v2, vs2, d2, ds2, p2, q2, hargs2, rfl, rfl, h2, r2⟩ := trodAll_cons r1
  obtain ⟨rfl, rfl, rfl⟩ := trodAll_nil r2
  obtain rfl : args = #[v0, v1, v2] := by cases args; simp_all
  obtain ⟨rfl, rfl⟩ := trodVars_none hV
  obtain ⟨cs0, rfl, _⟩ := okWide_struct Try.underlying39 (hval 0 39 v0 rfl rfl)
  obtain ⟨x0, fp0, H0⟩ := open_arg opens_Macro h0
  obtain ⟨a1, len1, cap1, rfl⟩ := okWide_slice Try.underlying40 (hval 1 40 v1 rfl rfl)
  obtain ⟨x1, fp1, H1⟩ := open_arg (opens_slice Try.underlying40 (by kernel_rfl) (by decide) (opens_slice Try.underlying37 (by kernel_rfl) (by decide) opens_Token)) h1
  obtain ⟨a2, len2, cap2, rfl⟩ := okWide_slice Try.underlying40 (hval 2 40 v2 rfl rfl)
  obtain ⟨x2, fp2, H2⟩ := open_arg (opens_slice Try.underlying40 (by kernel_rfl) (by decide) (opens_slice Try.underlying37 (by kernel_rfl) (by decide) opens_Token)) h2
  refine (walk _ x0 fp0 _ x1 fp1 _ x2 fp2 W H0 H1 H2).mono fun e W' ⟨he, hw⟩ => ?_
  subst he
  exact ⟨_, rfl, law_done laidOut readable rfl rfl Try.underlying4 hW' rfl rfl rfl hw⟩

theorem holds : Rows.FnExactSubstituteSaid :=
  OpenClaim.holds_of_wide 4 Try.f4 rfl rfl rfl rfl rfl rfl rfl ⟨rfl, rfl, rfl, rfl, rfl⟩ rfl rfl rfl rfl rfl (by kernel_rfl) Try.func4 (by kernel_rfl)
    (of_decide_eq_true (by kernel_rfl)) (by unfold Func.isWrapper; first | (rw [if_pos (by decide +kernel)]; kernel_rfl) | (rw [if_neg (by decide +kernel)]; exact ⟨rfl, rfl⟩))
    (fun os started H enc _ => lifted os started H enc)


end Go.Proofs.Ytflbdanlcpojbaa.exactSubstitute
