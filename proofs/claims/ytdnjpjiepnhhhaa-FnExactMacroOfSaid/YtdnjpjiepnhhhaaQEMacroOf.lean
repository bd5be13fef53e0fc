/- MacroOf of the program answers as its model at every argument; it writes into none; its answer owns its memory. No conditions. -/
import Derived.Test.YtdnjpjiepnhhhaaZU9
import Derived.Test.YtdnjpjiepnhhhaaZU2
set_option linter.unusedVariables false
set_option linter.unusedSimpArgs false
namespace Go.Proofs.Ytdnjpjiepnhhhaa.exactMacroOf
open Go.ChangeShapes Go.WideShapes Go.ChangeAt Go.RowKit Go.ChangeMaps

theorem boxes {w : World} {g : Nat} {arr : Array Value} {ty : TypeId} (h : w.heap[g]? = some (.cells arr ty (0, 0))) {w' : World} (hb : Below w.heap.size w w') : w'.heap[g]? = some (.cells arr ty (0, 0)) :=
  (hb.block g (Array.getElem?_eq_some_iff.1 h).1).trans h
theorem boxK {w : World} {g : Nat} {arr : Array Value} {ty : TypeId} {fp : List Nat} (h : w.heap[g]? = some (.cells arr ty (0, 0))) {w' : World} (hk : Kept fp w w') (hn : g ∉ fp) : w'.heap[g]? = some (.cells arr ty (0, 0)) :=
  (hk.block g (Array.getElem?_eq_some_iff.1 h).1 hn).trans h
theorem boxlt {w : World} {g : Nat} {arr : Array Value} {ty : TypeId} (h : w.heap[g]? = some (.cells arr ty (0, 0))) : g < w.heap.size := (Array.getElem?_eq_some_iff.1 h).1
theorem box_new (w : World) (arr : Array Value) (ty : TypeId) : (w.alloc (.cells arr ty)).heap[w.heap.size]? = some (.cells arr ty (0, 0)) := by
  show (w.heap.push _)[_]? = _; simp

set_option maxHeartbeats 16000000 in
set_option maxRecDepth 100000 in
theorem walk (v0 : Value) (x0 : (List Tok)) (fp0 : List Nat) (w : World) (H0 : (sSlice sTok).R w [v0] x0 fp0) :
    Calls Try.prog 3 #[v0] w fun e w' => e = .returned (.bool true) ∧ Below w.heap.size w w' := by
  have HSP := Lib.hid (fun (W : World) (v0_ : Value) (f0_ : List Nat) (hw0_ : wtTokenS x0 ≤ 1048576) (h0_ : (sSlice sTok).R W [v0_] x0 f0_) => spec_MacroOf_w v0_ x0 f0_ W hw0_ h0_)
  have HIM := Lib.hid (fun (W : World) (v0_ : Value) (f0_ : List Nat) (hw0_ : wtTokenS x0 ≤ 1048576) (h0_ : (sSlice sTok).R W [v0_] x0 f0_) => impl_MacroOf_w v0_ x0 f0_ W hw0_ h0_)
  unfold MOf at HSP HIM
  have HC := Lib.hid (MacroOf_cnt x0)
  generalize macOf x0 = M at HSP HIM HC
  obtain ⟨md, mb⟩ := M
  have hB := Below.refl w.heap.size w
  have a0 := Seen.of H0
  clear H0
  go_enter Try.func3, Try.ntmps3
  go_wp2_with fail
  refine (szTokenS _ _ _ _ _ (by omega) (by omega) a0.r).mono ?_
  rintro e W1 ⟨r0, rfl, hr0, b1⟩
  replace a0 := a0.below b1
  replace hB := hB.trans (b1.mono hB.size)
  have hz1 : w.heap.size ≤ W1.heap.size := b1.size
  clear b1
  by_cases hneg0 : r0 < 0
  · go_wp2
    go_ret
    exact ⟨rfl, hB⟩
  have hw0 := (hr0.good hneg0).1
  have hl0 := hr0.le (by omega)
  have HW0 : Hid (wtTokenS x0 ≤ 1048576) := by show _ ≤ _; omega
  clear hr0 hw0
  go_wp2_with fail
  refine (toTokenS _ _ _ _ HW0.out a0.r).mono ?_
  rintro e W2 ⟨v2, f3, rfl, r4, o5, b6⟩
  replace a0 := a0.below b6
  replace hB := hB.trans (b6.mono hB.size)
  have hz2 : W1.heap.size ≤ W2.heap.size := b6.size
  clear b6
  have c7 := Live.of r4 o5
  clear r4 o5
  go_wp2_with fail
  refine (HSP.out _ _ _ HW0.out c7.r).mono ?_
  rintro e W3 ⟨v9, f10, rfl, r11, o12, b8⟩
  replace a0 := a0.below b8
  replace c7 := c7.below b8
  replace hB := hB.trans (b8.mono hB.size)
  have hz3 : W2.heap.size ≤ W3.heap.size := b8.size
  clear b8
  have g13 := Live.of r11 o12
  clear o12
  obtain ⟨h14, h15, p18, p19, rfl, -, K16, K17, rfl⟩ := r11
  obtain ⟨a20, cap21, rfl, -⟩ := open_rows K16
  clear K16
  obtain ⟨a22, cap23, rfl, -⟩ := open_rows K17
  clear K17
  have b24 := alloc_below' W3 (.cells #[.string md.name, .bool md.function, .slice a20 md.params.length cap21, .slice a22 md.body.length cap23] 27)
  have HB25 := Lib.hid (box_new W3 #[.string md.name, .bool md.function, .slice a20 md.params.length cap21, .slice a22 md.body.length cap23] 27)
  replace a0 := a0.below b24
  replace c7 := c7.below b24
  replace g13 := g13.below b24
  replace hB := hB.trans (b24.mono hB.size)
  have hz4 : W3.heap.size ≤ (W3.alloc (.cells #[.string md.name, .bool md.function, .slice a20 md.params.length cap21, .slice a22 md.body.length cap23] 27)).heap.size := b24.size
  clear b24
  have hy4 : W3.heap.size + 1 ≤ (W3.alloc (.cells #[.string md.name, .bool md.function, .slice a20 md.params.length cap21, .slice a22 md.body.length cap23] 27)).heap.size := boxlt HB25.out
  clear c7
  go_wp2_with fail
  refine (toTokenS _ _ _ _ HW0.out a0.r).mono ?_
  rintro e W5 ⟨v26, f27, rfl, r28, o29, b30⟩
  replace a0 := a0.below b30
  replace g13 := g13.below b30
  replace HB25 := Lib.hid (boxes HB25.out b30)
  replace hB := hB.trans (b30.mono hB.size)
  have hz5 : (W3.alloc (.cells #[.string md.name, .bool md.function, .slice a20 md.params.length cap21, .slice a22 md.body.length cap23] 27)).heap.size ≤ W5.heap.size := b30.size
  clear b30
  have c31 := Live.of r28 o29
  clear r28 o29
  go_wp2_with fail
  refine (HIM.out _ _ _ HW0.out c31.r).mono ?_
  rintro e W6 ⟨v33, f34, rfl, r35, o36, b32⟩
  replace a0 := a0.below b32
  replace g13 := g13.below b32
  replace c31 := c31.below b32
  replace HB25 := Lib.hid (boxes HB25.out b32)
  replace hB := hB.trans (b32.mono hB.size)
  have hz6 : W5.heap.size ≤ W6.heap.size := b32.size
  clear b32
  have g37 := Live.of r35 o36
  clear o36
  obtain ⟨h38, h39, p42, p43, rfl, -, K40, K41, rfl⟩ := r35
  obtain ⟨a44, cap45, rfl, -⟩ := open_rows K40
  clear K40
  obtain ⟨a46, cap47, rfl, -⟩ := open_rows K41
  clear K41
  have b48 := alloc_below' W6 (.cells #[.string md.name, .bool md.function, .slice a44 md.params.length cap45, .slice a46 md.body.length cap47] 27)
  have HB49 := Lib.hid (box_new W6 #[.string md.name, .bool md.function, .slice a44 md.params.length cap45, .slice a46 md.body.length cap47] 27)
  replace a0 := a0.below b48
  replace g13 := g13.below b48
  replace c31 := c31.below b48
  replace g37 := g37.below b48
  replace HB25 := Lib.hid (boxes HB25.out b48)
  replace hB := hB.trans (b48.mono hB.size)
  have hz7 : W6.heap.size ≤ (W6.alloc (.cells #[.string md.name, .bool md.function, .slice a44 md.params.length cap45, .slice a46 md.body.length cap47] 27)).heap.size := b48.size
  clear b48
  have hy7 : W6.heap.size + 1 ≤ (W6.alloc (.cells #[.string md.name, .bool md.function, .slice a44 md.params.length cap45, .slice a46 md.body.length cap47] 27)).heap.size := boxlt HB49.out
  have q51 : (W6.alloc (.cells #[.string md.name, .bool md.function, .slice a44 md.params.length cap45, .slice a46 md.body.length cap47] 27)).cell? ⟨W6.heap.size, 0, none⟩ = some (.string md.name) := cell_of_row _ _ 0 _ _ _ HB49.out
  have q52 : (W6.alloc (.cells #[.string md.name, .bool md.function, .slice a44 md.params.length cap45, .slice a46 md.body.length cap47] 27)).cell? ⟨W6.heap.size, 1, none⟩ = some (.bool md.function) := cell_of_row _ _ 1 _ _ _ HB49.out
  have q53 : (W6.alloc (.cells #[.string md.name, .bool md.function, .slice a44 md.params.length cap45, .slice a46 md.body.length cap47] 27)).cell? ⟨W6.heap.size, 2, none⟩ = some (.slice a44 md.params.length cap45) := cell_of_row _ _ 2 _ _ _ HB49.out
  have q54 : (W6.alloc (.cells #[.string md.name, .bool md.function, .slice a44 md.params.length cap45, .slice a46 md.body.length cap47] 27)).cell? ⟨W6.heap.size, 3, none⟩ = some (.slice a46 md.body.length cap47) := cell_of_row _ _ 3 _ _ _ HB49.out
  have q55 : (W6.alloc (.cells #[.string md.name, .bool md.function, .slice a44 md.params.length cap45, .slice a46 md.body.length cap47] 27)).cell? ⟨W3.heap.size, 0, none⟩ = some (.string md.name) := cell_of_row _ _ 0 _ _ _ HB25.out
  have q56 : (W6.alloc (.cells #[.string md.name, .bool md.function, .slice a44 md.params.length cap45, .slice a46 md.body.length cap47] 27)).cell? ⟨W3.heap.size, 1, none⟩ = some (.bool md.function) := cell_of_row _ _ 1 _ _ _ HB25.out
  have q57 : (W6.alloc (.cells #[.string md.name, .bool md.function, .slice a44 md.params.length cap45, .slice a46 md.body.length cap47] 27)).cell? ⟨W3.heap.size, 2, none⟩ = some (.slice a20 md.params.length cap21) := cell_of_row _ _ 2 _ _ _ HB25.out
  have q58 : (W6.alloc (.cells #[.string md.name, .bool md.function, .slice a44 md.params.length cap45, .slice a46 md.body.length cap47] 27)).cell? ⟨W3.heap.size, 3, none⟩ = some (.slice a22 md.body.length cap23) := cell_of_row _ _ 3 _ _ _ HB25.out
  go_wp2_with fail
  refine (eqMacro_same _ _ _ _ _ _ g37.r g13.r).mono ?_
  clear q51 q52 q53 q54 q55 q56 q57 q58
  rintro e W8 ⟨rfl, b50⟩
  replace a0 := a0.below b50
  replace g13 := g13.below b50
  replace c31 := c31.below b50
  replace g37 := g37.below b50
  replace HB25 := Lib.hid (boxes HB25.out b50)
  replace HB49 := Lib.hid (boxes HB49.out b50)
  replace hB := hB.trans (b50.mono hB.size)
  have hz8 : (W6.alloc (.cells #[.string md.name, .bool md.function, .slice a44 md.params.length cap45, .slice a46 md.body.length cap47] 27)).heap.size ≤ W8.heap.size := b50.size
  clear b50
  go_wp2_with fail
  refine (toTokenS _ _ _ _ HW0.out a0.r).mono ?_
  rintro e W9 ⟨v59, f60, rfl, r61, o62, b63⟩
  replace a0 := a0.below b63
  replace g13 := g13.below b63
  replace c31 := c31.below b63
  replace g37 := g37.below b63
  replace HB25 := Lib.hid (boxes HB25.out b63)
  replace HB49 := Lib.hid (boxes HB49.out b63)
  replace hB := hB.trans (b63.mono hB.size)
  have hz9 : W8.heap.size ≤ W9.heap.size := b63.size
  clear b63
  have c64 := Live.of r61 o62
  clear r61 o62
  go_wp2_with fail
  refine (eqTokenS_same _ _ _ _ _ _ c31.r c64.r).mono ?_
  rintro e W10 ⟨rfl, b65⟩
  replace a0 := a0.below b65
  replace g13 := g13.below b65
  replace c31 := c31.below b65
  replace g37 := g37.below b65
  replace c64 := c64.below b65
  replace HB25 := Lib.hid (boxes HB25.out b65)
  replace HB49 := Lib.hid (boxes HB49.out b65)
  replace hB := hB.trans (b65.mono hB.size)
  have hz10 : W9.heap.size ≤ W10.heap.size := b65.size
  clear b65
  clear c64
  go_wp2_with fail
  refine (markTokenS _ _ _ (W3.alloc (.cells #[.string md.name, .bool md.function, .slice a20 md.params.length cap21, .slice a22 md.body.length cap23] 27)).heap.size _ _ (by first | omega | (have hc := HC.out; have hw0 := HW0.out; have hn0 := cntTokenS_le x0; omega)) (by first | omega | (have hc := HC.out; have hw0 := HW0.out; have hn0 := cntTokenS_le x0; omega)) c31.r c31.o).mono ?_
  rintro e W11 ⟨rfl, r66, o67, hk⟩
  replace a0 := a0.kept hk c31.o (by omega)
  replace g13 := g13.kept hk c31.o (by omega)
  replace g37 := g37.kept' hk (fun b hb => Nat.lt_of_lt_of_le (c31.hi b hb) (by omega))
  replace HB25 := Lib.hid (boxK HB25.out hk (fun hx => by have h1 := (c31.o.2 _ hx).1; have h2 := c31.hi _ hx; omega))
  replace HB49 := Lib.hid (boxK HB49.out hk (fun hx => by have h1 := (c31.o.2 _ hx).1; have h2 := c31.hi _ hx; omega))
  replace hB := hB.trans (hk.below' c31.o (by first | exact Nat.le_refl _ | omega) (by omega))
  have hz11 : W10.heap.size ≤ W11.heap.size := hk.size
  replace c31 : Live _ _ _ _ _ _ _ := ⟨r66, o67, c31.hi⟩
  clear r66 o67 hk
  have q69 : W11.cell? ⟨W6.heap.size, 0, none⟩ = some (.string md.name) := cell_of_row _ _ 0 _ _ _ HB49.out
  have q70 : W11.cell? ⟨W6.heap.size, 1, none⟩ = some (.bool md.function) := cell_of_row _ _ 1 _ _ _ HB49.out
  have q71 : W11.cell? ⟨W6.heap.size, 2, none⟩ = some (.slice a44 md.params.length cap45) := cell_of_row _ _ 2 _ _ _ HB49.out
  have q72 : W11.cell? ⟨W6.heap.size, 3, none⟩ = some (.slice a46 md.body.length cap47) := cell_of_row _ _ 3 _ _ _ HB49.out
  have q73 : W11.cell? ⟨W3.heap.size, 0, none⟩ = some (.string md.name) := cell_of_row _ _ 0 _ _ _ HB25.out
  have q74 : W11.cell? ⟨W3.heap.size, 1, none⟩ = some (.bool md.function) := cell_of_row _ _ 1 _ _ _ HB25.out
  have q75 : W11.cell? ⟨W3.heap.size, 2, none⟩ = some (.slice a20 md.params.length cap21) := cell_of_row _ _ 2 _ _ _ HB25.out
  have q76 : W11.cell? ⟨W3.heap.size, 3, none⟩ = some (.slice a22 md.body.length cap23) := cell_of_row _ _ 3 _ _ _ HB25.out
  go_wp2_with fail
  refine (eqMacro_same _ _ _ _ _ _ g37.r g13.r).mono ?_
  clear q69 q70 q71 q72 q73 q74 q75 q76
  rintro e W12 ⟨rfl, b68⟩
  replace a0 := a0.below b68
  replace g13 := g13.below b68
  replace c31 := c31.below b68
  replace g37 := g37.below b68
  replace HB25 := Lib.hid (boxes HB25.out b68)
  replace HB49 := Lib.hid (boxes HB49.out b68)
  replace hB := hB.trans (b68.mono hB.size)
  have hz12 : W11.heap.size ≤ W12.heap.size := b68.size
  clear b68
  clear c31
  have q79 : W12.cell? ⟨W6.heap.size, 0, none⟩ = some (.string md.name) := cell_of_row _ _ 0 _ _ _ HB49.out
  have q80 : W12.cell? ⟨W6.heap.size, 1, none⟩ = some (.bool md.function) := cell_of_row _ _ 1 _ _ _ HB49.out
  have q81 : W12.cell? ⟨W6.heap.size, 2, none⟩ = some (.slice a44 md.params.length cap45) := cell_of_row _ _ 2 _ _ _ HB49.out
  have q82 : W12.cell? ⟨W6.heap.size, 3, none⟩ = some (.slice a46 md.body.length cap47) := cell_of_row _ _ 3 _ _ _ HB49.out
  go_wp2_with fail
  refine (markMacro _ _ _ W5.heap.size _ _ (by first | omega | (have hc := HC.out; have hw0 := HW0.out; have hn0 := cntTokenS_le x0; omega)) (by first | omega | (have hc := HC.out; have hw0 := HW0.out; have hn0 := cntTokenS_le x0; omega)) g37.r g37.o).mono ?_
  clear q79 q80 q81 q82
  rintro e W13 ⟨rfl, r77, o78, hk⟩
  replace a0 := a0.kept hk g37.o (by omega)
  replace g13 := g13.kept hk g37.o (by omega)
  replace HB25 := Lib.hid (boxK HB25.out hk (fun hx => by have h1 := (g37.o.2 _ hx).1; have h2 := g37.hi _ hx; omega))
  replace HB49 := Lib.hid (boxK HB49.out hk (fun hx => by have h1 := (g37.o.2 _ hx).1; have h2 := g37.hi _ hx; omega))
  replace hB := hB.trans (hk.below' g37.o (by first | exact Nat.le_refl _ | omega) (by omega))
  have hz13 : W12.heap.size ≤ W13.heap.size := hk.size
  replace g37 : Live _ _ _ _ _ _ _ := ⟨r77, o78, g37.hi⟩
  clear r77 o78 hk
  have q84 : W13.cell? ⟨W6.heap.size, 0, none⟩ = some (.string md.name) := cell_of_row _ _ 0 _ _ _ HB49.out
  have q85 : W13.cell? ⟨W6.heap.size, 1, none⟩ = some (.bool md.function) := cell_of_row _ _ 1 _ _ _ HB49.out
  have q86 : W13.cell? ⟨W6.heap.size, 2, none⟩ = some (.slice a44 md.params.length cap45) := cell_of_row _ _ 2 _ _ _ HB49.out
  have q87 : W13.cell? ⟨W6.heap.size, 3, none⟩ = some (.slice a46 md.body.length cap47) := cell_of_row _ _ 3 _ _ _ HB49.out
  go_wp2_with fail
  refine (heldMacro _ _ _ _ _ (by first | omega | (have hc := HC.out; have hw0 := HW0.out; have hn0 := cntTokenS_le x0; omega)) (by first | omega | (have hc := HC.out; have hw0 := HW0.out; have hn0 := cntTokenS_le x0; omega)) g37.r).mono ?_
  clear q84 q85 q86 q87
  rintro e W14 ⟨rfl, b83⟩
  replace a0 := a0.below b83
  replace g13 := g13.below b83
  replace g37 := g37.below b83
  replace HB25 := Lib.hid (boxes HB25.out b83)
  replace HB49 := Lib.hid (boxes HB49.out b83)
  replace hB := hB.trans (b83.mono hB.size)
  have hz14 : W13.heap.size ≤ W14.heap.size := b83.size
  clear b83
  go_wp2_with fail
  refine (toTokenS _ _ _ _ HW0.out a0.r).mono ?_
  rintro e W15 ⟨v88, f89, rfl, r90, o91, b92⟩
  replace a0 := a0.below b92
  replace g13 := g13.below b92
  replace g37 := g37.below b92
  replace HB25 := Lib.hid (boxes HB25.out b92)
  replace HB49 := Lib.hid (boxes HB49.out b92)
  replace hB := hB.trans (b92.mono hB.size)
  have hz15 : W14.heap.size ≤ W15.heap.size := b92.size
  clear b92
  have c93 := Live.of r90 o91
  clear r90 o91
  go_wp2_with fail
  refine (HIM.out _ _ _ HW0.out c93.r).mono ?_
  rintro e W16 ⟨v95, f96, rfl, r97, o98, b94⟩
  replace a0 := a0.below b94
  replace g13 := g13.below b94
  replace g37 := g37.below b94
  replace c93 := c93.below b94
  replace HB25 := Lib.hid (boxes HB25.out b94)
  replace HB49 := Lib.hid (boxes HB49.out b94)
  replace hB := hB.trans (b94.mono hB.size)
  have hz16 : W15.heap.size ≤ W16.heap.size := b94.size
  clear b94
  have g99 := Live.of r97 o98
  clear o98
  obtain ⟨h100, h101, p104, p105, rfl, -, K102, K103, rfl⟩ := r97
  obtain ⟨a106, cap107, rfl, -⟩ := open_rows K102
  clear K102
  obtain ⟨a108, cap109, rfl, -⟩ := open_rows K103
  clear K103
  have b110 := alloc_below' W16 (.cells #[.string md.name, .bool md.function, .slice a106 md.params.length cap107, .slice a108 md.body.length cap109] 27)
  have HB111 := Lib.hid (box_new W16 #[.string md.name, .bool md.function, .slice a106 md.params.length cap107, .slice a108 md.body.length cap109] 27)
  replace a0 := a0.below b110
  replace g13 := g13.below b110
  replace g37 := g37.below b110
  replace c93 := c93.below b110
  replace g99 := g99.below b110
  replace HB25 := Lib.hid (boxes HB25.out b110)
  replace HB49 := Lib.hid (boxes HB49.out b110)
  replace hB := hB.trans (b110.mono hB.size)
  have hz17 : W16.heap.size ≤ (W16.alloc (.cells #[.string md.name, .bool md.function, .slice a106 md.params.length cap107, .slice a108 md.body.length cap109] 27)).heap.size := b110.size
  clear b110
  have hy17 : W16.heap.size + 1 ≤ (W16.alloc (.cells #[.string md.name, .bool md.function, .slice a106 md.params.length cap107, .slice a108 md.body.length cap109] 27)).heap.size := boxlt HB111.out
  have q113 : (W16.alloc (.cells #[.string md.name, .bool md.function, .slice a106 md.params.length cap107, .slice a108 md.body.length cap109] 27)).cell? ⟨W16.heap.size, 0, none⟩ = some (.string md.name) := cell_of_row _ _ 0 _ _ _ HB111.out
  have q114 : (W16.alloc (.cells #[.string md.name, .bool md.function, .slice a106 md.params.length cap107, .slice a108 md.body.length cap109] 27)).cell? ⟨W16.heap.size, 1, none⟩ = some (.bool md.function) := cell_of_row _ _ 1 _ _ _ HB111.out
  have q115 : (W16.alloc (.cells #[.string md.name, .bool md.function, .slice a106 md.params.length cap107, .slice a108 md.body.length cap109] 27)).cell? ⟨W16.heap.size, 2, none⟩ = some (.slice a106 md.params.length cap107) := cell_of_row _ _ 2 _ _ _ HB111.out
  have q116 : (W16.alloc (.cells #[.string md.name, .bool md.function, .slice a106 md.params.length cap107, .slice a108 md.body.length cap109] 27)).cell? ⟨W16.heap.size, 3, none⟩ = some (.slice a108 md.body.length cap109) := cell_of_row _ _ 3 _ _ _ HB111.out
  have q117 : (W16.alloc (.cells #[.string md.name, .bool md.function, .slice a106 md.params.length cap107, .slice a108 md.body.length cap109] 27)).cell? ⟨W3.heap.size, 0, none⟩ = some (.string md.name) := cell_of_row _ _ 0 _ _ _ HB25.out
  have q118 : (W16.alloc (.cells #[.string md.name, .bool md.function, .slice a106 md.params.length cap107, .slice a108 md.body.length cap109] 27)).cell? ⟨W3.heap.size, 1, none⟩ = some (.bool md.function) := cell_of_row _ _ 1 _ _ _ HB25.out
  have q119 : (W16.alloc (.cells #[.string md.name, .bool md.function, .slice a106 md.params.length cap107, .slice a108 md.body.length cap109] 27)).cell? ⟨W3.heap.size, 2, none⟩ = some (.slice a20 md.params.length cap21) := cell_of_row _ _ 2 _ _ _ HB25.out
  have q120 : (W16.alloc (.cells #[.string md.name, .bool md.function, .slice a106 md.params.length cap107, .slice a108 md.body.length cap109] 27)).cell? ⟨W3.heap.size, 3, none⟩ = some (.slice a22 md.body.length cap23) := cell_of_row _ _ 3 _ _ _ HB25.out
  go_wp2_with fail
  refine (eqMacro_same _ _ _ _ _ _ g99.r g13.r).mono ?_
  clear q113 q114 q115 q116 q117 q118 q119 q120
  rintro e W18 ⟨rfl, b112⟩
  replace a0 := a0.below b112
  replace g13 := g13.below b112
  replace g37 := g37.below b112
  replace c93 := c93.below b112
  replace g99 := g99.below b112
  replace HB25 := Lib.hid (boxes HB25.out b112)
  replace HB49 := Lib.hid (boxes HB49.out b112)
  replace HB111 := Lib.hid (boxes HB111.out b112)
  replace hB := hB.trans (b112.mono hB.size)
  have hz18 : (W16.alloc (.cells #[.string md.name, .bool md.function, .slice a106 md.params.length cap107, .slice a108 md.body.length cap109] 27)).heap.size ≤ W18.heap.size := b112.size
  clear b112
  have q122 : W18.cell? ⟨W6.heap.size, 0, none⟩ = some (.string md.name) := cell_of_row _ _ 0 _ _ _ HB49.out
  have q123 : W18.cell? ⟨W6.heap.size, 1, none⟩ = some (.bool md.function) := cell_of_row _ _ 1 _ _ _ HB49.out
  have q124 : W18.cell? ⟨W6.heap.size, 2, none⟩ = some (.slice a44 md.params.length cap45) := cell_of_row _ _ 2 _ _ _ HB49.out
  have q125 : W18.cell? ⟨W6.heap.size, 3, none⟩ = some (.slice a46 md.body.length cap47) := cell_of_row _ _ 3 _ _ _ HB49.out
  go_wp2_with fail
  refine (heldMacro _ _ _ _ _ (by first | omega | (have hc := HC.out; have hw0 := HW0.out; have hn0 := cntTokenS_le x0; omega)) (by first | omega | (have hc := HC.out; have hw0 := HW0.out; have hn0 := cntTokenS_le x0; omega)) g37.r).mono ?_
  clear q122 q123 q124 q125
  rintro e W19 ⟨rfl, b121⟩
  replace a0 := a0.below b121
  replace g13 := g13.below b121
  replace g37 := g37.below b121
  replace c93 := c93.below b121
  replace g99 := g99.below b121
  replace HB25 := Lib.hid (boxes HB25.out b121)
  replace HB49 := Lib.hid (boxes HB49.out b121)
  replace HB111 := Lib.hid (boxes HB111.out b121)
  replace hB := hB.trans (b121.mono hB.size)
  have hz19 : W18.heap.size ≤ W19.heap.size := b121.size
  clear b121
  go_wp2
  go_ret
  exact ⟨rfl, hB⟩

theorem own : ownKnob Try.prog.godebug = none := by kernel_rfl
theorem laidOut : laidOutB Try.prog = true := by kernel_rfl
theorem readable : ∀ t ∈ Try.f3.params.toList, Try.prog.readableRec t = true ∧ t < Try.prog.types.size := by
  rw [Try.params3]
  simp only [List.mem_cons, List.not_mem_nil, or_false]
  rintro t rfl
  exact ⟨by kernel_rfl, of_decide_eq_true (by kernel_rfl)⟩

set_option maxRecDepth 100000 in
theorem lifted (os : Os) (started : os.Started) (H : Type) (enc : TypeId × Value → H) :
    ReturnsInHanded {} Try.checked os 3 .any (Rows.fnExactMacroOfSpec.pre6 enc Try.prog Try.f3 Rows.fnExactMacroOfRow.domain false) (Rows.fnExactMacroOfSpec.post enc Try.prog Try.f3 false true false false) := by
  refine returnsInHanded_of_change (C := Try.checked) own started (by kernel_rfl) Try.func3
    (ChangeSpec.witness6 (enc := enc) (C := Try.checked) false ⟨#[], #[.slice none 0 0], []⟩ 8 (by kernel_rfl) (by kernel_rfl) (by kernel_rfl) (by kernel_rfl)) ?_
  intro W base args ds gs before hval0 hW hcnd _
  have hval : ∀ (j : Nat) t v, Try.f3.params[j]? = some t → args[j]? = some v → Value.okWide Try.prog W .any base t v := hval0
  have hW' := hW
  obtain ⟨p, q, hA0, hV, rfl, hfz, hnd⟩ := hW
  have hA : DataW.TrodAll enc Try.prog W 0 (fun _ => true) true Try.f3.params.toList args.toList ds p := hA0
  rw [Try.params3] at hA hval
  obtain ⟨v0, vs0, d0, ds0, p0, q0, hargs0, rfl, rfl, h0, r0⟩ := trodAll_cons hA
  obtain ⟨rfl, rfl, rfl⟩ := trodAll_nil r0
  obtain rfl : args = #[v0] := by cases args; simp_all
  obtain ⟨rfl, rfl⟩ := trodVars_none hV
  obtain ⟨a0, len0, cap0, rfl⟩ := okWide_slice Try.underlying22 (hval 0 22 v0 rfl rfl)
  obtain ⟨x0, fp0, H0⟩ := open_arg (opens_slice Try.underlying22 (by kernel_rfl) (by decide) opens_Token) h0
  refine (walk _ x0 fp0 W H0).mono fun e W' ⟨he, hw⟩ => ?_
  subst he
  exact ⟨_, rfl, law_done laidOut readable rfl rfl Try.underlying4 hW' rfl rfl rfl hw⟩

theorem holds : Rows.FnExactMacroOfSaid :=
  OpenClaim.holds_of_wide 3 Try.f3 rfl rfl rfl rfl rfl rfl rfl ⟨rfl, rfl, rfl, rfl, rfl⟩ rfl rfl rfl rfl rfl (by kernel_rfl) Try.func3 (by kernel_rfl)
    (of_decide_eq_true (by kernel_rfl)) (by unfold Func.isWrapper; first | (rw [if_pos (by decide +kernel)]; kernel_rfl) | (rw [if_neg (by decide +kernel)]; exact ⟨rfl, rfl⟩))
    (fun os started H enc _ => lifted os started H enc)


end Go.Proofs.Ytdnjpjiepnhhhaa.exactMacroOf
