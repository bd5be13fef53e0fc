/- TextToken of the program answers as its model at every argument; it writes into none; its answer owns its memory. No conditions. -/
import Derived.Test.YtgjjidjkpmmcoaaZU8
import Derived.Test.YtgjjidjkpmmcoaaZU2
set_option linter.unusedVariables false
set_option linter.unusedSimpArgs false
namespace Go.Proofs.Ytgjjidjkpmmcoaa.exactTextToken
open Go.ChangeShapes Go.WideShapes Go.ChangeAt Go.RowKit Go.ChangeMaps

theorem boxes {w : World} {g : Nat} {arr : Array Value} {ty : TypeId} (h : w.heap[g]? = some (.cells arr ty (0, 0))) {w' : World} (hb : Below w.heap.size w w') : w'.heap[g]? = some (.cells arr ty (0, 0)) :=
  (hb.block g (Array.getElem?_eq_some_iff.1 h).1).trans h
theorem boxK {w : World} {g : Nat} {arr : Array Value} {ty : TypeId} {fp : List Nat} (h : w.heap[g]? = some (.cells arr ty (0, 0))) {w' : World} (hk : Kept fp w w') (hn : g ∉ fp) : w'.heap[g]? = some (.cells arr ty (0, 0)) :=
  (hk.block g (Array.getElem?_eq_some_iff.1 h).1 hn).trans h
theorem boxlt {w : World} {g : Nat} {arr : Array Value} {ty : TypeId} (h : w.heap[g]? = some (.cells arr ty (0, 0))) : g < w.heap.size := (Array.getElem?_eq_some_iff.1 h).1
theorem box_new (w : World) (arr : Array Value) (ty : TypeId) : (w.alloc (.cells arr ty)).heap[w.heap.size]? = some (.cells arr ty (0, 0)) := by
  show (w.heap.push _)[_]? = _; simp

set_option maxHeartbeats 16000000 in
set_option maxRecDepth 100000 in
theorem walk (v0 : Value) (x0 : (List Tok)) (fp0 : List Nat) (w : World) (H0 : (sSlice sTok).R w [v0] x0 fp0) :
    Calls Try.prog 5 #[v0] w fun e w' => e = .returned (.bool true) ∧ Below w.heap.size w w' := by
  have HSP := Lib.hid (fun (W : World) (v0_ : Value) (f0_ : List Nat) (hw0_ : wtTokenS x0 ≤ 1048576) (h0_ : (sSlice sTok).R W [v0_] x0 f0_) => spec_TextToken_w v0_ x0 f0_ W hw0_ h0_)
  have HIM := Lib.hid (fun (W : World) (v0_ : Value) (f0_ : List Nat) (hw0_ : wtTokenS x0 ≤ 1048576) (h0_ : (sSlice sTok).R W [v0_] x0 f0_) => impl_TextToken_w v0_ x0 f0_ W hw0_ h0_)
  unfold TextOf at HSP HIM
  have HC := Lib.hid (TextToken_cnt x0)
  generalize txtRes x0 = M at HSP HIM HC
  obtain ⟨md, mb⟩ := M
  have hB := Below.refl w.heap.size w
  have a0 := Seen.of H0
  clear H0
  go_enter Try.func5, Try.ntmps5
  go_wp2_with fail
  refine (szTokenS _ _ _ _ _ (by omega) (by omega) a0.r).mono ?_
  rintro e W1 ⟨r0, rfl, hr0, b1⟩
  replace a0 := a0.below b1
  replace hB := hB.trans (b1.mono hB.size)
  have hz1 : w.heap.size ≤ W1.heap.size := b1.size
  clear b1
  by_cases hneg0 : r0 < 0
  · go_wp2
    go_ret
    exact ⟨rfl, hB⟩
  have hw0 := (hr0.good hneg0).1
  have hl0 := hr0.le (by omega)
  have HW0 : Hid (wtTokenS x0 ≤ 1048576) := by show _ ≤ _; omega
  clear hr0 hw0
  go_wp2_with fail
  refine (toTokenS _ _ _ _ HW0.out a0.r).mono ?_
  rintro e W2 ⟨v2, f3, rfl, r4, o5, b6⟩
  replace a0 := a0.below b6
  replace hB := hB.trans (b6.mono hB.size)
  have hz2 : W1.heap.size ≤ W2.heap.size := b6.size
  clear b6
  have c7 := Live.of r4 o5
  clear r4 o5
  go_wp2_with fail
  refine (HSP.out _ _ _ HW0.out c7.r).mono ?_
  rintro e W3 ⟨v9, f10, rfl, r11, o12, b8⟩
  replace a0 := a0.below b8
  replace c7 := c7.below b8
  replace hB := hB.trans (b8.mono hB.size)
  have hz3 : W2.heap.size ≤ W3.heap.size := b8.size
  clear b8
  have g13 := Live.of r11 o12
  clear o12
  obtain ⟨h14, rfl, -, -, K15⟩ := r11
  obtain ⟨a17, cap18, rfl, -⟩ := open_rows K15
  clear K15
  have b19 := alloc_below' W3 (.cells #[.int .i64 md.kind, .string md.text, .bool md.spaced, .slice a17 md.hidden.length cap18] 28)
  have HB20 := Lib.hid (box_new W3 #[.int .i64 md.kind, .string md.text, .bool md.spaced, .slice a17 md.hidden.length cap18] 28)
  replace a0 := a0.below b19
  replace c7 := c7.below b19
  replace g13 := g13.below b19
  replace hB := hB.trans (b19.mono hB.size)
  have hz4 : W3.heap.size ≤ (W3.alloc (.cells #[.int .i64 md.kind, .string md.text, .bool md.spaced, .slice a17 md.hidden.length cap18] 28)).heap.size := b19.size
  clear b19
  have hy4 : W3.heap.size + 1 ≤ (W3.alloc (.cells #[.int .i64 md.kind, .string md.text, .bool md.spaced, .slice a17 md.hidden.length cap18] 28)).heap.size := boxlt HB20.out
  clear c7
  go_wp2_with fail
  refine (toTokenS _ _ _ _ HW0.out a0.r).mono ?_
  rintro e W5 ⟨v21, f22, rfl, r23, o24, b25⟩
  replace a0 := a0.below b25
  replace g13 := g13.below b25
  replace HB20 := Lib.hid (boxes HB20.out b25)
  replace hB := hB.trans (b25.mono hB.size)
  have hz5 : (W3.alloc (.cells #[.int .i64 md.kind, .string md.text, .bool md.spaced, .slice a17 md.hidden.length cap18] 28)).heap.size ≤ W5.heap.size := b25.size
  clear b25
  have c26 := Live.of r23 o24
  clear r23 o24
  go_wp2_with fail
  refine (HIM.out _ _ _ HW0.out c26.r).mono ?_
  rintro e W6 ⟨v28, f29, rfl, r30, o31, b27⟩
  replace a0 := a0.below b27
  replace g13 := g13.below b27
  replace c26 := c26.below b27
  replace HB20 := Lib.hid (boxes HB20.out b27)
  replace hB := hB.trans (b27.mono hB.size)
  have hz6 : W5.heap.size ≤ W6.heap.size := b27.size
  clear b27
  have g32 := Live.of r30 o31
  clear o31
  obtain ⟨h33, rfl, -, -, K34⟩ := r30
  obtain ⟨a36, cap37, rfl, -⟩ := open_rows K34
  clear K34
  have b38 := alloc_below' W6 (.cells #[.int .i64 md.kind, .string md.text, .bool md.spaced, .slice a36 md.hidden.length cap37] 28)
  have HB39 := Lib.hid (box_new W6 #[.int .i64 md.kind, .string md.text, .bool md.spaced, .slice a36 md.hidden.length cap37] 28)
  replace a0 := a0.below b38
  replace g13 := g13.below b38
  replace c26 := c26.below b38
  replace g32 := g32.below b38
  replace HB20 := Lib.hid (boxes HB20.out b38)
  replace hB := hB.trans (b38.mono hB.size)
  have hz7 : W6.heap.size ≤ (W6.alloc (.cells #[.int .i64 md.kind, .string md.text, .bool md.spaced, .slice a36 md.hidden.length cap37] 28)).heap.size := b38.size
  clear b38
  have hy7 : W6.heap.size + 1 ≤ (W6.alloc (.cells #[.int .i64 md.kind, .string md.text, .bool md.spaced, .slice a36 md.hidden.length cap37] 28)).heap.size := boxlt HB39.out
  have q41 : (W6.alloc (.cells #[.int .i64 md.kind, .string md.text, .bool md.spaced, .slice a36 md.hidden.length cap37] 28)).cell? ⟨W6.heap.size, 0, none⟩ = some (.int .i64 md.kind) := cell_of_row _ _ 0 _ _ _ HB39.out
  have q42 : (W6.alloc (.cells #[.int .i64 md.kind, .string md.text, .bool md.spaced, .slice a36 md.hidden.length cap37] 28)).cell? ⟨W6.heap.size, 1, none⟩ = some (.string md.text) := cell_of_row _ _ 1 _ _ _ HB39.out
  have q43 : (W6.alloc (.cells #[.int .i64 md.kind, .string md.text, .bool md.spaced, .slice a36 md.hidden.length cap37] 28)).cell? ⟨W6.heap.size, 2, none⟩ = some (.bool md.spaced) := cell_of_row _ _ 2 _ _ _ HB39.out
  have q44 : (W6.alloc (.cells #[.int .i64 md.kind, .string md.text, .bool md.spaced, .slice a36 md.hidden.length cap37] 28)).cell? ⟨W6.heap.size, 3, none⟩ = some (.slice a36 md.hidden.length cap37) := cell_of_row _ _ 3 _ _ _ HB39.out
  have q45 : (W6.alloc (.cells #[.int .i64 md.kind, .string md.text, .bool md.spaced, .slice a36 md.hidden.length cap37] 28)).cell? ⟨W3.heap.size, 0, none⟩ = some (.int .i64 md.kind) := cell_of_row _ _ 0 _ _ _ HB20.out
  have q46 : (W6.alloc (.cells #[.int .i64 md.kind, .string md.text, .bool md.spaced, .slice a36 md.hidden.length cap37] 28)).cell? ⟨W3.heap.size, 1, none⟩ = some (.string md.text) := cell_of_row _ _ 1 _ _ _ HB20.out
  have q47 : (W6.alloc (.cells #[.int .i64 md.kind, .string md.text, .bool md.spaced, .slice a36 md.hidden.length cap37] 28)).cell? ⟨W3.heap.size, 2, none⟩ = some (.bool md.spaced) := cell_of_row _ _ 2 _ _ _ HB20.out
  have q48 : (W6.alloc (.cells #[.int .i64 md.kind, .string md.text, .bool md.spaced, .slice a36 md.hidden.length cap37] 28)).cell? ⟨W3.heap.size, 3, none⟩ = some (.slice a17 md.hidden.length cap18) := cell_of_row _ _ 3 _ _ _ HB20.out
  go_wp2_with fail
  refine (eqToken_same _ _ _ _ _ _ g32.r g13.r).mono ?_
  clear q41 q42 q43 q44 q45 q46 q47 q48
  rintro e W8 ⟨rfl, b40⟩
  replace a0 := a0.below b40
  replace g13 := g13.below b40
  replace c26 := c26.below b40
  replace g32 := g32.below b40
  replace HB20 := Lib.hid (boxes HB20.out b40)
  replace HB39 := Lib.hid (boxes HB39.out b40)
  replace hB := hB.trans (b40.mono hB.size)
  have hz8 : (W6.alloc (.cells #[.int .i64 md.kind, .string md.text, .bool md.spaced, .slice a36 md.hidden.length cap37] 28)).heap.size ≤ W8.heap.size := b40.size
  clear b40
  go_wp2_with fail
  refine (toTokenS _ _ _ _ HW0.out a0.r).mono ?_
  rintro e W9 ⟨v49, f50, rfl, r51, o52, b53⟩
  replace a0 := a0.below b53
  replace g13 := g13.below b53
  replace c26 := c26.below b53
  replace g32 := g32.below b53
  replace HB20 := Lib.hid (boxes HB20.out b53)
  replace HB39 := Lib.hid (boxes HB39.out b53)
  replace hB := hB.trans (b53.mono hB.size)
  have hz9 : W8.heap.size ≤ W9.heap.size := b53.size
  clear b53
  have c54 := Live.of r51 o52
  clear r51 o52
  go_wp2_with fail
  refine (eqTokenS_same _ _ _ _ _ _ c26.r c54.r).mono ?_
  rintro e W10 ⟨rfl, b55⟩
  replace a0 := a0.below b55
  replace g13 := g13.below b55
  replace c26 := c26.below b55
  replace g32 := g32.below b55
  replace c54 := c54.below b55
  replace HB20 := Lib.hid (boxes HB20.out b55)
  replace HB39 := Lib.hid (boxes HB39.out b55)
  replace hB := hB.trans (b55.mono hB.size)
  have hz10 : W9.heap.size ≤ W10.heap.size := b55.size
  clear b55
  clear c54
  go_wp2_with fail
  refine (markTokenS _ _ _ (W3.alloc (.cells #[.int .i64 md.kind, .string md.text, .bool md.spaced, .slice a17 md.hidden.length cap18] 28)).heap.size _ _ (by first | omega | (have hc := HC.out; have hw0 := HW0.out; have hn0 := cntTokenS_le x0; omega)) (by first | omega | (have hc := HC.out; have hw0 := HW0.out; have hn0 := cntTokenS_le x0; omega)) c26.r c26.o).mono ?_
  rintro e W11 ⟨rfl, r56, o57, hk⟩
  replace a0 := a0.kept hk c26.o (by omega)
  replace g13 := g13.kept hk c26.o (by omega)
  replace g32 := g32.kept' hk (fun b hb => Nat.lt_of_lt_of_le (c26.hi b hb) (by omega))
  replace HB20 := Lib.hid (boxK HB20.out hk (fun hx => by have h1 := (c26.o.2 _ hx).1; have h2 := c26.hi _ hx; omega))
  replace HB39 := Lib.hid (boxK HB39.out hk (fun hx => by have h1 := (c26.o.2 _ hx).1; have h2 := c26.hi _ hx; omega))
  replace hB := hB.trans (hk.below' c26.o (by first | exact Nat.le_refl _ | omega) (by omega))
  have hz11 : W10.heap.size ≤ W11.heap.size := hk.size
  replace c26 : Live _ _ _ _ _ _ _ := ⟨r56, o57, c26.hi⟩
  clear r56 o57 hk
  have q59 : W11.cell? ⟨W6.heap.size, 0, none⟩ = some (.int .i64 md.kind) := cell_of_row _ _ 0 _ _ _ HB39.out
  have q60 : W11.cell? ⟨W6.heap.size, 1, none⟩ = some (.string md.text) := cell_of_row _ _ 1 _ _ _ HB39.out
  have q61 : W11.cell? ⟨W6.heap.size, 2, none⟩ = some (.bool md.spaced) := cell_of_row _ _ 2 _ _ _ HB39.out
  have q62 : W11.cell? ⟨W6.heap.size, 3, none⟩ = some (.slice a36 md.hidden.length cap37) := cell_of_row _ _ 3 _ _ _ HB39.out
  have q63 : W11.cell? ⟨W3.heap.size, 0, none⟩ = some (.int .i64 md.kind) := cell_of_row _ _ 0 _ _ _ HB20.out
  have q64 : W11.cell? ⟨W3.heap.size, 1, none⟩ = some (.string md.text) := cell_of_row _ _ 1 _ _ _ HB20.out
  have q65 : W11.cell? ⟨W3.heap.size, 2, none⟩ = some (.bool md.spaced) := cell_of_row _ _ 2 _ _ _ HB20.out
  have q66 : W11.cell? ⟨W3.heap.size, 3, none⟩ = some (.slice a17 md.hidden.length cap18) := cell_of_row _ _ 3 _ _ _ HB20.out
  go_wp2_with fail
  refine (eqToken_same _ _ _ _ _ _ g32.r g13.r).mono ?_
  clear q59 q60 q61 q62 q63 q64 q65 q66
  rintro e W12 ⟨rfl, b58⟩
  replace a0 := a0.below b58
  replace g13 := g13.below b58
  replace c26 := c26.below b58
  replace g32 := g32.below b58
  replace HB20 := Lib.hid (boxes HB20.out b58)
  replace HB39 := Lib.hid (boxes HB39.out b58)
  replace hB := hB.trans (b58.mono hB.size)
  have hz12 : W11.heap.size ≤ W12.heap.size := b58.size
  clear b58
  clear c26
  have q69 : W12.cell? ⟨W6.heap.size, 0, none⟩ = some (.int .i64 md.kind) := cell_of_row _ _ 0 _ _ _ HB39.out
  have q70 : W12.cell? ⟨W6.heap.size, 1, none⟩ = some (.string md.text) := cell_of_row _ _ 1 _ _ _ HB39.out
  have q71 : W12.cell? ⟨W6.heap.size, 2, none⟩ = some (.bool md.spaced) := cell_of_row _ _ 2 _ _ _ HB39.out
  have q72 : W12.cell? ⟨W6.heap.size, 3, none⟩ = some (.slice a36 md.hidden.length cap37) := cell_of_row _ _ 3 _ _ _ HB39.out
  go_wp2_with fail
  refine (markToken _ _ _ W5.heap.size _ _ (by first | omega | (have hc := HC.out; have hw0 := HW0.out; have hn0 := cntTokenS_le x0; omega)) (by first | omega | (have hc := HC.out; have hw0 := HW0.out; have hn0 := cntTokenS_le x0; omega)) g32.r g32.o).mono ?_
  clear q69 q70 q71 q72
  rintro e W13 ⟨rfl, r67, o68, hk⟩
  replace a0 := a0.kept hk g32.o (by omega)
  replace g13 := g13.kept hk g32.o (by omega)
  replace HB20 := Lib.hid (boxK HB20.out hk (fun hx => by have h1 := (g32.o.2 _ hx).1; have h2 := g32.hi _ hx; omega))
  replace HB39 := Lib.hid (boxK HB39.out hk (fun hx => by have h1 := (g32.o.2 _ hx).1; have h2 := g32.hi _ hx; omega))
  replace hB := hB.trans (hk.below' g32.o (by first | exact Nat.le_refl _ | omega) (by omega))
  have hz13 : W12.heap.size ≤ W13.heap.size := hk.size
  replace g32 : Live _ _ _ _ _ _ _ := ⟨r67, o68, g32.hi⟩
  clear r67 o68 hk
  have q74 : W13.cell? ⟨W6.heap.size, 0, none⟩ = some (.int .i64 md.kind) := cell_of_row _ _ 0 _ _ _ HB39.out
  have q75 : W13.cell? ⟨W6.heap.size, 1, none⟩ = some (.string md.text) := cell_of_row _ _ 1 _ _ _ HB39.out
  have q76 : W13.cell? ⟨W6.heap.size, 2, none⟩ = some (.bool md.spaced) := cell_of_row _ _ 2 _ _ _ HB39.out
  have q77 : W13.cell? ⟨W6.heap.size, 3, none⟩ = some (.slice a36 md.hidden.length cap37) := cell_of_row _ _ 3 _ _ _ HB39.out
  go_wp2_with fail
  refine (heldToken _ _ _ _ _ (by first | omega | (have hc := HC.out; have hw0 := HW0.out; have hn0 := cntTokenS_le x0; omega)) (by first | omega | (have hc := HC.out; have hw0 := HW0.out; have hn0 := cntTokenS_le x0; omega)) g32.r).mono ?_
  clear q74 q75 q76 q77
  rintro e W14 ⟨rfl, b73⟩
  replace a0 := a0.below b73
  replace g13 := g13.below b73
  replace g32 := g32.below b73
  replace HB20 := Lib.hid (boxes HB20.out b73)
  replace HB39 := Lib.hid (boxes HB39.out b73)
  replace hB := hB.trans (b73.mono hB.size)
  have hz14 : W13.heap.size ≤ W14.heap.size := b73.size
  clear b73
  go_wp2_with fail
  refine (toTokenS _ _ _ _ HW0.out a0.r).mono ?_
  rintro e W15 ⟨v78, f79, rfl, r80, o81, b82⟩
  replace a0 := a0.below b82
  replace g13 := g13.below b82
  replace g32 := g32.below b82
  replace HB20 := Lib.hid (boxes HB20.out b82)
  replace HB39 := Lib.hid (boxes HB39.out b82)
  replace hB := hB.trans (b82.mono hB.size)
  have hz15 : W14.heap.size ≤ W15.heap.size := b82.size
  clear b82
  have c83 := Live.of r80 o81
  clear r80 o81
  go_wp2_with fail
  refine (HIM.out _ _ _ HW0.out c83.r).mono ?_
  rintro e W16 ⟨v85, f86, rfl, r87, o88, b84⟩
  replace a0 := a0.below b84
  replace g13 := g13.below b84
  replace g32 := g32.below b84
  replace c83 := c83.below b84
  replace HB20 := Lib.hid (boxes HB20.out b84)
  replace HB39 := Lib.hid (boxes HB39.out b84)
  replace hB := hB.trans (b84.mono hB.size)
  have hz16 : W15.heap.size ≤ W16.heap.size := b84.size
  clear b84
  have g89 := Live.of r87 o88
  clear o88
  obtain ⟨h90, rfl, -, -, K91⟩ := r87
  obtain ⟨a93, cap94, rfl, -⟩ := open_rows K91
  clear K91
  have b95 := alloc_below' W16 (.cells #[.int .i64 md.kind, .string md.text, .bool md.spaced, .slice a93 md.hidden.length cap94] 28)
  have HB96 := Lib.hid (box_new W16 #[.int .i64 md.kind, .string md.text, .bool md.spaced, .slice a93 md.hidden.length cap94] 28)
  replace a0 := a0.below b95
  replace g13 := g13.below b95
  replace g32 := g32.below b95
  replace c83 := c83.below b95
  replace g89 := g89.below b95
  replace HB20 := Lib.hid (boxes HB20.out b95)
  replace HB39 := Lib.hid (boxes HB39.out b95)
  replace hB := hB.trans (b95.mono hB.size)
  have hz17 : W16.heap.size ≤ (W16.alloc (.cells #[.int .i64 md.kind, .string md.text, .bool md.spaced, .slice a93 md.hidden.length cap94] 28)).heap.size := b95.size
  clear b95
  have hy17 : W16.heap.size + 1 ≤ (W16.alloc (.cells #[.int .i64 md.kind, .string md.text, .bool md.spaced, .slice a93 md.hidden.length cap94] 28)).heap.size := boxlt HB96.out
  have q98 : (W16.alloc (.cells #[.int .i64 md.kind, .string md.text, .bool md.spaced, .slice a93 md.hidden.length cap94] 28)).cell? ⟨W16.heap.size, 0, none⟩ = some (.int .i64 md.kind) := cell_of_row _ _ 0 _ _ _ HB96.out
  have q99 : (W16.alloc (.cells #[.int .i64 md.kind, .string md.text, .bool md.spaced, .slice a93 md.hidden.length cap94] 28)).cell? ⟨W16.heap.size, 1, none⟩ = some (.string md.text) := cell_of_row _ _ 1 _ _ _ HB96.out
  have q100 : (W16.alloc (.cells #[.int .i64 md.kind, .string md.text, .bool md.spaced, .slice a93 md.hidden.length cap94] 28)).cell? ⟨W16.heap.size, 2, none⟩ = some (.bool md.spaced) := cell_of_row _ _ 2 _ _ _ HB96.out
  have q101 : (W16.alloc (.cells #[.int .i64 md.kind, .string md.text, .bool md.spaced, .slice a93 md.hidden.length cap94] 28)).cell? ⟨W16.heap.size, 3, none⟩ = some (.slice a93 md.hidden.length cap94) := cell_of_row _ _ 3 _ _ _ HB96.out
  have q102 : (W16.alloc (.cells #[.int .i64 md.kind, .string md.text, .bool md.spaced, .slice a93 md.hidden.length cap94] 28)).cell? ⟨W3.heap.size, 0, none⟩ = some (.int .i64 md.kind) := cell_of_row _ _ 0 _ _ _ HB20.out
  have q103 : (W16.alloc (.cells #[.int .i64 md.kind, .string md.text, .bool md.spaced, .slice a93 md.hidden.length cap94] 28)).cell? ⟨W3.heap.size, 1, none⟩ = some (.string md.text) := cell_of_row _ _ 1 _ _ _ HB20.out
  have q104 : (W16.alloc (.cells #[.int .i64 md.kind, .string md.text, .bool md.spaced, .slice a93 md.hidden.length cap94] 28)).cell? ⟨W3.heap.size, 2, none⟩ = some (.bool md.spaced) := cell_of_row _ _ 2 _ _ _ HB20.out
  have q105 : (W16.alloc (.cells #[.int .i64 md.kind, .string md.text, .bool md.spaced, .slice a93 md.hidden.length cap94] 28)).cell? ⟨W3.heap.size, 3, none⟩ = some (.slice a17 md.hidden.length cap18) := cell_of_row _ _ 3 _ _ _ HB20.out
  go_wp2_with fail
  refine (eqToken_same _ _ _ _ _ _ g89.r g13.r).mono ?_
  clear q98 q99 q100 q101 q102 q103 q104 q105
  rintro e W18 ⟨rfl, b97⟩
  replace a0 := a0.below b97
  replace g13 := g13.below b97
  replace g32 := g32.below b97
  replace c83 := c83.below b97
  replace g89 := g89.below b97
  replace HB20 := Lib.hid (boxes HB20.out b97)
  replace HB39 := Lib.hid (boxes HB39.out b97)
  replace HB96 := Lib.hid (boxes HB96.out b97)
  replace hB := hB.trans (b97.mono hB.size)
  have hz18 : (W16.alloc (.cells #[.int .i64 md.kind, .string md.text, .bool md.spaced, .slice a93 md.hidden.length cap94] 28)).heap.size ≤ W18.heap.size := b97.size
  clear b97
  have q107 : W18.cell? ⟨W6.heap.size, 0, none⟩ = some (.int .i64 md.kind) := cell_of_row _ _ 0 _ _ _ HB39.out
  have q108 : W18.cell? ⟨W6.heap.size, 1, none⟩ = some (.string md.text) := cell_of_row _ _ 1 _ _ _ HB39.out
  have q109 : W18.cell? ⟨W6.heap.size, 2, none⟩ = some (.bool md.spaced) := cell_of_row _ _ 2 _ _ _ HB39.out
  have q110 : W18.cell? ⟨W6.heap.size, 3, none⟩ = some (.slice a36 md.hidden.length cap37) := cell_of_row _ _ 3 _ _ _ HB39.out
  go_wp2_with fail
  refine (heldToken _ _ _ _ _ (by first | omega | (have hc := HC.out; have hw0 := HW0.out; have hn0 := cntTokenS_le x0; omega)) (by first | omega | (have hc := HC.out; have hw0 := HW0.out; have hn0 := cntTokenS_le x0; omega)) g32.r).mono ?_
  clear q107 q108 q109 q110
  rintro e W19 ⟨rfl, b106⟩
  replace a0 := a0.below b106
  replace g13 := g13.below b106
  replace g32 := g32.below b106
  replace c83 := c83.below b106
  replace g89 := g89.below b106
  replace HB20 := Lib.hid (boxes HB20.out b106)
  replace HB39 := Lib.hid (boxes HB39.out b106)
  replace HB96 := Lib.hid (boxes HB96.out b106)
  replace hB := hB.trans (b106.mono hB.size)
  have hz19 : W18.heap.size ≤ W19.heap.size := b106.size
  clear b106
  go_wp2
  go_ret
  exact ⟨rfl, hB⟩

theorem own : ownKnob Try.prog.godebug = none := by kernel_rfl
theorem laidOut : laidOutB Try.prog = true := by kernel_rfl
theorem readable : ∀ t ∈ Try.f5.params.toList, Try.prog.readableRec t = true ∧ t < Try.prog.types.size := by
  rw [Try.params5]
  simp only [List.mem_cons, List.not_mem_nil, or_false]
  rintro t rfl
  exact ⟨by kernel_rfl, of_decide_eq_true (by kernel_rfl)⟩

set_option maxRecDepth 100000 in
theorem lifted (os : Os) (started : os.Started) (H : Type) (enc : TypeId × Value → H) :
    ReturnsInHanded {} Try.checked os 5 .any (Rows.fnExactTextTokenSpec.pre6 enc Try.prog Try.f5 Rows.fnExactTextTokenRow.domain false) (Rows.fnExactTextTokenSpec.post enc Try.prog Try.f5 false true false false) := by
  refine returnsInHanded_of_change (C := Try.checked) own started (by kernel_rfl) Try.func5
    (ChangeSpec.witness6 (enc := enc) (C := Try.checked) false ⟨#[], #[.slice none 0 0], []⟩ 8 (by kernel_rfl) (by kernel_rfl) (by kernel_rfl) (by kernel_rfl)) ?_
  intro W base args ds gs before hval0 hW hcnd _
  have hval : ∀ (j : Nat) t v, Try.f5.params[j]? = some t → args[j]? = some v → Value.okWide Try.prog W .any base t v := hval0
  have hW' := hW
  obtain ⟨p, q, hA0, hV, rfl, hfz, hnd⟩ := hW
  have hA : DataW.TrodAll enc Try.prog W 0 (fun _ => true) true Try.f5.params.toList args.toList ds p := hA0
  rw [Try.params5] at hA hval
  obtain ⟨v0, vs0, d0, ds0, p0, q0, hargs0, rfl, rfl, h0, r0⟩ := trodAll_cons hA
  obtain ⟨rfl, rfl, rfl⟩ := trodAll_nil r0
  obtain rfl : args = #[v0] := by cases args; simp_all
  obtain ⟨rfl, rfl⟩ := trodVars_none hV
  obtain ⟨a0, len0, cap0, rfl⟩ := okWide_slice Try.underlying39 (hval 0 39 v0 rfl rfl)
  obtain ⟨x0, fp0, H0⟩ := open_arg (opens_slice Try.underlying39 (by kernel_rfl) (by decide) opens_Token) h0
  refine (walk _ x0 fp0 W H0).mono fun e W' ⟨he, hw⟩ => ?_
  subst he
  exact ⟨_, rfl, law_done laidOut readable rfl rfl Try.underlying4 hW' rfl rfl rfl hw⟩

theorem holds : Rows.FnExactTextTokenSaid :=
  OpenClaim.holds_of_wide 5 Try.f5 rfl rfl rfl rfl rfl rfl rfl ⟨rfl, rfl, rfl, rfl, rfl⟩ rfl rfl rfl rfl rfl (by kernel_rfl) Try.func5 (by kernel_rfl)
    (of_decide_eq_true (by kernel_rfl)) (by unfold Func.isWrapper; first | (rw [if_pos (by decide +kernel)]; kernel_rfl) | (rw [if_neg (by decide +kernel)]; exact ⟨rfl, rfl⟩))
    (fun os started H enc _ => lifted os started H enc)


end Go.Proofs.Ytgjjidjkpmmcoaa.exactTextToken
