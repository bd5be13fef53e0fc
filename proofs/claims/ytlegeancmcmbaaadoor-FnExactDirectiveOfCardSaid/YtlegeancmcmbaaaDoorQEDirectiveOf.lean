/- DirectiveOf of the program answers as its model at every argument; it writes into none; its answer owns its memory. No conditions. -/
import Derived.Test.YtlegeancmcmbaaaDoorZU16
import Derived.Test.YtlegeancmcmbaaaDoorZU5
import Derived.Test.YtlegeancmcmbaaaDoorZU2
import Derived.Test.YtlegeancmcmbaaaDoorTie
import Derived.Test.YtlegeancmcmbaaaDoorCards
import Derived.SevenTiedAt
import Derived.Test.YtlegeancmcmbaaaDoorZU4
set_option linter.unusedVariables false
set_option linter.unusedSimpArgs false
namespace Go.Proofs.YtlegeancmcmbaaaDoor.exactDirectiveOf
open Go.ChangeShapes Go.WideShapes Go.ChangeAt Go.RowKit Go.ChangeMaps

theorem boxes {w : World} {g : Nat} {arr : Array Value} {ty : TypeId} (h : w.heap[g]? = some (.cells arr ty (0, 0))) {w' : World} (hb : Below w.heap.size w w') : w'.heap[g]? = some (.cells arr ty (0, 0)) :=
 (hb.block g (Array.getElem?_eq_some_iff.1 h).1).trans h
theorem boxK {w : World} {g : Nat} {arr : Array Value} {ty : TypeId} {fp : List Nat} (h : w.heap[g]? = some (.cells arr ty (0, 0))) {w' : World} (hk : Kept fp w w') (hn : g ∉ fp) : w'.heap[g]? = some (.cells arr ty (0, 0)) :=
 (hk.block g (Array.getElem?_eq_some_iff.1 h).1 hn).trans h
theorem boxlt {w : World} {g : Nat} {arr : Array Value} {ty : TypeId} (h : w.heap[g]? = some (.cells arr ty (0, 0))) : g < w.heap.size := (Array.getElem?_eq_some_iff.1 h).1
theorem box_new (w : World) (arr : Array Value) (ty : TypeId) : (w.alloc (.cells arr ty)).heap[w.heap.size]? = some (.cells arr ty (0, 0)) := by
 show (w.heap.push _)[_]? = _; simp

set_option maxHeartbeats 16000000 in
set_option maxRecDepth 100000 in
theorem walk (v0 : Value) (x0 : (List Tok)) (fp0 : List Nat) (w : World) (H0 : (sSlice sTok).R w [v0] x0 fp0) (hE : KE w) :
  Calls Tryd.prog 6 #[v0] w fun e w' => e = .returned (.bool true) ∧ Below w.heap.size w w' := by
 have HSP := Lib.hid (fun (W : World) (v0_ : Value) (f0_ : List Nat) (hw0_ : wtTokenS x0 ≤ 1048576) (h0_ : (sSlice sTok).R W [v0_] x0 f0_) => spec_DirectiveOf_w v0_ x0 f0_ W hw0_ h0_)
 have HIM := Lib.hid (fun (W : World) (v0_ : Value) (f0_ : List Nat) (hw0_ : wtTokenS x0 ≤ 1048576) (h0_ : (sSlice sTok).R W [v0_] x0 f0_) (hE_ : KE W) => impl_DirectiveOf_w v0_ x0 f0_ W hw0_ h0_ hE_)
 unfold RetDirD at HSP
 unfold MineDirD at HIM
 have HC := Lib.hid (DirectiveOf_cnt x0)
 generalize dirD x0 = M at HSP HIM HC
 obtain ⟨md, mb⟩ := M
 have hB := Below.refl w.heap.size w
 have a0 := Seen.of H0
 clear H0
 go_enter Tryd.func6, Tryd.ntmps6
 go_wp2_with fail
 refine (szTokenS _ _ _ _ _ (by omega) (by omega) a0.r).mono ?_
 rintro e W1 ⟨r0, rfl, hr0, b1⟩
 replace a0 := a0.below b1
 replace hB := hB.trans (b1.mono hB.size)
 have hz1 : w.heap.size ≤ W1.heap.size := b1.size
 clear b1
 by_cases hneg0 : r0 < 0
 ·go_wp2
  go_ret
  exact ⟨rfl, hB⟩
 have hw0 := (hr0.good hneg0).1
 have hl0 := hr0.le (by omega)
 have HW0 : Hid (wtTokenS x0 ≤ 1048576) := by show _ ≤ _; omega
 clear hr0 hw0
 go_wp2_with fail
 refine (toTokenS _ _ _ _ HW0.out a0.r).mono ?_
 rintro e W2 ⟨v2, f3, rfl, r4, o5, b6⟩
 replace a0 := a0.below b6
 replace hB := hB.trans (b6.mono hB.size)
 have hz2 : W1.heap.size ≤ W2.heap.size := b6.size
 clear b6
 have c7 := Live.of r4 o5
 clear r4 o5
 go_wp2_with fail
 refine (HSP.out _ _ _ HW0.out c7.r).mono ?_
 rintro e W3 ⟨v9, f10, rfl, r11, -, b8⟩
 replace a0 := a0.below b8
 replace c7 := c7.below b8
 replace hB := hB.trans (b8.mono hB.size)
 have hz3 : W2.heap.size ≤ W3.heap.size := b8.size
 clear b8
 have g13 := Seen.of r11
 obtain ⟨h14, rfl, -, K15⟩ := r11
 obtain ⟨a17, cap18, rfl, -⟩ := open_rows K15
 clear K15
 have b19 := alloc_below' W3 (.cells #[.int .i64 md.kind, .slice a17 md.rest.length cap18] 30)
 have HB20 := Lib.hid (box_new W3 #[.int .i64 md.kind, .slice a17 md.rest.length cap18] 30)
 replace a0 := a0.below b19
 replace c7 := c7.below b19
 replace g13 := g13.below b19
 replace hB := hB.trans (b19.mono hB.size)
 have hz4 : W3.heap.size ≤ (W3.alloc (.cells #[.int .i64 md.kind, .slice a17 md.rest.length cap18] 30)).heap.size := b19.size
 clear b19
 have hy4 : W3.heap.size + 1 ≤ (W3.alloc (.cells #[.int .i64 md.kind, .slice a17 md.rest.length cap18] 30)).heap.size := boxlt HB20.out
 clear c7
 go_wp2_with fail
 refine (toTokenS _ _ _ _ HW0.out a0.r).mono ?_
 rintro e W5 ⟨v21, f22, rfl, r23, o24, b25⟩
 replace a0 := a0.below b25
 replace g13 := g13.below b25
 replace HB20 := Lib.hid (boxes HB20.out b25)
 replace hB := hB.trans (b25.mono hB.size)
 have hz5 : (W3.alloc (.cells #[.int .i64 md.kind, .slice a17 md.rest.length cap18] 30)).heap.size ≤ W5.heap.size := b25.size
 clear b25
 have c26 := Live.of r23 o24
 clear r23 o24
 go_wp2_with fail
 refine (HIM.out _ _ _ HW0.out c26.r (hE.below hB (Nat.le_refl _))).mono ?_
 rintro e W6 ⟨v28, f29, rfl, r30, o31, b27⟩
 replace a0 := a0.below b27
 replace g13 := g13.below b27
 replace c26 := c26.below b27
 replace HB20 := Lib.hid (boxes HB20.out b27)
 replace hB := hB.trans (b27.mono hB.size)
 have hz6 : W5.heap.size ≤ W6.heap.size := b27.size
 clear b27
 have g32 := Live.of r30 o31
 clear o31
 obtain ⟨h33, rfl, -, K34⟩ := r30
 obtain ⟨a36, cap37, rfl, -⟩ := open_rows K34
 clear K34
 have b38 := alloc_below' W6 (.cells #[.int .i64 md.kind, .slice a36 md.rest.length cap37] 30)
 have HB39 := Lib.hid (box_new W6 #[.int .i64 md.kind, .slice a36 md.rest.length cap37] 30)
 replace a0 := a0.below b38
 replace g13 := g13.below b38
 replace c26 := c26.below b38
 replace g32 := g32.below b38
 replace HB20 := Lib.hid (boxes HB20.out b38)
 replace hB := hB.trans (b38.mono hB.size)
 have hz7 : W6.heap.size ≤ (W6.alloc (.cells #[.int .i64 md.kind, .slice a36 md.rest.length cap37] 30)).heap.size := b38.size
 clear b38
 have hy7 : W6.heap.size + 1 ≤ (W6.alloc (.cells #[.int .i64 md.kind, .slice a36 md.rest.length cap37] 30)).heap.size := boxlt HB39.out
 have q41 : (W6.alloc (.cells #[.int .i64 md.kind, .slice a36 md.rest.length cap37] 30)).cell? ⟨W6.heap.size, 0, none⟩ = some (.int .i64 md.kind) := cell_of_row _ _ 0 _ _ _ HB39.out
 have q42 : (W6.alloc (.cells #[.int .i64 md.kind, .slice a36 md.rest.length cap37] 30)).cell? ⟨W6.heap.size, 1, none⟩ = some (.slice a36 md.rest.length cap37) := cell_of_row _ _ 1 _ _ _ HB39.out
 have q43 : (W6.alloc (.cells #[.int .i64 md.kind, .slice a36 md.rest.length cap37] 30)).cell? ⟨W3.heap.size, 0, none⟩ = some (.int .i64 md.kind) := cell_of_row _ _ 0 _ _ _ HB20.out
 have q44 : (W6.alloc (.cells #[.int .i64 md.kind, .slice a36 md.rest.length cap37] 30)).cell? ⟨W3.heap.size, 1, none⟩ = some (.slice a17 md.rest.length cap18) := cell_of_row _ _ 1 _ _ _ HB20.out
 go_wp2_with fail
 refine (eqDirective_same _ _ _ _ _ _ g32.r g13.r).mono ?_
 clear q41 q42 q43 q44
 rintro e W8 ⟨rfl, b40⟩
 replace a0 := a0.below b40
 replace g13 := g13.below b40
 replace c26 := c26.below b40
 replace g32 := g32.below b40
 replace HB20 := Lib.hid (boxes HB20.out b40)
 replace HB39 := Lib.hid (boxes HB39.out b40)
 replace hB := hB.trans (b40.mono hB.size)
 have hz8 : (W6.alloc (.cells #[.int .i64 md.kind, .slice a36 md.rest.length cap37] 30)).heap.size ≤ W8.heap.size := b40.size
 clear b40
 go_wp2_with fail
 refine (toTokenS _ _ _ _ HW0.out a0.r).mono ?_
 rintro e W9 ⟨v45, f46, rfl, r47, o48, b49⟩
 replace a0 := a0.below b49
 replace g13 := g13.below b49
 replace c26 := c26.below b49
 replace g32 := g32.below b49
 replace HB20 := Lib.hid (boxes HB20.out b49)
 replace HB39 := Lib.hid (boxes HB39.out b49)
 replace hB := hB.trans (b49.mono hB.size)
 have hz9 : W8.heap.size ≤ W9.heap.size := b49.size
 clear b49
 have c50 := Live.of r47 o48
 clear r47 o48
 go_wp2_with fail
 refine (eqTokenS_same _ _ _ _ _ _ c26.r c50.r).mono ?_
 rintro e W10 ⟨rfl, b51⟩
 replace a0 := a0.below b51
 replace g13 := g13.below b51
 replace c26 := c26.below b51
 replace g32 := g32.below b51
 replace c50 := c50.below b51
 replace HB20 := Lib.hid (boxes HB20.out b51)
 replace HB39 := Lib.hid (boxes HB39.out b51)
 replace hB := hB.trans (b51.mono hB.size)
 have hz10 : W9.heap.size ≤ W10.heap.size := b51.size
 clear b51
 clear c50
 go_wp2_with fail
 refine (markTokenS _ _ _ (W3.alloc (.cells #[.int .i64 md.kind, .slice a17 md.rest.length cap18] 30)).heap.size _ _ (by first | omega | (have hc := HC.out; have hw0 := HW0.out; have hn0 := cntTokenS_le x0; omega)) (by first | omega | (have hc := HC.out; have hw0 := HW0.out; have hn0 := cntTokenS_le x0; omega)) c26.r c26.o).mono ?_
 rintro e W11 ⟨rfl, r52, o53, hk⟩
 replace a0 := a0.kept hk c26.o (by omega)
 replace g13 := g13.kept hk c26.o (by omega)
 replace g32 := g32.kept' hk (fun b hb => Nat.lt_of_lt_of_le (c26.hi b hb) (by omega))
 replace HB20 := Lib.hid (boxK HB20.out hk (fun hx => by have h1 := (c26.o.2 _ hx).1; have h2 := c26.hi _ hx; omega))
 replace HB39 := Lib.hid (boxK HB39.out hk (fun hx => by have h1 := (c26.o.2 _ hx).1; have h2 := c26.hi _ hx; omega))
 replace hB := hB.trans (hk.below' c26.o (by first | exact Nat.le_refl _ | omega) (by omega))
 have hz11 : W10.heap.size ≤ W11.heap.size := hk.size
 replace c26 : Live _ _ _ _ _ _ _ := ⟨r52, o53, c26.hi⟩
 clear r52 o53 hk
 have q55 : W11.cell? ⟨W6.heap.size, 0, none⟩ = some (.int .i64 md.kind) := cell_of_row _ _ 0 _ _ _ HB39.out
 have q56 : W11.cell? ⟨W6.heap.size, 1, none⟩ = some (.slice a36 md.rest.length cap37) := cell_of_row _ _ 1 _ _ _ HB39.out
 have q57 : W11.cell? ⟨W3.heap.size, 0, none⟩ = some (.int .i64 md.kind) := cell_of_row _ _ 0 _ _ _ HB20.out
 have q58 : W11.cell? ⟨W3.heap.size, 1, none⟩ = some (.slice a17 md.rest.length cap18) := cell_of_row _ _ 1 _ _ _ HB20.out
 go_wp2_with fail
 refine (eqDirective_same _ _ _ _ _ _ g32.r g13.r).mono ?_
 clear q55 q56 q57 q58
 rintro e W12 ⟨rfl, b54⟩
 replace a0 := a0.below b54
 replace g13 := g13.below b54
 replace c26 := c26.below b54
 replace g32 := g32.below b54
 replace HB20 := Lib.hid (boxes HB20.out b54)
 replace HB39 := Lib.hid (boxes HB39.out b54)
 replace hB := hB.trans (b54.mono hB.size)
 have hz12 : W11.heap.size ≤ W12.heap.size := b54.size
 clear b54
 clear c26
 have q61 : W12.cell? ⟨W6.heap.size, 0, none⟩ = some (.int .i64 md.kind) := cell_of_row _ _ 0 _ _ _ HB39.out
 have q62 : W12.cell? ⟨W6.heap.size, 1, none⟩ = some (.slice a36 md.rest.length cap37) := cell_of_row _ _ 1 _ _ _ HB39.out
 go_wp2_with fail
 refine (markDirective _ _ _ W5.heap.size _ _ (by first | omega | (have hc := HC.out; have hw0 := HW0.out; have hn0 := cntTokenS_le x0; omega)) (by first | omega | (have hc := HC.out; have hw0 := HW0.out; have hn0 := cntTokenS_le x0; omega)) g32.r g32.o).mono ?_
 clear q61 q62
 rintro e W13 ⟨rfl, r59, o60, hk⟩
 replace a0 := a0.kept hk g32.o (by omega)
 replace g13 := g13.kept hk g32.o (by omega)
 replace HB20 := Lib.hid (boxK HB20.out hk (fun hx => by have h1 := (g32.o.2 _ hx).1; have h2 := g32.hi _ hx; omega))
 replace HB39 := Lib.hid (boxK HB39.out hk (fun hx => by have h1 := (g32.o.2 _ hx).1; have h2 := g32.hi _ hx; omega))
 replace hB := hB.trans (hk.below' g32.o (by first | exact Nat.le_refl _ | omega) (by omega))
 have hz13 : W12.heap.size ≤ W13.heap.size := hk.size
 replace g32 : Live _ _ _ _ _ _ _ := ⟨r59, o60, g32.hi⟩
 clear r59 o60 hk
 have q64 : W13.cell? ⟨W6.heap.size, 0, none⟩ = some (.int .i64 md.kind) := cell_of_row _ _ 0 _ _ _ HB39.out
 have q65 : W13.cell? ⟨W6.heap.size, 1, none⟩ = some (.slice a36 md.rest.length cap37) := cell_of_row _ _ 1 _ _ _ HB39.out
 go_wp2_with fail
 refine (heldDirective _ _ _ _ _ (by first | omega | (have hc := HC.out; have hw0 := HW0.out; have hn0 := cntTokenS_le x0; omega)) (by first | omega | (have hc := HC.out; have hw0 := HW0.out; have hn0 := cntTokenS_le x0; omega)) g32.r).mono ?_
 clear q64 q65
 rintro e W14 ⟨rfl, b63⟩
 replace a0 := a0.below b63
 replace g13 := g13.below b63
 replace g32 := g32.below b63
 replace HB20 := Lib.hid (boxes HB20.out b63)
 replace HB39 := Lib.hid (boxes HB39.out b63)
 replace hB := hB.trans (b63.mono hB.size)
 have hz14 : W13.heap.size ≤ W14.heap.size := b63.size
 clear b63
 go_wp2_with fail
 refine (toTokenS _ _ _ _ HW0.out a0.r).mono ?_
 rintro e W15 ⟨v66, f67, rfl, r68, o69, b70⟩
 replace a0 := a0.below b70
 replace g13 := g13.below b70
 replace g32 := g32.below b70
 replace HB20 := Lib.hid (boxes HB20.out b70)
 replace HB39 := Lib.hid (boxes HB39.out b70)
 replace hB := hB.trans (b70.mono hB.size)
 have hz15 : W14.heap.size ≤ W15.heap.size := b70.size
 clear b70
 have c71 := Live.of r68 o69
 clear r68 o69
 go_wp2_with fail
 refine (HIM.out _ _ _ HW0.out c71.r (hE.below hB (Nat.le_refl _))).mono ?_
 rintro e W16 ⟨v73, f74, rfl, r75, o76, b72⟩
 replace a0 := a0.below b72
 replace g13 := g13.below b72
 replace g32 := g32.below b72
 replace c71 := c71.below b72
 replace HB20 := Lib.hid (boxes HB20.out b72)
 replace HB39 := Lib.hid (boxes HB39.out b72)
 replace hB := hB.trans (b72.mono hB.size)
 have hz16 : W15.heap.size ≤ W16.heap.size := b72.size
 clear b72
 have g77 := Live.of r75 o76
 clear o76
 obtain ⟨h78, rfl, -, K79⟩ := r75
 obtain ⟨a81, cap82, rfl, -⟩ := open_rows K79
 clear K79
 have b83 := alloc_below' W16 (.cells #[.int .i64 md.kind, .slice a81 md.rest.length cap82] 30)
 have HB84 := Lib.hid (box_new W16 #[.int .i64 md.kind, .slice a81 md.rest.length cap82] 30)
 replace a0 := a0.below b83
 replace g13 := g13.below b83
 replace g32 := g32.below b83
 replace c71 := c71.below b83
 replace g77 := g77.below b83
 replace HB20 := Lib.hid (boxes HB20.out b83)
 replace HB39 := Lib.hid (boxes HB39.out b83)
 replace hB := hB.trans (b83.mono hB.size)
 have hz17 : W16.heap.size ≤ (W16.alloc (.cells #[.int .i64 md.kind, .slice a81 md.rest.length cap82] 30)).heap.size := b83.size
 clear b83
 have hy17 : W16.heap.size + 1 ≤ (W16.alloc (.cells #[.int .i64 md.kind, .slice a81 md.rest.length cap82] 30)).heap.size := boxlt HB84.out
 have q86 : (W16.alloc (.cells #[.int .i64 md.kind, .slice a81 md.rest.length cap82] 30)).cell? ⟨W16.heap.size, 0, none⟩ = some (.int .i64 md.kind) := cell_of_row _ _ 0 _ _ _ HB84.out
 have q87 : (W16.alloc (.cells #[.int .i64 md.kind, .slice a81 md.rest.length cap82] 30)).cell? ⟨W16.heap.size, 1, none⟩ = some (.slice a81 md.rest.length cap82) := cell_of_row _ _ 1 _ _ _ HB84.out
 have q88 : (W16.alloc (.cells #[.int .i64 md.kind, .slice a81 md.rest.length cap82] 30)).cell? ⟨W3.heap.size, 0, none⟩ = some (.int .i64 md.kind) := cell_of_row _ _ 0 _ _ _ HB20.out
 have q89 : (W16.alloc (.cells #[.int .i64 md.kind, .slice a81 md.rest.length cap82] 30)).cell? ⟨W3.heap.size, 1, none⟩ = some (.slice a17 md.rest.length cap18) := cell_of_row _ _ 1 _ _ _ HB20.out
 go_wp2_with fail
 refine (eqDirective_same _ _ _ _ _ _ g77.r g13.r).mono ?_
 clear q86 q87 q88 q89
 rintro e W18 ⟨rfl, b85⟩
 replace a0 := a0.below b85
 replace g13 := g13.below b85
 replace g32 := g32.below b85
 replace c71 := c71.below b85
 replace g77 := g77.below b85
 replace HB20 := Lib.hid (boxes HB20.out b85)
 replace HB39 := Lib.hid (boxes HB39.out b85)
 replace HB84 := Lib.hid (boxes HB84.out b85)
 replace hB := hB.trans (b85.mono hB.size)
 have hz18 : (W16.alloc (.cells #[.int .i64 md.kind, .slice a81 md.rest.length cap82] 30)).heap.size ≤ W18.heap.size := b85.size
 clear b85
 have q91 : W18.cell? ⟨W6.heap.size, 0, none⟩ = some (.int .i64 md.kind) := cell_of_row _ _ 0 _ _ _ HB39.out
 have q92 : W18.cell? ⟨W6.heap.size, 1, none⟩ = some (.slice a36 md.rest.length cap37) := cell_of_row _ _ 1 _ _ _ HB39.out
 go_wp2_with fail
 refine (heldDirective _ _ _ _ _ (by first | omega | (have hc := HC.out; have hw0 := HW0.out; have hn0 := cntTokenS_le x0; omega)) (by first | omega | (have hc := HC.out; have hw0 := HW0.out; have hn0 := cntTokenS_le x0; omega)) g32.r).mono ?_
 clear q91 q92
 rintro e W19 ⟨rfl, b90⟩
 replace a0 := a0.below b90
 replace g13 := g13.below b90
 replace g32 := g32.below b90
 replace c71 := c71.below b90
 replace g77 := g77.below b90
 replace HB20 := Lib.hid (boxes HB20.out b90)
 replace HB39 := Lib.hid (boxes HB39.out b90)
 replace HB84 := Lib.hid (boxes HB84.out b90)
 replace hB := hB.trans (b90.mono hB.size)
 have hz19 : W18.heap.size ≤ W19.heap.size := b90.size
 clear b90
 go_wp2
 go_ret
 exact ⟨rfl, hB⟩

theorem own : ownKnob Tryd.prog.godebug = none := by kernel_rfl
theorem laidOut : laidOutB Tryd.prog = true := by kernel_rfl
theorem readable : ∀ t ∈ Tryd.f6.params.toList, Tryd.prog.readableRec t = true ∧ t < Tryd.prog.types.size := by
 rw [Tryd.params6]
 simp only [List.mem_cons, List.not_mem_nil, or_false]
 rintro t rfl
 exact ⟨by kernel_rfl, of_decide_eq_true (by kernel_rfl)⟩

set_option maxRecDepth 100000 in
theorem lifted (os : Os) (started : os.Started) (H : Type) (enc : TypeId × Value → H) :
  ReturnsInHanded {} Tryd.checked os 6 .any (fun w args => (Rows.fnExactDirectiveOfSpec.pre enc Tryd.prog Tryd.f6 Rows.fnExactDirectiveOfRow.domain false w args ∧ laidMetH Tryd.prog Rows.fnExactDirectiveOfRow.laid w) ∧ sizedMet enc Tryd.prog Tryd.f6 (OpenSpec.ofChange Rows.fnExactDirectiveOfSpec) false w args) (Rows.fnExactDirectiveOfSpec.post enc Tryd.prog Tryd.f6 false true false false) := by
 refine returnsIn_laid (C := Tryd.checked) (X := fun w _ => laidMetH Tryd.prog Rows.fnExactDirectiveOfRow.laid w) (fun _ _ _ hh h => h.of_heap hh) own started (by kernel_rfl) Tryd.func6
  (ChangeSpec.witness_shaped (enc := enc) (C := Tryd.checked) (os := os) (X := fun w _ => laidMetH Tryd.prog Rows.fnExactDirectiveOfRow.laid w) false (World.laidAll Tryd.prog os Rows.fnExactDirectiveOfRow.laid) #[.slice none 0 0] 8 (World.laidAll_os _ _ _)
   (World.shaped_of_ZipB (by kernel_rfl) (by kernel_rfl)) (by kernel_rfl) (by kernel_rfl) (by kernel_rfl)
   (by rw [MakeChecks.laidMetH_plain _ _ _ (by kernel_rfl)]; exact laidMet_laidAll _ (by kernel_rfl) (by kernel_rfl))) ?_
 intro W base args ds gs before hval0 hW hsh hL
 have hval : ∀ (j : Nat) t v, Tryd.f6.params[j]? = some t → args[j]? = some v → Value.okWide Tryd.prog W .any base t v := hval0
 have hW' := hW
 obtain ⟨p, q, hA0, hV, rfl, hfz, hnd⟩ := hW
 have hA : DataW.TrodAll enc Tryd.prog W 0 (fun _ => true) true Tryd.f6.params.toList args.toList ds p := hA0
 rw [Tryd.params6] at hA hval
 obtain ⟨v0, vs0, d0, ds0, p0, q0, hargs0, rfl, rfl, h0, r0⟩ := trodAll_cons hA
 obtain ⟨rfl, rfl, rfl⟩ := trodAll_nil r0
 obtain rfl : args = #[v0] := by cases args; simp_all
 obtain ⟨gv, tv, csv, fuv, dv, pv, rfl, -⟩ := trodVars_one hV
 obtain ⟨a0, len0, cap0, rfl⟩ := okWide_slice Tryd.underlying35 (hval 0 35 v0 rfl rfl)
 obtain ⟨x0, fp0, H0⟩ := open_arg (opens_slice Tryd.underlying35 (by kernel_rfl) (by decide) opens_Token) h0
 refine (walk _ x0 fp0 W H0 ⟨Env.of_shaped hsh, names_of_laid hL⟩).mono fun e W' ⟨he, hw⟩ => ?_
 subst he
 exact ⟨_, rfl, law_vars laidOut readable (by kernel_rfl) rfl Tryd.underlying4 hW' rfl rfl rfl hw⟩

theorem row_holds : Rows.FnExactDirectiveOfSaid :=
 OpenClaim.holds_of_wide 6 Tryd.f6 rfl rfl rfl rfl rfl rfl rfl ⟨rfl, rfl, rfl, rfl, rfl⟩ rfl rfl rfl rfl rfl (by kernel_rfl) Tryd.func6 (by kernel_rfl)
  (of_decide_eq_true (by kernel_rfl)) (by unfold Func.isWrapper; first | (rw [if_pos (by decide +kernel)]; kernel_rfl) | (rw [if_neg (by decide +kernel)]; exact ⟨rfl, rfl⟩))
  (fun os started H enc _ => lifted os started H enc)

theorem holds : Rows.FnExactDirectiveOfCardSaid :=
 Claim7.holds_tied_plain_at .later [] [.data] true Rows.fnExactDirectiveOfCard.stood.harness Rows.fnExactDirectiveOfCard.stood.looks row_holds (fun _ h => by cases h) (by kernel_rfl) (fun _ h => by cases h) fnExactDirectiveOf_row_tie rfl ⟨rfl, rfl⟩ (by kernel_rfl) rfl
  (fun f fn hf hfn => by
   obtain rfl : f = 6 := Option.some.inj ((show Tryd.prog.funcNamed "loop.example/macroprocessor/laws.FnExactDirectiveOf" = some 6 by kernel_rfl).symm.trans hf) |>.symm
   obtain rfl : fn = Tryd.f6 := (Option.some.inj (Tryd.func6.symm.trans hfn)).symm
   exact ⟨by kernel_rfl, fun j t ht => by
    rw [Tryd.params6] at ht
    have hm : t ∈ [35] := by simpa using Array.mem_of_getElem? ht
    have hall : ([35].all fun u => !Tryd.prog.wantsStandIn u) = true := by kernel_rfl
    exact (show Tryd.prog.wantsStandIn t = false by simpa using List.all_eq_true.1 hall t hm)⟩)
  (by kernel_rfl)

end Go.Proofs.YtlegeancmcmbaaaDoor.exactDirectiveOf
