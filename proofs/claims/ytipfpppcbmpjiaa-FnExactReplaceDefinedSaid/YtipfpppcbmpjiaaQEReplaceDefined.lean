/- ReplaceDefined of the program answers as its model at every argument; it writes into none; its answer owns its memory. No conditions. -/
import Derived.Test.YtipfpppcbmpjiaaZU14
import Derived.Test.YtipfpppcbmpjiaaZU2
set_option linter.unusedVariables false
set_option linter.unusedSimpArgs false
namespace Go.Proofs.Ytipfpppcbmpjiaa.exactReplaceDefined
open Go.ChangeShapes Go.WideShapes Go.ChangeAt Go.RowKit Go.ChangeMaps

theorem boxes {w : World} {g : Nat} {arr : Array Value} {ty : TypeId} (h : w.heap[g]? = some (.cells arr ty (0, 0))) {w' : World} (hb : Below w.heap.size w w') : w'.heap[g]? = some (.cells arr ty (0, 0)) :=
  (hb.block g (Array.getElem?_eq_some_iff.1 h).1).trans h
theorem boxK {w : World} {g : Nat} {arr : Array Value} {ty : TypeId} {fp : List Nat} (h : w.heap[g]? = some (.cells arr ty (0, 0))) {w' : World} (hk : Kept fp w w') (hn : g ∉ fp) : w'.heap[g]? = some (.cells arr ty (0, 0)) :=
  (hk.block g (Array.getElem?_eq_some_iff.1 h).1 hn).trans h
theorem boxlt {w : World} {g : Nat} {arr : Array Value} {ty : TypeId} (h : w.heap[g]? = some (.cells arr ty (0, 0))) : g < w.heap.size := (Array.getElem?_eq_some_iff.1 h).1
theorem box_new (w : World) (arr : Array Value) (ty : TypeId) : (w.alloc (.cells arr ty)).heap[w.heap.size]? = some (.cells arr ty (0, 0)) := by
  show (w.heap.push _)[_]? = _; simp

set_option maxHeartbeats 16000000 in
set_option maxRecDepth 100000 in
theorem walk (v0 : Value) (x0 : (List DMacro)) (fp0 : List Nat) (v1 : Value) (x1 : (List Tok)) (fp1 : List Nat) (w : World) (H0 : (sSlice sMacro).R w [v0] x0 fp0) (H1 : (sSlice sTok).R w [v1] x1 fp1) :
    Calls Try.prog 4 #[v0, v1] w fun e w' => e = .returned (.bool true) ∧ Below w.heap.size w w' := by
  have HSP := Lib.hid (fun (W : World) (v0_ : Value) (f0_ : List Nat) (v1_ : Value) (f1_ : List Nat) (hw0_ : wtMacroS x0 ≤ 1048576) (hw1_ : wtTokenS x1 ≤ 1048576) (h0_ : (sSlice sMacro).R W [v0_] x0 f0_) (h1_ : (sSlice sTok).R W [v1_] x1 f1_) => spec_ReplaceDefined_w v0_ x0 f0_ v1_ x1 f1_ W hw0_ hw1_ h0_ h1_)
  have HIM := Lib.hid (fun (W : World) (v0_ : Value) (f0_ : List Nat) (v1_ : Value) (f1_ : List Nat) (hw0_ : wtMacroS x0 ≤ 1048576) (hw1_ : wtTokenS x1 ≤ 1048576) (h0_ : (sSlice sMacro).R W [v0_] x0 f0_) (h1_ : (sSlice sTok).R W [v1_] x1 f1_) => impl_ReplaceDefined_w v0_ x0 f0_ v1_ x1 f1_ W hw0_ hw1_ h0_ h1_)
  unfold RetRep at HSP
  unfold MineRep at HIM
  have HC := Lib.hid (ReplaceDefined_cnt x0 x1)
  generalize repRes x0 x1 = M at HSP HIM HC
  obtain ⟨md, mb⟩ := M
  have hB := Below.refl w.heap.size w
  have a0 := Seen.of H0
  have a1 := Seen.of H1
  clear H0 H1
  go_enter Try.func4, Try.ntmps4
  go_wp2_with fail
  refine (szMacroS _ _ _ _ _ (by omega) (by omega) a0.r).mono ?_
  rintro e W1 ⟨r0, rfl, hr0, b1⟩
  replace a0 := a0.below b1
  replace a1 := a1.below b1
  replace hB := hB.trans (b1.mono hB.size)
  have hz1 : w.heap.size ≤ W1.heap.size := b1.size
  clear b1
  by_cases hneg0 : r0 < 0
  · go_wp2
    go_ret
    exact ⟨rfl, hB⟩
  have hw0 := (hr0.good hneg0).1
  have hl0 := hr0.le (by omega)
  have HW0 : Hid (wtMacroS x0 ≤ 1048576) := by show _ ≤ _; omega
  clear hr0 hw0
  go_wp2_with fail
  refine (szTokenS _ _ _ _ _ (by omega) (by omega) a1.r).mono ?_
  rintro e W2 ⟨r1, rfl, hr1, b2⟩
  replace a0 := a0.below b2
  replace a1 := a1.below b2
  replace hB := hB.trans (b2.mono hB.size)
  have hz2 : W1.heap.size ≤ W2.heap.size := b2.size
  clear b2
  by_cases hneg1 : r1 < 0
  · go_wp2
    go_ret
    exact ⟨rfl, hB⟩
  have hw1 := (hr1.good hneg1).1
  have hl1 := hr1.le (by omega)
  have HW1 : Hid (wtTokenS x1 ≤ 1048576) := by show _ ≤ _; omega
  clear hr1 hw1
  go_wp2_with fail
  refine (toMacroS _ _ _ _ HW0.out a0.r).mono ?_
  rintro e W3 ⟨v3, f4, rfl, r5, o6, b7⟩
  replace a0 := a0.below b7
  replace a1 := a1.below b7
  replace hB := hB.trans (b7.mono hB.size)
  have hz3 : W2.heap.size ≤ W3.heap.size := b7.size
  clear b7
  have c8 := Live.of r5 o6
  clear r5 o6
  go_wp2_with fail
  refine (toTokenS _ _ _ _ HW1.out a1.r).mono ?_
  rintro e W4 ⟨v9, f10, rfl, r11, o12, b13⟩
  replace a0 := a0.below b13
  replace a1 := a1.below b13
  replace c8 := c8.below b13
  replace hB := hB.trans (b13.mono hB.size)
  have hz4 : W3.heap.size ≤ W4.heap.size := b13.size
  clear b13
  have c14 := Live.of r11 o12
  clear r11 o12
  go_wp2_with fail
  refine (HSP.out _ _ _ _ _ HW0.out HW1.out c8.r c14.r).mono ?_
  rintro e W5 ⟨v16, f17, rfl, r18, -, b15⟩
  replace a0 := a0.below b15
  replace a1 := a1.below b15
  replace c8 := c8.below b15
  replace c14 := c14.below b15
  replace hB := hB.trans (b15.mono hB.size)
  have hz5 : W4.heap.size ≤ W5.heap.size := b15.size
  clear b15
  have g20 := Seen.of r18
  clear r18
  clear c8
  clear c14
  go_wp2_with fail
  refine (toMacroS _ _ _ _ HW0.out a0.r).mono ?_
  rintro e W6 ⟨v21, f22, rfl, r23, o24, b25⟩
  replace a0 := a0.below b25
  replace a1 := a1.below b25
  replace g20 := g20.below b25
  replace hB := hB.trans (b25.mono hB.size)
  have hz6 : W5.heap.size ≤ W6.heap.size := b25.size
  clear b25
  have c26 := Live.of r23 o24
  clear r23 o24
  go_wp2_with fail
  refine (toTokenS _ _ _ _ HW1.out a1.r).mono ?_
  rintro e W7 ⟨v27, f28, rfl, r29, o30, b31⟩
  replace a0 := a0.below b31
  replace a1 := a1.below b31
  replace g20 := g20.below b31
  replace c26 := c26.below b31
  replace hB := hB.trans (b31.mono hB.size)
  have hz7 : W6.heap.size ≤ W7.heap.size := b31.size
  clear b31
  have c32 := Live.of r29 o30
  clear r29 o30
  go_wp2_with fail
  refine (HIM.out _ _ _ _ _ HW0.out HW1.out c26.r c32.r).mono ?_
  rintro e W8 ⟨v34, f35, rfl, r36, o37, b33⟩
  replace a0 := a0.below b33
  replace a1 := a1.below b33
  replace g20 := g20.below b33
  replace c26 := c26.below b33
  replace c32 := c32.below b33
  replace hB := hB.trans (b33.mono hB.size)
  have hz8 : W7.heap.size ≤ W8.heap.size := b33.size
  clear b33
  have g38 := Live.of r36 o37
  clear o37
  clear r36
  go_wp2_with fail
  refine (eqTokenS_same _ _ _ _ _ _ g38.r g20.r).mono ?_
  rintro e W9 ⟨rfl, b39⟩
  replace a0 := a0.below b39
  replace a1 := a1.below b39
  replace g20 := g20.below b39
  replace c26 := c26.below b39
  replace c32 := c32.below b39
  replace g38 := g38.below b39
  replace hB := hB.trans (b39.mono hB.size)
  have hz9 : W8.heap.size ≤ W9.heap.size := b39.size
  clear b39
  go_wp2_with fail
  refine (toMacroS _ _ _ _ HW0.out a0.r).mono ?_
  rintro e W10 ⟨v40, f41, rfl, r42, o43, b44⟩
  replace a0 := a0.below b44
  replace a1 := a1.below b44
  replace g20 := g20.below b44
  replace c26 := c26.below b44
  replace c32 := c32.below b44
  replace g38 := g38.below b44
  replace hB := hB.trans (b44.mono hB.size)
  have hz10 : W9.heap.size ≤ W10.heap.size := b44.size
  clear b44
  have c45 := Live.of r42 o43
  clear r42 o43
  go_wp2_with fail
  refine (eqMacroS_same _ _ _ _ _ _ c26.r c45.r).mono ?_
  rintro e W11 ⟨rfl, b46⟩
  replace a0 := a0.below b46
  replace a1 := a1.below b46
  replace g20 := g20.below b46
  replace c26 := c26.below b46
  replace c32 := c32.below b46
  replace g38 := g38.below b46
  replace c45 := c45.below b46
  replace hB := hB.trans (b46.mono hB.size)
  have hz11 : W10.heap.size ≤ W11.heap.size := b46.size
  clear b46
  clear c45
  go_wp2_with fail
  refine (toTokenS _ _ _ _ HW1.out a1.r).mono ?_
  rintro e W12 ⟨v47, f48, rfl, r49, o50, b51⟩
  replace a0 := a0.below b51
  replace a1 := a1.below b51
  replace g20 := g20.below b51
  replace c26 := c26.below b51
  replace c32 := c32.below b51
  replace g38 := g38.below b51
  replace hB := hB.trans (b51.mono hB.size)
  have hz12 : W11.heap.size ≤ W12.heap.size := b51.size
  clear b51
  have c52 := Live.of r49 o50
  clear r49 o50
  go_wp2_with fail
  refine (eqTokenS_same _ _ _ _ _ _ c32.r c52.r).mono ?_
  rintro e W13 ⟨rfl, b53⟩
  replace a0 := a0.below b53
  replace a1 := a1.below b53
  replace g20 := g20.below b53
  replace c26 := c26.below b53
  replace c32 := c32.below b53
  replace g38 := g38.below b53
  replace c52 := c52.below b53
  replace hB := hB.trans (b53.mono hB.size)
  have hz13 : W12.heap.size ≤ W13.heap.size := b53.size
  clear b53
  clear c52
  go_wp2_with fail
  refine (markMacroS _ _ _ W5.heap.size _ _ (by first | omega | (have hc := HC.out; have hw0 := HW0.out; have hw1 := HW1.out; have hn0 := cntMacroS_le x0; have hn1 := cntTokenS_le x1; omega)) (by first | omega | (have hc := HC.out; have hw0 := HW0.out; have hw1 := HW1.out; have hn0 := cntMacroS_le x0; have hn1 := cntTokenS_le x1; omega)) c26.r c26.o).mono ?_
  rintro e W14 ⟨rfl, r54, o55, hk⟩
  replace a0 := a0.kept hk c26.o (by omega)
  replace a1 := a1.kept hk c26.o (by omega)
  replace g20 := g20.kept hk c26.o (by omega)
  replace c32 := c32.kept' hk (fun b hb => Nat.lt_of_lt_of_le (c26.hi b hb) (by omega))
  replace g38 := g38.kept' hk (fun b hb => Nat.lt_of_lt_of_le (c26.hi b hb) (by omega))
  replace hB := hB.trans (hk.below' c26.o (by first | exact Nat.le_refl _ | omega) (by omega))
  have hz14 : W13.heap.size ≤ W14.heap.size := hk.size
  replace c26 : Live _ _ _ _ _ _ _ := ⟨r54, o55, c26.hi⟩
  clear r54 o55 hk
  go_wp2_with fail
  refine (markTokenS _ _ _ W6.heap.size _ _ (by first | omega | (have hc := HC.out; have hw0 := HW0.out; have hw1 := HW1.out; have hn0 := cntMacroS_le x0; have hn1 := cntTokenS_le x1; omega)) (by first | omega | (have hc := HC.out; have hw0 := HW0.out; have hw1 := HW1.out; have hn0 := cntMacroS_le x0; have hn1 := cntTokenS_le x1; omega)) c32.r c32.o).mono ?_
  rintro e W15 ⟨rfl, r56, o57, hk⟩
  replace a0 := a0.kept hk c32.o (by omega)
  replace a1 := a1.kept hk c32.o (by omega)
  replace g20 := g20.kept hk c32.o (by omega)
  replace c26 := c26.kept hk c32.o (by omega)
  replace g38 := g38.kept' hk (fun b hb => Nat.lt_of_lt_of_le (c32.hi b hb) (by omega))
  replace hB := hB.trans (hk.below' c32.o (by first | exact Nat.le_refl _ | omega) (by omega))
  have hz15 : W14.heap.size ≤ W15.heap.size := hk.size
  replace c32 : Live _ _ _ _ _ _ _ := ⟨r56, o57, c32.hi⟩
  clear r56 o57 hk
  go_wp2_with fail
  refine (eqTokenS_same _ _ _ _ _ _ g38.r g20.r).mono ?_
  rintro e W16 ⟨rfl, b58⟩
  replace a0 := a0.below b58
  replace a1 := a1.below b58
  replace g20 := g20.below b58
  replace c26 := c26.below b58
  replace c32 := c32.below b58
  replace g38 := g38.below b58
  replace hB := hB.trans (b58.mono hB.size)
  have hz16 : W15.heap.size ≤ W16.heap.size := b58.size
  clear b58
  clear c26
  clear c32
  go_wp2_with fail
  refine (markTokenS _ _ _ W7.heap.size _ _ (by first | omega | (have hc := HC.out; have hw0 := HW0.out; have hw1 := HW1.out; have hn0 := cntMacroS_le x0; have hn1 := cntTokenS_le x1; omega)) (by first | omega | (have hc := HC.out; have hw0 := HW0.out; have hw1 := HW1.out; have hn0 := cntMacroS_le x0; have hn1 := cntTokenS_le x1; omega)) g38.r g38.o).mono ?_
  rintro e W17 ⟨rfl, r59, o60, hk⟩
  replace a0 := a0.kept hk g38.o (by omega)
  replace a1 := a1.kept hk g38.o (by omega)
  replace g20 := g20.kept hk g38.o (by omega)
  replace hB := hB.trans (hk.below' g38.o (by first | exact Nat.le_refl _ | omega) (by omega))
  have hz17 : W16.heap.size ≤ W17.heap.size := hk.size
  replace g38 : Live _ _ _ _ _ _ _ := ⟨r59, o60, g38.hi⟩
  clear r59 o60 hk
  go_wp2_with fail
  refine (heldTokenS _ _ _ _ _ (by first | omega | (have hc := HC.out; have hw0 := HW0.out; have hw1 := HW1.out; have hn0 := cntMacroS_le x0; have hn1 := cntTokenS_le x1; omega)) (by first | omega | (have hc := HC.out; have hw0 := HW0.out; have hw1 := HW1.out; have hn0 := cntMacroS_le x0; have hn1 := cntTokenS_le x1; omega)) g38.r).mono ?_
  rintro e W18 ⟨rfl, b61⟩
  replace a0 := a0.below b61
  replace a1 := a1.below b61
  replace g20 := g20.below b61
  replace g38 := g38.below b61
  replace hB := hB.trans (b61.mono hB.size)
  have hz18 : W17.heap.size ≤ W18.heap.size := b61.size
  clear b61
  go_wp2_with fail
  refine (toMacroS _ _ _ _ HW0.out a0.r).mono ?_
  rintro e W19 ⟨v62, f63, rfl, r64, o65, b66⟩
  replace a0 := a0.below b66
  replace a1 := a1.below b66
  replace g20 := g20.below b66
  replace g38 := g38.below b66
  replace hB := hB.trans (b66.mono hB.size)
  have hz19 : W18.heap.size ≤ W19.heap.size := b66.size
  clear b66
  have c67 := Live.of r64 o65
  clear r64 o65
  go_wp2_with fail
  refine (toTokenS _ _ _ _ HW1.out a1.r).mono ?_
  rintro e W20 ⟨v68, f69, rfl, r70, o71, b72⟩
  replace a0 := a0.below b72
  replace a1 := a1.below b72
  replace g20 := g20.below b72
  replace g38 := g38.below b72
  replace c67 := c67.below b72
  replace hB := hB.trans (b72.mono hB.size)
  have hz20 : W19.heap.size ≤ W20.heap.size := b72.size
  clear b72
  have c73 := Live.of r70 o71
  clear r70 o71
  go_wp2_with fail
  refine (HIM.out _ _ _ _ _ HW0.out HW1.out c67.r c73.r).mono ?_
  rintro e W21 ⟨v75, f76, rfl, r77, o78, b74⟩
  replace a0 := a0.below b74
  replace a1 := a1.below b74
  replace g20 := g20.below b74
  replace g38 := g38.below b74
  replace c67 := c67.below b74
  replace c73 := c73.below b74
  replace hB := hB.trans (b74.mono hB.size)
  have hz21 : W20.heap.size ≤ W21.heap.size := b74.size
  clear b74
  have g79 := Live.of r77 o78
  clear o78
  clear r77
  go_wp2_with fail
  refine (eqTokenS_same _ _ _ _ _ _ g79.r g20.r).mono ?_
  rintro e W22 ⟨rfl, b80⟩
  replace a0 := a0.below b80
  replace a1 := a1.below b80
  replace g20 := g20.below b80
  replace g38 := g38.below b80
  replace c67 := c67.below b80
  replace c73 := c73.below b80
  replace g79 := g79.below b80
  replace hB := hB.trans (b80.mono hB.size)
  have hz22 : W21.heap.size ≤ W22.heap.size := b80.size
  clear b80
  go_wp2_with fail
  refine (heldTokenS _ _ _ _ _ (by first | omega | (have hc := HC.out; have hw0 := HW0.out; have hw1 := HW1.out; have hn0 := cntMacroS_le x0; have hn1 := cntTokenS_le x1; omega)) (by first | omega | (have hc := HC.out; have hw0 := HW0.out; have hw1 := HW1.out; have hn0 := cntMacroS_le x0; have hn1 := cntTokenS_le x1; omega)) g38.r).mono ?_
  rintro e W23 ⟨rfl, b81⟩
  replace a0 := a0.below b81
  replace a1 := a1.below b81
  replace g20 := g20.below b81
  replace g38 := g38.below b81
  replace c67 := c67.below b81
  replace c73 := c73.below b81
  replace g79 := g79.below b81
  replace hB := hB.trans (b81.mono hB.size)
  have hz23 : W22.heap.size ≤ W23.heap.size := b81.size
  clear b81
  go_wp2
  go_ret
  exact ⟨rfl, hB⟩

theorem own : ownKnob Try.prog.godebug = none := by kernel_rfl
theorem laidOut : laidOutB Try.prog = true := by kernel_rfl
theorem readable : ∀ t ∈ Try.f4.params.toList, Try.prog.readableRec t = true ∧ t < Try.prog.types.size := by
  rw [Try.params4]
  intro t ht
  simp only [List.mem_cons, List.not_mem_nil, or_false] at ht
  first
    | (subst ht; exact ⟨by kernel_rfl, of_decide_eq_true (by kernel_rfl)⟩)
    | (rcases ht with rfl | rfl <;> exact ⟨by kernel_rfl, of_decide_eq_true (by kernel_rfl)⟩)

set_option maxRecDepth 100000 in
theorem lifted (os : Os) (started : os.Started) (H : Type) (enc : TypeId × Value → H) :
    ReturnsInHanded {} Try.checked os 4 .any (Rows.fnExactReplaceDefinedSpec.pre6 enc Try.prog Try.f4 Rows.fnExactReplaceDefinedRow.domain false) (Rows.fnExactReplaceDefinedSpec.post enc Try.prog Try.f4 false true false false) := by
  refine returnsInHanded_of_change (C := Try.checked) own started (by kernel_rfl) Try.func4
    (ChangeSpec.witness6 (enc := enc) (C := Try.checked) false ⟨#[], #[.slice none 0 0, .slice none 0 0], []⟩ 8 (by kernel_rfl) (by kernel_rfl) (by kernel_rfl) (by kernel_rfl)) ?_
  intro W base args ds gs before hval0 hW hcnd _
  have hval : ∀ (j : Nat) t v, Try.f4.params[j]? = some t → args[j]? = some v → Value.okWide Try.prog W .any base t v := hval0
  have hW' := hW
  obtain ⟨p, q, hA0, hV, rfl, hfz, hnd⟩ := hW
  have hA : DataW.TrodAll enc Try.prog W 0 (fun _ => true) true Try.f4.params.toList args.toList ds p := hA0
  rw [Try.params4] at hA hval
  obtain ⟨v0, vs0, d0, ds0, p0, q0, hargs0, rfl, rfl, h0, r0⟩ := trodAll_cons hA
  obtain ⟨v1, vs1, d1, ds1, p1, q1, hargs1, rfl, rfl, h1, r1⟩ := trodAll_cons r0
  obtain ⟨rfl, rfl, rfl⟩ := trodAll_nil r1
  obtain rfl : args = #[v0, v1] := by cases args; simp_all
  obtain ⟨rfl, rfl⟩ := trodVars_none hV
  obtain ⟨a0, len0, cap0, rfl⟩ := okWide_slice Try.underlying35 (hval 0 35 v0 rfl rfl)
  obtain ⟨x0, fp0, H0⟩ := open_arg (opens_slice Try.underlying35 (by kernel_rfl) (by decide) opens_Macro) h0
  obtain ⟨a1, len1, cap1, rfl⟩ := okWide_slice Try.underlying36 (hval 1 36 v1 rfl rfl)
  obtain ⟨x1, fp1, H1⟩ := open_arg (opens_slice Try.underlying36 (by kernel_rfl) (by decide) opens_Token) h1
  refine (walk _ x0 fp0 _ x1 fp1 W H0 H1).mono fun e W' ⟨he, hw⟩ => ?_
  subst he
  exact ⟨_, rfl, law_done laidOut readable rfl rfl Try.underlying4 hW' rfl rfl rfl hw⟩

theorem holds : Rows.FnExactReplaceDefinedSaid :=
  OpenClaim.holds_of_wide 4 Try.f4 rfl rfl rfl rfl rfl rfl rfl ⟨rfl, rfl, rfl, rfl, rfl⟩ rfl rfl rfl rfl rfl (by kernel_rfl) Try.func4 (by kernel_rfl)
    (of_decide_eq_true (by kernel_rfl)) (by unfold Func.isWrapper; first | (rw [if_pos (by decide +kernel)]; kernel_rfl) | (rw [if_neg (by decide +kernel)]; exact ⟨rfl, rfl⟩))
    (fun os started H enc _ => lifted os started H enc)


end Go.Proofs.Ytipfpppcbmpjiaa.exactReplaceDefined
