/- LevelStep of the program answers as its model at every argument; it writes into none; its answer owns its memory. No conditions. -/
import Derived.Test.YtghikfggcnabeaaZU12
import Derived.Test.YtghikfggcnabeaaZU2
set_option linter.unusedVariables false
set_option linter.unusedSimpArgs false
namespace Go.Proofs.Ytghikfggcnabeaa.exactLevelStep
open Go.ChangeShapes Go.WideShapes Go.ChangeAt Go.RowKit Go.ChangeMaps

theorem boxes {w : World} {g : Nat} {arr : Array Value} {ty : TypeId} (h : w.heap[g]? = some (.cells arr ty (0, 0))) {w' : World} (hb : Below w.heap.size w w') : w'.heap[g]? = some (.cells arr ty (0, 0)) :=
 (hb.block g (Array.getElem?_eq_some_iff.1 h).1).trans h
theorem boxK {w : World} {g : Nat} {arr : Array Value} {ty : TypeId} {fp : List Nat} (h : w.heap[g]? = some (.cells arr ty (0, 0))) {w' : World} (hk : Kept fp w w') (hn : g ∉ fp) : w'.heap[g]? = some (.cells arr ty (0, 0)) :=
 (hk.block g (Array.getElem?_eq_some_iff.1 h).1 hn).trans h
theorem boxlt {w : World} {g : Nat} {arr : Array Value} {ty : TypeId} (h : w.heap[g]? = some (.cells arr ty (0, 0))) : g < w.heap.size := (Array.getElem?_eq_some_iff.1 h).1
theorem box_new (w : World) (arr : Array Value) (ty : TypeId) : (w.alloc (.cells arr ty)).heap[w.heap.size]? = some (.cells arr ty (0, 0)) := by
 show (w.heap.push _)[_]? = _; simp

set_option maxHeartbeats 16000000 in
set_option maxRecDepth 100000 in
theorem walk (v0 : Value) (x0 : (List DLevel)) (fp0 : List Nat) (v1 : Value) (x1 : Int) (fp1 : List Nat) (v2 : Value) (x2 : Bool) (fp2 : List Nat) (w : World) (H0 : (sSlice sLevel).R w [v0] x0 fp0) (H1 : sInt.R w [v1] x1 fp1) (H2 : sBool.R w [v2] x2 fp2) :
  Calls Try.prog 6 #[v0, v1, v2] w fun e w' => e = .returned (.bool true) ∧ Below w.heap.size w w' := by
 obtain ⟨h1, hok1, rfl⟩ := H1
 obtain rfl : v1 = .int .i64 x1 := by simpa using h1
 obtain ⟨h2, hok2, rfl⟩ := H2
 obtain rfl : v2 = .bool x2 := by simpa using h2
 have HSP := Lib.hid (fun (W : World) (v0_ : Value) (f0_ : List Nat) (hw0_ : wtLevelS x0 ≤ 1048576) (h0_ : (sSlice sLevel).R W [v0_] x0 f0_) => spec_LevelStep_w v0_ x0 f0_ x1 x2 W hw0_ h0_ hok1 hok2)
 have HIM := Lib.hid (fun (W : World) (v0_ : Value) (f0_ : List Nat) (hw0_ : wtLevelS x0 ≤ 1048576) (h0_ : (sSlice sLevel).R W [v0_] x0 f0_) => impl_LevelStep_w v0_ x0 f0_ x1 x2 W hw0_ h0_ hok1 hok2)
 unfold RetLev at HSP
 unfold MineLev at HIM
 have HC := Lib.hid (LevelStep_cnt x0 x1 x2)
 generalize stepL x0 x1 x2 = M at HSP HIM HC
 obtain ⟨md, mb⟩ := M
 have hB := Below.refl w.heap.size w
 have a0 := Seen.of H0
 clear H0
 go_enter Try.func6, Try.ntmps6
 go_wp2_with fail
 refine (szLevelS _ _ _ _ _ (by omega) (by omega) a0.r).mono ?_
 rintro e W1 ⟨r0, rfl, hr0, b1⟩
 replace a0 := a0.below b1
 replace hB := hB.trans (b1.mono hB.size)
 have hz1 : w.heap.size ≤ W1.heap.size := b1.size
 clear b1
 by_cases hneg0 : r0 < 0
 ·go_wp2
  go_ret
  exact ⟨rfl, hB⟩
 have hw0 := (hr0.good hneg0).1
 have hl0 := hr0.le (by omega)
 have HW0 : Hid (wtLevelS x0 ≤ 1048576) := by show _ ≤ _; omega
 clear hr0 hw0
 go_wp2_with fail
 refine (toLevelS _ _ _ _ HW0.out a0.r).mono ?_
 rintro e W2 ⟨v2, f3, rfl, r4, o5, b6⟩
 replace a0 := a0.below b6
 replace hB := hB.trans (b6.mono hB.size)
 have hz2 : W1.heap.size ≤ W2.heap.size := b6.size
 clear b6
 have c7 := Live.of r4 o5
 clear r4 o5
 go_wp2_with fail
 refine (HSP.out _ _ _ HW0.out c7.r).mono ?_
 rintro e W3 ⟨v9, f10, rfl, r11, -, b8⟩
 replace a0 := a0.below b8
 replace c7 := c7.below b8
 replace hB := hB.trans (b8.mono hB.size)
 have hz3 : W2.heap.size ≤ W3.heap.size := b8.size
 clear b8
 have g13 := Seen.of r11
 clear r11
 clear c7
 go_wp2_with fail
 refine (toLevelS _ _ _ _ HW0.out a0.r).mono ?_
 rintro e W4 ⟨v14, f15, rfl, r16, o17, b18⟩
 replace a0 := a0.below b18
 replace g13 := g13.below b18
 replace hB := hB.trans (b18.mono hB.size)
 have hz4 : W3.heap.size ≤ W4.heap.size := b18.size
 clear b18
 have c19 := Live.of r16 o17
 clear r16 o17
 go_wp2_with fail
 refine (HIM.out _ _ _ HW0.out c19.r).mono ?_
 rintro e W5 ⟨v21, f22, rfl, r23, o24, b20⟩
 replace a0 := a0.below b20
 replace g13 := g13.below b20
 replace c19 := c19.below b20
 replace hB := hB.trans (b20.mono hB.size)
 have hz5 : W4.heap.size ≤ W5.heap.size := b20.size
 clear b20
 have g25 := Live.of r23 o24
 clear o24
 clear r23
 go_wp2_with fail
 refine (eqLevelS_same _ _ _ _ _ _ g25.r g13.r).mono ?_
 rintro e W6 ⟨rfl, b26⟩
 replace a0 := a0.below b26
 replace g13 := g13.below b26
 replace c19 := c19.below b26
 replace g25 := g25.below b26
 replace hB := hB.trans (b26.mono hB.size)
 have hz6 : W5.heap.size ≤ W6.heap.size := b26.size
 clear b26
 go_wp2_with fail
 refine (toLevelS _ _ _ _ HW0.out a0.r).mono ?_
 rintro e W7 ⟨v27, f28, rfl, r29, o30, b31⟩
 replace a0 := a0.below b31
 replace g13 := g13.below b31
 replace c19 := c19.below b31
 replace g25 := g25.below b31
 replace hB := hB.trans (b31.mono hB.size)
 have hz7 : W6.heap.size ≤ W7.heap.size := b31.size
 clear b31
 have c32 := Live.of r29 o30
 clear r29 o30
 go_wp2_with fail
 refine (eqLevelS_same _ _ _ _ _ _ c19.r c32.r).mono ?_
 rintro e W8 ⟨rfl, b33⟩
 replace a0 := a0.below b33
 replace g13 := g13.below b33
 replace c19 := c19.below b33
 replace g25 := g25.below b33
 replace c32 := c32.below b33
 replace hB := hB.trans (b33.mono hB.size)
 have hz8 : W7.heap.size ≤ W8.heap.size := b33.size
 clear b33
 clear c32
 go_wp2_with fail
 refine (markLevelS _ _ _ W3.heap.size _ _ (by first | omega | (have hc := HC.out; have hw0 := HW0.out; have hn0 := cntLevelS_le x0; omega)) (by first | omega | (have hc := HC.out; have hw0 := HW0.out; have hn0 := cntLevelS_le x0; omega)) c19.r c19.o).mono ?_
 rintro e W9 ⟨rfl, r34, o35, hk⟩
 replace a0 := a0.kept hk c19.o (by omega)
 replace g13 := g13.kept hk c19.o (by omega)
 replace g25 := g25.kept' hk (fun b hb => Nat.lt_of_lt_of_le (c19.hi b hb) (by omega))
 replace hB := hB.trans (hk.below' c19.o (by first | exact Nat.le_refl _ | omega) (by omega))
 have hz9 : W8.heap.size ≤ W9.heap.size := hk.size
 replace c19 : Live _ _ _ _ _ _ _ := ⟨r34, o35, c19.hi⟩
 clear r34 o35 hk
 go_wp2_with fail
 refine (eqLevelS_same _ _ _ _ _ _ g25.r g13.r).mono ?_
 rintro e W10 ⟨rfl, b36⟩
 replace a0 := a0.below b36
 replace g13 := g13.below b36
 replace c19 := c19.below b36
 replace g25 := g25.below b36
 replace hB := hB.trans (b36.mono hB.size)
 have hz10 : W9.heap.size ≤ W10.heap.size := b36.size
 clear b36
 clear c19
 go_wp2_with fail
 refine (markLevelS _ _ _ W4.heap.size _ _ (by first | omega | (have hc := HC.out; have hw0 := HW0.out; have hn0 := cntLevelS_le x0; omega)) (by first | omega | (have hc := HC.out; have hw0 := HW0.out; have hn0 := cntLevelS_le x0; omega)) g25.r g25.o).mono ?_
 rintro e W11 ⟨rfl, r37, o38, hk⟩
 replace a0 := a0.kept hk g25.o (by omega)
 replace g13 := g13.kept hk g25.o (by omega)
 replace hB := hB.trans (hk.below' g25.o (by first | exact Nat.le_refl _ | omega) (by omega))
 have hz11 : W10.heap.size ≤ W11.heap.size := hk.size
 replace g25 : Live _ _ _ _ _ _ _ := ⟨r37, o38, g25.hi⟩
 clear r37 o38 hk
 go_wp2_with fail
 refine (heldLevelS _ _ _ _ _ (by first | omega | (have hc := HC.out; have hw0 := HW0.out; have hn0 := cntLevelS_le x0; omega)) (by first | omega | (have hc := HC.out; have hw0 := HW0.out; have hn0 := cntLevelS_le x0; omega)) g25.r).mono ?_
 rintro e W12 ⟨rfl, b39⟩
 replace a0 := a0.below b39
 replace g13 := g13.below b39
 replace g25 := g25.below b39
 replace hB := hB.trans (b39.mono hB.size)
 have hz12 : W11.heap.size ≤ W12.heap.size := b39.size
 clear b39
 go_wp2_with fail
 refine (toLevelS _ _ _ _ HW0.out a0.r).mono ?_
 rintro e W13 ⟨v40, f41, rfl, r42, o43, b44⟩
 replace a0 := a0.below b44
 replace g13 := g13.below b44
 replace g25 := g25.below b44
 replace hB := hB.trans (b44.mono hB.size)
 have hz13 : W12.heap.size ≤ W13.heap.size := b44.size
 clear b44
 have c45 := Live.of r42 o43
 clear r42 o43
 go_wp2_with fail
 refine (HIM.out _ _ _ HW0.out c45.r).mono ?_
 rintro e W14 ⟨v47, f48, rfl, r49, o50, b46⟩
 replace a0 := a0.below b46
 replace g13 := g13.below b46
 replace g25 := g25.below b46
 replace c45 := c45.below b46
 replace hB := hB.trans (b46.mono hB.size)
 have hz14 : W13.heap.size ≤ W14.heap.size := b46.size
 clear b46
 have g51 := Live.of r49 o50
 clear o50
 clear r49
 go_wp2_with fail
 refine (eqLevelS_same _ _ _ _ _ _ g51.r g13.r).mono ?_
 rintro e W15 ⟨rfl, b52⟩
 replace a0 := a0.below b52
 replace g13 := g13.below b52
 replace g25 := g25.below b52
 replace c45 := c45.below b52
 replace g51 := g51.below b52
 replace hB := hB.trans (b52.mono hB.size)
 have hz15 : W14.heap.size ≤ W15.heap.size := b52.size
 clear b52
 go_wp2_with fail
 refine (heldLevelS _ _ _ _ _ (by first | omega | (have hc := HC.out; have hw0 := HW0.out; have hn0 := cntLevelS_le x0; omega)) (by first | omega | (have hc := HC.out; have hw0 := HW0.out; have hn0 := cntLevelS_le x0; omega)) g25.r).mono ?_
 rintro e W16 ⟨rfl, b53⟩
 replace a0 := a0.below b53
 replace g13 := g13.below b53
 replace g25 := g25.below b53
 replace c45 := c45.below b53
 replace g51 := g51.below b53
 replace hB := hB.trans (b53.mono hB.size)
 have hz16 : W15.heap.size ≤ W16.heap.size := b53.size
 clear b53
 go_wp2
 go_ret
 exact ⟨rfl, hB⟩

theorem own : ownKnob Try.prog.godebug = none := by kernel_rfl
theorem laidOut : laidOutB Try.prog = true := by kernel_rfl
theorem readable : ∀ t ∈ Try.f6.params.toList, Try.prog.readableRec t = true ∧ t < Try.prog.types.size := by
 rw [Try.params6]
 intro t ht
 simp only [List.mem_cons, List.not_mem_nil, or_false] at ht
 first
  | (subst ht; exact ⟨by kernel_rfl, of_decide_eq_true (by kernel_rfl)⟩)
  | (rcases ht with rfl | rfl | rfl <;> exact ⟨by kernel_rfl, of_decide_eq_true (by kernel_rfl)⟩)

set_option maxRecDepth 100000 in
theorem lifted (os : Os) (started : os.Started) (H : Type) (enc : TypeId × Value → H) :
  ReturnsInHanded {} Try.checked os 6 .any (Rows.fnExactLevelStepSpec.pre6 enc Try.prog Try.f6 Rows.fnExactLevelStepRow.domain false) (Rows.fnExactLevelStepSpec.post enc Try.prog Try.f6 false true false false) := by
 refine returnsInHanded_of_change (C := Try.checked) own started (by kernel_rfl) Try.func6
  (ChangeSpec.witness6 (enc := enc) (C := Try.checked) false ⟨#[], #[.slice none 0 0, .int .i64 0, .bool false], []⟩ 8 (by kernel_rfl) (by kernel_rfl) (by kernel_rfl) (by kernel_rfl)) ?_
 intro W base args ds gs before hval0 hW hcnd _
 have hval : ∀ (j : Nat) t v, Try.f6.params[j]? = some t → args[j]? = some v → Value.okWide Try.prog W .any base t v := hval0
 have hW' := hW
 obtain ⟨p, q, hA0, hV, rfl, hfz, hnd⟩ := hW
 have hA : DataW.TrodAll enc Try.prog W 0 (fun _ => true) true Try.f6.params.toList args.toList ds p := hA0
 rw [Try.params6] at hA hval
 obtain ⟨v0, vs0, d0, ds0, p0, q0, hargs0, rfl, rfl, h0, r0⟩ := trodAll_cons hA
 obtain ⟨v1, vs1, d1, ds1, p1, q1, hargs1, rfl, rfl, h1, r1⟩ := trodAll_cons r0
 obtain ⟨v2, vs2, d2, ds2, p2, q2, hargs2, rfl, rfl, h2, r2⟩ := trodAll_cons r1
 obtain ⟨rfl, rfl, rfl⟩ := trodAll_nil r2
 obtain rfl : args = #[v0, v1, v2] := by cases args; simp_all
 obtain ⟨rfl, rfl⟩ := trodVars_none hV
 obtain ⟨a0, len0, cap0, rfl⟩ := okWide_slice Try.underlying35 (hval 0 35 v0 rfl rfl)
 obtain ⟨x0, fp0, H0⟩ := open_arg (opens_slice Try.underlying35 (by kernel_rfl) (by decide) opens_Level) h0
 obtain ⟨i1, rfl, _⟩ := okWide_int Try.underlying3 (hval 1 3 v1 rfl rfl)
 obtain ⟨x1, fp1, H1⟩ := open_arg (opens_int Try.underlying3) h1
 obtain ⟨b2, rfl⟩ := okWide_bool Try.underlying4 (hval 2 4 v2 rfl rfl)
 obtain ⟨x2, fp2, H2⟩ := open_arg (opens_bool Try.underlying4) h2
 refine (walk _ x0 fp0 _ x1 fp1 _ x2 fp2 W H0 H1 H2).mono fun e W' ⟨he, hw⟩ => ?_
 subst he
 exact ⟨_, rfl, law_done laidOut readable rfl rfl Try.underlying4 hW' rfl rfl rfl hw⟩

theorem holds : Rows.FnExactLevelStepSaid :=
 OpenClaim.holds_of_wide 6 Try.f6 rfl rfl rfl rfl rfl rfl rfl ⟨rfl, rfl, rfl, rfl, rfl⟩ rfl rfl rfl rfl rfl (by kernel_rfl) Try.func6 (by kernel_rfl)
  (of_decide_eq_true (by kernel_rfl)) (by unfold Func.isWrapper; first | (rw [if_pos (by decide +kernel)]; kernel_rfl) | (rw [if_neg (by decide +kernel)]; exact ⟨rfl, rfl⟩))
  (fun os started H enc _ => lifted os started H enc)


end Go.Proofs.Ytghikfggcnabeaa.exactLevelStep
