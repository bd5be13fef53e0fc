/- ReadDirective of the program answers as its model at every argument; it writes into none; its answer owns its memory. No conditions. -/
import Derived.Test.YtlegeancmcmbaaaDoorZU16
import Derived.Test.YtlegeancmcmbaaaDoorZU5
import Derived.Test.YtlegeancmcmbaaaDoorZU2
import Derived.Test.YtlegeancmcmbaaaDoorTie
import Derived.Test.YtlegeancmcmbaaaDoorCards
import Derived.SevenTiedAt
import Derived.Test.YtlegeancmcmbaaaDoorZU4
set_option linter.unusedVariables false
set_option linter.unusedSimpArgs false
namespace Go.Proofs.YtlegeancmcmbaaaDoor.exactReadDirective
open Go.ChangeShapes Go.WideShapes Go.ChangeAt Go.RowKit Go.ChangeMaps

theorem boxes {w : World} {g : Nat} {arr : Array Value} {ty : TypeId} (h : w.heap[g]? = some (.cells arr ty (0, 0))) {w' : World} (hb : Below w.heap.size w w') : w'.heap[g]? = some (.cells arr ty (0, 0)) :=
 (hb.block g (Array.getElem?_eq_some_iff.1 h).1).trans h
theorem boxK {w : World} {g : Nat} {arr : Array Value} {ty : TypeId} {fp : List Nat} (h : w.heap[g]? = some (.cells arr ty (0, 0))) {w' : World} (hk : Kept fp w w') (hn : g ∉ fp) : w'.heap[g]? = some (.cells arr ty (0, 0)) :=
 (hk.block g (Array.getElem?_eq_some_iff.1 h).1 hn).trans h
theorem boxlt {w : World} {g : Nat} {arr : Array Value} {ty : TypeId} (h : w.heap[g]? = some (.cells arr ty (0, 0))) : g < w.heap.size := (Array.getElem?_eq_some_iff.1 h).1
theorem box_new (w : World) (arr : Array Value) (ty : TypeId) : (w.alloc (.cells arr ty)).heap[w.heap.size]? = some (.cells arr ty (0, 0)) := by
 show (w.heap.push _)[_]? = _; simp

set_option maxHeartbeats 16000000 in
set_option maxRecDepth 100000 in
theorem walk (v0 : Value) (x0 : ByteArray) (fp0 : List Nat) (w : World) (H0 : sStr.R w [v0] x0 fp0) (hE : KE w) :
  Calls Tryd.prog 7 #[v0] w fun e w' => e = .returned (.bool true) ∧ Below w.heap.size w w' := by
 obtain ⟨h0, hok0, rfl⟩ := H0
 obtain rfl : v0 = .string x0 := by simpa using h0
 have hs0 : x0.size ≤ maxLen := hok0
 unfold maxLen at hs0
 have HSP := Lib.hid (fun (W : World)    => spec_ReadDirective_w x0 W  hok0)
 have HIM := Lib.hid (fun (W : World) (hE_ : KE W) => impl_ReadDirective_w x0 W hok0 hE_)
 unfold RetDirD at HSP
 unfold MineDirD at HIM
 have HC := Lib.hid (ReadDirective_cnt x0)
 generalize readD x0 = M at HSP HIM HC
 obtain ⟨md, mb⟩ := M
 have hB := Below.refl w.heap.size w
 go_enter Tryd.func7, Tryd.ntmps7
 by_cases hbig0 : 1048576 < x0.size
 ·go_wp2
  go_ret
  exact ⟨rfl, hB⟩
 go_wp2_with fail
 refine (HSP.out _  ).mono ?_
 rintro e W1 ⟨v2, f3, rfl, r4, -, b1⟩
 replace hB := hB.trans (b1.mono hB.size)
 have hz1 : w.heap.size ≤ W1.heap.size := b1.size
 clear b1
 have g6 := Seen.of r4
 obtain ⟨h7, rfl, -, K8⟩ := r4
 obtain ⟨a10, cap11, rfl, -⟩ := open_rows K8
 clear K8
 have b12 := alloc_below' W1 (.cells #[.int .i64 md.kind, .slice a10 md.rest.length cap11] 30)
 have HB13 := Lib.hid (box_new W1 #[.int .i64 md.kind, .slice a10 md.rest.length cap11] 30)
 replace g6 := g6.below b12
 replace hB := hB.trans (b12.mono hB.size)
 have hz2 : W1.heap.size ≤ (W1.alloc (.cells #[.int .i64 md.kind, .slice a10 md.rest.length cap11] 30)).heap.size := b12.size
 clear b12
 have hy2 : W1.heap.size + 1 ≤ (W1.alloc (.cells #[.int .i64 md.kind, .slice a10 md.rest.length cap11] 30)).heap.size := boxlt HB13.out
 go_wp2_with fail
 refine (HIM.out _ (hE.below hB (Nat.le_refl _))).mono ?_
 rintro e W3 ⟨v15, f16, rfl, r17, o18, b14⟩
 replace g6 := g6.below b14
 replace HB13 := Lib.hid (boxes HB13.out b14)
 replace hB := hB.trans (b14.mono hB.size)
 have hz3 : (W1.alloc (.cells #[.int .i64 md.kind, .slice a10 md.rest.length cap11] 30)).heap.size ≤ W3.heap.size := b14.size
 clear b14
 have g19 := Live.of r17 o18
 clear o18
 obtain ⟨h20, rfl, -, K21⟩ := r17
 obtain ⟨a23, cap24, rfl, -⟩ := open_rows K21
 clear K21
 have b25 := alloc_below' W3 (.cells #[.int .i64 md.kind, .slice a23 md.rest.length cap24] 30)
 have HB26 := Lib.hid (box_new W3 #[.int .i64 md.kind, .slice a23 md.rest.length cap24] 30)
 replace g6 := g6.below b25
 replace g19 := g19.below b25
 replace HB13 := Lib.hid (boxes HB13.out b25)
 replace hB := hB.trans (b25.mono hB.size)
 have hz4 : W3.heap.size ≤ (W3.alloc (.cells #[.int .i64 md.kind, .slice a23 md.rest.length cap24] 30)).heap.size := b25.size
 clear b25
 have hy4 : W3.heap.size + 1 ≤ (W3.alloc (.cells #[.int .i64 md.kind, .slice a23 md.rest.length cap24] 30)).heap.size := boxlt HB26.out
 have q28 : (W3.alloc (.cells #[.int .i64 md.kind, .slice a23 md.rest.length cap24] 30)).cell? ⟨W3.heap.size, 0, none⟩ = some (.int .i64 md.kind) := cell_of_row _ _ 0 _ _ _ HB26.out
 have q29 : (W3.alloc (.cells #[.int .i64 md.kind, .slice a23 md.rest.length cap24] 30)).cell? ⟨W3.heap.size, 1, none⟩ = some (.slice a23 md.rest.length cap24) := cell_of_row _ _ 1 _ _ _ HB26.out
 have q30 : (W3.alloc (.cells #[.int .i64 md.kind, .slice a23 md.rest.length cap24] 30)).cell? ⟨W1.heap.size, 0, none⟩ = some (.int .i64 md.kind) := cell_of_row _ _ 0 _ _ _ HB13.out
 have q31 : (W3.alloc (.cells #[.int .i64 md.kind, .slice a23 md.rest.length cap24] 30)).cell? ⟨W1.heap.size, 1, none⟩ = some (.slice a10 md.rest.length cap11) := cell_of_row _ _ 1 _ _ _ HB13.out
 go_wp2_with fail
 refine (eqDirective_same _ _ _ _ _ _ g19.r g6.r).mono ?_
 clear q28 q29 q30 q31
 rintro e W5 ⟨rfl, b27⟩
 replace g6 := g6.below b27
 replace g19 := g19.below b27
 replace HB13 := Lib.hid (boxes HB13.out b27)
 replace HB26 := Lib.hid (boxes HB26.out b27)
 replace hB := hB.trans (b27.mono hB.size)
 have hz5 : (W3.alloc (.cells #[.int .i64 md.kind, .slice a23 md.rest.length cap24] 30)).heap.size ≤ W5.heap.size := b27.size
 clear b27
 have q34 : W5.cell? ⟨W3.heap.size, 0, none⟩ = some (.int .i64 md.kind) := cell_of_row _ _ 0 _ _ _ HB26.out
 have q35 : W5.cell? ⟨W3.heap.size, 1, none⟩ = some (.slice a23 md.rest.length cap24) := cell_of_row _ _ 1 _ _ _ HB26.out
 go_wp2_with fail
 refine (markDirective _ _ _ (W1.alloc (.cells #[.int .i64 md.kind, .slice a10 md.rest.length cap11] 30)).heap.size _ _ (by first | omega | (have hc := HC.out; omega)) (by first | omega | (have hc := HC.out; omega)) g19.r g19.o).mono ?_
 clear q34 q35
 rintro e W6 ⟨rfl, r32, o33, hk⟩
 replace g6 := g6.kept hk g19.o (by omega)
 replace HB13 := Lib.hid (boxK HB13.out hk (fun hx => by have h1 := (g19.o.2 _ hx).1; have h2 := g19.hi _ hx; omega))
 replace HB26 := Lib.hid (boxK HB26.out hk (fun hx => by have h1 := (g19.o.2 _ hx).1; have h2 := g19.hi _ hx; omega))
 replace hB := hB.trans (hk.below' g19.o (by first | exact Nat.le_refl _ | omega) (by omega))
 have hz6 : W5.heap.size ≤ W6.heap.size := hk.size
 replace g19 : Live _ _ _ _ _ _ _ := ⟨r32, o33, g19.hi⟩
 clear r32 o33 hk
 have q37 : W6.cell? ⟨W3.heap.size, 0, none⟩ = some (.int .i64 md.kind) := cell_of_row _ _ 0 _ _ _ HB26.out
 have q38 : W6.cell? ⟨W3.heap.size, 1, none⟩ = some (.slice a23 md.rest.length cap24) := cell_of_row _ _ 1 _ _ _ HB26.out
 go_wp2_with fail
 refine (heldDirective _ _ _ _ _ (by first | omega | (have hc := HC.out; omega)) (by first | omega | (have hc := HC.out; omega)) g19.r).mono ?_
 clear q37 q38
 rintro e W7 ⟨rfl, b36⟩
 replace g6 := g6.below b36
 replace g19 := g19.below b36
 replace HB13 := Lib.hid (boxes HB13.out b36)
 replace HB26 := Lib.hid (boxes HB26.out b36)
 replace hB := hB.trans (b36.mono hB.size)
 have hz7 : W6.heap.size ≤ W7.heap.size := b36.size
 clear b36
 go_wp2_with fail
 refine (HIM.out _ (hE.below hB (Nat.le_refl _))).mono ?_
 rintro e W8 ⟨v40, f41, rfl, r42, o43, b39⟩
 replace g6 := g6.below b39
 replace g19 := g19.below b39
 replace HB13 := Lib.hid (boxes HB13.out b39)
 replace HB26 := Lib.hid (boxes HB26.out b39)
 replace hB := hB.trans (b39.mono hB.size)
 have hz8 : W7.heap.size ≤ W8.heap.size := b39.size
 clear b39
 have g44 := Live.of r42 o43
 clear o43
 obtain ⟨h45, rfl, -, K46⟩ := r42
 obtain ⟨a48, cap49, rfl, -⟩ := open_rows K46
 clear K46
 have b50 := alloc_below' W8 (.cells #[.int .i64 md.kind, .slice a48 md.rest.length cap49] 30)
 have HB51 := Lib.hid (box_new W8 #[.int .i64 md.kind, .slice a48 md.rest.length cap49] 30)
 replace g6 := g6.below b50
 replace g19 := g19.below b50
 replace g44 := g44.below b50
 replace HB13 := Lib.hid (boxes HB13.out b50)
 replace HB26 := Lib.hid (boxes HB26.out b50)
 replace hB := hB.trans (b50.mono hB.size)
 have hz9 : W8.heap.size ≤ (W8.alloc (.cells #[.int .i64 md.kind, .slice a48 md.rest.length cap49] 30)).heap.size := b50.size
 clear b50
 have hy9 : W8.heap.size + 1 ≤ (W8.alloc (.cells #[.int .i64 md.kind, .slice a48 md.rest.length cap49] 30)).heap.size := boxlt HB51.out
 have q53 : (W8.alloc (.cells #[.int .i64 md.kind, .slice a48 md.rest.length cap49] 30)).cell? ⟨W8.heap.size, 0, none⟩ = some (.int .i64 md.kind) := cell_of_row _ _ 0 _ _ _ HB51.out
 have q54 : (W8.alloc (.cells #[.int .i64 md.kind, .slice a48 md.rest.length cap49] 30)).cell? ⟨W8.heap.size, 1, none⟩ = some (.slice a48 md.rest.length cap49) := cell_of_row _ _ 1 _ _ _ HB51.out
 have q55 : (W8.alloc (.cells #[.int .i64 md.kind, .slice a48 md.rest.length cap49] 30)).cell? ⟨W1.heap.size, 0, none⟩ = some (.int .i64 md.kind) := cell_of_row _ _ 0 _ _ _ HB13.out
 have q56 : (W8.alloc (.cells #[.int .i64 md.kind, .slice a48 md.rest.length cap49] 30)).cell? ⟨W1.heap.size, 1, none⟩ = some (.slice a10 md.rest.length cap11) := cell_of_row _ _ 1 _ _ _ HB13.out
 go_wp2_with fail
 refine (eqDirective_same _ _ _ _ _ _ g44.r g6.r).mono ?_
 clear q53 q54 q55 q56
 rintro e W10 ⟨rfl, b52⟩
 replace g6 := g6.below b52
 replace g19 := g19.below b52
 replace g44 := g44.below b52
 replace HB13 := Lib.hid (boxes HB13.out b52)
 replace HB26 := Lib.hid (boxes HB26.out b52)
 replace HB51 := Lib.hid (boxes HB51.out b52)
 replace hB := hB.trans (b52.mono hB.size)
 have hz10 : (W8.alloc (.cells #[.int .i64 md.kind, .slice a48 md.rest.length cap49] 30)).heap.size ≤ W10.heap.size := b52.size
 clear b52
 have q58 : W10.cell? ⟨W3.heap.size, 0, none⟩ = some (.int .i64 md.kind) := cell_of_row _ _ 0 _ _ _ HB26.out
 have q59 : W10.cell? ⟨W3.heap.size, 1, none⟩ = some (.slice a23 md.rest.length cap24) := cell_of_row _ _ 1 _ _ _ HB26.out
 go_wp2_with fail
 refine (heldDirective _ _ _ _ _ (by first | omega | (have hc := HC.out; omega)) (by first | omega | (have hc := HC.out; omega)) g19.r).mono ?_
 clear q58 q59
 rintro e W11 ⟨rfl, b57⟩
 replace g6 := g6.below b57
 replace g19 := g19.below b57
 replace g44 := g44.below b57
 replace HB13 := Lib.hid (boxes HB13.out b57)
 replace HB26 := Lib.hid (boxes HB26.out b57)
 replace HB51 := Lib.hid (boxes HB51.out b57)
 replace hB := hB.trans (b57.mono hB.size)
 have hz11 : W10.heap.size ≤ W11.heap.size := b57.size
 clear b57
 go_wp2
 go_ret
 exact ⟨rfl, hB⟩

theorem own : ownKnob Tryd.prog.godebug = none := by kernel_rfl
theorem laidOut : laidOutB Tryd.prog = true := by kernel_rfl
theorem readable : ∀ t ∈ Tryd.f7.params.toList, Tryd.prog.readableRec t = true ∧ t < Tryd.prog.types.size := by
 rw [Tryd.params7]
 simp only [List.mem_cons, List.not_mem_nil, or_false]
 rintro t rfl
 exact ⟨by kernel_rfl, of_decide_eq_true (by kernel_rfl)⟩

set_option maxRecDepth 100000 in
theorem lifted (os : Os) (started : os.Started) (H : Type) (enc : TypeId × Value → H) :
  ReturnsInHanded {} Tryd.checked os 7 .any (fun w args => (Rows.fnExactReadDirectiveSpec.pre enc Tryd.prog Tryd.f7 Rows.fnExactReadDirectiveRow.domain false w args ∧ laidMetH Tryd.prog Rows.fnExactReadDirectiveRow.laid w) ∧ sizedMet enc Tryd.prog Tryd.f7 (OpenSpec.ofChange Rows.fnExactReadDirectiveSpec) false w args) (Rows.fnExactReadDirectiveSpec.post enc Tryd.prog Tryd.f7 false true false false) := by
 refine returnsIn_laid (C := Tryd.checked) (X := fun w _ => laidMetH Tryd.prog Rows.fnExactReadDirectiveRow.laid w) (fun _ _ _ hh h => h.of_heap hh) own started (by kernel_rfl) Tryd.func7
  (ChangeSpec.witness_shaped (enc := enc) (C := Tryd.checked) (os := os) (X := fun w _ => laidMetH Tryd.prog Rows.fnExactReadDirectiveRow.laid w) false (World.laidAll Tryd.prog os Rows.fnExactReadDirectiveRow.laid) #[.string ByteArray.empty] 8 (World.laidAll_os _ _ _)
   (World.shaped_of_ZipB (by kernel_rfl) (by kernel_rfl)) (by kernel_rfl) (by kernel_rfl) (by kernel_rfl)
   (by rw [MakeChecks.laidMetH_plain _ _ _ (by kernel_rfl)]; exact laidMet_laidAll _ (by kernel_rfl) (by kernel_rfl))) ?_
 intro W base args ds gs before hval0 hW hsh hL
 have hval : ∀ (j : Nat) t v, Tryd.f7.params[j]? = some t → args[j]? = some v → Value.okWide Tryd.prog W .any base t v := hval0
 have hW' := hW
 obtain ⟨p, q, hA0, hV, rfl, hfz, hnd⟩ := hW
 have hA : DataW.TrodAll enc Tryd.prog W 0 (fun _ => true) true Tryd.f7.params.toList args.toList ds p := hA0
 rw [Tryd.params7] at hA hval
 obtain ⟨v0, vs0, d0, ds0, p0, q0, hargs0, rfl, rfl, h0, r0⟩ := trodAll_cons hA
 obtain ⟨rfl, rfl, rfl⟩ := trodAll_nil r0
 obtain rfl : args = #[v0] := by cases args; simp_all
 obtain ⟨gv, tv, csv, fuv, dv, pv, rfl, -⟩ := trodVars_one hV
 obtain ⟨s0, rfl⟩ := okWide_string Tryd.underlying9 (hval 0 9 v0 rfl rfl)
 obtain ⟨x0, fp0, H0⟩ := open_arg (opens_str Tryd.underlying9) h0
 refine (walk _ x0 fp0 W H0 ⟨Env.of_shaped hsh, names_of_laid hL⟩).mono fun e W' ⟨he, hw⟩ => ?_
 subst he
 exact ⟨_, rfl, law_vars laidOut readable (by kernel_rfl) rfl Tryd.underlying4 hW' rfl rfl rfl hw⟩

theorem row_holds : Rows.FnExactReadDirectiveSaid :=
 OpenClaim.holds_of_wide 7 Tryd.f7 rfl rfl rfl rfl rfl rfl rfl ⟨rfl, rfl, rfl, rfl, rfl⟩ rfl rfl rfl rfl rfl (by kernel_rfl) Tryd.func7 (by kernel_rfl)
  (of_decide_eq_true (by kernel_rfl)) (by unfold Func.isWrapper; first | (rw [if_pos (by decide +kernel)]; kernel_rfl) | (rw [if_neg (by decide +kernel)]; exact ⟨rfl, rfl⟩))
  (fun os started H enc _ => lifted os started H enc)

theorem holds : Rows.FnExactReadDirectiveCardSaid :=
 Claim7.holds_tied_plain_at .later [] [.data] true Rows.fnExactReadDirectiveCard.stood.harness Rows.fnExactReadDirectiveCard.stood.looks row_holds (fun _ h => by cases h) (by kernel_rfl) (fun _ h => by cases h) fnExactReadDirective_row_tie rfl ⟨rfl, rfl⟩ (by kernel_rfl) rfl
  (fun f fn hf hfn => by
   obtain rfl : f = 7 := Option.some.inj ((show Tryd.prog.funcNamed "loop.example/macroprocessor/laws.FnExactReadDirective" = some 7 by kernel_rfl).symm.trans hf) |>.symm
   obtain rfl : fn = Tryd.f7 := (Option.some.inj (Tryd.func7.symm.trans hfn)).symm
   exact ⟨by kernel_rfl, fun j t ht => by
    rw [Tryd.params7] at ht
    have hm : t ∈ [9] := by simpa using Array.mem_of_getElem? ht
    have hall : ([9].all fun u => !Tryd.prog.wantsStandIn u) = true := by kernel_rfl
    exact (show Tryd.prog.wantsStandIn t = false by simpa using List.all_eq_true.1 hall t hm)⟩)
  (by kernel_rfl)

end Go.Proofs.YtlegeancmcmbaaaDoor.exactReadDirective
