/- Comments do not matter: with a comment behind it a line is the same directive. For every input. No conditions. -/
import Derived.Test.YtlegeancmcmbaaaDoorZU12
import Derived.Test.YtlegeancmcmbaaaDoorZU16
import Derived.Test.YtlegeancmcmbaaaDoorZU17
import Derived.Test.YtlegeancmcmbaaaDoorZU8
import Derived.Test.YtlegeancmcmbaaaDoorZU11
import Derived.Test.YtlegeancmcmbaaaDoorTie
import Derived.Test.YtlegeancmcmbaaaDoorCards
import Derived.SevenTiedAt
import Derived.Test.YtlegeancmcmbaaaDoorZU4
set_option linter.unusedVariables false
set_option linter.unusedSimpArgs false
namespace Go.Proofs.YtlegeancmcmbaaaDoor.lawReadDirective
open Go.ChangeShapes Go.WideShapes Go.ChangeAt Go.RowKit Go.ChangeMaps

theorem read_parts {s : ByteArray} {d : Int × List Tok} (h : readDir s = (d, true)) : ∃ x l, stripRes s = (x, true) ∧ tokRes x = (l, true) := by
 by_cases hc : (stripRes s).2 = true ∧ (tokRes (stripRes s).1).2 = true
 ·refine ⟨(stripRes s).1, (tokRes (stripRes s).1).1, ?_, ?_⟩
  ·rw [← hc.1]
  ·rw [← hc.2]
 ·rw [read_no hc] at h; cases h
theorem read_note {s : ByteArray} {d : Int × List Tok} (h : readDir s = (d, true)) (hz : s.size + 5 ≤ 200) : readDir (s ++ ⟨#[32, 47, 47, 32, 120]⟩) = (d, true) := by
 obtain ⟨x, l, h1, h2⟩ := read_parts h
 obtain ⟨y, h3, h4⟩ := note_toks h1 h2 hz
 have h5 : readDir (s ++ noteB) = dirRes l := read_yes h3 h4
 rw [show (⟨#[32, 47, 47, 32, 120]⟩ : ByteArray) = noteB from rfl, h5, ← read_yes h1 h2]
 exact h
theorem readD_eq {s : ByteArray} {k : Int} {r : List Tok} {b : Bool} (h : readDir s = ((k, r), b)) : readD s = (⟨k, r⟩, b) := by unfold readD toD; rw [h]

set_option maxHeartbeats 4000000 in
theorem sameDir_same (k : Int) (v1 v2 : Value) (r : List Tok) (f1 f2 : List Nat) (w : World) (H1 : (sSlice sTok).R w [v1] r f1) (H2 : (sSlice sTok).R w [v2] r f2) :
  Calls Tryd.prog 16 #[.agg #[.int .i64 k, v1], .agg #[.int .i64 k, v2]] w fun e w' => e = .returned (.bool true) ∧ Below w.heap.size w w' := by
 obtain ⟨a1, c1, rfl, -⟩ := open_rows H1
 obtain ⟨a2, c2, rfl, -⟩ := open_rows H2
 have b1 := alloc_below' w (.cells #[.int .i64 k, .slice a1 r.length c1] 30)
 have b2 := b1.trans ((alloc_below' (w.alloc (.cells #[.int .i64 k, .slice a1 r.length c1] 30)) (.cells #[.int .i64 k, .slice a2 r.length c2] 30)).mono b1.size)
 have HC := Lib.hid (sameTokens_same _ _ r f1 f2 _ ((sSlice sTok).below H1 b2) ((sSlice sTok).below H2 b2))
 have e1 : (k == k) = true := by simp
 clear H1 H2
 go_enter Tryd.func16, Tryd.ntmps16
 go_wp2_with fail
 refine HC.out.mono ?_
 rintro e w3 ⟨rfl, hb3⟩
 go_wp2
 go_ret
 exact ⟨rfl, b2.trans (hb3.mono b2.size)⟩

set_option maxHeartbeats 8000000 in
set_option maxRecDepth 100000 in
theorem walk (v0 : Value) (x0 : List UInt8) (fp0 : List Nat) (w : World) (H0 : (sSlice sByte).R w [v0] x0 fp0) (hE : KE w) :
  Calls Tryd.prog 4 #[v0] w fun e w' => e = .returned (.bool true) ∧ Below w.heap.size w w' := by
 have HH := Lib.hid H0
 obtain ⟨a, cap, hv, hc, hm, h⟩ := H0
 obtain rfl : v0 = .slice a x0.length cap := by simpa using hv
 unfold maxLen at hm
 clear h hv
 go_enter Tryd.func4, Tryd.ntmps4
 by_cases hbig : 1048576 < x0.length
 ·go_wp2
  go_ret
  exact ⟨rfl, Below.refl _ _⟩
 go_wp2_with fail
 refine (DrawReadDirective _ x0 fp0 _ HH.out).mono ?_
 rintro e w1 ⟨s, rfl, hs, hB⟩
 clear HH
 have hok : okStr s := by unfold okStr maxLen; omega
 have HI : Hid (∀ (x : ByteArray) (W : World), okStr x → KE W → Calls Tryd.prog 14 #[.string x] W (MineDirD (readD x) W)) := fun x W hx he => impl_ReadDirective_w x W hx he
 have HS : Hid (∀ W : World, Calls Tryd.prog 15 #[.string s] W (RetDirD (readD s) W)) := fun W => spec_ReadDirective_w s W hok
 have HI1 := Lib.hid (HI.out s w1 hok (hE.below hB (Nat.le_refl _)))
 rcases hq : readDir s with ⟨⟨k, r⟩, ok⟩
 unfold RetDirD at HS
 unfold MineDirD at HI1
 rw [readD_eq hq] at HS HI1
 try dsimp only at HS HI1
 have HQ := Lib.hid hq
 clear hq
 go_wp2_with fail
 refine HI1.out.mono ?_
 rintro e w2 ⟨cs, f2, rfl, R2, -, hb2⟩
 obtain ⟨v2, rfl, hk, R2'⟩ := R2
 have HR2 := Lib.hid R2'
 obtain ⟨a2, c2, rfl, -⟩ := open_rows R2'
 have ba := alloc_below' w2 (.cells #[.int .i64 k, .slice a2 r.length c2] 30)
 have HX2 := Lib.hid (heap_alloc_new w2 (.cells #[.int .i64 k, .slice a2 r.length c2] 30))
 have hB2 := hB.trans (hb2.mono hB.size)
 have hB2' := hB2.trans (ba.mono hB2.size)
 have HRA := Lib.hid ((sSlice sTok).below HR2.out ba)
 clear HI1 R2' HR2 hb2 hB
 go_upto_region 5 with fail
 generalize (w2.alloc (.cells #[.int .i64 k, .slice a2 r.length c2] 30)) = W2 at *
 clear ba
 go_wp2_with fail
 refine (HS.out _).mono ?_
 rintro e w3 ⟨cs, f3, rfl, R3, -, hb3⟩
 obtain ⟨v3, rfl, -, R3'⟩ := R3
 have HR3 := Lib.hid R3'
 obtain ⟨a3, c3, rfl, -⟩ := open_rows R3'
 have ba := alloc_below' w3 (.cells #[.int .i64 k, .slice a3 r.length c3] 30)
 have HX3 := Lib.hid (heap_alloc_new w3 (.cells #[.int .i64 k, .slice a3 r.length c3] 30))
 have hB3 := hB2'.trans (hb3.mono hB2'.size)
 have hB3' := hB3.trans (ba.mono hB3.size)
 have HX2' := Lib.hid (mbox (mbox HX2.out hb3) ba)
 have HRB := Lib.hid ((sSlice sTok).below ((sSlice sTok).below HRA.out hb3) ba)
 have HRC := Lib.hid ((sSlice sTok).below HR3.out ba)
 clear R3' HR3 HX2 HRA hb3 hB2 hB2' HS
 go_upto_region 6 with fail
 generalize (w3.alloc (.cells #[.int .i64 k, .slice a3 r.length c3] 30)) = W3 at *
 have q0 := cell_of_row W3 w2.heap.size 0 _ _ _ HX2'.out
 have q1 := cell_of_row W3 w2.heap.size 1 _ _ _ HX2'.out
 have r0 := cell_of_row W3 w3.heap.size 0 _ _ _ HX3.out
 have r1 := cell_of_row W3 w3.heap.size 1 _ _ _ HX3.out
 have HSD := Lib.hid (sameDir_same k _ _ r f2 f3 W3 HRB.out HRC.out)
 have hoo : (ok != ok) = false := by simp
 clear ba
 go_wp2_with fail
 refine HSD.out.mono ?_
 rintro e w4 ⟨rfl, hb4⟩
 have hB4 := hB3'.trans (hb4.mono hB3'.size)
 have HX4 := Lib.hid (mbox HX2'.out hb4)
 have HR4 := Lib.hid ((sSlice sTok).below HRB.out hb4)
 clear q0 q1 r0 r1 HSD HX3 HRC HRB HX2'
 cases ok
 ·obtain ⟨rfl, rfl⟩ := readDir_zero HQ.out
  have q0 := cell_of_row w4 w2.heap.size 0 _ _ _ HX4.out
  go_wp2_with (go_at_call 12; refine (alive _).mono ?_; rintro e w' ⟨rfl, rfl⟩)
  go_ret
  exact ⟨rfl, hB4⟩
 have HI2 := Lib.hid (HI.out (s ++ ⟨#[32, 47, 47, 32, 120]⟩) w4 (by unfold okStr maxLen; rw [ByteArray.size_append]; show s.size + 5 ≤ _; omega) (hE.below hB4 (Nat.le_refl _)))
 unfold MineDirD at HI2
 rw [readD_eq (read_note HQ.out (by omega))] at HI2
 try dsimp only at HI2
 clear HI HQ
 go_wp2_with fail
 refine HI2.out.mono ?_
 rintro e w5 ⟨cs, f5, rfl, R5, -, hb5⟩
 obtain ⟨v5, rfl, -, R5'⟩ := R5
 have HR5 := Lib.hid R5'
 obtain ⟨a5, c5, rfl, -⟩ := open_rows R5'
 have ba := alloc_below' w5 (.cells #[.int .i64 k, .slice a5 r.length c5] 30)
 have HX5 := Lib.hid (heap_alloc_new w5 (.cells #[.int .i64 k, .slice a5 r.length c5] 30))
 have hB5 := hB4.trans (hb5.mono hB4.size)
 have hB5' := hB5.trans (ba.mono hB5.size)
 have HX4' := Lib.hid (mbox (mbox HX4.out hb5) ba)
 have HRB := Lib.hid ((sSlice sTok).below ((sSlice sTok).below HR4.out hb5) ba)
 have HRC := Lib.hid ((sSlice sTok).below HR5.out ba)
 clear R5' HR5 HX4 HR4 hb5 HI2
 go_upto_region 11 with fail
 generalize (w5.alloc (.cells #[.int .i64 k, .slice a5 r.length c5] 30)) = W5 at *
 have q0 := cell_of_row W5 w2.heap.size 0 _ _ _ HX4'.out
 have q1 := cell_of_row W5 w2.heap.size 1 _ _ _ HX4'.out
 have r0 := cell_of_row W5 w5.heap.size 0 _ _ _ HX5.out
 have r1 := cell_of_row W5 w5.heap.size 1 _ _ _ HX5.out
 have HSD := Lib.hid (sameDir_same k _ _ r f5 f2 W5 HRC.out HRB.out)
 have hwr : IntKind.i64.wrap ((s.size : Int) + 5) = (s.size : Int) + 5 := IntWalk.i64_in _ (by omega)
 have hlt : ¬ (200 : Int) < (s.size : Int) + 5 := by omega
 go_wp2_with fail
 refine HSD.out.mono ?_
 rintro e w6 ⟨rfl, hb6⟩
 go_wp2
 go_ret
 exact ⟨rfl, hB5'.trans (hb6.mono hB5'.size)⟩

theorem own : ownKnob Tryd.prog.godebug = none := by kernel_rfl
theorem laidOut : laidOutB Tryd.prog = true := by kernel_rfl
theorem readable : ∀ t ∈ Tryd.f4.params.toList, Tryd.prog.readableRec t = true ∧ t < Tryd.prog.types.size := by
 rw [Tryd.params4]
 simp only [List.mem_cons, List.not_mem_nil, or_false]
 rintro t rfl
 exact ⟨by kernel_rfl, of_decide_eq_true (by kernel_rfl)⟩

set_option maxRecDepth 100000 in
theorem lifted (os : Os) (started : os.Started) (H : Type) (enc : TypeId × Value → H) :
  ReturnsInHanded {} Tryd.checked os 4 .any (fun w args => (Rows.fnReadDirectiveSpec.pre enc Tryd.prog Tryd.f4 Rows.fnReadDirectiveRow.domain false w args ∧ laidMetH Tryd.prog Rows.fnReadDirectiveRow.laid w) ∧ sizedMet enc Tryd.prog Tryd.f4 (OpenSpec.ofChange Rows.fnReadDirectiveSpec) false w args) (Rows.fnReadDirectiveSpec.post enc Tryd.prog Tryd.f4 false true false false) := by
 refine returnsIn_laid (C := Tryd.checked) (X := fun w _ => laidMetH Tryd.prog Rows.fnReadDirectiveRow.laid w) (fun _ _ _ hh h => h.of_heap hh) own started (by kernel_rfl) Tryd.func4
  (ChangeSpec.witness_shaped (enc := enc) (C := Tryd.checked) (os := os) (X := fun w _ => laidMetH Tryd.prog Rows.fnReadDirectiveRow.laid w) false (World.laidAll Tryd.prog os Rows.fnReadDirectiveRow.laid) #[.slice none 0 0] 8 (World.laidAll_os _ _ _)
   (World.shaped_of_ZipB (by kernel_rfl) (by kernel_rfl)) (by kernel_rfl) (by kernel_rfl) (by kernel_rfl)
   (by rw [MakeChecks.laidMetH_plain _ _ _ (by kernel_rfl)]; exact laidMet_laidAll _ (by kernel_rfl) (by kernel_rfl))) ?_
 intro W base args ds gs before hval0 hW hsh hL
 have hval : ∀ (j : Nat) t v, Tryd.f4.params[j]? = some t → args[j]? = some v → Value.okWide Tryd.prog W .any base t v := hval0
 have hW' := hW
 obtain ⟨p, q, hA0, hV, rfl, hfz, hnd⟩ := hW
 have hA : DataW.TrodAll enc Tryd.prog W 0 (fun _ => true) true Tryd.f4.params.toList args.toList ds p := hA0
 rw [Tryd.params4] at hA hval
 obtain ⟨v0, vs0, d0, ds0, p0, q0, hargs0, rfl, rfl, h0, r0⟩ := trodAll_cons hA
 obtain ⟨rfl, rfl, rfl⟩ := trodAll_nil r0
 obtain rfl : args = #[v0] := by cases args; simp_all
 obtain ⟨gv, tv, csv, fuv, dv, pv, rfl, -⟩ := trodVars_one hV
 obtain ⟨a0, len0, cap0, rfl⟩ := okWide_slice Tryd.underlying22 (hval 0 22 v0 rfl rfl)
 obtain ⟨x0, fp0, H0⟩ := open_arg (opens_slice Tryd.underlying22 (by kernel_rfl) (by decide) (opens_byte Tryd.underlying5)) h0
 refine (walk _ x0 fp0 W H0 ⟨Env.of_shaped hsh, names_of_laid hL⟩).mono fun e W' ⟨he, hw⟩ => ?_
 subst he
 exact ⟨_, rfl, law_vars laidOut readable (by kernel_rfl) rfl Tryd.underlying4 hW' rfl rfl rfl hw⟩

theorem row_holds : Rows.FnReadDirectiveSaid :=
 OpenClaim.holds_of_wide 4 Tryd.f4 rfl rfl rfl rfl rfl rfl rfl ⟨rfl, rfl, rfl, rfl, rfl⟩ rfl rfl rfl rfl rfl (by kernel_rfl) Tryd.func4 (by kernel_rfl)
  (of_decide_eq_true (by kernel_rfl)) (by unfold Func.isWrapper; first | (rw [if_pos (by decide +kernel)]; kernel_rfl) | (rw [if_neg (by decide +kernel)]; exact ⟨rfl, rfl⟩))
  (fun os started H enc _ => lifted os started H enc)

theorem holds : Rows.FnReadDirectiveCardSaid :=
 Claim7.holds_tied_plain_at .later [] [.data] true Rows.fnReadDirectiveCard.stood.harness Rows.fnReadDirectiveCard.stood.looks row_holds (fun _ h => by cases h) (by kernel_rfl) (fun _ h => by cases h) fnReadDirective_row_tie rfl ⟨rfl, rfl⟩ (by kernel_rfl) rfl
  (fun f fn hf hfn => by
   obtain rfl : f = 4 := Option.some.inj ((show Tryd.prog.funcNamed "loop.example/macroprocessor/laws.FnReadDirective" = some 4 by kernel_rfl).symm.trans hf) |>.symm
   obtain rfl : fn = Tryd.f4 := (Option.some.inj (Tryd.func4.symm.trans hfn)).symm
   exact ⟨by kernel_rfl, fun j t ht => by
    rw [Tryd.params4] at ht
    have hm : t ∈ [22] := by simpa using Array.mem_of_getElem? ht
    have hall : ([22].all fun u => !Tryd.prog.wantsStandIn u) = true := by kernel_rfl
    exact (show Tryd.prog.wantsStandIn t = false by simpa using List.all_eq_true.1 hall t hm)⟩)
  (by kernel_rfl)

end Go.Proofs.YtlegeancmcmbaaaDoor.lawReadDirective
