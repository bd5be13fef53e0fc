/- Pasted tokens have both texts: what is pasted is a valid token, and a name with something behind it is a name: for every input. No conditions. -/
import Derived.Test.YtbkmapaieillmaaZU11
import Derived.Test.YtbkmapaieillmaaZU12
import Derived.Test.YtbkmapaieillmaaZU8
import Derived.Test.YtbkmapaieillmaaZU7
set_option linter.unusedVariables false
set_option linter.unusedSimpArgs false
namespace Go.Proofs.Ytbkmapaieillmaa.lawPasteTokens
open Go.ChangeShapes Go.WideShapes Go.ChangeAt Go.RowKit Go.ChangeMaps

set_option maxHeartbeats 8000000 in
set_option maxRecDepth 100000 in
theorem walk (v0 : Value) (x0 : List UInt8) (fp0 : List Nat) (w : World) (H0 : (sSlice sByte).R w [v0] x0 fp0) :
    Calls Try.prog 3 #[v0] w fun e w' => e = .returned (.bool true) ∧ Below w.heap.size w w' := by
  have HH := Lib.hid H0
  obtain ⟨a, cap, hv, hc, hm, h⟩ := H0
  obtain rfl : v0 = .slice a x0.length cap := by simpa using hv
  unfold maxLen at hm
  clear h hv
  go_enter Try.func3, Try.ntmps3
  by_cases hbig : 1048576 < x0.length
  · go_wp2
    go_ret
    exact ⟨rfl, Below.refl _ _⟩

  go_wp2_with fail
  refine (DrawPasteTokens _ x0 fp0 _ HH.out).mono ?_
  rintro e w1 ⟨x, y, ao, ao', c, c', fa, fb, rfl, RX, RY, okx, oky, hB⟩
  have HX0 := Lib.hid (alloc2_blk w1 #[.int .i64 x.kind, .string x.text, .bool x.spaced, .slice ao x.hidden.length c] #[.int .i64 y.kind, .string y.text, .bool y.spaced, .slice ao' y.hidden.length c'] 25 25)
  have b1 : Below w1.heap.size w1 ((w1.alloc (.cells #[.int .i64 x.kind, .string x.text, .bool x.spaced, .slice ao x.hidden.length c] 25)).alloc (.cells #[.int .i64 y.kind, .string y.text, .bool y.spaced, .slice ao' y.hidden.length c'] 25)) := (alloc_below' w1 (.cells #[.int .i64 x.kind, .string x.text, .bool x.spaced, .slice ao x.hidden.length c] 25)).trans ((alloc_below' (w1.alloc (.cells #[.int .i64 x.kind, .string x.text, .bool x.spaced, .slice ao x.hidden.length c] 25)) (.cells #[.int .i64 y.kind, .string y.text, .bool y.spaced, .slice ao' y.hidden.length c'] 25)).mono (alloc_below' w1 (.cells #[.int .i64 x.kind, .string x.text, .bool x.spaced, .slice ao x.hidden.length c] 25)).size)
  replace RX := sTok.below RX b1
  replace RY := sTok.below RY b1
  replace hB := hB.trans (b1.mono hB.size)
  have hxh : x.hidden.length ≤ 3 := okx.2.2.2
  have hyh : y.hidden.length ≤ 3 := oky.2.2.2
  have hxt : x.text.size ≤ 1000 := okx.1
  have hyt : y.text.size ≤ 1000 := oky.1
  clear b1 HH okx oky
  go_upto_region 4 with fail
  generalize ((w1.alloc (.cells #[.int .i64 x.kind, .string x.text, .bool x.spaced, .slice ao x.hidden.length c] 25)).alloc (.cells #[.int .i64 y.kind, .string y.text, .bool y.spaced, .slice ao' y.hidden.length c'] 25)) = W2 at *
  have p0 := cell_of_row W2 (w1.heap.size) 0 _ _ _ HX0.out.1
  have p1 := cell_of_row W2 (w1.heap.size) 1 _ _ _ HX0.out.1
  have p2 := cell_of_row W2 (w1.heap.size) 2 _ _ _ HX0.out.1
  have p3 := cell_of_row W2 (w1.heap.size) 3 _ _ _ HX0.out.1
  have q0 := cell_of_row W2 (w1.heap.size + 1) 0 _ _ _ HX0.out.2
  have q1 := cell_of_row W2 (w1.heap.size + 1) 1 _ _ _ HX0.out.2
  have q2 := cell_of_row W2 (w1.heap.size + 1) 2 _ _ _ HX0.out.2
  have q3 := cell_of_row W2 (w1.heap.size + 1) 3 _ _ _ HX0.out.2
  go_wp2_with fail
  refine (impl_PasteTokens _ _ x y fa fb W2 (by omega) (by omega) RX RY).mono ?_
  rintro e w3 ⟨cs, fu, rfl, RU, -, b3⟩
  clear p0 p1 p2 p3 q0 q1 q2 q3
  rcases hp : pasteRes x y with ⟨u, ok⟩
  rw [hp] at RU
  obtain ⟨hu, rfl, oku, osu, KU⟩ := id RU
  obtain ⟨au, cu, rfl, -⟩ := open_strs KU
  clear KU
  replace hB := hB.trans (b3.mono hB.size)
  replace HX0 := Lib.hid (And.intro (mbox HX0.out.1 b3) (mbox HX0.out.2 b3))
  replace RX := sTok.below RX b3
  replace RY := sTok.below RY b3
  have b4 := alloc_below' w3 (.cells #[.int .i64 u.kind, .string u.text, .bool u.spaced, .slice au u.hidden.length cu] 25)
  have HG := Lib.hid (heap_alloc_new w3 (.cells #[.int .i64 u.kind, .string u.text, .bool u.spaced, .slice au u.hidden.length cu] 25))
  replace hB := hB.trans (b4.mono hB.size)
  replace HX0 := Lib.hid (And.intro (mbox HX0.out.1 b4) (mbox HX0.out.2 b4))
  replace RX := sTok.below RX b4
  replace RY := sTok.below RY b4
  replace RU := sTok.below RU b4
  clear b3 b4
  go_upto_region 5 with fail
  generalize (w3.alloc (.cells #[.int .i64 u.kind, .string u.text, .bool u.spaced, .slice au u.hidden.length cu] 25)) = W4 at *
  have p0 := cell_of_row W4 (w1.heap.size) 0 _ _ _ HX0.out.1
  have p1 := cell_of_row W4 (w1.heap.size) 1 _ _ _ HX0.out.1
  have p2 := cell_of_row W4 (w1.heap.size) 2 _ _ _ HX0.out.1
  have p3 := cell_of_row W4 (w1.heap.size) 3 _ _ _ HX0.out.1
  have q0 := cell_of_row W4 (w1.heap.size + 1) 0 _ _ _ HX0.out.2
  have q1 := cell_of_row W4 (w1.heap.size + 1) 1 _ _ _ HX0.out.2
  have q2 := cell_of_row W4 (w1.heap.size + 1) 2 _ _ _ HX0.out.2
  have q3 := cell_of_row W4 (w1.heap.size + 1) 3 _ _ _ HX0.out.2
  go_wp2_with fail
  refine (spec_PasteTokens _ _ x y fa fb W4 (by omega) (by omega) RX RY).mono ?_
  rintro e w5 ⟨cs, fz, rfl, RZ, -, b5⟩
  clear p0 p1 p2 p3 q0 q1 q2 q3
  rw [hp] at RZ
  obtain ⟨hz, rfl, -, -, KZ⟩ := id RZ
  obtain ⟨az, cz, rfl, -⟩ := open_strs KZ
  clear KZ RX RY
  replace hB := hB.trans (b5.mono hB.size)
  replace HX0 := Lib.hid (And.intro (mbox HX0.out.1 b5) (mbox HX0.out.2 b5))
  replace RU := sTok.below RU b5
  replace HG := Lib.hid (mbox HG.out b5)
  have b6 := alloc_below' w5 (.cells #[.int .i64 u.kind, .string u.text, .bool u.spaced, .slice az u.hidden.length cz] 25)
  have HW := Lib.hid (heap_alloc_new w5 (.cells #[.int .i64 u.kind, .string u.text, .bool u.spaced, .slice az u.hidden.length cz] 25))
  replace hB := hB.trans (b6.mono hB.size)
  replace HX0 := Lib.hid (And.intro (mbox HX0.out.1 b6) (mbox HX0.out.2 b6))
  replace RU := sTok.below RU b6
  replace RZ := sTok.below RZ b6
  replace HG := Lib.hid (mbox HG.out b6)
  clear b5 b6
  go_upto_region 6 with fail
  generalize (w5.alloc (.cells #[.int .i64 u.kind, .string u.text, .bool u.spaced, .slice az u.hidden.length cz] 25)) = W6 at *
  have p0 := cell_of_row W6 (w3.heap.size) 0 _ _ _ HG.out
  have p1 := cell_of_row W6 (w3.heap.size) 1 _ _ _ HG.out
  have p2 := cell_of_row W6 (w3.heap.size) 2 _ _ _ HG.out
  have p3 := cell_of_row W6 (w3.heap.size) 3 _ _ _ HG.out
  have b7 := alloc_below' W6 (.cells #[.int .i64 u.kind, .string u.text, .bool u.spaced, .slice au u.hidden.length cu] 25)
  have b8 := alloc_below' (W6.alloc (.cells #[.int .i64 u.kind, .string u.text, .bool u.spaced, .slice au u.hidden.length cu] 25)) (.cells #[.int .i64 u.kind, .string u.text, .bool u.spaced, .slice az u.hidden.length cz] 25)
  have L1 := (sSlice sTok).below (lit_one RU) b8
  have L2 := lit_one (sTok.below RZ b7)
  rw [show (W6.alloc (.cells #[.int .i64 u.kind, .string u.text, .bool u.spaced, .slice au u.hidden.length cu] 25)).heap.size = W6.heap.size + 1 from by show (W6.heap.push _).size = _; simp] at L2
  have HSM := Lib.hid (sameTokens_same _ _ _ _ _ _ L1 L2)
  have HWW := Lib.hid (mbox HW.out b7)
  have q0 := cell_of_row (W6.alloc (.cells #[.int .i64 u.kind, .string u.text, .bool u.spaced, .slice au u.hidden.length cu] 25)) (w5.heap.size) 0 _ _ _ HWW.out
  have q1 := cell_of_row (W6.alloc (.cells #[.int .i64 u.kind, .string u.text, .bool u.spaced, .slice au u.hidden.length cu] 25)) (w5.heap.size) 1 _ _ _ HWW.out
  have q2 := cell_of_row (W6.alloc (.cells #[.int .i64 u.kind, .string u.text, .bool u.spaced, .slice au u.hidden.length cu] 25)) (w5.heap.size) 2 _ _ _ HWW.out
  have q3 := cell_of_row (W6.alloc (.cells #[.int .i64 u.kind, .string u.text, .bool u.spaced, .slice au u.hidden.length cu] 25)) (w5.heap.size) 3 _ _ _ HWW.out
  have b9 := b7.trans (b8.mono b7.size)
  have hbb : (ok != ok) = false := by simp
  clear L1 L2 b7 b8 RZ HWW
  go_wp2_with fail
  refine HSM.out.mono ?_
  rintro e w7 ⟨rfl, b10⟩
  have b11 := b9.trans (b10.mono b9.size)
  replace hB := hB.trans (b11.mono hB.size)
  replace HX0 := Lib.hid (And.intro (mbox HX0.out.1 b11) (mbox HX0.out.2 b11))
  replace RU := sTok.below RU b11
  replace HG := Lib.hid (mbox HG.out b11)
  clear p0 p1 p2 p3 q0 q1 q2 q3 HSM b9 b10 b11 HW
  have p0 := cell_of_row w7 (w3.heap.size) 0 _ _ _ HG.out
  have p1 := cell_of_row w7 (w3.heap.size) 1 _ _ _ HG.out
  have p2 := cell_of_row w7 (w3.heap.size) 2 _ _ _ HG.out
  have p3 := cell_of_row w7 (w3.heap.size) 3 _ _ _ HG.out
  cases ok
  · have hz := paste_false hp
    have e0 : (u.text.toList == []) = true := txt_t (l := []) (by rw [hz]; rfl)
    clear hz hp
    go_wp2_with (go_at_call 11; refine (alive _).mono ?_; rintro e w' ⟨rfl, rfl⟩)
    go_ret
    exact ⟨rfl, hB⟩
  obtain ⟨hv, ht, hk0, -, -, hh⟩ := paste_fact hp
  have hk := Lib.hid hk0
  have HTV := Lib.hid (impl_TokenValid _ u fu w7 RU)
  rw [hv] at HTV
  have ad := fun W => run_string_add_sum (P := Try.prog) W x.text y.text (by omega)
  have e1 : (u.text.toList == (x.text ++ y.text).toList) = true := bytes_beq ht
  have hle : (u.hidden.length : Int) ≤ (x.hidden.length : Int) := by omega
  clear hp hv ht hk0
  go_wp2_with fail
  refine HTV.out.mono ?_
  rintro e w8 ⟨rfl, b12⟩
  replace hB := hB.trans (b12.mono hB.size)
  replace HX0 := Lib.hid (And.intro (mbox HX0.out.1 b12) (mbox HX0.out.2 b12))
  replace HG := Lib.hid (mbox HG.out b12)
  clear p0 p1 p2 p3 b12 RU HTV
  have p0 := cell_of_row w8 (w3.heap.size) 0 _ _ _ HG.out
  have p1 := cell_of_row w8 (w3.heap.size) 1 _ _ _ HG.out
  have p2 := cell_of_row w8 (w3.heap.size) 2 _ _ _ HG.out
  have p3 := cell_of_row w8 (w3.heap.size) 3 _ _ _ HG.out
  have r0 := cell_of_row w8 (w1.heap.size) 0 _ _ _ HX0.out.1
  have r1 := cell_of_row w8 (w1.heap.size) 1 _ _ _ HX0.out.1
  have r2 := cell_of_row w8 (w1.heap.size) 2 _ _ _ HX0.out.1
  have r3 := cell_of_row w8 (w1.heap.size) 3 _ _ _ HX0.out.1
  have q0 := cell_of_row w8 (w1.heap.size + 1) 0 _ _ _ HX0.out.2
  have q1 := cell_of_row w8 (w1.heap.size + 1) 1 _ _ _ HX0.out.2
  have q2 := cell_of_row w8 (w1.heap.size + 1) 2 _ _ _ HX0.out.2
  have q3 := cell_of_row w8 (w1.heap.size + 1) 3 _ _ _ HX0.out.2
  generalize hT : x.text ++ y.text = xy at *
  by_cases h1 : x.kind = 1
  · have k1 : (x.kind != 1) = false := by simp [h1]
    have k2 : (u.kind == 1) = true := by simp [hk.out, h1]
    clear h1 hk hT
    go_wp2
    go_ret
    exact ⟨rfl, hB⟩
  · have k1 : (x.kind != 1) = true := by simp; exact h1
    clear h1 hk hT
    go_wp2
    go_ret
    exact ⟨rfl, hB⟩
theorem own : ownKnob Try.prog.godebug = none := by kernel_rfl
theorem laidOut : laidOutB Try.prog = true := by kernel_rfl
theorem readable : ∀ t ∈ Try.f3.params.toList, Try.prog.readableRec t = true ∧ t < Try.prog.types.size := by
  rw [Try.params3]
  simp only [List.mem_cons, List.not_mem_nil, or_false]
  rintro t rfl
  exact ⟨by kernel_rfl, of_decide_eq_true (by kernel_rfl)⟩

set_option maxRecDepth 100000 in
theorem lifted (os : Os) (started : os.Started) (H : Type) (enc : TypeId × Value → H) :
    ReturnsInHanded {} Try.checked os 3 .any (Rows.fnPasteTokensSpec.pre6 enc Try.prog Try.f3 Rows.fnPasteTokensRow.domain false) (Rows.fnPasteTokensSpec.post enc Try.prog Try.f3 false true false false) := by
  refine returnsInHanded_of_change (C := Try.checked) own started (by kernel_rfl) Try.func3
    (ChangeSpec.witness6 (enc := enc) (C := Try.checked) false ⟨#[], #[.slice none 0 0], []⟩ 8 (by kernel_rfl) (by kernel_rfl) (by kernel_rfl) (by kernel_rfl)) ?_
  intro W base args ds gs before hval0 hW hcnd _
  have hval : ∀ (j : Nat) t v, Try.f3.params[j]? = some t → args[j]? = some v → Value.okWide Try.prog W .any base t v := hval0
  have hW' := hW
  obtain ⟨p, q, hA0, hV, rfl, hfz, hnd⟩ := hW
  have hA : DataW.TrodAll enc Try.prog W 0 (fun _ => true) true Try.f3.params.toList args.toList ds p := hA0
  rw [Try.params3] at hA hval
  obtain ⟨v0, vs0, d0, ds0, p0, q0, hargs0, rfl, rfl, h0, r0⟩ := trodAll_cons hA
  obtain ⟨rfl, rfl, rfl⟩ := trodAll_nil r0
  obtain rfl : args = #[v0] := by cases args; simp_all
  obtain ⟨rfl, rfl⟩ := trodVars_none hV
  obtain ⟨a0, len0, cap0, rfl⟩ := okWide_slice Try.underlying22 (hval 0 22 v0 rfl rfl)
  obtain ⟨x0, fp0, H0⟩ := open_arg (opens_slice Try.underlying22 (by kernel_rfl) (by decide) (opens_byte Try.underlying5)) h0
  refine (walk _ x0 fp0 W H0).mono fun e W' ⟨he, hw⟩ => ?_
  subst he
  exact ⟨_, rfl, law_done laidOut readable rfl rfl Try.underlying4 hW' rfl rfl rfl hw⟩

theorem holds : Rows.FnPasteTokensSaid :=
  OpenClaim.holds_of_wide 3 Try.f3 rfl rfl rfl rfl rfl rfl rfl ⟨rfl, rfl, rfl, rfl, rfl⟩ rfl rfl rfl rfl rfl (by kernel_rfl) Try.func3 (by kernel_rfl)
    (of_decide_eq_true (by kernel_rfl)) (by unfold Func.isWrapper; first | (rw [if_pos (by decide +kernel)]; kernel_rfl) | (rw [if_neg (by decide +kernel)]; exact ⟨rfl, rfl⟩))
    (fun os started H enc _ => lifted os started H enc)


end Go.Proofs.Ytbkmapaieillmaa.lawPasteTokens
