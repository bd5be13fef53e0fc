/- Texts of texts stand for them: TextToken of the one token stands for its Text: for every input. No conditions. -/
import Derived.Test.YtgjjidjkpmmcoaaZU8
import Derived.Test.YtgjjidjkpmmcoaaZU4
set_option linter.unusedVariables false
set_option linter.unusedSimpArgs false
namespace Go.Proofs.Ytgjjidjkpmmcoaa.lawTokenBytes
open Go.ChangeShapes Go.WideShapes Go.ChangeAt Go.RowKit Go.ChangeMaps

set_option maxHeartbeats 8000000 in
set_option maxRecDepth 100000 in
theorem walk (v0 : Value) (x0 : List UInt8) (fp0 : List Nat) (w : World) (H0 : (sSlice sByte).R w [v0] x0 fp0) :
    Calls Try.prog 4 #[v0] w fun e w' => e = .returned (.bool true) ∧ Below w.heap.size w w' := by
  have HH := Lib.hid H0
  obtain ⟨a, cap, hv, hc, hm, h⟩ := H0
  obtain rfl : v0 = .slice a x0.length cap := by simpa using hv
  unfold maxLen at hm
  clear h hv
  go_enter Try.func4, Try.ntmps4
  by_cases hbig : 1048576 < x0.length
  · go_wp2
    go_ret
    exact ⟨rfl, Below.refl _ _⟩
  go_wp2_with fail
  refine (DrawTokenBytes _ x0 fp0 _ HH.out).mono ?_
  rintro e w1 ⟨k, s, sp, ao, m, c, lh, fp, rfl, hR, hok, hB⟩
  have hb1 := alloc_below' w1 (.cells #[.int .i64 k, .string s, .bool sp, .slice ao m c] 28)
  have HT := Lib.hid (heap_alloc_new w1 (.cells #[.int .i64 k, .string s, .bool sp, .slice ao m c] 28))
  replace hB := hB.trans (hb1.mono hB.size)
  replace hR := sTok.below hR hb1
  have hss : s.size ≤ 1000 := hok.1
  clear hok hb1 HH
  go_upto_region 4 with fail
  generalize (w1.alloc (.cells #[.int .i64 k, .string s, .bool sp, .slice ao m c] 28)) = W2 at *
  have p0 : W2.cell? ⟨w1.heap.size, 0, none⟩ = some (.int .i64 k) := cell_of_row _ _ 0 _ _ _ HT.out
  have p1 : W2.cell? ⟨w1.heap.size, 1, none⟩ = some (.string s) := cell_of_row _ _ 1 _ _ _ HT.out
  have p2 : W2.cell? ⟨w1.heap.size, 2, none⟩ = some (.bool sp) := cell_of_row _ _ 2 _ _ _ HT.out
  have p3 : W2.cell? ⟨w1.heap.size, 3, none⟩ = some (.slice ao m c) := cell_of_row _ _ 3 _ _ _ HT.out
  have H1 := Lib.hid (impl_TokenBytes _ _ _ _ hR)
  go_wp2_with fail
  refine H1.out.mono ?_
  rintro e w3 ⟨rfl, hb3⟩
  replace hB := hB.trans (hb3.mono hB.size)
  replace hR := sTok.below hR hb3
  replace HT := Lib.hid (mbox HT.out hb3)
  clear p0 p1 p2 p3 hb3 H1
  have H1 := Lib.hid (spec_TokenBytes _ _ _ _ hR)
  have p0 : w3.cell? ⟨w1.heap.size, 0, none⟩ = some (.int .i64 k) := cell_of_row _ _ 0 _ _ _ HT.out
  have p1 : w3.cell? ⟨w1.heap.size, 1, none⟩ = some (.string s) := cell_of_row _ _ 1 _ _ _ HT.out
  have p2 : w3.cell? ⟨w1.heap.size, 2, none⟩ = some (.bool sp) := cell_of_row _ _ 2 _ _ _ HT.out
  have p3 : w3.cell? ⟨w1.heap.size, 3, none⟩ = some (.slice ao m c) := cell_of_row _ _ 3 _ _ _ HT.out
  go_wp2_with fail
  refine H1.out.mono ?_
  rintro e w4 ⟨rfl, hb4⟩
  replace hB := hB.trans (hb4.mono hB.size)
  replace hR := sTok.below hR hb4
  replace HT := Lib.hid (mbox HT.out hb4)
  clear p0 p1 p2 p3 hb4 H1
  rcases hp : bytesRes ⟨k, s, sp, lh⟩ with ⟨x, good⟩
  have hbb : (good != good) = false := by simp
  have hxx := bytes_beq (rfl : x = x)
  cases good
  · have hx : x = ⟨#[]⟩ := by
      unfold bytesRes at hp
      split at hp
      · simp at hp
      · simp only [Prod.mk.injEq, and_true] at hp; exact hp.symm
    subst hx
    clear hp
    go_wp2_with (go_at_call 13; refine (alive _).mono ?_; rintro e w' ⟨rfl, rfl⟩)
    go_ret
    exact ⟨rfl, hB⟩
  have hbz : x.size + 2 ≤ s.size := bytes_size hp
  clear hp
  have p0 : w4.cell? ⟨w1.heap.size, 0, none⟩ = some (.int .i64 k) := cell_of_row _ _ 0 _ _ _ HT.out
  have p1 : w4.cell? ⟨w1.heap.size, 1, none⟩ = some (.string s) := cell_of_row _ _ 1 _ _ _ HT.out
  have p2 : w4.cell? ⟨w1.heap.size, 2, none⟩ = some (.bool sp) := cell_of_row _ _ 2 _ _ _ HT.out
  have p3 : w4.cell? ⟨w1.heap.size, 3, none⟩ = some (.slice ao m c) := cell_of_row _ _ 3 _ _ _ HT.out
  have hb5 := alloc_below' w4 (.cells #[.int .i64 k, .string s, .bool sp, .slice ao m c] 28)
  have HL := Lib.hid (impl_TextToken _ _ _ _ (lit_one hR))
  have HU := Lib.hid (fun u (h : txtRes [⟨k, s, sp, lh⟩] = (u, true)) => txt_one h)
  clear hR
  go_wp2_with fail
  refine HL.out.mono ?_
  rintro e w6 h6
  obtain ⟨k2, s2, b, ao2, c2, hp2, rfl, hk0, hk4, hsz, hc2, hb6⟩ := h6.bare
  have hb7 := alloc_below' w6 (.cells #[.int .i64 k2, .string s2, .bool false, .slice ao2 0 c2] 28)
  have HX := Lib.hid (heap_alloc_new w6 (.cells #[.int .i64 k2, .string s2, .bool false, .slice ao2 0 c2] 28))
  have hb8 := (hb5.trans (hb6.mono hb5.size)).trans (hb7.mono (Nat.le_trans hb5.size hb6.size))
  replace hB := hB.trans (hb8.mono hB.size)
  replace HT := Lib.hid (mbox HT.out hb8)
  have HTB := Lib.hid (fun (W : World) => impl_TokenBytes [.int .i64 k2, .string s2, .bool false, .slice ao2 0 c2] ⟨k2, s2, false, []⟩ [] W (tok_bare0 k2 s2 ao2 c2 W hk0 hk4 (by omega) hc2))
  unfold BytesOf at HTB
  clear h6 hb5 hb6 hb7 hb8 HL p0 p1 p2 p3
  go_upto_region 11 with fail
  generalize (w6.alloc (.cells #[.int .i64 k2, .string s2, .bool false, .slice ao2 0 c2] 28)) = W7 at *
  have q0 : W7.cell? ⟨w6.heap.size, 0, none⟩ = some (.int .i64 k2) := cell_of_row _ _ 0 _ _ _ HX.out
  have q1 : W7.cell? ⟨w6.heap.size, 1, none⟩ = some (.string s2) := cell_of_row _ _ 1 _ _ _ HX.out
  have q2 : W7.cell? ⟨w6.heap.size, 2, none⟩ = some (.bool false) := cell_of_row _ _ 2 _ _ _ HX.out
  have q3 : W7.cell? ⟨w6.heap.size, 3, none⟩ = some (.slice ao2 0 c2) := cell_of_row _ _ 3 _ _ _ HX.out
  have e2 : decide ((x.size : Int) + 2 ≤ (s.size : Int)) = true := by simp; omega
  have hwr : IntKind.i64.wrap ((x.size : Int) + 2) = (x.size : Int) + 2 := IntWalk.i64_in _ (by omega)
  have hle : (x.size : Int) + 2 ≤ (s.size : Int) := by omega
  cases b
  · clear hp2 HU
    rcases hp3 : bytesRes ⟨k2, s2, false, []⟩ with ⟨y, g2⟩
    rw [hp3] at HTB
    clear hp3
    go_wp2_with fail
    refine (HTB.out _).mono ?_
    rintro e w8 ⟨rfl, hb8⟩
    replace hB := hB.trans (hb8.mono hB.size)
    replace HT := Lib.hid (mbox HT.out hb8)
    clear q0 q1 q2 q3 HX HTB hb8
    have p0 : w8.cell? ⟨w1.heap.size, 0, none⟩ = some (.int .i64 k) := cell_of_row _ _ 0 _ _ _ HT.out
    have p1 : w8.cell? ⟨w1.heap.size, 1, none⟩ = some (.string s) := cell_of_row _ _ 1 _ _ _ HT.out
    have p2 : w8.cell? ⟨w1.heap.size, 2, none⟩ = some (.bool sp) := cell_of_row _ _ 2 _ _ _ HT.out
    have p3 : w8.cell? ⟨w1.heap.size, 3, none⟩ = some (.slice ao m c) := cell_of_row _ _ 3 _ _ _ HT.out
    go_wp2
    go_ret
    exact ⟨rfl, hB⟩
  · have h1 := HU.out _ hp2
    rw [h1] at HTB
    have hyy := bytes_beq (rfl : s = s)
    clear hp2 HU h1
    go_wp2_with fail
    refine (HTB.out _).mono ?_
    rintro e w8 ⟨rfl, hb8⟩
    replace hB := hB.trans (hb8.mono hB.size)
    replace HT := Lib.hid (mbox HT.out hb8)
    clear q0 q1 q2 q3 HX HTB hb8
    have p0 : w8.cell? ⟨w1.heap.size, 0, none⟩ = some (.int .i64 k) := cell_of_row _ _ 0 _ _ _ HT.out
    have p1 : w8.cell? ⟨w1.heap.size, 1, none⟩ = some (.string s) := cell_of_row _ _ 1 _ _ _ HT.out
    have p2 : w8.cell? ⟨w1.heap.size, 2, none⟩ = some (.bool sp) := cell_of_row _ _ 2 _ _ _ HT.out
    have p3 : w8.cell? ⟨w1.heap.size, 3, none⟩ = some (.slice ao m c) := cell_of_row _ _ 3 _ _ _ HT.out
    go_wp2
    go_ret
    exact ⟨rfl, hB⟩

theorem own : ownKnob Try.prog.godebug = none := by kernel_rfl
theorem laidOut : laidOutB Try.prog = true := by kernel_rfl
theorem readable : ∀ t ∈ Try.f4.params.toList, Try.prog.readableRec t = true ∧ t < Try.prog.types.size := by
  rw [Try.params4]
  simp only [List.mem_cons, List.not_mem_nil, or_false]
  rintro t rfl
  exact ⟨by kernel_rfl, of_decide_eq_true (by kernel_rfl)⟩

set_option maxRecDepth 100000 in
theorem lifted (os : Os) (started : os.Started) (H : Type) (enc : TypeId × Value → H) :
    ReturnsInHanded {} Try.checked os 4 .any (Rows.fnTokenBytesSpec.pre6 enc Try.prog Try.f4 Rows.fnTokenBytesRow.domain false) (Rows.fnTokenBytesSpec.post enc Try.prog Try.f4 false true false false) := by
  refine returnsInHanded_of_change (C := Try.checked) own started (by kernel_rfl) Try.func4
    (ChangeSpec.witness6 (enc := enc) (C := Try.checked) false ⟨#[], #[.slice none 0 0], []⟩ 8 (by kernel_rfl) (by kernel_rfl) (by kernel_rfl) (by kernel_rfl)) ?_
  intro W base args ds gs before hval0 hW hcnd _
  have hval : ∀ (j : Nat) t v, Try.f4.params[j]? = some t → args[j]? = some v → Value.okWide Try.prog W .any base t v := hval0
  have hW' := hW
  obtain ⟨p, q, hA0, hV, rfl, hfz, hnd⟩ := hW
  have hA : DataW.TrodAll enc Try.prog W 0 (fun _ => true) true Try.f4.params.toList args.toList ds p := hA0
  rw [Try.params4] at hA hval
  obtain ⟨v0, vs0, d0, ds0, p0, q0, hargs0, rfl, rfl, h0, r0⟩ := trodAll_cons hA
  obtain ⟨rfl, rfl, rfl⟩ := trodAll_nil r0
  obtain rfl : args = #[v0] := by cases args; simp_all
  obtain ⟨rfl, rfl⟩ := trodVars_none hV
  obtain ⟨a0, len0, cap0, rfl⟩ := okWide_slice Try.underlying32 (hval 0 32 v0 rfl rfl)
  obtain ⟨x0, fp0, H0⟩ := open_arg (opens_slice Try.underlying32 (by kernel_rfl) (by decide) (opens_byte Try.underlying5)) h0
  refine (walk _ x0 fp0 W H0).mono fun e W' ⟨he, hw⟩ => ?_
  subst he
  exact ⟨_, rfl, law_done laidOut readable rfl rfl Try.underlying4 hW' rfl rfl rfl hw⟩

theorem holds : Rows.FnTokenBytesSaid :=
  OpenClaim.holds_of_wide 4 Try.f4 rfl rfl rfl rfl rfl rfl rfl ⟨rfl, rfl, rfl, rfl, rfl⟩ rfl rfl rfl rfl rfl (by kernel_rfl) Try.func4 (by kernel_rfl)
    (of_decide_eq_true (by kernel_rfl)) (by unfold Func.isWrapper; first | (rw [if_pos (by decide +kernel)]; kernel_rfl) | (rw [if_neg (by decide +kernel)]; exact ⟨rfl, rfl⟩))
    (fun os started H enc _ => lifted os started H enc)


end Go.Proofs.Ytgjjidjkpmmcoaa.lawTokenBytes
