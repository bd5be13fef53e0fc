/- Texts of tokens can be read: a text of tokens is a valid token, and what it stands for, divided into tokens, has the same texts, if the tokens are printed alike: for every input. No conditions. -/
import Derived.Test.YtgjjidjkpmmcoaaZU8
import Derived.Test.YtgjjidjkpmmcoaaZU4
set_option linter.unusedVariables false
set_option linter.unusedSimpArgs false
namespace Go.Proofs.Ytgjjidjkpmmcoaa.lawTextToken
open Go.ChangeShapes Go.WideShapes Go.ChangeAt Go.RowKit Go.ChangeMaps

theorem no_text {l : List Tok} {k : Int} {s : ByteArray} (h : txtRes l = (⟨k, s, false, []⟩, false)) : s = ⟨#[]⟩ := by
  unfold txtRes at h
  split at h
  · split at h
    · simp only [Prod.mk.injEq, and_true] at h; have := congrArg Tok.text h; exact this.symm
    · simp at h
  · simp only [Prod.mk.injEq, and_true] at h; have := congrArg Tok.text h; exact this.symm
set_option maxHeartbeats 8000000 in
set_option maxRecDepth 100000 in
theorem walk (v0 : Value) (x0 : List UInt8) (fp0 : List Nat) (w : World) (H0 : (sSlice sByte).R w [v0] x0 fp0) :
    Calls Try.prog 6 #[v0] w fun e w' => e = .returned (.bool true) ∧ Below w.heap.size w w' := by
  have HH := Lib.hid H0
  obtain ⟨a, cap, hv, hc, hm, h⟩ := H0
  obtain rfl : v0 = .slice a x0.length cap := by simpa using hv
  unfold maxLen at hm
  clear h hv
  go_enter Try.func6, Try.ntmps6
  by_cases hbig : 1048576 < x0.length
  · go_wp2
    go_ret
    exact ⟨rfl, Below.refl _ _⟩
  go_wp2_with fail
  refine (DrawTextToken _ x0 fp0 _ HH.out).mono ?_
  rintro e w1 ⟨v1, L, rfl, hE, hokL, hl, hB⟩
  obtain ⟨f1, r1, -⟩ := hE.read
  have HHD := Lib.hid (list_hid hokL)
  have hll : (L.map (·.d)).length ≤ 61 := by rw [List.length_map]; exact hl
  generalize L.map (·.d) = l at r1 HHD hll
  clear hE hokL hl HH
  go_wp2_with fail
  refine (impl_TextToken _ l _ _ r1).mono ?_
  rintro e w2 h2
  obtain ⟨k, s, b, ao, c, hp, rfl, hk0, hk4, hsz, hc2, hb2⟩ := h2.bare
  have hb3 := alloc_below' w2 (.cells #[.int .i64 k, .string s, .bool false, .slice ao 0 c] 28)
  have HT := Lib.hid (heap_alloc_new w2 (.cells #[.int .i64 k, .string s, .bool false, .slice ao 0 c] 28))
  replace hB := (hB.trans (hb2.mono hB.size)).trans (hb3.mono (Nat.le_trans hB.size hb2.size))
  replace r1 := (sSlice sTok).below ((sSlice sTok).below r1 hb2) hb3
  clear h2 hb2 hb3
  go_upto_region 5 with fail
  generalize (w2.alloc (.cells #[.int .i64 k, .string s, .bool false, .slice ao 0 c] 28)) = W3 at *
  go_wp2_with fail
  refine (spec_TextToken _ l _ _ (by omega) HHD.out r1).mono ?_
  rintro e w4 h4
  obtain ⟨k', s', b', ao2, c2, hp2, rfl, -, -, -, hc4, hb4⟩ := h4.bare
  rw [hp] at hp2
  simp only [Prod.mk.injEq, Tok.mk.injEq, and_true] at hp2
  obtain ⟨⟨rfl, rfl⟩, rfl⟩ := hp2
  have hb5 := alloc_below' w4 (.cells #[.int .i64 k, .string s, .bool false, .slice ao2 0 c2] 28)
  have HX := Lib.hid (heap_alloc_new w4 (.cells #[.int .i64 k, .string s, .bool false, .slice ao2 0 c2] 28))
  replace HT := Lib.hid (mbox (mbox HT.out hb4) hb5)
  replace hB := (hB.trans (hb4.mono hB.size)).trans (hb5.mono (Nat.le_trans hB.size hb4.size))
  replace r1 := (sSlice sTok).below ((sSlice sTok).below r1 hb4) hb5
  clear h4 hb4 hb5 HHD
  go_upto_region 6 with fail
  generalize (w4.alloc (.cells #[.int .i64 k, .string s, .bool false, .slice ao2 0 c2] 28)) = W5 at *
  have p0 : W5.cell? ⟨w2.heap.size, 0, none⟩ = some (.int .i64 k) := cell_of_row _ _ 0 _ _ _ HT.out
  have p1 : W5.cell? ⟨w2.heap.size, 1, none⟩ = some (.string s) := cell_of_row _ _ 1 _ _ _ HT.out
  have p2 : W5.cell? ⟨w2.heap.size, 2, none⟩ = some (.bool false) := cell_of_row _ _ 2 _ _ _ HT.out
  have p3 : W5.cell? ⟨w2.heap.size, 3, none⟩ = some (.slice ao 0 c) := cell_of_row _ _ 3 _ _ _ HT.out
  have R1 := tok_bare0 k s ao c W5 hk0 hk4 (by omega) hc2
  have R2 := tok_bare0 k s ao2 c2 (W5.alloc (.cells #[.int .i64 k, .string s, .bool false, .slice ao 0 c] 28)) hk0 hk4 (by omega) hc4
  have L1 := lit_one R1
  have L2 := lit_one R2
  rw [show (W5.alloc (.cells #[.int .i64 k, .string s, .bool false, .slice ao 0 c] 28)).heap.size = W5.heap.size + 1 from by show (W5.heap.push _).size = _; simp] at L2
  have hb6 := alloc_below' W5 (.cells #[.int .i64 k, .string s, .bool false, .slice ao 0 c] 28)
  have hb7 := alloc_below' (W5.alloc (.cells #[.int .i64 k, .string s, .bool false, .slice ao 0 c] 28)) (.cells #[.int .i64 k, .string s, .bool false, .slice ao2 0 c2] 28)
  have HSM := Lib.hid (sameTokens_same _ _ _ _ _ _ ((sSlice sTok).below L1 hb7) L2)
  have hb8 := hb6.trans (hb7.mono hb6.size)
  have hbb : (b != b) = false := by simp
  replace HX := Lib.hid (mbox HX.out hb6)
  clear R1 R2 L1 L2 hb6 hb7
  have q0 : (W5.alloc (.cells #[.int .i64 k, .string s, .bool false, .slice ao 0 c] 28)).cell? ⟨w4.heap.size, 0, none⟩ = some (.int .i64 k) := cell_of_row _ _ 0 _ _ _ HX.out
  have q1 : (W5.alloc (.cells #[.int .i64 k, .string s, .bool false, .slice ao 0 c] 28)).cell? ⟨w4.heap.size, 1, none⟩ = some (.string s) := cell_of_row _ _ 1 _ _ _ HX.out
  have q2 : (W5.alloc (.cells #[.int .i64 k, .string s, .bool false, .slice ao 0 c] 28)).cell? ⟨w4.heap.size, 2, none⟩ = some (.bool false) := cell_of_row _ _ 2 _ _ _ HX.out
  have q3 : (W5.alloc (.cells #[.int .i64 k, .string s, .bool false, .slice ao 0 c] 28)).cell? ⟨w4.heap.size, 3, none⟩ = some (.slice ao2 0 c2) := cell_of_row _ _ 3 _ _ _ HX.out
  go_wp2_with fail
  refine HSM.out.mono ?_
  rintro e w6 ⟨rfl, hb9⟩
  have hb10 := hb8.trans (hb9.mono hb8.size)
  replace hB := hB.trans (hb10.mono hB.size)
  replace r1 := (sSlice sTok).below r1 hb10
  replace HT := Lib.hid (mbox HT.out hb10)
  clear p0 p1 p2 p3 q0 q1 q2 q3 HX HSM hb8 hb9 hb10
  have p0 : w6.cell? ⟨w2.heap.size, 0, none⟩ = some (.int .i64 k) := cell_of_row _ _ 0 _ _ _ HT.out
  have p1 : w6.cell? ⟨w2.heap.size, 1, none⟩ = some (.string s) := cell_of_row _ _ 1 _ _ _ HT.out
  have p2 : w6.cell? ⟨w2.heap.size, 2, none⟩ = some (.bool false) := cell_of_row _ _ 2 _ _ _ HT.out
  have p3 : w6.cell? ⟨w2.heap.size, 3, none⟩ = some (.slice ao 0 c) := cell_of_row _ _ 3 _ _ _ HT.out
  cases b
  · obtain rfl := no_text hp
    clear hp
    go_wp2_with (go_at_call 13; refine (alive _).mono ?_; rintro e w' ⟨rfl, rfl⟩)
    go_ret
    exact ⟨rfl, hB⟩
  obtain ⟨hv, hbk⟩ := txt_back hp
  have hbz := bytes_size hbk
  have HR := Lib.hid (fun x (h : printRes l = (x, true)) (h2 : x.size = (rawTo l l.length).size) => txt_reads h h2)
  clear hp
  generalize rawTo l l.length = raw at *
  have HTB := Lib.hid (fun (W : World) => impl_TokenBytes [.int .i64 k, .string s, .bool false, .slice ao 0 c] ⟨k, s, false, []⟩ [] W (tok_bare0 k s ao c W hk0 hk4 (by omega) hc2))
  have HTV := Lib.hid (fun (W : World) => impl_TokenValid [.int .i64 k, .string s, .bool false, .slice ao 0 c] ⟨k, s, false, []⟩ [] W (tok_bare0 k s ao c W hk0 hk4 (by omega) hc2))
  unfold BytesOf at HTB
  rw [hv] at HTV
  rw [hbk] at HTB
  clear hv hbk
  go_wp2_with fail
  refine (HTB.out _).mono ?_
  rintro e w7 ⟨rfl, hb7⟩
  replace hB := hB.trans (hb7.mono hB.size)
  replace r1 := (sSlice sTok).below r1 hb7
  replace HT := Lib.hid (mbox HT.out hb7)
  clear p0 p1 p2 p3 hb7 HTB
  go_wp2_with fail
  refine (impl_PrintTokens _ l _ _ r1).mono ?_
  rintro e w8 ⟨rfl, hb8⟩
  replace hB := hB.trans (hb8.mono hB.size)
  replace r1 := (sSlice sTok).below r1 hb8
  replace HT := Lib.hid (mbox HT.out hb8)
  clear hb8
  rcases hp : printRes l with ⟨x, good⟩
  go_wp2_with fail
  refine (impl_TokensOf raw _ (small_ok (by have : s.size ≤ 200 := hsz; have : raw.size + 2 ≤ s.size := hbz; omega))).mono ?_
  rintro e w9 ⟨v9, f9, rfl, r9, -, hb9⟩
  replace hB := hB.trans (hb9.mono hB.size)
  replace r1 := (sSlice sTok).below r1 hb9
  replace HT := Lib.hid (mbox HT.out hb9)
  clear hb9
  have p0 : w9.cell? ⟨w2.heap.size, 0, none⟩ = some (.int .i64 k) := cell_of_row _ _ 0 _ _ _ HT.out
  have p1 : w9.cell? ⟨w2.heap.size, 1, none⟩ = some (.string s) := cell_of_row _ _ 1 _ _ _ HT.out
  have p2 : w9.cell? ⟨w2.heap.size, 2, none⟩ = some (.bool false) := cell_of_row _ _ 2 _ _ _ HT.out
  have p3 : w9.cell? ⟨w2.heap.size, 3, none⟩ = some (.slice ao 0 c) := cell_of_row _ _ 3 _ _ _ HT.out
  have hraw : raw.size ≤ 1000 := by have : s.size ≤ 200 := hsz; have : raw.size + 2 ≤ s.size := hbz; omega
  have hxs : x.size ≤ 1000000 := by
    have h := congrArg Prod.fst hp
    have h2 : (printRes l).1.size ≤ 1000000 := by
      unfold printRes
      split
      · split
        · exact Nat.zero_le _
        · rename_i h3; show (prTo l l.length).size ≤ _; omega
      · exact Nat.zero_le _
    rw [h] at h2; exact h2
  clear hbz
  cases good
  · clear hp HR r9 r1
    go_wp2_with (go_at_call 26; refine (HTV.out _).mono ?_; rintro e w10 ⟨rfl, hb10⟩)
    go_ret
    exact ⟨rfl, hB.trans (hb10.mono hB.size)⟩
  by_cases he : x.size = raw.size
  · obtain ⟨out, ho, hs⟩ := HR.out x hp he
    have e1 : ((x.size : Int) != (raw.size : Int)) = false := by simp [he]
    rw [ho] at r9 ⊢
    have HC := Lib.hid (fun (W : World) (hW : Below w9.heap.size w9 W) => impl_SameTexts _ _ _ _ _ _ W ((sSlice sTok).below r9 hW) ((sSlice sTok).below r1 hW))
    rw [hs] at HC
    clear hp he ho hs HR r9 r1
    go_wp2_with fail
    refine (HTV.out _).mono ?_
    rintro e w10 ⟨rfl, hb10⟩
    have hb11 := hB.trans (hb10.mono hB.size)
    clear p0 p1 p2 p3 HT
    go_wp2_with fail
    refine (HC.out _ hb10).mono ?_
    rintro e w11 ⟨rfl, hb12⟩
    have hb13 := hb11.trans (hb12.mono hb11.size)
    go_wp2
    go_ret
    exact ⟨rfl, hb13⟩
  · have e1 : ((x.size : Int) != (raw.size : Int)) = true := by simp; omega
    clear hp he HR r9 r1
    go_wp2_with (go_at_call 26; refine (HTV.out _).mono ?_; rintro e w10 ⟨rfl, hb10⟩)
    go_ret
    exact ⟨rfl, hB.trans (hb10.mono hB.size)⟩

theorem own : ownKnob Try.prog.godebug = none := by kernel_rfl
theorem laidOut : laidOutB Try.prog = true := by kernel_rfl
theorem readable : ∀ t ∈ Try.f6.params.toList, Try.prog.readableRec t = true ∧ t < Try.prog.types.size := by
  rw [Try.params6]
  simp only [List.mem_cons, List.not_mem_nil, or_false]
  rintro t rfl
  exact ⟨by kernel_rfl, of_decide_eq_true (by kernel_rfl)⟩

set_option maxRecDepth 100000 in
theorem lifted (os : Os) (started : os.Started) (H : Type) (enc : TypeId × Value → H) :
    ReturnsInHanded {} Try.checked os 6 .any (Rows.fnTextTokenSpec.pre6 enc Try.prog Try.f6 Rows.fnTextTokenRow.domain false) (Rows.fnTextTokenSpec.post enc Try.prog Try.f6 false true false false) := by
  refine returnsInHanded_of_change (C := Try.checked) own started (by kernel_rfl) Try.func6
    (ChangeSpec.witness6 (enc := enc) (C := Try.checked) false ⟨#[], #[.slice none 0 0], []⟩ 8 (by kernel_rfl) (by kernel_rfl) (by kernel_rfl) (by kernel_rfl)) ?_
  intro W base args ds gs before hval0 hW hcnd _
  have hval : ∀ (j : Nat) t v, Try.f6.params[j]? = some t → args[j]? = some v → Value.okWide Try.prog W .any base t v := hval0
  have hW' := hW
  obtain ⟨p, q, hA0, hV, rfl, hfz, hnd⟩ := hW
  have hA : DataW.TrodAll enc Try.prog W 0 (fun _ => true) true Try.f6.params.toList args.toList ds p := hA0
  rw [Try.params6] at hA hval
  obtain ⟨v0, vs0, d0, ds0, p0, q0, hargs0, rfl, rfl, h0, r0⟩ := trodAll_cons hA
  obtain ⟨rfl, rfl, rfl⟩ := trodAll_nil r0
  obtain rfl : args = #[v0] := by cases args; simp_all
  obtain ⟨rfl, rfl⟩ := trodVars_none hV
  obtain ⟨a0, len0, cap0, rfl⟩ := okWide_slice Try.underlying32 (hval 0 32 v0 rfl rfl)
  obtain ⟨x0, fp0, H0⟩ := open_arg (opens_slice Try.underlying32 (by kernel_rfl) (by decide) (opens_byte Try.underlying5)) h0
  refine (walk _ x0 fp0 W H0).mono fun e W' ⟨he, hw⟩ => ?_
  subst he
  exact ⟨_, rfl, law_done laidOut readable rfl rfl Try.underlying4 hW' rfl rfl rfl hw⟩

theorem holds : Rows.FnTextTokenSaid :=
  OpenClaim.holds_of_wide 6 Try.f6 rfl rfl rfl rfl rfl rfl rfl ⟨rfl, rfl, rfl, rfl, rfl⟩ rfl rfl rfl rfl rfl (by kernel_rfl) Try.func6 (by kernel_rfl)
    (of_decide_eq_true (by kernel_rfl)) (by unfold Func.isWrapper; first | (rw [if_pos (by decide +kernel)]; kernel_rfl) | (rw [if_neg (by decide +kernel)]; exact ⟨rfl, rfl⟩))
    (fun os started H enc _ => lifted os started H enc)


end Go.Proofs.Ytgjjidjkpmmcoaa.lawTextToken
