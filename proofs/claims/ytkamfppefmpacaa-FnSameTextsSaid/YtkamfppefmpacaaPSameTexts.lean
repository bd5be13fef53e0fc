/- Equal texts are equal in both directions: a list has the same texts as itself, and with a token more it has not: for every input. No conditions. -/
import Derived.Test.YtkamfppefmpacaaDrawST
import Derived.Test.YtkamfppefmpacaaPr1
import Derived.Test.YtkamfppefmpacaaAlive
namespace Go.Proofs.Ytkamfppefmpacaa.lawSameTexts
open Go.ChangeShapes Go.WideShapes Go.ChangeAt Go.RowKit Go.ChangeMaps

theorem sameTx_symm (a b : List Tok) : sameTx a b = sameTx b a := by
  unfold sameTx; exact decide_eq_decide.2 ⟨Eq.symm, Eq.symm⟩
theorem sameTx_self (a : List Tok) : sameTx a a = true := by unfold sameTx; simp
theorem sameTx_more (a : List Tok) (t : Tok) : sameTx a (a ++ [t]) = false := same_len (by simp)

set_option maxHeartbeats 8000000 in
set_option maxRecDepth 100000 in
theorem walk (v0 : Value) (x0 : List UInt8) (fp0 : List Nat) (w : World) (H0 : (sSlice sByte).R w [v0] x0 fp0) :
    Calls Try.prog 6 #[v0] w fun e w' => e = .returned (.bool true) ∧ Below w.heap.size w w' := by
  have HH := Lib.hid H0
  obtain ⟨a, cap, hv, hc, hm, h⟩ := H0
  obtain rfl : v0 = .slice a x0.length cap := by simpa using hv
  unfold maxLen at hm
  clear h hv
  go_enter Try.func6, Try.ntmps6
  by_cases hbig : 1048576 < x0.length
  · go_wp2
    go_ret
    exact ⟨rfl, Below.refl _ _⟩
  go_wp2_with fail
  refine (DrawSameTexts _ x0 fp0 _ HH.out).mono ?_
  rintro e w1 ⟨v1, v2, L1, l2, f2, rfl, hE, r2, hlen, hB⟩
  have HE := Lib.hid hE
  obtain ⟨f1, r1, -⟩ := hE.read
  have hml : (L1.map (·.d)).length = L1.length := by simp
  clear hE
  go_wp2_with fail
  refine (impl_SameTexts _ _ _ _ _ _ _ r1 r2).mono ?_
  rintro e w2 ⟨rfl, b2⟩
  replace r1 := (sSlice sTok).below r1 b2
  replace r2 := (sSlice sTok).below r2 b2
  replace HE := Lib.hid (HE.out.below b2)
  replace hB := hB.trans (b2.mono hB.size)
  go_wp2_with fail
  refine (spec_SameTexts _ _ _ _ _ _ _ r1 r2).mono ?_
  rintro e w3 ⟨rfl, b3⟩
  replace r1 := (sSlice sTok).below r1 b3
  replace r2 := (sSlice sTok).below r2 b3
  replace HE := Lib.hid (HE.out.below b3)
  replace hB := hB.trans (b3.mono hB.size)
  have hbb : ∀ b : Bool, (b != b) = false := by intro b; simp
  have hbb' := hbb (sameTx (L1.map (·.d)) l2)
  have HC4 := Lib.hid (impl_SameTexts _ _ _ _ _ _ _ r2 r1)
  rw [sameTx_symm l2 (L1.map (·.d))] at HC4
  clear b2 b3
  go_wp2_with fail
  refine HC4.out.mono ?_
  rintro e w4 ⟨rfl, b4⟩
  replace r1 := (sSlice sTok).below r1 b4
  replace HE := Lib.hid (HE.out.below b4)
  replace hB := hB.trans (b4.mono hB.size)
  have HC5 := Lib.hid (impl_SameTexts _ _ _ _ _ _ _ r1 r1)
  rw [sameTx_self] at HC5
  clear HC4 r2 b4
  go_wp2_with fail
  refine HC5.out.mono ?_
  rintro e w5 ⟨rfl, b5⟩
  replace r1 := (sSlice sTok).below r1 b5
  replace HE := Lib.hid (HE.out.below b5)
  replace hB := hB.trans (b5.mono hB.size)
  clear HC5 b5 hbb'
  have hs5 := hB.size
  have hlit : Hid (RowE sTok w.heap.size 36 (.slice (some ⟨w5.heap.size, 0, none⟩) 0 0) [] (w5.alloc (.cells #[] 36))) := RowE.lit [] (by simp) (by simp) (by simp) (by simp) hs5 (by simp)
  have hba := alloc_below' w5 (.cells #[] 36)
  have HE4 := Lib.hid (HE.out.below hba)
  have HB4 := Lib.hid (hB.trans (hba.mono hB.size))
  have h1c : ∀ x ∈ L1, ∀ u ∈ x.cells, u.oneCell' = true := fun x hx u hu => by
    obtain ⟨h, hcs, _, _, hK⟩ := HE.out.el x hx
    obtain ⟨ao, c, rfl, -⟩ := open_rows hK
    rw [hcs] at hu
    simp only [List.mem_cons, List.not_mem_nil, or_false] at hu
    rcases hu with rfl | rfl | rfl | rfl <;> rfl
  have hn0 : ∀ b, Value.ownBlock (.slice (some ⟨w5.heap.size, 0, none⟩) 0 0) = some b → w5.heap.size ≤ b := fun b hb => by
    simp only [Value.ownBlock, Option.some.injEq] at hb; omega
  have HZ : Hid (∀ W, sTok.R W [.int .i64 0, .string ⟨#[]⟩, .bool false, .slice none 0 0] ⟨0, ⟨#[]⟩, false, []⟩ []) := fun W => ⟨_, rfl, ⟨by decide, by decide⟩, by unfold okStr; decide, slice_empty sStr W none 0 (by simp)⟩
  go_wp2_with (first
    | (at_builtin; refine wpList_guarded (by rfl) ?_; refine wp_append_rowsB (S := sTok) ti_tok rfl (by decide) _ rfl (.tmp 34) (.tmp 35) rfl w.heap.size w5.heap.size _ _ rfl hlit.out rfl HE4.out h1c (by unfold maxLen; simp; omega) (by simp; omega) hs5 hba.size hn0 ?_; intro v6 w6 hE6 hg6 hv6)
    | (at_builtin; refine wpList_guarded (by rfl) ?_; refine wp_append_tokE rfl (.tmp 36) (.tmp 38) rfl w.heap.size v6 _ rfl hE6 0 ⟨#[]⟩ false none 0 0 [] [] rfl (HZ.out _) (by simp) (by simp) (by simp; omega) (Nat.le_trans hs5 (hba.grown hg6 hba.size hn0).size) ?_; intro v7 w7 hE7 hg7))
  have hb56 := hba.grown hg6 hba.size hn0
  have hb57 := hb56.grown hg7 hb56.size hv6
  have HE7 := Lib.hid (HE.out.below hb57)
  obtain ⟨f1', r1', -⟩ := HE7.out.read
  obtain ⟨f7, r7, -⟩ := hE7.read
  replace hB := hB.trans (hb57.mono hB.size)
  have HC8 := Lib.hid (impl_SameTexts _ _ _ _ _ _ _ r1' r7)
  rw [show (([] ++ L1 ++ [⟨[.int .i64 0, .string ⟨#[]⟩, .bool false, .slice none 0 0], ⟨0, ⟨#[]⟩, false, []⟩, []⟩] : List (Elem Tok)).map (·.d)) = L1.map (·.d) ++ [⟨0, ⟨#[]⟩, false, []⟩] by simp, sameTx_more] at HC8
  clear hE6 hE7 hg6 hg7 hb56 hb57 r1 r1' r7 HE4 HB4 hlit hba h1c hn0 hv6
  refine HC8.out.mono ?_
  rintro e w8 ⟨rfl, b8⟩
  replace hB := hB.trans (b8.mono hB.size)
  go_wp2_with (go_at_call 14; refine (alive _).mono ?_; rintro e w' ⟨rfl, rfl⟩)
  go_ret
  exact ⟨rfl, hB⟩

theorem own : ownKnob Try.prog.godebug = none := by kernel_rfl
theorem laidOut : laidOutB Try.prog = true := by kernel_rfl
theorem readable : ∀ t ∈ Try.f6.params.toList, Try.prog.readableRec t = true ∧ t < Try.prog.types.size := by
  rw [Try.params6]
  simp only [List.mem_cons, List.not_mem_nil, or_false]
  rintro t rfl
  exact ⟨by kernel_rfl, of_decide_eq_true (by kernel_rfl)⟩

set_option maxRecDepth 100000 in
theorem lifted (os : Os) (started : os.Started) (H : Type) (enc : TypeId × Value → H) :
    ReturnsInHanded {} Try.checked os 6 .any (Rows.fnSameTextsSpec.pre6 enc Try.prog Try.f6 Rows.fnSameTextsRow.domain false) (Rows.fnSameTextsSpec.post enc Try.prog Try.f6 false true false false) := by
  refine returnsInHanded_of_change (C := Try.checked) own started (by kernel_rfl) Try.func6
    (ChangeSpec.witness6 (enc := enc) (C := Try.checked) false ⟨#[], #[.slice none 0 0], []⟩ 8 (by kernel_rfl) (by kernel_rfl) (by kernel_rfl) (by kernel_rfl)) ?_
  intro W base args ds gs before hval0 hW hcnd _
  have hval : ∀ (j : Nat) t v, Try.f6.params[j]? = some t → args[j]? = some v → Value.okWide Try.prog W .any base t v := hval0
  have hW' := hW
  obtain ⟨p, q, hA0, hV, rfl, hfz, hnd⟩ := hW
  have hA : DataW.TrodAll enc Try.prog W 0 (fun _ => true) true Try.f6.params.toList args.toList ds p := hA0
  rw [Try.params6] at hA hval
  obtain ⟨v0, vs0, d0, ds0, p0, q0, hargs0, rfl, rfl, h0, r0⟩ := trodAll_cons hA
  obtain ⟨rfl, rfl, rfl⟩ := trodAll_nil r0
  obtain rfl : args = #[v0] := by cases args; simp_all
  obtain ⟨rfl, rfl⟩ := trodVars_none hV
  obtain ⟨a0, len0, cap0, rfl⟩ := okWide_slice Try.underlying22 (hval 0 22 v0 rfl rfl)
  obtain ⟨x0, fp0, H0⟩ := open_arg (opens_slice Try.underlying22 (by kernel_rfl) (by decide) (opens_byte Try.underlying5)) h0
  refine (walk _ x0 fp0 W H0).mono fun e W' ⟨he, hw⟩ => ?_
  subst he
  exact ⟨_, rfl, law_done laidOut readable rfl rfl Try.underlying4 hW' rfl rfl rfl hw⟩

theorem holds : Rows.FnSameTextsSaid :=
  OpenClaim.holds_of_wide 6 Try.f6 rfl rfl rfl rfl rfl rfl rfl ⟨rfl, rfl, rfl, rfl, rfl⟩ rfl rfl rfl rfl rfl (by kernel_rfl) Try.func6 (by kernel_rfl)
    (of_decide_eq_true (by kernel_rfl)) (by unfold Func.isWrapper; first | (rw [if_pos (by decide +kernel)]; kernel_rfl) | (rw [if_neg (by decide +kernel)]; exact ⟨rfl, rfl⟩))
    (fun os started H enc _ => lifted os started H enc)

end Go.Proofs.Ytkamfppefmpacaa.lawSameTexts
