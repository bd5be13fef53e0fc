/- Tokens are valid one by one: with one that is not they are invalid, and a part of valid ones is valid: for every input. No conditions. -/
import Derived.Test.YtkamfppefmpacaaDrawTks
import Derived.Test.YtkamfppefmpacaaPr1
import Derived.Test.YtkamfppefmpacaaSlices
import Derived.Test.YtkamfppefmpacaaAlive
namespace Go.Proofs.Ytkamfppefmpacaa.lawTokensValid
open Go.ChangeShapes Go.WideShapes Go.ChangeAt Go.RowKit Go.ChangeMaps

theorem toksOk_drop {l : List Tok} (h : toksOk l = true) (k : Nat) : toksOk (l.drop k) = true := by
  unfold toksOk at *
  rw [Bool.and_eq_true, decide_eq_true_eq, List.all_eq_true] at *
  exact ⟨by rw [List.length_drop]; omega, fun x hx => h.2 x (List.mem_of_mem_drop hx)⟩
theorem zero_no : tokOk ⟨0, ⟨#[]⟩, false, []⟩ = false := by
  have h : tokRes ⟨#[]⟩ = ([], true) := tokRes_some (by decide) (by rw [toks, dif_neg (by decide)])
  unfold tokOk
  show (oneTok ⟨#[]⟩ 0 && _) = false
  have : oneTok ⟨#[]⟩ 0 = false := by simp [oneTok, h]
  rw [this]; rfl
theorem toksOk_zero (l : List Tok) : toksOk (⟨0, ⟨#[]⟩, false, []⟩ :: l) = false := by
  unfold toksOk
  rw [List.all_cons, zero_no]; simp

set_option maxHeartbeats 8000000 in
set_option maxRecDepth 100000 in
theorem walk (v0 : Value) (x0 : List UInt8) (fp0 : List Nat) (w : World) (H0 : (sSlice sByte).R w [v0] x0 fp0) :
    Calls Try.prog 4 #[v0] w fun e w' => e = .returned (.bool true) ∧ Below w.heap.size w w' := by
  have HH := Lib.hid H0
  obtain ⟨a, cap, hv, hc, hm, h⟩ := H0
  obtain rfl : v0 = .slice a x0.length cap := by simpa using hv
  unfold maxLen at hm
  clear h hv
  go_enter Try.func4, Try.ntmps4
  by_cases hbig : 1048576 < x0.length
  · go_wp2
    go_ret
    exact ⟨rfl, Below.refl _ _⟩
  go_wp2_with fail
  refine (DrawTokensValid _ x0 fp0 _ HH.out).mono ?_
  rintro e w1 ⟨v1, L, rfl, hE, -, hlen, hB⟩
  have HE := Lib.hid hE
  obtain ⟨a2, cap2, rfl, hc2, hm2, -⟩ := hE.val
  unfold maxLen at hm2
  clear hE
  obtain ⟨f1, r1, -⟩ := HE.out.read
  go_wp2_with fail
  refine (impl_TokensValid _ _ _ _ r1).mono ?_
  rintro e w2 ⟨rfl, b2⟩
  replace HE := Lib.hid (HE.out.below b2)
  replace hB := hB.trans (b2.mono hB.size)
  replace r1 := (sSlice sTok).below r1 b2
  go_wp2_with fail
  refine (spec_TokensValid _ _ _ _ r1).mono ?_
  rintro e w3 ⟨rfl, b3⟩
  replace HE := Lib.hid (HE.out.below b3)
  replace hB := hB.trans (b3.mono hB.size)
  clear r1 b2 b3
  have hbb : ∀ b : Bool, (b != b) = false := by intro b; simp
  have hbb' := hbb (toksOk (L.map (·.d)))
  have hs3 := hB.size
  have hlit : Hid (RowE sTok w.heap.size 36 (.slice (some ⟨w3.heap.size, 0, none⟩) 1 1) [⟨[.int .i64 0, .string ⟨#[]⟩, .bool false, .slice none 0 0], ⟨0, ⟨#[]⟩, false, []⟩, []⟩] (w3.alloc (.cells #[.int .i64 0, .string ⟨#[]⟩, .bool false, .slice none 0 0] 36))) :=
    RowE.lit (S := sTok) [⟨[.int .i64 0, .string ⟨#[]⟩, .bool false, .slice none 0 0], ⟨0, ⟨#[]⟩, false, []⟩, []⟩] (by simp [sTok]) (by
      intro x hx
      obtain rfl := List.mem_singleton.1 hx
      exact ⟨_, rfl, ⟨by decide, by decide⟩, by unfold okStr; decide, slice_empty sStr w3 none 0 (by simp)⟩) (by simp) (by simp) hs3 (by simp)
  have hba := alloc_below' w3 (.cells #[.int .i64 0, .string ⟨#[]⟩, .bool false, .slice none 0 0] 36)
  have HE4 := Lib.hid (HE.out.below hba)
  have HB4 := Lib.hid (hB.trans (hba.mono hB.size))
  have h1c : ∀ x ∈ L, ∀ u ∈ x.cells, u.oneCell' = true := fun x hx u hu => by
    obtain ⟨h, hcs, _, _, hK⟩ := HE.out.el x hx
    obtain ⟨ao, c, rfl, -⟩ := open_rows hK
    rw [hcs] at hu
    simp only [List.mem_cons, List.not_mem_nil, or_false] at hu
    rcases hu with rfl | rfl | rfl | rfl <;> rfl
  go_wp2_with (at_builtin; refine wp_append_rows (S := sTok) ti_tok rfl (by decide) _ rfl (.tmp 17) (.tmp 18) rfl w.heap.size _ _ rfl hlit.out rfl HE4.out h1c (by unfold maxLen; simp; omega) (by simp; omega) HB4.out.size ?_; intro v5 w5 hE5 hg5)
  obtain ⟨f5, r5, -⟩ := hE5.read
  have hB5 := HB4.out.grown hg5 HB4.out.size hlit.out.mine
  have hn0 : ∀ b, Value.ownBlock (.slice (some ⟨w3.heap.size, 0, none⟩) 1 1) = some b → w3.heap.size ≤ b := fun b hb => by
    simp only [Value.ownBlock, Option.some.injEq] at hb; omega
  have hb35 := hba.grown hg5 hba.size hn0
  have HE5 := Lib.hid (HE.out.below hb35)
  have HC := Lib.hid (impl_TokensValid _ _ _ _ r5)
  rw [show (([⟨[.int .i64 0, .string ⟨#[]⟩, .bool false, .slice none 0 0], ⟨0, ⟨#[]⟩, false, []⟩, []⟩] ++ L : List (Elem Tok)).map (·.d)) = ⟨0, ⟨#[]⟩, false, []⟩ :: L.map (·.d) from rfl, toksOk_zero] at HC
  clear hE5 hg5 hb35 r5 hlit hba HE4 h1c HE hbb
  go_wp2_with fail
  refine HC.out.mono ?_
  rintro e w6 ⟨rfl, b6⟩
  have HE6 := Lib.hid (HE5.out.below b6)
  replace hB := hB5.trans (b6.mono hB5.size)
  clear HE5 b6 HC hbb' hs3 hB5
  have hml : (L.map (·.d)).length = L.length := by simp
  cases hok : toksOk (L.map (·.d))
  · go_wp2_with (go_at_call 14; refine (alive _).mono ?_; rintro e w' ⟨rfl, rfl⟩)
    go_ret
    exact ⟨rfl, hB⟩
  · obtain ⟨f6, r6, -⟩ := HE6.out.read
    have HP := Lib.hid (toksOk_drop hok (L.length / 2))
    clear hok
    by_cases hcc : cap2 = L.length / 2
    · obtain rfl : L = [] := List.eq_nil_of_length_eq_zero (by omega)
      have hc0 : cap2 = 0 := hcc.trans rfl
      clear hcc hc2
      subst hc0
      have HC7 : Hid (∀ W, Calls Try.prog 16 #[.slice a2 0 0] W (Says true W)) := fun W => impl_TokensValid _ [] [] W (slice_empty sTok W a2 0 (Nat.zero_le _))
      clear r6
      go_wp2_with fail
      refine (HC7.out _).mono ?_
      rintro e w7 ⟨rfl, b7⟩
      replace hB := hB.trans (b7.mono hB.size)
      go_wp2_with (go_at_call 14; refine (alive _).mono ?_; rintro e w' ⟨rfl, rfl⟩)
      go_ret
      exact ⟨rfl, hB⟩
    · rw [← hml] at r6
      obtain ⟨fpd, HD, -⟩ := slice_drop (L.length / 2) (by omega) r6
      rw [if_neg hcc, hml] at HD
      have HC7 := Lib.hid (impl_TokensValid _ _ _ _ HD)
      rw [HP.out] at HC7
      clear HD r6
      go_wp2_with fail
      refine HC7.out.mono ?_
      rintro e w7 ⟨rfl, b7⟩
      replace hB := hB.trans (b7.mono hB.size)
      go_wp2_with (go_at_call 14; refine (alive _).mono ?_; rintro e w' ⟨rfl, rfl⟩)
      go_ret
      exact ⟨rfl, hB⟩

theorem own : ownKnob Try.prog.godebug = none := by kernel_rfl
theorem laidOut : laidOutB Try.prog = true := by kernel_rfl
theorem readable : ∀ t ∈ Try.f4.params.toList, Try.prog.readableRec t = true ∧ t < Try.prog.types.size := by
  rw [Try.params4]
  simp only [List.mem_cons, List.not_mem_nil, or_false]
  rintro t rfl
  exact ⟨by kernel_rfl, of_decide_eq_true (by kernel_rfl)⟩

set_option maxRecDepth 100000 in
theorem lifted (os : Os) (started : os.Started) (H : Type) (enc : TypeId × Value → H) :
    ReturnsInHanded {} Try.checked os 4 .any (Rows.fnTokensValidSpec.pre6 enc Try.prog Try.f4 Rows.fnTokensValidRow.domain false) (Rows.fnTokensValidSpec.post enc Try.prog Try.f4 false true false false) := by
  refine returnsInHanded_of_change (C := Try.checked) own started (by kernel_rfl) Try.func4
    (ChangeSpec.witness6 (enc := enc) (C := Try.checked) false ⟨#[], #[.slice none 0 0], []⟩ 8 (by kernel_rfl) (by kernel_rfl) (by kernel_rfl) (by kernel_rfl)) ?_
  intro W base args ds gs before hval0 hW hcnd _
  have hval : ∀ (j : Nat) t v, Try.f4.params[j]? = some t → args[j]? = some v → Value.okWide Try.prog W .any base t v := hval0
  have hW' := hW
  obtain ⟨p, q, hA0, hV, rfl, hfz, hnd⟩ := hW
  have hA : DataW.TrodAll enc Try.prog W 0 (fun _ => true) true Try.f4.params.toList args.toList ds p := hA0
  rw [Try.params4] at hA hval
  obtain ⟨v0, vs0, d0, ds0, p0, q0, hargs0, rfl, rfl, h0, r0⟩ := trodAll_cons hA
  obtain ⟨rfl, rfl, rfl⟩ := trodAll_nil r0
  obtain rfl : args = #[v0] := by cases args; simp_all
  obtain ⟨rfl, rfl⟩ := trodVars_none hV
  obtain ⟨a0, len0, cap0, rfl⟩ := okWide_slice Try.underlying22 (hval 0 22 v0 rfl rfl)
  obtain ⟨x0, fp0, H0⟩ := open_arg (opens_slice Try.underlying22 (by kernel_rfl) (by decide) (opens_byte Try.underlying5)) h0
  refine (walk _ x0 fp0 W H0).mono fun e W' ⟨he, hw⟩ => ?_
  subst he
  exact ⟨_, rfl, law_done laidOut readable rfl rfl Try.underlying4 hW' rfl rfl rfl hw⟩

theorem holds : Rows.FnTokensValidSaid :=
  OpenClaim.holds_of_wide 4 Try.f4 rfl rfl rfl rfl rfl rfl rfl ⟨rfl, rfl, rfl, rfl, rfl⟩ rfl rfl rfl rfl rfl (by kernel_rfl) Try.func4 (by kernel_rfl)
    (of_decide_eq_true (by kernel_rfl)) (by unfold Func.isWrapper; first | (rw [if_pos (by decide +kernel)]; kernel_rfl) | (rw [if_neg (by decide +kernel)]; exact ⟨rfl, rfl⟩))
    (fun os started H enc _ => lifted os started H enc)

end Go.Proofs.Ytkamfppefmpacaa.lawTokensValid
