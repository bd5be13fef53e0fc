/- SplitArguments: all arguments, the commas between them, and both parentheses are as many tokens as from the place up to the end. For every input. No conditions. -/
import Derived.Test.YtiaiggjfepoahabZU14
import Derived.Test.YtiaiggjfepoahabZU13
import Derived.Test.YtiaiggjfepoahabZU8
set_option linter.unusedVariables false
set_option linter.unusedSimpArgs false
namespace Go.Proofs.Ytiaiggjfepoahab.lawSplitArguments
open Go.ChangeShapes Go.WideShapes Go.ChangeAt Go.RowKit Go.ChangeMaps

/-! ### Pure -/
def lens (A : Args) : Nat := (A.map List.length).sum
theorem lens_app (A : Args) (M : List Tok) : lens (A ++ [M]) = lens A + M.length := by unfold lens; rw [List.map_append, List.sum_append]; simp
theorem dv_count : ∀ (l : List Tok) (d : Int) (A : Args) (M : List Tok), (dvGo l d A M).length + lens (dvGo l d A M) = A.length + lens A + M.length + 1 + l.length
  | [], d, A, M => by
    unfold dvGo
    rw [lens_app, List.length_append]
    simp
    omega
  | t :: r, d, A, M => by
    unfold dvGo
    split
    · rw [dv_count r d (A ++ [M]) [], lens_app, List.length_append]
      simp
      omega
    · rw [dv_count r (d + opn t) A (M ++ [t])]
      simp
      omega
theorem dv_pos : ∀ (l : List Tok) (d : Int) (A : Args) (M : List Tok), 1 ≤ (dvGo l d A M).length
  | [], d, A, M => by unfold dvGo; simp
  | t :: r, d, A, M => by
    unfold dvGo
    split
    · exact dv_pos _ _ _ _
    · exact dv_pos _ _ _ _
theorem cl_shut : ∀ (l : List Tok) (d : Int) (k e : Nat), 1 ≤ d → clGo l d k = some e → ∃ h : e - k < l.length, isShut l[e - k] = true
  | [], _, _, _, _, h => by simp [clGo] at h
  | t :: r, d, k, e, hd, h => by
    unfold clGo at h
    split at h
    · rename_i h0
      simp only [Option.some.injEq] at h
      subst h
      refine ⟨by simp, ?_⟩
      have h1 : opn t = -1 := by have := opn_ge t; omega
      have : isShut t = true := by
        unfold opn at h1
        split at h1
        · omega
        · split at h1
          · assumption
          · omega
      simpa using this
    · rename_i h0
      have ho := opn_ge t
      have hg := clGo_ge r _ _ _ h
      obtain ⟨q1, q2⟩ := cl_shut r (d + opn t) (k + 1) e (by omega) h
      have e1 : e - k = (e - (k + 1)) + 1 := by omega
      refine ⟨by rw [e1]; simp; omega, ?_⟩
      have : ∀ j, (hj : j < (t :: r).length) → j = (e - (k + 1)) + 1 → isShut (t :: r)[j] = true := by
        rintro j hj rfl
        simpa using q2
      exact this _ _ e1
/-- What the answer is. -/
theorem split_facts (l : List Tok) (i : Int) :
    ((splitA l i).2.2 = false ∧ (splitA l i).1 = [] ∧ (splitA l i).2.1 = 0) ∨
    ∃ n e : Nat, i = n ∧ (splitA l i).2.2 = true ∧ (splitA l i).2.1 = (e : Int) + 1 ∧ n < e ∧ ∃ he : e < l.length, l[e].text.toList = [41] ∧ 1 ≤ (splitA l i).1.length ∧ (splitA l i).1.length + 1 + lens (splitA l i).1 = e + 1 - n ∧ l.length ≤ 60 := by
  by_cases hin : 0 ≤ i ∧ i < l.length
  rotate_left
  · left; rw [splitA_out hin]; exact ⟨rfl, rfl, rfl⟩
  obtain ⟨n, rfl⟩ : ∃ n : Nat, i = (n : Int) := ⟨i.toNat, by omega⟩
  have hn : n < l.length := by omega
  cases hv : toksOk l
  · left; rw [splitA_bad hv]; exact ⟨rfl, rfl, rfl⟩
  cases ho : isOpen l[n]
  · left; rw [splitA_no hn ho]; exact ⟨rfl, rfl, rfl⟩
  cases hc : clGo (l.drop (n + 1)) 1 (n + 1) with
  | none => left; rw [splitA_none hv hn ho hc]; exact ⟨rfl, rfl, rfl⟩
  | some e =>
    right
    rw [splitA_some hv hn ho hc]
    have hg := clGo_ge _ _ _ _ hc
    obtain ⟨q1, q2⟩ := cl_shut _ _ _ _ (by omega) hc
    rw [List.length_drop] at hg q1
    have hel : e < l.length := by omega
    have h3 : isShut l[e] = true := by
      rw [List.getElem_drop] at q2
      have : ∀ j, (hj : j < l.length) → j = e → isShut l[j] = true → isShut l[e] = true := by rintro j hj rfl h; exact h
      exact this _ _ (by omega) q2
    have h4 := dv_count ((l.drop (n + 1)).take (e - (n + 1))) 0 [] []
    have h5 := dv_pos ((l.drop (n + 1)).take (e - (n + 1))) 0 [] []
    rw [List.length_take, List.length_drop] at h4
    have h6 : lens [] = 0 := rfl
    refine ⟨n, e, rfl, rfl, by show ((e + 1 : Nat) : Int) = _; omega, by omega, hel, by rw [txt_eq h3]; simp, h5, ?_, (toksOk_facts hv).1⟩
    show (dvGo _ _ _ _).length + 1 + lens (dvGo _ _ _ _) = _
    simp only [List.length_nil] at h4
    omega
theorem lens_take {A : Args} {k : Nat} (h : k < A.length) : lens (A.take (k + 1)) = lens (A.take k) + A[k].length := by
  rw [List.take_succ_eq_append_getElem h, lens_app]
theorem lens_le (A : Args) (k : Nat) : lens (A.take k) ≤ lens A := by
  have := congrArg lens (List.take_append_drop k A)
  unfold lens at *
  rw [List.map_append, List.sum_append] at this
  omega

set_option maxHeartbeats 8000000 in
set_option maxRecDepth 100000 in
theorem sameArgs_same (v1 v2 : Value) (l : List (List Tok)) (fp1 fp2 : List Nat) (w : World) (H1 : (sSlice sToks).R w [v1] l fp1) (H2 : (sSlice sToks).R w [v2] l fp2) :
    Calls Try.prog 24 #[v1, v2] w fun e w' => e = .returned (.bool true) ∧ Below w.heap.size w w' := by
  obtain ⟨a1, cap1, rfl, hc1, hm1, hrow1⟩ := open_rows H1
  obtain ⟨a2, cap2, rfl, hc2, hm2, hrow2⟩ := open_rows H2
  unfold maxLen at hm1 hm2
  have hnb : ((l.length : Int) != (l.length : Int)) = false := by simp
  go_enter Try.func24, Try.ntmps24
  go_wp2
  go_loopw [5] (fun i wr => ∃ k : Nat, k ≤ l.length ∧ i = .int .i64 k ∧ Below w.heap.size w wr) (fun i _ => l.length - (intOf i).toNat)
  case atStart => exact ⟨0, by omega, rfl, Below.refl _ _⟩
  case round =>
    obtain ⟨k, hk, rfl, hb⟩ := hrel
    by_cases hlt : k < l.length
    · obtain ⟨b1, off1, fps1, rfl, hb1, rfl, he1⟩ := hrow1 (by omega)
      obtain ⟨b2, off2, fps2, rfl, hb2, rfl, he2⟩ := hrow2 (by omega)
      obtain ⟨es1, hE1, hR1⟩ := he1 k hlt
      obtain ⟨es2, hE2, hR2⟩ := he2 k hlt
      clear hrow1 hrow2 he1 he2 H1 H2
      replace hE1 := hE1.frame (hb.block b1 hb1)
      replace hE2 := hE2.frame (hb.block b2 hb2)
      obtain ⟨q1, d1, rfl⟩ := cells_slice hR1
      obtain ⟨q2, d2, rfl⟩ := cells_slice hR2
      have HC : Hid (∀ W, Below wr.heap.size wr W → Calls Try.prog 53 #[.slice q1 l[k].length d1, .slice q2 l[k].length d2] W fun e w' => e = .returned (.bool true) ∧ Below W.heap.size W w') := fun W hW => sameTokens_same _ _ l[k] _ _ W (sToks.below (sToks.below hR1 hb) hW) (sToks.below (sToks.below hR2 hb) hW)
      have c1 := elem_one hE1
      have c2 := elem_one hE2
      clear hE1 hE2 hR1 hR2
      go_wp2_with fail
      go_still_tail 8, (by kernel_rfl)
      change wpList _ _ _ _ _ wr.drew
      have hd : Below wr.heap.size wr wr.drew := belowN (Below.refl _ _) 1
      generalize wr.drew = w2 at *
      go_wp2_with (go_at_call 53; refine (HC.out _ hd).mono ?_; rintro e w3 ⟨rfl, hb3⟩)
      go_roundw
      case rel => exact ⟨k + 1, by omega, by go_num, (hb.trans (hd.mono hb.size)).trans (hb3.mono (Nat.le_trans hb.size hd.size))⟩
      case measure => simp [intOf]; omega
    · go_wp2
      go_ret
      exact ⟨rfl, hb⟩

set_option maxHeartbeats 8000000 in
set_option maxRecDepth 100000 in
theorem walk (v0 : Value) (x0 : List UInt8) (fp0 : List Nat) (w : World) (H0 : (sSlice sByte).R w [v0] x0 fp0) :
    Calls Try.prog 7 #[v0] w fun e w' => e = .returned (.bool true) ∧ Below w.heap.size w w' := by
  have HH := Lib.hid H0
  obtain ⟨a, cap, hv, hc, hm, h⟩ := H0
  obtain rfl : v0 = .slice a x0.length cap := by simpa using hv
  unfold maxLen at hm
  clear h hv
  go_enter Try.func7, Try.ntmps7
  by_cases hbig : 1048576 < x0.length
  · go_wp2
    go_ret
    exact ⟨rfl, Below.refl _ _⟩
  go_wp2_with fail
  refine (DrawSplitArguments _ x0 fp0 _ HH.out).mono ?_
  rintro e w1 ⟨v1, L, i, rfl, hE, hok, hl61, hB⟩
  obtain ⟨fp1, hR⟩ := hE.slice
  have hl : (L.map (·.d)).length ≤ 61 := by rw [List.length_map]; exact hl61
  have HX0 : ∀ t ∈ L.map (fun x : Elem Tok => x.d), t.hidden.length ≤ 3 := fun t ht => by
    obtain ⟨x, hx, rfl⟩ := List.mem_map.1 ht
    exact (hok x hx).2.2.2
  generalize L.map (fun x : Elem Tok => x.d) = l at hR hl HX0
  have HX : Hid (∀ k, (hk : k < l.length) → l[k].hidden.length ≤ 2000000) := fun k hk => by have := HX0 _ (List.getElem_mem hk); omega
  clear hE hok hl61 HX0
  have HS0 := Lib.hid (spec_SplitArguments v1 l fp1 i)
  have HI0 := Lib.hid (impl_SplitArguments v1 l fp1 i)
  have HFC := Lib.hid (split_facts l i)
  have HIM : Hid (∀ W, Below w1.heap.size w1 W → Calls Try.prog 18 #[v1, .int .i64 i] W (MineArgs (splitA l i) W)) := fun W hW => HI0.out W HX.out ((sSlice sTok).below hR hW)
  have HSP : Hid (∀ W, Below w1.heap.size w1 W → Calls Try.prog 17 #[v1, .int .i64 i] W (RetArgs (splitA l i) W)) := fun W hW => HS0.out W (by omega) HX.out ((sSlice sTok).below hR hW)
  clear HS0 HI0 HX
  generalize splitA l i = M at HIM HSP HFC
  obtain ⟨ma, me, mb⟩ := M
  have HR := Lib.hid hR
  obtain ⟨a1, c1, rfl, hc1, hm1, hrow1⟩ := open_rows hR
  unfold maxLen at hm1
  clear hR
  go_wp2_with fail
  refine (HIM.out _ (Below.refl _ _)).mono ?_
  rintro e w2 ⟨v2, f2, rfl, hR2, -, hb2⟩
  have HR2 := Lib.hid hR2
  have hB2 := hB.trans (hb2.mono hB.size)
  clear hR2
  go_wp2_with fail
  refine (HSP.out _ hb2).mono ?_
  rintro e w3 ⟨v3, f3, rfl, hR3, -, hb3⟩
  have HR2' := Lib.hid ((sSlice sToks).below HR2.out hb3)
  have hB3 := hB2.trans (hb3.mono hB2.size)
  have HSA := Lib.hid (sameArgs_same v2 v3 ma f2 f3 w3 HR2'.out hR3)
  have hb13 := hb2.trans (hb3.mono hb2.size)
  obtain ⟨a2, c2, rfl, hc2, hm2, hrow2⟩ := open_rows HR2'.out
  unfold maxLen at hm2
  obtain ⟨a3, c3, rfl, hc3, hm3, -⟩ := open_rows hR3
  have hme : (me != me) = false := by simp
  have hmb : (mb != mb) = false := by simp
  clear hR3 HR2 HIM HSP
  go_wp2_with fail
  refine HSA.out.mono ?_
  rintro e w4 ⟨rfl, hb4⟩
  have hB4 := hB3.trans (hb4.mono hB3.size)
  have hb14 := hb13.trans (hb4.mono hb13.size)
  rcases HFC.out with ⟨g1, g2, g3⟩ | ⟨n, e, g1, g2, g3, g4, he, g5, g6, g7, g8⟩
  · -- refused
    subst g1 g2 g3
    clear hrow2 hrow1
    go_wp2_with (go_at_call 25; refine (alive _).mono ?_; rintro e w' ⟨rfl, rfl⟩)
    go_ret
    exact ⟨rfl, hB4⟩
  · skip
    subst g1 g2 g3
    obtain ⟨b1, off1, fps1, rfl, hb1, -, he1⟩ := hrow1 (by omega)
    obtain ⟨es, hEe, hRe⟩ := he1 e he
    obtain ⟨hh, rfl, -, -, -⟩ := hRe
    have HG7 := Lib.hid g7
    have hwl : IntKind.i64.wrap ((ma.length : Int) + 1) = (ma.length : Int) + 1 := IntWalk.i64_in _ (by omega)
    clear HFC he1 hrow1 hme hmb
    go_wp2
    go_loopw [11, 12] (fun s i wr => ∃ (k : Nat), k ≤ ma.length ∧ i = .int .i64 k ∧ s = .int .i64 ((ma.length + 1 + lens (ma.take k) : Nat) : Int) ∧ Below w4.heap.size w4 wr) (fun _ i _ => ma.length - (intOf i).toNat)
    case atStart => exact ⟨0, by omega, rfl, (by first | rfl | simp [lens]), Below.refl _ _⟩
    case round =>
      obtain ⟨k, hk, rfl, rfl, hb⟩ := hrel
      by_cases hlt : k < ma.length
      · obtain ⟨b2, off2, fps2, rfl, hb2', -, he2⟩ := hrow2 (by omega)
        obtain ⟨es2, hE2, hRE2⟩ := he2 k hlt
        obtain ⟨q2, d2, rfl⟩ := cells_slice hRE2
        replace hE2 := (hE2.frame (hb4.block b2 hb2')).frame (hb.block b2 (Nat.lt_of_lt_of_le hb2' hb4.size))
        have cc := elem_one hE2
        have hle := lens_le ma (k + 1)
        rw [lens_take hlt] at hle
        have HL := Lib.hid (lens_take hlt)
        have hwr : IntKind.i64.wrap (((ma.length + 1 + lens (ma.take k) : Nat) : Int) + (ma[k].length : Int)) = ((ma.length + 1 + lens (ma.take k) : Nat) : Int) + (ma[k].length : Int) := IntWalk.i64_in _ (by omega)
        generalize hS : ma.length + 1 + lens (ma.take k) = S at *
        clear hE2 hRE2 he2 hrow2
        go_wp2
        go_roundw
        case rel => exact ⟨k + 1, by omega, by go_num, (by have := HL.out; congr 1; omega), hb⟩
        case measure => simp [intOf]; omega
      · have hkk : ma.take k = ma := List.take_of_length_le (by omega)
        rw [hkk]
        have hG7 := HG7.out
        generalize hS : ma.length + 1 + lens ma = S at *
        have hbe : Below w1.heap.size w1 wr := hb14.trans (hb.mono hb14.size)
        have hBr := hB4.trans (hb.mono hB4.size)
        have ce : wr.cell? ⟨b1, off1 + e * 4 + 1, none⟩ = some _ := elem_cell (j := 1) (hEe.frame (hbe.block b1 hb1)) (by decide) rfl
        have e1 : decide ((1 : Int) ≤ (ma.length : Int)) = true := decide_eq_true (by omega)
        have e1' : decide (1 ≤ ma.length) = true := decide_eq_true (by omega)
        have e2 : decide ((e : Int) + 1 ≤ (l.length : Int)) = true := decide_eq_true (by omega)
        have hw1 : IntKind.i64.wrap ((e : Int) + 1 - (n : Int)) = (e : Int) + 1 - (n : Int) := IntWalk.i64_in _ (by omega)
        have hw2 : IntKind.i64.wrap ((e : Int) + 1 - 1) = (e : Int) := by rw [IntWalk.i64_in _ (by omega)]; omega
        have e3 : ((S : Int) == (e : Int) + 1 - (n : Int)) = true := by simp; omega
        have g5' : (l[e].text.toList == [41]) = true := by rw [g5]; rfl
        have hi1 : (0 : Int) ≤ (e : Int) := by omega
        have hi2 : (e : Int) < (l.length : Int) := by omega
        clear hS hG7 hEe hrow2 hkk hb14 g7
        go_wp2
        go_ret
        exact ⟨rfl, hBr⟩

theorem own : ownKnob Try.prog.godebug = none := by kernel_rfl
theorem laidOut : laidOutB Try.prog = true := by kernel_rfl
theorem readable : ∀ t ∈ Try.f7.params.toList, Try.prog.readableRec t = true ∧ t < Try.prog.types.size := by
  rw [Try.params7]
  simp only [List.mem_cons, List.not_mem_nil, or_false]
  rintro t rfl
  exact ⟨by kernel_rfl, of_decide_eq_true (by kernel_rfl)⟩

set_option maxRecDepth 100000 in
theorem lifted (os : Os) (started : os.Started) (H : Type) (enc : TypeId × Value → H) :
    ReturnsInHanded {} Try.checked os 7 .any (Rows.fnSplitArgumentsSpec.pre6 enc Try.prog Try.f7 Rows.fnSplitArgumentsRow.domain false) (Rows.fnSplitArgumentsSpec.post enc Try.prog Try.f7 false true false false) := by
  refine returnsInHanded_of_change (C := Try.checked) own started (by kernel_rfl) Try.func7
    (ChangeSpec.witness6 (enc := enc) (C := Try.checked) false ⟨#[], #[.slice none 0 0], []⟩ 8 (by kernel_rfl) (by kernel_rfl) (by kernel_rfl) (by kernel_rfl)) ?_
  intro W base args ds gs before hval0 hW hcnd _
  have hval : ∀ (j : Nat) t v, Try.f7.params[j]? = some t → args[j]? = some v → Value.okWide Try.prog W .any base t v := hval0
  have hW' := hW
  obtain ⟨p, q, hA0, hV, rfl, hfz, hnd⟩ := hW
  have hA : DataW.TrodAll enc Try.prog W 0 (fun _ => true) true Try.f7.params.toList args.toList ds p := hA0
  rw [Try.params7] at hA hval
  obtain ⟨v0, vs0, d0, ds0, p0, q0, hargs0, rfl, rfl, h0, r0⟩ := trodAll_cons hA
  obtain ⟨rfl, rfl, rfl⟩ := trodAll_nil r0
  obtain rfl : args = #[v0] := by cases args; simp_all
  obtain ⟨rfl, rfl⟩ := trodVars_none hV
  obtain ⟨a0, len0, cap0, rfl⟩ := okWide_slice Try.underlying41 (hval 0 41 v0 rfl rfl)
  obtain ⟨x0, fp0, H0⟩ := open_arg (opens_slice Try.underlying41 (by kernel_rfl) (by decide) (opens_byte Try.underlying5)) h0
  refine (walk _ x0 fp0 W H0).mono fun e W' ⟨he, hw⟩ => ?_
  subst he
  exact ⟨_, rfl, law_done laidOut readable rfl rfl Try.underlying4 hW' rfl rfl rfl hw⟩

theorem holds : Rows.FnSplitArgumentsSaid :=
  OpenClaim.holds_of_wide 7 Try.f7 rfl rfl rfl rfl rfl rfl rfl ⟨rfl, rfl, rfl, rfl, rfl⟩ rfl rfl rfl rfl rfl (by kernel_rfl) Try.func7 (by kernel_rfl)
    (of_decide_eq_true (by kernel_rfl)) (by unfold Func.isWrapper; first | (rw [if_pos (by decide +kernel)]; kernel_rfl) | (rw [if_neg (by decide +kernel)]; exact ⟨rfl, rfl⟩))
    (fun os started H enc _ => lifted os started H enc)


end Go.Proofs.Ytiaiggjfepoahab.lawSplitArguments
