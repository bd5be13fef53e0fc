/- Joined lines have all bytes: together they have as many bytes as the lines, less one for every line that is joined with the one before, and each begins with a later line: for every input. No conditions. -/
import Derived.Test.YtegpienbgmfghaaDrawJoin
import Derived.Test.YtegpienbgmfghaaJoin2
import Derived.Test.YtegpienbgmfghaaJoin3
import Derived.Test.YtegpienbgmfghaaSame
import Derived.Test.YtegpienbgmfghaaAlive
namespace Go.Proofs.Ytegpienbgmfghaa.lawJoinLines
open Go.ChangeShapes Go.WideShapes Go.ChangeAt Go.RowKit Go.ChangeMaps

set_option maxHeartbeats 16000000 in
set_option maxRecDepth 100000 in
theorem walk (v0 : Value) (x0 : List UInt8) (fp0 : List Nat) (w : World) (H0 : (sSlice sByte).R w [v0] x0 fp0) :
    Calls Try.prog 5 #[v0] w fun e w' => e = .returned (.bool true) ∧ Below w.heap.size w w' := by
  have HH := Lib.hid H0
  obtain ⟨a, cap, hv, hc, hm, h⟩ := H0
  obtain rfl : v0 = .slice a x0.length cap := by simpa using hv
  unfold maxLen at hm
  clear h hv
  go_enter Try.func5, Try.ntmps5
  by_cases hbig : 1048576 < x0.length
  · go_wp2
    go_ret
    exact ⟨rfl, Below.refl _ _⟩
  go_wp2_with fail
  refine (DrawJoinLines _ x0 fp0 _ HH.out).mono ?_
  rintro e w1 ⟨v, L, rfl, hown, hL, hbr, hB1⟩
  obtain ⟨fp, HR, _, _⟩ := own_flat (ok := okStr) hown (fun i hi => small_ok (by have := hbr _ (List.getElem_mem hi); omega))
  have HL := Lib.hid HR
  clear hown HR
  go_wp2_with fail
  refine (impl_JoinLines _ L fp _ HL.out).mono ?_
  rintro e w2 ⟨g1, g2, fg1, fg2, rfl, HG1, HG2, _, hB2⟩
  have HL2 := Lib.hid ((sSlice sStr).below HL.out hB2)
  have hB3 := hB1.trans (hB2.mono hB1.size)
  go_wp2_with fail
  refine (spec_JoinLines _ L fp _ HL2.out).mono ?_
  rintro e w3 ⟨s1, s2, fs1, fs2, rfl, HS1, HS2, _, hB4⟩
  have HL3 := Lib.hid ((sSlice sStr).below HL2.out hB4)
  have HG13 := Lib.hid ((sSlice sStr).below HG1 hB4)
  have HG23 := Lib.hid ((sSlice sInt).below HG2 hB4)
  have hB5 := hB3.trans (hB4.mono hB3.size)
  clear HL HL2 HG1 HG2 hB4 hB3 hB2 hB1
  go_wp2_with fail
  refine (sameTexts _ _ _ _ _ _ _ HG13.out HS1).mono ?_
  rw [decide_eq_true rfl]
  rintro e w' ⟨rfl, n4, rfl⟩
  go_wp2_with fail
  refine (sameInts _ _ _ _ _ _ (w3.drewN n4) ((sSlice sInt).below HG23.out (belowN (Below.refl _ _) n4)) ((sSlice sInt).below HS2 (belowN (Below.refl _ _) n4))).mono ?_
  rw [decide_eq_true rfl]
  rintro e w' ⟨rfl, n5, rfl⟩
  cases hok : joinOk L
  · have e0 := joinRes_no hok
    rw [e0] at HG13 HG23
    obtain ⟨a1, c1, rfl, _, _, _, _⟩ := open_flat HG13.out
    obtain ⟨a2, c2, rfl, _, _, _, _⟩ := open_flat HG23.out
    go_wp2_with fail
    refine (alive _).mono ?_
    rintro e w' ⟨rfl, rfl⟩
    go_wp2
    go_ret
    exact ⟨rfl, belowN hB5 _⟩
  · obtain ⟨hf1, hf2, hf3⟩ := joinRes_facts L hok
    generalize hX : (joinRes L).map (·.1) = X at HG13 hf1
    generalize hN : (joinRes L).map (·.2) = N at HG23 hf3
    have hXl : X.length = (joinRes L).length := by rw [← hX, List.length_map]
    have hNl : N.length = X.length := by rw [← hN, List.length_map, hXl]
    rw [← hXl] at hf1 hf2
    have HB6 := Lib.hid (belowN (belowN hB5 n4) n5)
    have HL4 := (sSlice sStr).below HL3.out (belowN (belowN (Below.refl _ _) n4) n5)
    have HX4 := (sSlice sStr).below HG13.out (belowN (belowN (Below.refl _ _) n4) n5)
    have HN4 := (sSlice sInt).below HG23.out (belowN (belowN (Below.refl _ _) n4) n5)
    clear HS1 HS2 hX hN hXl HL3 HG13 HG23 hB5
    generalize (w3.drewN n4).drewN n5 = W at HB6 HL4 HX4 HN4
    obtain ⟨aL, cL, rfl, _, hmL, hcL, _⟩ := open_strs HL4
    obtain ⟨aX, cX, rfl, _, hmX, hcX, _⟩ := open_strs HX4
    obtain ⟨aN, cN, rfl, _, hmN, hcN, _⟩ := open_flat HN4
    unfold maxLen at hmL hmX hmN
    clear HL4 HX4 HN4
    have hbL := bytes_le L 300 hbr
    have hbX : bytesOf X ≤ 60 * 300 + 60 := by have := Nat.mul_le_mul_right 300 hL; omega
    have hbL2 : bytesOf L ≤ 60 * 300 := by have := Nat.mul_le_mul_right 300 hL; omega
    clear hbL
    have HA := Lib.hid hf3
    have HN := Lib.hid hNl
    have HF := Lib.hid hf1
    clear hf1 hf3 hNl
    go_wp2_with fail
    go_loop [10, 12] (fun s i => ∃ k : Nat, k ≤ L.length ∧ s = .int .i64 (bytesOf (L.take k) : Nat) ∧ i = .int .i64 k) (fun _ i => L.length - (intOf i).toNat)
    case atStart => exact ⟨0, by omega, rfl, rfl⟩
    case round =>
      obtain ⟨k, hk, rfl, rfl⟩ := hrel
      by_cases hlt : k < L.length
      · obtain ⟨b, off, rfl, hb, _, hc2⟩ := hcL (by omega)
        have hck := hc2 k hlt
        have HT := Lib.hid (bytes_take L k hlt)
        have ht := bytes_take_le L (k + 1)
        have ht0 := bytes_take_le L k
        have hsz := hbr _ (List.getElem_mem hlt)
        clear hc2 hcL hcX hcN
        go_wp2
        go_round
        case rel => exact ⟨k + 1, by omega, by rw [HT.out]; go_num, by go_num⟩
        case measure => simp [intOf]; omega
      · obtain rfl : k = L.length := by omega
        rw [List.take_length]
        clear hcL
        go_wp2_with fail
        go_loopw [11, 13] (fun s i wr => ∃ k : Nat, k ≤ X.length ∧ s = .int .i64 (bytesOf (X.take k) : Nat) ∧ i = .int .i64 k ∧ ∃ n, wr = W.drewN n) (fun _ i _ => X.length - (intOf i).toNat)
        case atStart => exact ⟨0, by omega, rfl, rfl, 0, rfl⟩
        case round =>
          obtain ⟨k, hk, rfl, rfl, n, rfl⟩ := hrel
          by_cases hlt : k < X.length
          · obtain ⟨b, off, rfl, hb, _, hc2⟩ := hcX (by omega)
            have hck := hc2 k hlt
            have HT := Lib.hid (bytes_take X k hlt)
            have ht := bytes_take_le X (k + 1)
            have ht0 := bytes_take_le X k
            have hsz : X[k].size ≤ 20000 := by have := HT.out; omega
            have hlN : k < N.length := by rw [HN.out]; exact hlt
            obtain ⟨bn, offn, rfl, hbn, _, hn2⟩ := hcN (by omega)
            have hnk := hn2 k hlN
            by_cases hk0 : 0 < k
            · have hnj := hn2 (k - 1) (by omega)
              have hlt2 : decide (N[k] ≤ N[k - 1]) = false := decide_eq_false (by
                have := HA.out.at (k - 1) (by omega)
                have e : k - 1 + 1 = k := by omega
                simp only [e] at this
                omega)
              clear hc2 hcX hcN hn2
              go_wp2
              go_quiet (fail)
              go_wp2
              go_roundw
              case rel => exact ⟨k + 1, by omega, by rw [HT.out]; go_num, by go_num, _, rfl⟩
              case measure => simp [intOf]; omega
            · clear hc2 hcX hcN hn2
              go_wp2
              go_quiet (fail)
              go_wp2
              go_roundw
              case rel => exact ⟨k + 1, by omega, by rw [HT.out]; go_num, by go_num, _, rfl⟩
              case measure => simp [intOf]; omega
          · obtain rfl : k = X.length := by omega
            rw [List.take_length]
            clear hcX hcN
            have hsum : ((bytesOf X : Nat) : Int) + (L.length : Int) - (X.length : Int) = (bytesOf L : Nat) := by have := HF.out; omega
            have hNX := HN.out
            go_wp2
            go_ret
            exact ⟨rfl, belowN HB6.out n⟩

theorem own : ownKnob Try.prog.godebug = none := by kernel_rfl
theorem laidOut : laidOutB Try.prog = true := by kernel_rfl
theorem readable : ∀ t ∈ Try.f5.params.toList, Try.prog.readableRec t = true ∧ t < Try.prog.types.size := by
  rw [Try.params5]
  simp only [List.mem_cons, List.not_mem_nil, or_false]
  rintro t rfl
  exact ⟨by kernel_rfl, of_decide_eq_true (by kernel_rfl)⟩

set_option maxRecDepth 100000 in
theorem lifted (os : Os) (started : os.Started) (H : Type) (enc : TypeId × Value → H) :
    ReturnsInHanded {} Try.checked os 5 .any (Rows.fnJoinLinesSpec.pre6 enc Try.prog Try.f5 Rows.fnJoinLinesRow.domain false) (Rows.fnJoinLinesSpec.post enc Try.prog Try.f5 false true false false) := by
  refine returnsInHanded_of_change (C := Try.checked) own started (by kernel_rfl) Try.func5
    (ChangeSpec.witness6 (enc := enc) (C := Try.checked) false ⟨#[], #[.slice none 0 0], []⟩ 8 (by kernel_rfl) (by kernel_rfl) (by kernel_rfl) (by kernel_rfl)) ?_
  intro W base args ds gs before hval0 hW hcnd _
  have hval : ∀ (j : Nat) t v, Try.f5.params[j]? = some t → args[j]? = some v → Value.okWide Try.prog W .any base t v := hval0
  have hW' := hW
  obtain ⟨p, q, hA0, hV, rfl, hfz, hnd⟩ := hW
  have hA : DataW.TrodAll enc Try.prog W 0 (fun _ => true) true Try.f5.params.toList args.toList ds p := hA0
  rw [Try.params5] at hA hval
  obtain ⟨v0, vs0, d0, ds0, p0, q0, hargs0, rfl, rfl, h0, r0⟩ := trodAll_cons hA
  obtain ⟨rfl, rfl, rfl⟩ := trodAll_nil r0
  obtain rfl : args = #[v0] := by cases args; simp_all
  obtain ⟨rfl, rfl⟩ := trodVars_none hV
  obtain ⟨a0, len0, cap0, rfl⟩ := okWide_slice Try.underlying22 (hval 0 22 v0 rfl rfl)
  obtain ⟨x0, fp0, H0⟩ := open_arg (opens_slice Try.underlying22 (by kernel_rfl) (by decide) (opens_byte Try.underlying5)) h0
  refine (walk _ x0 fp0 W H0).mono fun e W' ⟨he, hw⟩ => ?_
  subst he
  exact ⟨_, rfl, law_done laidOut readable rfl rfl Try.underlying4 hW' rfl rfl rfl hw⟩

theorem holds : Rows.FnJoinLinesSaid :=
  OpenClaim.holds_of_wide 5 Try.f5 rfl rfl rfl rfl rfl rfl rfl ⟨rfl, rfl, rfl, rfl, rfl⟩ rfl rfl rfl rfl rfl (by kernel_rfl) Try.func5 (by kernel_rfl)
    (of_decide_eq_true (by kernel_rfl)) (by unfold Func.isWrapper; first | (rw [if_pos (by decide +kernel)]; kernel_rfl) | (rw [if_neg (by decide +kernel)]; exact ⟨rfl, rfl⟩))
    (fun os started H enc _ => lifted os started H enc)

end Go.Proofs.Ytegpienbgmfghaa.lawJoinLines
