/- Numbers have digits: it is in 0..MaxValue; with a zero before it it is the same, if it is not too long: for every input. No conditions. -/
import Derived.Test.YtiaiggjfepoahaaZU13
set_option linter.unusedVariables false
set_option linter.unusedSimpArgs false
namespace Go.Proofs.Ytiaiggjfepoahaa.lawNumberOf
open Go.ChangeShapes Go.WideShapes Go.ChangeAt Go.RowKit Go.ChangeMaps

theorem num_parts {s : List UInt8} (h : 0 ≤ numRes s) : s ≠ [] ∧ s.length ≤ 7 ∧ s.all isDig = true ∧ numRes s = digs s ∧ digs s ≤ 1000000 := by
  unfold numRes at h ⊢
  split at h
  · simp at h
  · rename_i h1
    split at h
    · simp at h
    · rename_i h2
      rw [if_neg h1, if_neg h2]
      refine ⟨fun e => h1 (.inl e), Nat.not_lt.1 fun e => h1 (.inr (.inl e)), ?_, rfl, by omega⟩
      cases ha : s.all isDig
      · exact absurd (.inr (.inr ha)) h1
      · rfl
theorem num_zero {s : List UInt8} (h : 0 ≤ numRes s) (h7 : s.length ≠ 7) : numRes (48 :: s) = numRes s := by
  obtain ⟨h1, h2, h3, h4, h5⟩ := num_parts h
  have e : digs (48 :: s) = digs s := rfl
  rw [h4, ← e]
  unfold numRes
  rw [if_neg, if_neg (by rw [e]; omega)]
  rintro (h6 | h6 | h6)
  · simp at h6
  · rw [List.length_cons] at h6; omega
  · rw [List.all_cons, h3] at h6
    have : isDig 48 = true := by decide
    rw [this] at h6
    simp at h6

set_option maxHeartbeats 8000000 in
set_option maxRecDepth 100000 in
theorem walk (v0 : Value) (x0 : List UInt8) (fp0 : List Nat) (w : World) (H0 : (sSlice sByte).R w [v0] x0 fp0) :
    Calls Try.prog 4 #[v0] w fun e w' => e = .returned (.bool true) ∧ Below w.heap.size w w' := by
  have HH := Lib.hid H0
  obtain ⟨a, cap, hv, hc, hm, h⟩ := H0
  obtain rfl : v0 = .slice a x0.length cap := by simpa using hv
  unfold maxLen at hm
  clear h hv
  go_enter Try.func4, Try.ntmps4
  by_cases hbig : 1048576 < x0.length
  · go_wp2
    go_ret
    exact ⟨rfl, Below.refl _ _⟩
  go_wp2_with fail
  refine (DrawNumberOf _ x0 fp0 _ HH.out).mono ?_
  rintro e w1 ⟨s, rfl, hs, hB⟩
  have HI := Lib.hid (fun (Q : World) => impl_NumberOf s Q (small_ok (by omega)))
  have HS := Lib.hid (fun (Q : World) => spec_NumberOf s Q (small_ok (by omega)))
  have hz : (⟨#[48]⟩ : ByteArray).size = 1 := rfl
  have HZ := Lib.hid (fun (Q : World) => impl_NumberOf (⟨#[48]⟩ ++ s) Q (small_ok (by rw [ByteArray.size_append]; omega)))
  have hadd := fun W => run_string_add_sum (P := Try.prog) W ⟨#[48]⟩ s (by omega)
  have hlen : s.toList.length = s.size := by rw [ByteArray.toList_eq]; simp
  have hcons : (⟨#[48]⟩ ++ s : ByteArray).toList = 48 :: s.toList := by rw [ByteArray.toList_eq, ByteArray.toList_eq]; simp
  rw [hcons] at HZ
  have HNB := Lib.hid (numRes_in s.toList)
  have HNZ : Hid (0 ≤ numRes s.toList → s.size ≠ 7 → numRes (48 :: s.toList) = numRes s.toList) := fun h1 h2 => num_zero h1 (by rw [hlen]; exact h2)
  obtain ⟨n, HN⟩ : ∃ n : Int, Hid (n = numRes s.toList) := ⟨_, Lib.hid rfl⟩
  obtain ⟨m, HM⟩ : ∃ m : Int, Hid (m = numRes (48 :: s.toList)) := ⟨_, Lib.hid rfl⟩
  rw [show numRes s.toList = n from HN.out.symm] at HI HS HNB HNZ
  rw [show numRes (48 :: s.toList) = m from HM.out.symm] at HZ HNZ
  clear HN HM hcons hlen
  have hnb := HNB.out
  have hnn : (n != n) = false := by simp
  go_wp2_with fail
  refine (HI.out _).mono ?_
  rintro e w2 ⟨rfl, hb2⟩
  go_wp2_with fail
  refine (HS.out _).mono ?_
  rintro e w3 ⟨rfl, hb3⟩
  have hB3 := (hB.trans (hb2.mono hB.size)).trans (hb3.mono (hB.trans (hb2.mono hB.size)).size)
  by_cases hn : n < 0
  · have hn1 : n = -1 := by omega
    subst hn1
    clear HNZ HZ HI HS
    go_wp2_with (go_at_call 9; refine (alive _).mono ?_; rintro e w' ⟨rfl, rfl⟩)
    go_ret
    exact ⟨rfl, hB3⟩
  have g1 : n ≤ 1000000 := hnb.2
  by_cases h7 : s.size = 7
  · have g2 : ((s.size : Int) == 7) = true := by simp [h7]
    clear h7 HNZ HZ HI HS
    go_wp2
    go_ret
    exact ⟨rfl, hB3⟩
  have g2 : ((s.size : Int) == 7) = false := by simp; omega
  have hmn : m = n := HNZ.out (by omega) h7
  subst hmn
  have g3 : (m == m) = true := by simp
  clear h7 HNZ HI HS
  go_wp2_with fail
  refine (HZ.out _).mono ?_
  rintro e w4 ⟨rfl, hb4⟩
  go_wp2
  go_ret
  exact ⟨rfl, hB3.trans (hb4.mono hB3.size)⟩

theorem own : ownKnob Try.prog.godebug = none := by kernel_rfl
theorem laidOut : laidOutB Try.prog = true := by kernel_rfl
theorem readable : ∀ t ∈ Try.f4.params.toList, Try.prog.readableRec t = true ∧ t < Try.prog.types.size := by
  rw [Try.params4]
  simp only [List.mem_cons, List.not_mem_nil, or_false]
  rintro t rfl
  exact ⟨by kernel_rfl, of_decide_eq_true (by kernel_rfl)⟩

set_option maxRecDepth 100000 in
theorem lifted (os : Os) (started : os.Started) (H : Type) (enc : TypeId × Value → H) :
    ReturnsInHanded {} Try.checked os 4 .any (Rows.fnNumberOfSpec.pre6 enc Try.prog Try.f4 Rows.fnNumberOfRow.domain false) (Rows.fnNumberOfSpec.post enc Try.prog Try.f4 false true false false) := by
  refine returnsInHanded_of_change (C := Try.checked) own started (by kernel_rfl) Try.func4
    (ChangeSpec.witness6 (enc := enc) (C := Try.checked) false ⟨#[], #[.slice none 0 0], []⟩ 8 (by kernel_rfl) (by kernel_rfl) (by kernel_rfl) (by kernel_rfl)) ?_
  intro W base args ds gs before hval0 hW hcnd _
  have hval : ∀ (j : Nat) t v, Try.f4.params[j]? = some t → args[j]? = some v → Value.okWide Try.prog W .any base t v := hval0
  have hW' := hW
  obtain ⟨p, q, hA0, hV, rfl, hfz, hnd⟩ := hW
  have hA : DataW.TrodAll enc Try.prog W 0 (fun _ => true) true Try.f4.params.toList args.toList ds p := hA0
  rw [Try.params4] at hA hval
  obtain ⟨v0, vs0, d0, ds0, p0, q0, hargs0, rfl, rfl, h0, r0⟩ := trodAll_cons hA
  obtain ⟨rfl, rfl, rfl⟩ := trodAll_nil r0
  obtain rfl : args = #[v0] := by cases args; simp_all
  obtain ⟨rfl, rfl⟩ := trodVars_none hV
  obtain ⟨a0, len0, cap0, rfl⟩ := okWide_slice Try.underlying22 (hval 0 22 v0 rfl rfl)
  obtain ⟨x0, fp0, H0⟩ := open_arg (opens_slice Try.underlying22 (by kernel_rfl) (by decide) (opens_byte Try.underlying5)) h0
  refine (walk _ x0 fp0 W H0).mono fun e W' ⟨he, hw⟩ => ?_
  subst he
  exact ⟨_, rfl, law_done laidOut readable rfl rfl Try.underlying4 hW' rfl rfl rfl hw⟩

theorem holds : Rows.FnNumberOfSaid :=
  OpenClaim.holds_of_wide 4 Try.f4 rfl rfl rfl rfl rfl rfl rfl ⟨rfl, rfl, rfl, rfl, rfl⟩ rfl rfl rfl rfl rfl (by kernel_rfl) Try.func4 (by kernel_rfl)
    (of_decide_eq_true (by kernel_rfl)) (by unfold Func.isWrapper; first | (rw [if_pos (by decide +kernel)]; kernel_rfl) | (rw [if_neg (by decide +kernel)]; exact ⟨rfl, rfl⟩))
    (fun os started H enc _ => lifted os started H enc)


end Go.Proofs.Ytiaiggjfepoahaa.lawNumberOf
