/- A valid token is the one token of its text; with a space behind its text none is: for every input. No conditions. -/
import Derived.Test.YtncniilhhgjhnaaDrawTok
import Derived.Test.YtncniilhhgjhnaaTok7
import Derived.Test.YtncniilhhgjhnaaTokA
import Derived.Test.YtncniilhhgjhnaaAlive
import Derived.StillTailTactics
namespace Go.Proofs.Ytncniilhhgjhnaa.lawTokenValid
open Go.ChangeShapes Go.WideShapes Go.ChangeAt Go.RowKit Go.ChangeMaps

theorem wEnd_all (s : ByteArray) (k : Nat) : ∀ j, (h : j < s.size) → k ≤ j → j < wEnd s k → isWord s[j] = true := by
  induction k using wEnd.induct (s := s) with
  | case1 k h hc ih =>
    intro j hj hkj hje
    rw [wEnd_in h hc] at hje
    by_cases e : j = k
    · subst e; exact hc
    · exact ih j hj (by omega) hje
  | case2 k h hc => intro j hj hkj hje; rw [wEnd_stop h (by simpa using hc)] at hje; omega
  | case3 k h => intro j hj hkj hje; rw [wEnd_out (by omega)] at hje; omega
theorem marks1_32 : ∀ c ∈ marks1, c.toNat ≠ 32 := by decide
theorem two_snd {s : ByteArray} {k : Nat} {a b : UInt8} (h : two s k a b = true) : s[k + 1]'(two_room h) = b := by
  have hr := two_room h
  unfold two at h
  rw [List.isPrefixOf_iff_prefix] at h
  obtain ⟨t, ht⟩ := h
  have h1 : (s.data.toList.drop k)[1]? = some b := by rw [← ht]; rfl
  rw [List.getElem?_drop] at h1
  have h2 : s.data.toList[k + 1]? = some s[k + 1] := by
    rw [List.getElem?_eq_getElem (by simpa using hr)]; simp [ByteArray.getElem_eq_getElem_data]
  rw [h2] at h1
  simpa using h1
theorem two_last {s : ByteArray} {k : Nat} (h : twoAt s k = true) : ∃ hk : k + 1 < s.size, s[k + 1].toNat ≠ 32 := by
  have hk := twoAt_room h
  refine ⟨hk, ?_⟩
  unfold twoAt at h
  simp only [Bool.or_eq_true] at h
  rcases h with (((((h | h) | h) | h) | h) | h) | h <;> (rw [two_snd h]; decide)
theorem cut_last {s : ByteArray} {k : Nat} (hk : k < s.size) (h : cutEnd s k = s.size) : (s[s.size - 1]'(by omega)).toNat ≠ 32 := by
  cases hw : isWord s[k]
  · by_cases hq : s[k].toNat = 34
    · rw [cutEnd_text hk hw hq] at h
      cases hc : tClose s (k + 1) with
      | none => rw [hc] at h; simp only at h; omega
      | some e =>
        rw [hc] at h
        simp only at h
        obtain ⟨_, _, _, h1, h2⟩ := tClose_some hc
        have e1 : e = s.size := by omega
        subst e1
        omega
    · rw [cutEnd_mark hk hw hq] at h
      split at h
      · omega
      · rename_i h0
        cases ht : twoAt s k
        · by_cases hm : s[k] ∈ marks1
          · rw [mLen_one ht hk hm] at h
            have e : k = s.size - 1 := by omega
            subst e
            exact marks1_32 _ hm
          · exact absurd (mLen_none ht hk hm) h0
        · obtain ⟨h1, h2⟩ := two_last ht
          have e2 : mLen s k = 2 := by unfold mLen; rw [if_pos ht]
          rw [e2] at h
          have e : k + 1 = s.size - 1 := by omega
          intro hh
          apply h2
          have : s[k + 1] = s[s.size - 1]'(by omega) := by congr 1
          rw [this]; exact hh
  · rw [cutEnd_word hk hw] at h
    split at h
    · omega
    · have := wEnd_all s k (s.size - 1) (by omega) (by omega) (by omega)
      rw [isWord_iff] at this
      omega
theorem one_space (s : ByteArray) (k : Int) : oneTok (s ++ ⟨#[32]⟩) k = false := by
  show oneTok (plus s) k = false
  rcases one_ways (plus s) k with ⟨_, h⟩ | ⟨_, _, _, h⟩ | ⟨_, _, _, h⟩ | ⟨_, _, _, _, h⟩ | ⟨t, hr, hk, hx, hsp, h⟩
  · exact h.out
  · exact h.out
  · exact h.out
  · exact h.out
  exfalso
  obtain ⟨h1, _⟩ := tokRes_true hr
  have hsz := plus_size s
  have h0 : 0 < (plus s).size := by omega
  rw [toks, dif_pos h0] at h1
  split at h1
  · have := toks_fit (plus s) 1 true 0 _ h1 (by omega) t (by simp)
    rw [hx] at this
    omega
  · split at h1
    · simp at h1
    · rename_i hb
      rw [Option.map_eq_some_iff] at h1
      obtain ⟨l', h2, h3⟩ := h1
      simp only [List.cons.injEq] at h3
      have hr := cutEnd_room (s := plus s) (k := 0) (by omega)
      have ht : t.text = (plus s).extract 0 (cutEnd (plus s) 0).toNat := by rw [← h3.1]
      rw [hx] at ht
      have hz := congrArg ByteArray.size ht
      rw [ByteArray.size_extract] at hz
      have hc : cutEnd (plus s) 0 = (plus s).size := by omega
      have hl := cut_last h0 hc
      apply hl
      have e := plus_end s
      have e2 : (plus s)[(plus s).size - 1]'(by omega) = (plus s)[s.size]'(by omega) := by congr 1; omega
      rw [e2, e]; decide

theorem box_at {w w' : World} {g : Nat} {arr : Array Value} {ty : TypeId} (h : w.heap[g]? = some (.cells arr ty (0, 0))) (hb : Below w.heap.size w w') : w'.heap[g]? = some (.cells arr ty (0, 0)) :=
  (hb.block g (Array.getElem?_eq_some_iff.1 h).1).trans h

set_option maxHeartbeats 8000000 in
set_option maxRecDepth 100000 in
theorem walk (v0 : Value) (x0 : List UInt8) (fp0 : List Nat) (w : World) (H0 : (sSlice sByte).R w [v0] x0 fp0) :
    Calls Try.prog 3 #[v0] w fun e w' => e = .returned (.bool true) ∧ Below w.heap.size w w' := by
  have HH := Lib.hid H0
  obtain ⟨a, cap, hv, hc, hm, h⟩ := H0
  obtain rfl : v0 = .slice a x0.length cap := by simpa using hv
  unfold maxLen at hm
  clear h hv
  go_enter Try.func3, Try.ntmps3
  by_cases hbig : 1048576 < x0.length
  · go_wp2
    go_ret
    exact ⟨rfl, Below.refl _ _⟩
  go_wp2_with fail
  refine (DrawTokenValid _ x0 fp0 _ HH.out).mono ?_
  rintro e w1 ⟨k, s, sp, ao, m, c, l, fp, rfl, hR, hok, hB1⟩
  have hb1 := alloc_below' w1 (.cells #[.int .i64 k, .string s, .bool sp, .slice ao m c] 25)
  have HX := Lib.hid (show (w1.alloc (.cells #[.int .i64 k, .string s, .bool sp, .slice ao m c] 25)).heap[w1.heap.size]? = some (.cells #[.int .i64 k, .string s, .bool sp, .slice ao m c] 25 (0, 0)) from by show (w1.heap.push _)[_]? = _; simp)
  replace hR := sTok.below hR hb1
  have hB := hB1.trans (hb1.mono hB1.size)
  have hss : s.size ≤ 1000 := hok.1
  go_wp2_with fail
  refine (impl_TokenValid [.int .i64 k, .string s, .bool sp, .slice ao m c] ⟨k, s, sp, l⟩ fp _ hR).mono ?_
  rintro e w2 ⟨rfl, hb2⟩
  replace hR := sTok.below hR hb2
  replace HX := Lib.hid (box_at HX.out hb2)
  replace hB := hB.trans (hb2.mono hB.size)
  have qc0 : w2.cell? ⟨w1.heap.size, 0, none⟩ = some (.int .i64 k) := cell_of_row _ _ 0 _ _ _ HX.out
  have qc1 : w2.cell? ⟨w1.heap.size, 1, none⟩ = some (.string s) := cell_of_row _ _ 1 _ _ _ HX.out
  have qc2 : w2.cell? ⟨w1.heap.size, 2, none⟩ = some (.bool sp) := cell_of_row _ _ 2 _ _ _ HX.out
  have qc3 : w2.cell? ⟨w1.heap.size, 3, none⟩ = some (.slice ao m c) := cell_of_row _ _ 3 _ _ _ HX.out
  go_wp2_with fail
  refine (spec_TokenValid [.int .i64 k, .string s, .bool sp, .slice ao m c] ⟨k, s, sp, l⟩ fp _ hR).mono ?_
  rintro e w3 ⟨rfl, hb3⟩
  clear qc0 qc1 qc2 qc3
  replace HX := Lib.hid (box_at HX.out hb3)
  replace hB := hB.trans (hb3.mono hB.size)
  clear hR hb1 hb2 hb3 hB1
  cases hv : tokOk ⟨k, s, sp, l⟩
  · go_wp2_with fail
    refine (alive _).mono ?_
    rintro e w' ⟨rfl, rfl⟩
    go_wp2
    go_ret
    exact ⟨rfl, hB⟩
  have hone : oneTok s k = true := by
    unfold tokOk at hv
    rw [Bool.and_eq_true] at hv
    exact hv.1
  rcases one_ways s k with ⟨_, h⟩ | ⟨_, _, _, h⟩ | ⟨_, _, _, h⟩ | ⟨_, _, _, _, h⟩ | ⟨t, hr, hk, hx, hsp, _⟩
  · exact absurd (h.out.symm.trans hone) (by simp)
  · exact absurd (h.out.symm.trans hone) (by simp)
  · exact absurd (h.out.symm.trans hone) (by simp)
  · exact absurd (h.out.symm.trans hone) (by simp)
  have HT : Hid (∀ W, Calls Try.prog 10 #[.string s] W (TokMade (tokRes s) W)) := fun W => impl_TokensOf s W (small_ok (by omega))
  rw [hr] at HT
  have hk' : (t.kind == k) = true := by simp [hk]
  have hadd := fun W => run_string_add_sum (P := Try.prog) W s ⟨#[32]⟩ (by show s.size + 1 ≤ _; omega)
  have HV : Hid (∀ W, Calls Try.prog 7 #[.agg #[.int .i64 k, .string (s ++ ⟨#[32]⟩), .bool false, .slice none 0 0]] W (Says false W)) := fun W => by
    have h1 : okStr (s ++ ⟨#[32]⟩) := by unfold okStr maxLen; rw [ByteArray.size_append]; show s.size + 1 ≤ _; omega
    have h2 : okInt k := by
      obtain ⟨_, a, b, _⟩ := hok
      have : 0 ≤ k := a
      have : k ≤ 4 := b
      exact ⟨by omega, by omega⟩
    have := impl_TokenValid [.int .i64 k, .string (s ++ ⟨#[32]⟩), .bool false, .slice none 0 0] ⟨k, s ++ ⟨#[32]⟩, false, []⟩ [] W ⟨_, rfl, h2, h1, slice_empty sStr W none 0 (by simp)⟩
    rwa [show tokOk ⟨k, s ++ ⟨#[32]⟩, false, []⟩ = false from by unfold tokOk; rw [one_space]; rfl] at this
  clear hr hk hx hsp hone hok
  have qc1 : w3.cell? ⟨w1.heap.size, 1, none⟩ = some (.string s) := cell_of_row _ _ 1 _ _ _ HX.out
  go_wp2_with fail
  refine (HT.out _).mono ?_
  rintro e w4 ⟨v4, fp4, rfl, hR4, hO4, hB4⟩
  clear qc1
  obtain ⟨b, off, cap4, h', rfl, hc1, hc2, hb, h0, h1, h2, h3, _, _⟩ := open_one hR4
  replace HX := Lib.hid (box_at HX.out hB4)
  replace hB := hB.trans (hB4.mono hB.size)
  have qc0 : w4.cell? ⟨w1.heap.size, 0, none⟩ = some (.int .i64 k) := cell_of_row _ _ 0 _ _ _ HX.out
  have qc1 : w4.cell? ⟨w1.heap.size, 1, none⟩ = some (.string s) := cell_of_row _ _ 1 _ _ _ HX.out
  clear hR4 hO4 h1 h2 h3 hB4 hc1 hc2
  go_wp2_with fail
  go_still_tail 22, (by kernel_rfl)
  change wpList _ _ _ _ _ w4.drew
  have hd : Below w4.heap.size w4 w4.drew := belowN (Below.refl _ _) 1
  generalize w4.drew = w5 at *
  clear qc0 qc1 h0 hb
  go_wp2_with fail
  refine (HV.out _).mono ?_
  rintro e w6 ⟨rfl, hb6⟩
  have hB' := (hB.trans (hd.mono hB.size)).trans (hb6.mono (Nat.le_trans hB.size hd.size))
  go_wp2
  go_ret
  exact ⟨rfl, hB'⟩

theorem own : ownKnob Try.prog.godebug = none := by kernel_rfl
theorem laidOut : laidOutB Try.prog = true := by kernel_rfl
theorem readable : ∀ t ∈ Try.f3.params.toList, Try.prog.readableRec t = true ∧ t < Try.prog.types.size := by
  rw [Try.params3]
  simp only [List.mem_cons, List.not_mem_nil, or_false]
  rintro t rfl
  exact ⟨by kernel_rfl, of_decide_eq_true (by kernel_rfl)⟩

set_option maxRecDepth 100000 in
theorem lifted (os : Os) (started : os.Started) (H : Type) (enc : TypeId × Value → H) :
    ReturnsInHanded {} Try.checked os 3 .any (Rows.fnTokenValidSpec.pre6 enc Try.prog Try.f3 Rows.fnTokenValidRow.domain false) (Rows.fnTokenValidSpec.post enc Try.prog Try.f3 false true false false) := by
  refine returnsInHanded_of_change (C := Try.checked) own started (by kernel_rfl) Try.func3
    (ChangeSpec.witness6 (enc := enc) (C := Try.checked) false ⟨#[], #[.slice none 0 0], []⟩ 8 (by kernel_rfl) (by kernel_rfl) (by kernel_rfl) (by kernel_rfl)) ?_
  intro W base args ds gs before hval0 hW hcnd _
  have hval : ∀ (j : Nat) t v, Try.f3.params[j]? = some t → args[j]? = some v → Value.okWide Try.prog W .any base t v := hval0
  have hW' := hW
  obtain ⟨p, q, hA0, hV, rfl, hfz, hnd⟩ := hW
  have hA : DataW.TrodAll enc Try.prog W 0 (fun _ => true) true Try.f3.params.toList args.toList ds p := hA0
  rw [Try.params3] at hA hval
  obtain ⟨v0, vs0, d0, ds0, p0, q0, hargs0, rfl, rfl, h0, r0⟩ := trodAll_cons hA
  obtain ⟨rfl, rfl, rfl⟩ := trodAll_nil r0
  obtain rfl : args = #[v0] := by cases args; simp_all
  obtain ⟨rfl, rfl⟩ := trodVars_none hV
  obtain ⟨a0, len0, cap0, rfl⟩ := okWide_slice Try.underlying22 (hval 0 22 v0 rfl rfl)
  obtain ⟨x0, fp0, H0⟩ := open_arg (opens_slice Try.underlying22 (by kernel_rfl) (by decide) (opens_byte Try.underlying5)) h0
  refine (walk _ x0 fp0 W H0).mono fun e W' ⟨he, hw⟩ => ?_
  subst he
  exact ⟨_, rfl, law_done laidOut readable rfl rfl Try.underlying4 hW' rfl rfl rfl hw⟩

theorem holds : Rows.FnTokenValidSaid :=
  OpenClaim.holds_of_wide 3 Try.f3 rfl rfl rfl rfl rfl rfl rfl ⟨rfl, rfl, rfl, rfl, rfl⟩ rfl rfl rfl rfl rfl (by kernel_rfl) Try.func3 (by kernel_rfl)
    (of_decide_eq_true (by kernel_rfl)) (by unfold Func.isWrapper; first | (rw [if_pos (by decide +kernel)]; kernel_rfl) | (rw [if_neg (by decide +kernel)]; exact ⟨rfl, rfl⟩))
    (fun os started H enc _ => lifted os started H enc)

end Go.Proofs.Ytncniilhhgjhnaa.lawTokenValid
