/- JoinLines of the program. -/
import Derived.Test.YtegpienbgmfghaaJoin
namespace Go.Proofs.Ytegpienbgmfghaa
open Go.RowKit

theorem suffix_yes {s : ByteArray} (h : ends s = true) : ((s.extract (s.size - 1) s.size).toList == [92]) = true := by
  have h0 := ends_pos h
  unfold ends at h
  rw [dif_pos h0, beq_iff_eq] at h
  rw [ByteArray.toList_eq, beq_iff_eq]
  apply List.ext_getElem?
  intro i
  rw [ByteArray.data_extract, Array.getElem?_toList, Array.getElem?_extract]
  by_cases hi : i = 0
  · subst hi
    have : (min s.size s.data.size) - (s.size - 1) = 1 := by have : s.data.size = s.size := rfl; omega
    rw [if_pos (by omega)]
    simp only [Nat.add_zero, List.getElem?_cons_zero]
    rw [← h, Array.getElem?_eq_getElem (by have : s.data.size = s.size := rfl; omega)]
    rfl
  · have : (min s.size s.data.size) - (s.size - 1) ≤ 1 := by have : s.data.size = s.size := rfl; omega
    rw [if_neg (by omega)]
    rw [List.getElem?_eq_none (by simp; omega)]
theorem suffix_no {s : ByteArray} (h0 : 0 < s.size) (h : ends s = false) : ((s.extract (s.size - 1) s.size).toList == [92]) = false := by
  unfold ends at h
  rw [dif_pos h0, beq_eq_false_iff_ne] at h
  rw [ByteArray.toList_eq, beq_eq_false_iff_ne]
  intro e
  apply h
  have e1 := congrArg (fun l : List UInt8 => l[0]?) e
  simp only [List.getElem?_cons_zero] at e1
  rw [ByteArray.data_extract, Array.getElem?_toList, Array.getElem?_extract, if_pos (by have : s.data.size = s.size := rfl; omega), Nat.add_zero, Array.getElem?_eq_getElem (by have : s.data.size = s.size := rfl; omega)] at e1
  exact Option.some.inj e1

set_option maxHeartbeats 400000 in
theorem lite_HasSuffix (s : ByteArray) (w : World) (hs : s.size ≤ 1000000) :
    Calls Try.prog 35 #[.string s, .string ⟨#[92]⟩] w fun e w' => e = .returned (.bool (ends s)) ∧ w = w' := by
  by_cases h0 : s.size = 0
  · have HF : Hid (ends s = false) := ends_empty h0
    have hd : decide ((1 : Int) ≤ (s.size : Int)) = false := by simp; omega
    go_enter Try.func35, Try.ntmps35
    go_wp2
    go_ret
    exact ⟨ret_bool (by rw [HF.out]), rfl⟩
  · have h1 : (1 : Int) ≤ (s.size : Int) := by omega
    go_enter Try.func35, Try.ntmps35
    cases he : ends s
    · have hx := suffix_no (by omega) he
      go_wp2
      go_ret
      exact ⟨ret_bool rfl, rfl⟩
    · have hx := suffix_yes he
      go_wp2
      go_ret
      exact ⟨ret_bool rfl, rfl⟩

set_option maxHeartbeats 400000 in
theorem go_HasSuffix (s : ByteArray) (w : World) (hs : s.size ≤ 1000000) :
    Calls Try.prog 28 #[.string s, .string ⟨#[92]⟩] w fun e w' => e = .returned (.bool (ends s)) ∧ w = w' := by
  go_enter Try.func28, Try.ntmps28
  go_wp2_with (go_at_call 35; refine (lite_HasSuffix _ _ hs).mono ?_; rintro e w' ⟨rfl, rfl⟩)
  go_ret
  exact ⟨ret_bool rfl, rfl⟩

/-- The program's rows when it stands at line k, the group's part p there already (goesOn) or not. -/
def ImplAt (l : List ByteArray) (B : Nat) (j n g : Value) (k : Nat) (w : World) : Prop :=
  (∃ J, g = .bool false ∧ AtLine l J k ∧ w.ownsRow B 9 1 j J.length (texts J) ∧ w.ownsRow B 3 1 n J.length (nums J) ∧ J.length ≤ k ∧ Small J) ∨
  (∃ J p m, g = .bool true ∧ InLine l J p m k ∧ p.size ≤ 200 ∧ (0 ≤ m ∧ m ≤ 1000) ∧ w.ownsRow B 9 1 j (J.length + 1) (texts (J ++ [(p, m)])) ∧ w.ownsRow B 3 1 n (J.length + 1) (nums (J ++ [(p, m)])) ∧ J.length + 1 ≤ k ∧ Small J ∧ k < l.length)

theorem texts_snoc (J : List (ByteArray × Int)) (p : ByteArray) (m : Int) : texts (J ++ [(p, m)]) = texts J ++ [.string p] := by simp [texts]
theorem nums_snoc (J : List (ByteArray × Int)) (p : ByteArray) (m : Int) : nums (J ++ [(p, m)]) = nums J ++ [.int .i64 m] := by simp [nums]
theorem texts_at (J : List (ByteArray × Int)) (p : ByteArray) (m : Int) : (texts (J ++ [(p, m)]))[J.length]? = some (.string p) := by simp [texts]
theorem texts_set (J : List (ByteArray × Int)) (p q : ByteArray) (m : Int) : (texts (J ++ [(p, m)])).set J.length (.string q) = texts (J ++ [(q, m)]) := by simp [texts]
theorem nums_set (J : List (ByteArray × Int)) (p q : ByteArray) (m : Int) : nums (J ++ [(p, m)]) = nums (J ++ [(q, m)]) := by simp [nums]

/-- The rest of a round: the part p of the last text is grown by the line. Where it goes on from, by the code from region 12 on. -/
theorem own_form {w : World} {base e size n : Nat} {v : Value} {xs : List Value} (h : w.ownsRow base e size v n xs) (hn : 0 < n) : ∃ g cap, v = .slice (some ⟨g, 0, none⟩) n cap ∧ base ≤ g ∧ g < w.heap.size := by
  rcases h.2 with ⟨_, h0⟩ | ⟨g, cap, cur, rfl, hb, hg, _⟩
  · omega
  · exact ⟨g, cap, rfl, hb, (Array.getElem?_eq_some_iff.1 hg).1⟩

set_option maxHeartbeats 4000000 in
theorem impl_JoinLines (v : Value) (l : List ByteArray) (fp : List Nat) (w : World) (H : (sSlice sStr).R w [v] l fp) :
    Calls Try.prog 16 #[v] w (JoinPost l w) := by
  have H0 := H
  obtain ⟨a, cap, rfl, hc, hm, hcell, hsz⟩ := open_strs H
  have HL := Lib.hid H0; clear H0 H
  unfold maxLen at hm
  cases h0 : linesOk l
  · have HN := Lib.hid (joinPost_no (l := l) (by unfold joinOk; rw [h0]; rfl) (Below.refl w.heap.size w) none none)
    clear hcell hsz
    go_enter Try.func16, Try.ntmps16
    go_wp2_with (go_at_call 13; refine (impl_LinesValid _ l fp _ HL.out).mono ?_; rw [h0]; rintro e w' ⟨rfl, rfl⟩)
    go_ret3
    exact HN.out
  obtain ⟨hlen, hshort⟩ := linesOk_size h0
  have HZ := Lib.hid hsz; clear hsz
  have HS := Lib.hid hshort; clear hshort
  go_enter Try.func16, Try.ntmps16
  go_wp2_with (go_at_call 13; refine (impl_LinesValid _ l fp _ HL.out).mono ?_; rw [h0]; rintro e w' ⟨rfl, rfl⟩)
  go_loopw [5, 6, 7, 16] (fun j n g i wr => ∃ (k : Nat), k ≤ l.length ∧ i = .int .i64 k ∧ ImplAt l w.heap.size j n g k wr ∧ Below w.heap.size w wr) (fun _ _ _ i _ => l.length - (intOf i).toNat)
  case atStart => exact ⟨0, by omega, rfl, .inl ⟨[], rfl, AtLine.zero l, World.ownsRow_nil _ _ _ _, World.ownsRow_nil _ _ _ _, by simp, by intro x hx; simp at hx⟩, Below.refl _ _⟩
  case round =>
    obtain ⟨k, hk, rfl, hat, hbel⟩ := hrel
    by_cases hlt : k < l.length
    · obtain ⟨b, off, rfl, hb, _, hc2⟩ := hcell (by omega)
      have hck := (hbel.cell (p := ⟨b, off + k, none⟩) hb).trans (hc2 k hlt)
      have hsk := HS.out k hlt
      clear hc2
      rcases hat with ⟨J, rfl, hat, hown1, hown2, hJ, hsm⟩ | ⟨J, p, m, rfl, hin, hps, hm12, hown3, hown4, hJ, hsm, _⟩
      · have HM := Lib.hid hsm; clear hsm
        have hin := hat.in_ hlt
        have hp0 : (⟨#[]⟩ : ByteArray).size = 0 := rfl
        by_cases hon : k + 1 < l.length ∧ ends l[k] = true
        · obtain ⟨hmore, heq⟩ := hon
          have hpos := ends_pos heq
          have hz1 : (1 : Int) ≤ (l[k].size : Int) := by omega
          have HN := Lib.hid (hin.on hmore heq)
          have HSZ : Hid ((⟨#[]⟩ ++ strip l[k]).size = (⟨#[]⟩ : ByteArray).size + (l[k].size - 1)) := by show _ = _; rw [ByteArray.size_append, strip_size]
          by_cases hbig : 200 < (⟨#[]⟩ : ByteArray).size + (l[k].size - 1)
          · exfalso; rw [hp0] at hbig; omega
          · go_wp2_with (first
          | (at_builtin; refine wp_append_one ti27 rfl wr (.string ⟨#[]⟩) rfl rfl (.tmp 23) (.tmp 24) rfl w.heap.size _ J.length (texts J) rfl hown1 rfl (by unfold maxLen; omega) (by omega) hbel.size ?_; intro v1 w1 hown1' hg1; have hown2' := hown2.kept hg1 (own_ne hown2 hown1 (by decide)); have hbel1 := hbel.grown hg1 hbel.size (fun b hb => (hown1.lt b hb).1))
          | (at_builtin; refine wp_append_one ti_ints rfl w1 (.int .i64 ((k : Int) + 1)) rfl rfl (.tmp 26) (.tmp 29) rfl w.heap.size _ J.length (nums J) rfl hown2' rfl (by unfold maxLen; omega) (by omega) hbel1.size ?_; intro v2 w2 hown4 hg2; obtain ⟨g1, cap1, rfl, hgb, hgl⟩ := own_form hown1' (by omega); have hown3 := hown1'.kept hg2 (own_ne hown1' hown2' (by decide)); have hbel2 := hbel1.grown hg2 hbel1.size (fun b hb => (hown2'.lt b hb).1); rw [← texts_snoc J ⟨#[]⟩ ((k : Int) + 1)] at hown3; rw [← nums_snoc J ⟨#[]⟩ ((k : Int) + 1)] at hown4; have hcl := (hown3.cellAt J.length (by omega)).trans (texts_at J ⟨#[]⟩ ((k : Int) + 1)); have hfz := hown3.frozenAt J.length; clear hown1 hown2 hown1' hown2' hg1 hg2 hbel1)
          | (go_at_call 28; refine (go_HasSuffix _ _ (by omega)).mono ?_; rw [heq]; rintro e w' ⟨rfl, rfl⟩))
            have hst := (hown3.stored J.length (.string (⟨#[]⟩ ++ strip l[k]))).1
            have hst2 := hown4.kept (hown3.stored J.length (.string (⟨#[]⟩ ++ strip l[k]))).2 (own_ne hown4 hown3 (by decide))
            rw [texts_set] at hst
            rw [nums_set J _ (⟨#[]⟩ ++ strip l[k])] at hst2
            go_roundw
            case rel => exact ⟨k + 1, by omega, by go_num, .inr ⟨J, ⟨#[]⟩ ++ strip l[k], ((k : Int) + 1), rfl, HN.out, by rw [HSZ.out]; omega, (by constructor <;> omega), hst, hst2, by omega, HM.out, by omega⟩, hbel2.setCell (p := ⟨g1, J.length, none⟩) hgb _⟩
            case measure => simp [intOf]; omega
        · have hstop := stop_cases hlt hon
          have HT := Lib.hid hstop
          have hways : (¬ k + 1 < l.length) ∨ (k + 1 < l.length ∧ ends l[k] = false) := by
            rcases hstop with h | h
            · left; omega
            · by_cases h2 : k + 1 < l.length
              · exact .inr ⟨h2, h⟩
              · exact .inl h2
          clear hstop hon
          have HSZ : Hid ((⟨#[]⟩ ++ l[k]).size = (⟨#[]⟩ : ByteArray).size + l[k].size) := by show _ = _; rw [ByteArray.size_append]
          by_cases hbig : 200 < (⟨#[]⟩ : ByteArray).size + l[k].size
          · exfalso; rw [hp0] at hbig; omega
          · have HD := Lib.hid (hin.done hlt HT.out (by rw [HSZ.out]; omega))
            rcases hways with hmore | ⟨hmore, heq⟩
            · go_wp2_with (first
          | (at_builtin; refine wp_append_one ti27 rfl wr (.string ⟨#[]⟩) rfl rfl (.tmp 23) (.tmp 24) rfl w.heap.size _ J.length (texts J) rfl hown1 rfl (by unfold maxLen; omega) (by omega) hbel.size ?_; intro v1 w1 hown1' hg1; have hown2' := hown2.kept hg1 (own_ne hown2 hown1 (by decide)); have hbel1 := hbel.grown hg1 hbel.size (fun b hb => (hown1.lt b hb).1))
          | (at_builtin; refine wp_append_one ti_ints rfl w1 (.int .i64 ((k : Int) + 1)) rfl rfl (.tmp 26) (.tmp 29) rfl w.heap.size _ J.length (nums J) rfl hown2' rfl (by unfold maxLen; omega) (by omega) hbel1.size ?_; intro v2 w2 hown4 hg2; obtain ⟨g1, cap1, rfl, hgb, hgl⟩ := own_form hown1' (by omega); have hown3 := hown1'.kept hg2 (own_ne hown1' hown2' (by decide)); have hbel2 := hbel1.grown hg2 hbel1.size (fun b hb => (hown2'.lt b hb).1); rw [← texts_snoc J ⟨#[]⟩ ((k : Int) + 1)] at hown3; rw [← nums_snoc J ⟨#[]⟩ ((k : Int) + 1)] at hown4; have hcl := (hown3.cellAt J.length (by omega)).trans (texts_at J ⟨#[]⟩ ((k : Int) + 1)); have hfz := hown3.frozenAt J.length; clear hown1 hown2 hown1' hown2' hg1 hg2 hbel1))
              have hst := (hown3.stored J.length (.string (⟨#[]⟩ ++ l[k]))).1
              have hst2 := hown4.kept (hown3.stored J.length (.string (⟨#[]⟩ ++ l[k]))).2 (own_ne hown4 hown3 (by decide))
              rw [texts_set] at hst
              rw [nums_set J _ (⟨#[]⟩ ++ l[k])] at hst2
              go_roundw
              case rel => exact ⟨k + 1, by omega, by go_num, .inl ⟨J ++ [(⟨#[]⟩ ++ l[k], ((k : Int) + 1))], rfl, HD.out, by simpa using hst, by simpa using hst2, by simp; omega, HM.out.snoc (by constructor <;> omega)⟩, hbel2.setCell (p := ⟨g1, J.length, none⟩) hgb _⟩
              case measure => simp [intOf]; omega
            · go_wp2_with (first
          | (at_builtin; refine wp_append_one ti27 rfl wr (.string ⟨#[]⟩) rfl rfl (.tmp 23) (.tmp 24) rfl w.heap.size _ J.length (texts J) rfl hown1 rfl (by unfold maxLen; omega) (by omega) hbel.size ?_; intro v1 w1 hown1' hg1; have hown2' := hown2.kept hg1 (own_ne hown2 hown1 (by decide)); have hbel1 := hbel.grown hg1 hbel.size (fun b hb => (hown1.lt b hb).1))
          | (at_builtin; refine wp_append_one ti_ints rfl w1 (.int .i64 ((k : Int) + 1)) rfl rfl (.tmp 26) (.tmp 29) rfl w.heap.size _ J.length (nums J) rfl hown2' rfl (by unfold maxLen; omega) (by omega) hbel1.size ?_; intro v2 w2 hown4 hg2; obtain ⟨g1, cap1, rfl, hgb, hgl⟩ := own_form hown1' (by omega); have hown3 := hown1'.kept hg2 (own_ne hown1' hown2' (by decide)); have hbel2 := hbel1.grown hg2 hbel1.size (fun b hb => (hown2'.lt b hb).1); rw [← texts_snoc J ⟨#[]⟩ ((k : Int) + 1)] at hown3; rw [← nums_snoc J ⟨#[]⟩ ((k : Int) + 1)] at hown4; have hcl := (hown3.cellAt J.length (by omega)).trans (texts_at J ⟨#[]⟩ ((k : Int) + 1)); have hfz := hown3.frozenAt J.length; clear hown1 hown2 hown1' hown2' hg1 hg2 hbel1)
          | (go_at_call 28; refine (go_HasSuffix _ _ (by omega)).mono ?_; rw [heq]; rintro e w' ⟨rfl, rfl⟩))
              have hst := (hown3.stored J.length (.string (⟨#[]⟩ ++ l[k]))).1
              have hst2 := hown4.kept (hown3.stored J.length (.string (⟨#[]⟩ ++ l[k]))).2 (own_ne hown4 hown3 (by decide))
              rw [texts_set] at hst
              rw [nums_set J _ (⟨#[]⟩ ++ l[k])] at hst2
              go_roundw
              case rel => exact ⟨k + 1, by omega, by go_num, .inl ⟨J ++ [(⟨#[]⟩ ++ l[k], ((k : Int) + 1))], rfl, HD.out, by simpa using hst, by simpa using hst2, by simp; omega, HM.out.snoc (by constructor <;> omega)⟩, hbel2.setCell (p := ⟨g1, J.length, none⟩) hgb _⟩
              case measure => simp [intOf]; omega
      · have HM := Lib.hid hsm; clear hsm
        obtain ⟨g1, cap1, rfl, hgb, hgl⟩ := own_form hown3 (by omega)
        have hcl := (hown3.cellAt J.length (by omega)).trans (texts_at J p m)
        have hfz := hown3.frozenAt J.length
        by_cases hon : k + 1 < l.length ∧ ends l[k] = true
        · obtain ⟨hmore, heq⟩ := hon
          have hpos := ends_pos heq
          have hz1 : (1 : Int) ≤ (l[k].size : Int) := by omega
          have HN := Lib.hid (hin.on hmore heq)
          have HSZ : Hid ((p ++ strip l[k]).size = (p : ByteArray).size + (l[k].size - 1)) := by show _ = _; rw [ByteArray.size_append, strip_size]
          by_cases hbig : 200 < (p : ByteArray).size + (l[k].size - 1)
          · have HB0 := Lib.hid (fun (W : World) (hb : Below w.heap.size w W) => joinPost_no (l := l) (HN.out.long (by rw [HSZ.out]; exact hbig)) hb)
            go_wp2_with (go_at_call 28; refine (go_HasSuffix _ _ (by omega)).mono ?_; rw [heq]; rintro e w' ⟨rfl, rfl⟩)
            go_ret3
            exact HB0.out _ (hbel.setCell (p := ⟨g1, J.length, none⟩) hgb _) _ _
          · go_wp2_with (go_at_call 28; refine (go_HasSuffix _ _ (by omega)).mono ?_; rw [heq]; rintro e w' ⟨rfl, rfl⟩)
            have hst := (hown3.stored J.length (.string (p ++ strip l[k]))).1
            have hst2 := hown4.kept (hown3.stored J.length (.string (p ++ strip l[k]))).2 (own_ne hown4 hown3 (by decide))
            rw [texts_set] at hst
            rw [nums_set J _ (p ++ strip l[k])] at hst2
            go_roundw
            case rel => exact ⟨k + 1, by omega, by go_num, .inr ⟨J, p ++ strip l[k], m, rfl, HN.out, by rw [HSZ.out]; omega, hm12, hst, hst2, by omega, HM.out, by omega⟩, hbel.setCell (p := ⟨g1, J.length, none⟩) hgb _⟩
            case measure => simp [intOf]; omega
        · have hstop := stop_cases hlt hon
          have HT := Lib.hid hstop
          have hways : (¬ k + 1 < l.length) ∨ (k + 1 < l.length ∧ ends l[k] = false) := by
            rcases hstop with h | h
            · left; omega
            · by_cases h2 : k + 1 < l.length
              · exact .inr ⟨h2, h⟩
              · exact .inl h2
          clear hstop hon
          have HSZ : Hid ((p ++ l[k]).size = (p : ByteArray).size + l[k].size) := by show _ = _; rw [ByteArray.size_append]
          by_cases hbig : 200 < (p : ByteArray).size + l[k].size
          · have HB0 := Lib.hid (fun (W : World) (hb : Below w.heap.size w W) => joinPost_no (l := l) (hin.long2 hlt HT.out (by rw [HSZ.out]; exact hbig)) hb)
            rcases hways with hmore | ⟨hmore, heq⟩
            · go_wp2_with fail
              go_ret3
              exact HB0.out _ (hbel.setCell (p := ⟨g1, J.length, none⟩) hgb _) _ _
            · go_wp2_with (go_at_call 28; refine (go_HasSuffix _ _ (by omega)).mono ?_; rw [heq]; rintro e w' ⟨rfl, rfl⟩)
              go_ret3
              exact HB0.out _ (hbel.setCell (p := ⟨g1, J.length, none⟩) hgb _) _ _
          · have HD := Lib.hid (hin.done hlt HT.out (by rw [HSZ.out]; omega))
            rcases hways with hmore | ⟨hmore, heq⟩
            · go_wp2_with fail
              have hst := (hown3.stored J.length (.string (p ++ l[k]))).1
              have hst2 := hown4.kept (hown3.stored J.length (.string (p ++ l[k]))).2 (own_ne hown4 hown3 (by decide))
              rw [texts_set] at hst
              rw [nums_set J _ (p ++ l[k])] at hst2
              go_roundw
              case rel => exact ⟨k + 1, by omega, by go_num, .inl ⟨J ++ [(p ++ l[k], m)], rfl, HD.out, by simpa using hst, by simpa using hst2, by simp; omega, HM.out.snoc hm12⟩, hbel.setCell (p := ⟨g1, J.length, none⟩) hgb _⟩
              case measure => simp [intOf]; omega
            · go_wp2_with (go_at_call 28; refine (go_HasSuffix _ _ (by omega)).mono ?_; rw [heq]; rintro e w' ⟨rfl, rfl⟩)
              have hst := (hown3.stored J.length (.string (p ++ l[k]))).1
              have hst2 := hown4.kept (hown3.stored J.length (.string (p ++ l[k]))).2 (own_ne hown4 hown3 (by decide))
              rw [texts_set] at hst
              rw [nums_set J _ (p ++ l[k])] at hst2
              go_roundw
              case rel => exact ⟨k + 1, by omega, by go_num, .inl ⟨J ++ [(p ++ l[k], m)], rfl, HD.out, by simpa using hst, by simpa using hst2, by simp; omega, HM.out.snoc hm12⟩, hbel.setCell (p := ⟨g1, J.length, none⟩) hgb _⟩
              case measure => simp [intOf]; omega
    · rcases hat with ⟨J, rfl, hat, hown1, hown2, hJ, hsm⟩ | ⟨J, p, m, rfl, hin, hps, hm12, hown1, hown2, hJ, hsm, hkl⟩
      · have HN := Lib.hid (joinPost_yes hat (by omega) h0 hsm hbel hown1 hown2)
        go_wp2
        go_ret3
        exact HN.out
      · omega

/-- The answer is short. -/
def JoinLines_Cnt (x : List ByteArray) : Prop := x.length ≤ x.length ∧ ((joinRes x).map (·.1)).length ≤ 40 ∧ ((joinRes x).map (·.2)).length ≤ 40
theorem jgo_len : ∀ (k : Int) (l : List ByteArray), (jgo k l).length ≤ l.length
  | _, [] => by simp [jgo]
  | k, x :: r => by
    have := jgo_len (k + 1) r
    unfold jgo
    split
    · rename_i h
      have hr : 0 < r.length := List.length_pos_iff.2 h.2
      cases hj : jgo (k + 1) r with
      | nil => simp [glue]
      | cons y t => rw [hj] at this; simp [glue] at this ⊢; omega
    · simp; omega
theorem JoinLines_cnt (x : List ByteArray) : JoinLines_Cnt x := by
  have : (joinRes x).length ≤ 40 := by
    unfold joinRes
    split
    · rename_i h
      unfold joinOk at h
      rw [Bool.and_eq_true] at h
      have := jgo_len 1 x
      have := (linesOk_size h.1).1
      omega
    · simp
  exact ⟨Nat.le_refl _, by simpa using this, by simpa using this⟩
end Go.Proofs.Ytegpienbgmfghaa
