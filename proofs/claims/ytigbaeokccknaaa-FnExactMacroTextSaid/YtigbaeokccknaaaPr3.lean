/- Whether two texts are read otherwise together: the model. -/
import Derived.Test.YtigbaeokccknaaaPr2
namespace Go.Proofs.Ytigbaeokccknaaa
open Go.RowKit

/-- Two tokens, opened: their texts' cells. -/
theorem open_two {w : World} {v : Value} {t1 t2 : Tok} {fp : List Nat} (H : (sSlice sTok).R w [v] [t1, t2] fp) :
    ∃ b off cap, v = .slice (some ⟨b, off, none⟩) 2 cap ∧ cap ≤ maxLen ∧ 2 ≤ cap ∧ b < w.heap.size ∧ w.cell? ⟨b, off + 1, none⟩ = some (.string t1.text) ∧ w.cell? ⟨b, off + 4 + 1, none⟩ = some (.string t2.text) := by
  obtain ⟨a, cap, rfl, hc, hm, h⟩ := open_rows H
  obtain ⟨b, off, fps, rfl, hb, _, he⟩ := h (by simp)
  obtain ⟨es, ⟨h1, h2⟩, hh, rfl, _, _, _⟩ := he 0 (by simp)
  obtain ⟨es', ⟨h1', h2'⟩, hh', rfl, _, _, _⟩ := he 1 (by simp)
  refine ⟨b, off, cap, rfl, hm, by simpa using hc, hb, ?_, ?_⟩
  · simpa [sTok] using h2 1 (by decide)
  · simpa [sTok, Nat.add_assoc] using h2' 1 (by decide)

theorem meet_list {a b : ByteArray} (ha : 0 < a.size) (hb : 0 < b.size) : (a.extract (a.size - 1) a.size ++ b.extract 0 1).toList = [a[a.size - 1]'(by omega), b[0]] := by
  rw [ByteArray.toList_eq, ByteArray.data_append, Array.toList_append, ext_list, ext_list]
  have h1 : a.data.toList.drop (a.size - 1) = [a[a.size - 1]'(by omega)] := by
    rw [List.drop_eq_getElem_cons (by show a.size - 1 < a.size; omega)]
    have : a.data.toList.drop (a.size - 1 + 1) = [] := List.drop_eq_nil_iff.2 (by show a.size ≤ _; omega)
    rw [this]
    simp [ByteArray.getElem_eq_getElem_data]
  have h2 : (b.data.toList.drop 0).take (1 - 0) = [b[0]] := by
    rw [List.drop_zero]
    obtain ⟨c, l, hl⟩ : ∃ c l, b.data.toList = c :: l := by
      cases h : b.data.toList with
      | nil =>
        have : b.size = 0 := by show b.data.toList.length = 0; rw [h]; rfl
        omega
      | cons c l => exact ⟨c, l, rfl⟩
    have h3 : b[0] = c := by
      have h4 : b.data.toList[0]? = some c := by rw [hl]; rfl
      rw [ByteArray.getElem_eq_getElem_data]
      rw [List.getElem?_eq_getElem (by rw [hl]; simp)] at h4
      simpa using h4
    rw [hl, h3]; rfl
  rw [h1, h2, List.take_of_length_le (by simp; omega)]; rfl
/-- The three ways of two texts where they meet. -/
theorem meet_ways {a b : ByteArray} (ha : 0 < a.size) (hb : 0 < b.size) :
    (((a.extract (a.size - 1) a.size ++ b.extract 0 1).toList == [47, 47]) = true ∧ Hid (meets a b = true)) ∨
    (((a.extract (a.size - 1) a.size ++ b.extract 0 1).toList == [47, 47]) = false ∧ ((a.extract (a.size - 1) a.size ++ b.extract 0 1).toList == [47, 42]) = true ∧ Hid (meets a b = true)) ∨
    (((a.extract (a.size - 1) a.size ++ b.extract 0 1).toList == [47, 47]) = false ∧ ((a.extract (a.size - 1) a.size ++ b.extract 0 1).toList == [47, 42]) = false ∧ Hid (meets a b = false)) := by
  rw [meet_list ha hb, meets_begins ha hb]
  generalize a[a.size - 1]'(by omega) = x
  generalize b[0] = y
  have e47 : ∀ z : UInt8, z = 47 ↔ z.toNat = 47 := fun z => by rw [← UInt8.toNat_inj]; rfl
  have e42 : ∀ z : UInt8, z = 42 ↔ z.toNat = 42 := fun z => by rw [← UInt8.toNat_inj]; rfl
  by_cases h1 : x.toNat = 47
  · by_cases h2 : y.toNat = 47
    · exact .inl ⟨by simp [e47, h1, h2], by simp [Hid, begins, h1, h2]⟩
    · by_cases h3 : y.toNat = 42
      · exact .inr (.inl ⟨by simp [e47, h2], by simp [e47, e42, h1, h3], by simp [Hid, begins, h1, h3]⟩)
      · exact .inr (.inr ⟨by simp [e47, h2], by simp [e42, h3], by simp [Hid, begins, h2, h3]⟩)
  · exact .inr (.inr ⟨by simp [e47, h1], by simp [e47, h1], by simp [Hid, begins, h1]⟩)

set_option maxHeartbeats 4000000 in
set_option maxRecDepth 100000 in
theorem spec_l4Glued (a b : ByteArray) (w : World) (ha : a.size ≤ 1000) (hb : b.size ≤ 1000) :
    Calls Try.prog 74 #[.string a, .string b] w (Says (glued a b) w) := by
  have HT : Hid (∀ W, Calls Try.prog 50 #[.string (a ++ b)] W (TokMade (tokRes (a ++ b)) W)) := fun W => spec_TokensOf (a ++ b) W (by rw [ByteArray.size_append]; unfold maxLen; omega)
  have hadd := fun W => run_string_add_sum (P := Try.prog) W a b (by omega)
  rcases two_ways a b with ⟨hr, HF⟩ | ⟨l, hr, hl, HF⟩ | ⟨t1, t2, hr, hx, HF⟩ | ⟨t1, t2, hr, hx, hy, HF⟩ | ⟨t1, t2, hr, hx, hy, ha0, hb0, HF⟩
  · rw [hr] at HT
    clear hr
    go_enter Try.func74, Try.ntmps74
    go_wp2_with (go_at_call 50; refine (HT.out _).mono ?_; rintro e w' ⟨v, fp, rfl, hR, hO, hB⟩)
    go_ret
    exact ⟨ret_bool HF.out.symm, hB⟩
  · rw [hr] at HT
    have hl' : ((l.length : Int) != 2) = true := by simp; omega
    clear hr hl
    go_enter Try.func74, Try.ntmps74
    go_wp2_with (go_at_call 50; refine (HT.out _).mono ?_; rintro e w' ⟨v, fp, rfl, hR, hO, hB⟩; obtain ⟨a1, cap, rfl, -⟩ := open_rows hR)
    go_ret
    exact ⟨ret_bool HF.out.symm, hB⟩
  · rw [hr] at HT
    have hx' : (t1.text.toList == a.toList) = false := bytes_bne hx
    clear hr hx
    go_enter Try.func74, Try.ntmps74
    go_wp2_with (go_at_call 50; refine (HT.out _).mono ?_; rintro e w' ⟨v, fp, rfl, hR, hO, hB⟩; obtain ⟨b1, off, cap, rfl, hc1, hc2, hbb, h1, h2⟩ := open_two hR)
    go_ret
    exact ⟨ret_bool HF.out.symm, hB⟩
  · rw [hr] at HT
    have hx' : (t1.text.toList == a.toList) = true := bytes_beq hx
    have hy' : (t2.text.toList == b.toList) = false := bytes_bne hy
    clear hr hx hy
    go_enter Try.func74, Try.ntmps74
    go_wp2_with (go_at_call 50; refine (HT.out _).mono ?_; rintro e w' ⟨v, fp, rfl, hR, hO, hB⟩; obtain ⟨b1, off, cap, rfl, hc1, hc2, hbb, h1, h2⟩ := open_two hR)
    go_ret
    exact ⟨ret_bool HF.out.symm, hB⟩
  · rw [hr] at HT
    have hx' : (t1.text.toList == a.toList) = true := bytes_beq hx
    have hy' : (t2.text.toList == b.toList) = true := bytes_beq hy
    clear hr hx hy
    go_enter Try.func74, Try.ntmps74
    go_wp2_with (go_at_call 50; refine (HT.out _).mono ?_; rintro e w' ⟨v, fp, rfl, hR, hO, hB⟩; obtain ⟨b1, off, cap, rfl, hc1, hc2, hbb, h1, h2⟩ := open_two hR)
    have HW := Lib.hid (meet_ways ha0 hb0)
    go_quiet (fail)
    rcases HW.out with ⟨m1, HM⟩ | ⟨m1, m2, HM⟩ | ⟨m1, m2, HM⟩ <;>
    · go_wp2
      go_ret
      exact ⟨ret_bool (by rw [HF.out, HM.out]), belowN hB nq⟩

end Go.Proofs.Ytigbaeokccknaaa
