/- SameTexts and TokensValid of both. -/
import Derived.Test.YtigbaeokccknaaaTok7
namespace Go.Proofs.Ytigbaeokccknaaa
open Go.RowKit

/-- What SameTexts looks at. -/
def tKey (t : Tok) : Int × ByteArray := (t.kind, t.text)
def sameTx (a b : List Tok) : Bool := decide (a.map tKey = b.map tKey)
def SameUpto (a b : List Tok) (k : Nat) : Prop := ∀ j, (h : j < a.length) → (h' : j < b.length) → j < k → tKey a[j] = tKey b[j]
theorem SameUpto.zero (a b : List Tok) : SameUpto a b 0 := by intro j _ _ h; omega
theorem SameUpto.succ {a b : List Tok} {k : Nat} (h : SameUpto a b k) (h1 : k < a.length) (h2 : k < b.length) (e1 : a[k].kind = b[k].kind) (e2 : a[k].text = b[k].text) : SameUpto a b (k + 1) := by
  intro j hj hj' hjk
  by_cases e : j = k
  · subst e; unfold tKey; rw [e1, e2]
  · exact h j hj hj' (by omega)
theorem same_len {a b : List Tok} (h : a.length ≠ b.length) : sameTx a b = false := by
  unfold sameTx; rw [decide_eq_false_iff_not]; intro e
  have := congrArg List.length e
  simp only [List.length_map] at this
  exact h this
theorem same_no {a b : List Tok} {k : Nat} (h1 : k < a.length) (h2 : k < b.length) (e : ¬ (a[k].kind = b[k].kind ∧ a[k].text = b[k].text)) : sameTx a b = false := by
  unfold sameTx; rw [decide_eq_false_iff_not]; intro e'
  have := List.getElem_of_eq e' (i := k) (by simpa using h1)
  simp only [List.getElem_map, tKey, Prod.mk.injEq] at this
  exact e this
theorem same_yes {a b : List Tok} {k : Nat} (h : SameUpto a b k) (hl : a.length = b.length) (hk : a.length ≤ k) : sameTx a b = true := by
  unfold sameTx; rw [decide_eq_true_eq]
  refine List.ext_getElem (by simpa using hl) fun i h1 h2 => ?_
  simp only [List.length_map] at h1 h2
  rw [List.getElem_map, List.getElem_map]
  exact h i h1 h2 (by omega)

set_option maxHeartbeats 4000000 in
set_option maxRecDepth 100000 in
theorem impl_SameTexts (v1 v2 : Value) (l1 l2 : List Tok) (fp1 fp2 : List Nat) (w : World) (H1 : (sSlice sTok).R w [v1] l1 fp1) (H2 : (sSlice sTok).R w [v2] l2 fp2) :
    Calls Try.prog 19 #[v1, v2] w (Says (sameTx l1 l2) w) := by
  obtain ⟨a1, cap1, rfl, hc1, hm1, hrow1⟩ := open_rows H1
  obtain ⟨a2, cap2, rfl, hc2, hm2, hrow2⟩ := open_rows H2
  unfold maxLen at hm1 hm2
  clear H1 H2
  by_cases hl : l1.length = l2.length
  · have hnb : ((l1.length : Int) != (l2.length : Int)) = false := by simp [hl]
    have HL := Lib.hid hl
    clear hl
    go_enter Try.func19, Try.ntmps19
    go_wp2
    go_loopw [13] (fun i wr => ∃ k : Nat, k ≤ l1.length ∧ i = .int .i64 k ∧ SameUpto l1 l2 k ∧ Below w.heap.size w wr) (fun i _ => l1.length - (intOf i).toNat)
    case atStart => exact ⟨0, by omega, rfl, SameUpto.zero _ _, Below.refl _ _⟩
    case round =>
      obtain ⟨k, hk, rfl, hall, hb⟩ := hrel
      by_cases hlt : k < l1.length
      · have hlt2 : k < l2.length := by have := HL.out; omega
        obtain ⟨b1, off1, fps1, rfl, hb1, -, he1⟩ := hrow1 (by omega)
        obtain ⟨b2, off2, fps2, rfl, hb2, -, he2⟩ := hrow2 (by omega)
        obtain ⟨es1, hE1, hR1⟩ := he1 k hlt
        obtain ⟨es2, hE2, hR2⟩ := he2 k hlt2
        clear hrow1 hrow2 he1 he2
        obtain ⟨h1, rfl, _, _, _⟩ := hR1
        obtain ⟨h2, rfl, _, _, _⟩ := hR2
        replace hE1 := hE1.frame (hb.block b1 hb1)
        replace hE2 := hE2.frame (hb.block b2 hb2)
        have c10 : wr.cell? ⟨b1, off1 + k * 4, none⟩ = some _ := elem_cell0 hE1 (by decide) rfl
        have c11 : wr.cell? ⟨b1, off1 + k * 4 + 1, none⟩ = some _ := elem_cell (j := 1) hE1 (by decide) rfl
        have c20 : wr.cell? ⟨b2, off2 + k * 4, none⟩ = some _ := elem_cell0 hE2 (by decide) rfl
        have c21 : wr.cell? ⟨b2, off2 + k * 4 + 1, none⟩ = some _ := elem_cell (j := 1) hE2 (by decide) rfl
        clear hE1 hE2
        by_cases e1 : l1[k].kind = l2[k].kind
        · have q1 : (l1[k].kind != l2[k].kind) = false := by simp [e1]
          by_cases e2 : l1[k].text = l2[k].text
          · have q2 := bytes_beq e2
            have hn := hall.succ hlt hlt2 e1 e2
            clear e1 e2 hall
            go_wp2
            go_quiet (fail)
            go_wp2
            go_roundw
            case rel => exact ⟨k + 1, by omega, by go_num, hn, belowN hb _⟩
            case measure => simp [intOf]; omega
          · have q2 := bytes_bne e2
            have HF := Lib.hid (same_no hlt hlt2 (fun h => e2 h.2))
            clear e1 e2 hall
            go_wp2
            go_quiet (fail)
            go_wp2
            go_ret
            exact ⟨ret_bool HF.out.symm, belowN hb _⟩
        · have q1 : (l1[k].kind != l2[k].kind) = true := by simp [e1]
          have HF := Lib.hid (same_no hlt hlt2 (fun h => e1 h.1))
          clear e1 hall
          go_wp2
          go_quiet (fail)
          go_wp2
          go_ret
          exact ⟨ret_bool HF.out.symm, belowN hb _⟩
      · have HF := Lib.hid (same_yes hall HL.out (by omega))
        clear hall
        go_wp2
        go_ret
        exact ⟨ret_bool HF.out.symm, hb⟩
  · have hnb : ((l1.length : Int) != (l2.length : Int)) = true := by simp; omega
    have HF := Lib.hid (same_len hl)
    clear hl
    go_enter Try.func19, Try.ntmps19
    go_wp2
    go_ret
    exact ⟨ret_bool HF.out.symm, Below.refl _ _⟩

def toksOk (l : List Tok) : Bool := decide (l.length ≤ 60) && l.all tokOk

set_option maxHeartbeats 4000000 in
set_option maxRecDepth 100000 in
theorem spec_TokensValid (v : Value) (l : List Tok) (fp : List Nat) (w : World) (H : (sSlice sTok).R w [v] l fp) :
    Calls Try.prog 54 #[v] w (Says (toksOk l) w) := by
  obtain ⟨a, cap, rfl, hc, hm, hrow⟩ := open_rows H
  unfold maxLen at hm
  clear H
  go_enter Try.func54, Try.ntmps54
  go_wp2
  go_loopw [3] (fun i wr => ∃ k : Nat, k ≤ l.length ∧ i = .int .i64 k ∧ AllUpto tokOk l k ∧ Below w.heap.size w wr) (fun i _ => l.length - (intOf i).toNat)
  case atStart => exact ⟨0, by omega, rfl, AllUpto.zero _ _, Below.refl _ _⟩
  case round =>
    obtain ⟨k, hk, rfl, hall, hb⟩ := hrel
    by_cases hlt : k < l.length
    · obtain ⟨b1, off1, fps1, rfl, hb1, -, he1⟩ := hrow (by omega)
      obtain ⟨es1, hE1, hR1⟩ := he1 k hlt
      clear hrow he1
      have hR2 := sTok.below hR1 hb
      obtain ⟨h1, rfl, _, _, _⟩ := hR1
      have HC := Lib.hid (spec_TokenValid _ _ _ wr hR2)
      clear hR2
      replace hE1 := hE1.frame (hb.block b1 hb1)
      have c10 : wr.cell? ⟨b1, off1 + k * 4, none⟩ = some _ := elem_cell0 hE1 (by decide) rfl
      have c11 : wr.cell? ⟨b1, off1 + k * 4 + 1, none⟩ = some _ := elem_cell (j := 1) hE1 (by decide) rfl
      have c12 : wr.cell? ⟨b1, off1 + k * 4 + 2, none⟩ = some _ := elem_cell (j := 2) hE1 (by decide) rfl
      have c13 : wr.cell? ⟨b1, off1 + k * 4 + 3, none⟩ = some _ := elem_cell (j := 3) hE1 (by decide) rfl
      clear hE1
      cases hv : tokOk l[k]
      · have HF := Lib.hid (all_no (p := tokOk) hlt hv)
        rw [hv] at HC
        clear hv hall
        go_wp2_with (go_at_call 39; refine (HC.out).mono ?_; rintro e w1 ⟨rfl, hb2⟩)
        go_ret
        exact ⟨ret_bool (by unfold toksOk; rw [HF.out]; simp), hb.trans (hb2.mono hb.size)⟩
      · have HN := Lib.hid (hall.succ hlt hv)
        rw [hv] at HC
        clear hv hall
        go_wp2_with (go_at_call 39; refine (HC.out).mono ?_; rintro e w1 ⟨rfl, hb2⟩)
        go_roundw
        case rel => exact ⟨k + 1, by omega, by go_num, HN.out, hb.trans (hb2.mono hb.size)⟩
        case measure => simp [intOf]; omega
    · have HF := Lib.hid (all_yes (p := tokOk) hall (by omega))
      clear hall
      go_wp2
      go_ret
      exact ⟨ret_bool (by unfold toksOk; rw [HF.out, Bool.and_true]; exact decide_eq_decide.2 (by omega)), hb⟩

set_option maxHeartbeats 4000000 in
set_option maxRecDepth 100000 in
theorem impl_TokensValid (v : Value) (l : List Tok) (fp : List Nat) (w : World) (H : (sSlice sTok).R w [v] l fp) :
    Calls Try.prog 46 #[v] w (Says (toksOk l) w) := by
  obtain ⟨a, cap, rfl, hc, hm, hrow⟩ := open_rows H
  unfold maxLen at hm
  clear H
  by_cases hl : 60 < l.length
  · go_enter Try.func46, Try.ntmps46
    go_wp2
    go_ret
    exact ⟨ret_bool (by unfold toksOk; rw [decide_eq_false (by omega)]; rfl), Below.refl _ _⟩
  go_enter Try.func46, Try.ntmps46
  go_wp2
  go_loopw [10] (fun i wr => ∃ k : Nat, k ≤ l.length ∧ i = .int .i64 k ∧ AllUpto tokOk l k ∧ Below w.heap.size w wr) (fun i _ => l.length - (intOf i).toNat)
  case atStart => exact ⟨0, by omega, rfl, AllUpto.zero _ _, Below.refl _ _⟩
  case round =>
    obtain ⟨k, hk, rfl, hall, hb⟩ := hrel
    by_cases hlt : k < l.length
    · obtain ⟨b1, off1, fps1, rfl, hb1, -, he1⟩ := hrow (by omega)
      obtain ⟨es1, hE1, hR1⟩ := he1 k hlt
      clear hrow he1
      have hR2 := sTok.below hR1 hb
      obtain ⟨h1, rfl, _, _, K1⟩ := hR1
      obtain ⟨ah, caph, rfl, -⟩ := open_rows K1
      clear K1
      have HC : Hid (∀ W, Below wr.heap.size wr W → Calls Try.prog 80 #[.agg #[.int .i64 l[k].kind, .string l[k].text, .bool l[k].spaced, .slice ah l[k].hidden.length caph]] W (Says (tokOk l[k]) W)) := fun W hW => impl_TokenValid _ _ _ W (sTok.below hR2 hW)
      clear hR2
      replace hE1 := hE1.frame (hb.block b1 hb1)
      have c10 : wr.cell? ⟨b1, off1 + k * 4, none⟩ = some _ := elem_cell0 hE1 (by decide) rfl
      have c11 : wr.cell? ⟨b1, off1 + k * 4 + 1, none⟩ = some _ := elem_cell (j := 1) hE1 (by decide) rfl
      have c12 : wr.cell? ⟨b1, off1 + k * 4 + 2, none⟩ = some _ := elem_cell (j := 2) hE1 (by decide) rfl
      have c13 : wr.cell? ⟨b1, off1 + k * 4 + 3, none⟩ = some _ := elem_cell (j := 3) hE1 (by decide) rfl
      clear hE1
      cases hv : tokOk l[k]
      · have HF := Lib.hid (all_no (p := tokOk) hlt hv)
        rw [hv] at HC
        clear hv hall
        go_wp2_with (go_at_call 80; refine (HC.out _ (alloc_below' _ _)).mono ?_; rintro e w1 ⟨rfl, hb2⟩)
        go_ret
        have hb3 := (alloc_below' wr (.cells #[.int .i64 l[k].kind, .string l[k].text, .bool l[k].spaced, .slice ah l[k].hidden.length caph] 60))
        exact ⟨ret_bool (by unfold toksOk; rw [HF.out]; simp), hb.trans ((hb3.trans (hb2.mono hb3.size)).mono hb.size)⟩
      · have HN := Lib.hid (hall.succ hlt hv)
        rw [hv] at HC
        clear hv hall
        go_wp2_with (go_at_call 80; refine (HC.out _ (alloc_below' _ _)).mono ?_; rintro e w1 ⟨rfl, hb2⟩)
        have hb3 := (alloc_below' wr (.cells #[.int .i64 l[k].kind, .string l[k].text, .bool l[k].spaced, .slice ah l[k].hidden.length caph] 60))
        go_roundw
        case rel => exact ⟨k + 1, by omega, by go_num, HN.out, hb.trans ((hb3.trans (hb2.mono hb3.size)).mono hb.size)⟩
        case measure => simp [intOf]; omega
    · have HF := Lib.hid (all_yes (p := tokOk) hall (by omega))
      clear hall
      go_wp2
      go_ret
      exact ⟨ret_bool (by unfold toksOk; rw [HF.out, Bool.and_true]; exact (decide_eq_true (by omega)).symm), hb⟩

end Go.Proofs.Ytigbaeokccknaaa
