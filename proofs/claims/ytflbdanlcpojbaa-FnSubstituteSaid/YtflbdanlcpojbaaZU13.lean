/- Texts that the proof of U stands on, in one file. -/
import Derived.Test.YtflbdanlcpojbaaZU8
import Derived.Test.YtflbdanlcpojbaaZU7
import Derived.Test.YtflbdanlcpojbaaZU12
import Derived.Test.YtflbdanlcpojbaaZU11
import Derived.Test.YtflbdanlcpojbaaZU10
import Derived.Lib.Join
set_option linter.unusedVariables false
set_option linter.unusedSimpArgs false
/- TokenBytes, textWithin and TextToken of the program. (Made by gen_txt.py.) -/
namespace Go.Proofs.Ytflbdanlcpojbaa
open Go.RowKit

/-! ### What stands between the quotes -/
def mid (s : ByteArray) : ByteArray := s.extract 1 (s.size - 1)
theorem mid_size (s : ByteArray) : (mid s).size = s.size - 2 := by unfold mid; rw [ByteArray.size_extract]; omega
theorem mid_get {s : ByteArray} {i : Nat} (h : i < (mid s).size) : (mid s)[i] = s[i + 1]'(by rw [mid_size] at h; omega) := by
  have h2 : i + 1 < s.size := by rw [mid_size] at h; omega
  have : (mid s)[i] = s[1 + i]'(by omega) := ext_get s 1 (s.size - 1) i h
  rw [this]
  have e : 1 + i = i + 1 := by omega
  simp only [e]
theorem mid_one {s : ByteArray} {i : Nat} (h : i < (mid s).size) : (mid s).extract i (i + 1) = s.extract (i + 1) (i + 2) := by
  have h2 : i + 1 < s.size := by rw [mid_size] at h; omega
  rw [ex_one h, ex_one h2, mid_get h]
def MidAt (s : ByteArray) (i : Nat) (out : ByteArray) : Prop := OutAt s (i + 1) out
theorem MidAt.start {s : ByteArray} (h : tClose s 1 = some s.size) : MidAt s 0 ⟨#[]⟩ := OutAt.start h
theorem MidAt.back {s : ByteArray} {i : Nat} {out : ByteArray} (h : MidAt s i out) (hi : i < (mid s).size) (hc : (mid s)[i].toNat = 92) : i + 1 < (mid s).size ∧ MidAt s (i + 2) (out ++ (mid s).extract (i + 1) (i + 2)) := by
  have hz := mid_size s
  rw [mid_get hi] at hc
  obtain ⟨h1, h2⟩ := OutAt.back h (by omega) hc
  have h3 : i + 1 < (mid s).size := by omega
  exact ⟨h3, by rw [mid_one h3]; exact h2⟩
theorem MidAt.byte {s : ByteArray} {i : Nat} {out : ByteArray} (h : MidAt s i out) (hi : i < (mid s).size) (hc : ¬ (mid s)[i].toNat = 92) : MidAt s (i + 1) (out ++ (mid s).extract i (i + 1)) := by
  have hz := mid_size s
  rw [mid_get hi] at hc
  rw [mid_one hi]
  exact OutAt.byte h (by omega) hc
theorem MidAt.done {s : ByteArray} {i : Nat} {out : ByteArray} (h : MidAt s i out) (hi : (mid s).size ≤ i) : out = outTo s 1 := OutAt.done h (by have := mid_size s; omega)
theorem MidAt.size {s : ByteArray} {i : Nat} {out : ByteArray} (h : MidAt s i out) : out.size ≤ i + 1 := h.2.2.2

set_option maxHeartbeats 8000000 in
set_option maxRecDepth 100000 in
theorem impl_textWithin (cs : List Value) (x : Tok) (fp : List Nat) (w : World) (hz : x.text.size ≤ 200) (H : sTok.R w cs x fp) :
    Calls Try.prog 77 #[.agg cs.toArray] w (StrOf (bit x) w) := by
  obtain ⟨h, rfl, -, -, -⟩ := H
  have hb0 := alloc_below' w (.cells #[.int .i64 x.kind, .string x.text, .bool x.spaced, h] 35)
  have HX := Lib.hid (heap_alloc_new w (.cells #[.int .i64 x.kind, .string x.text, .bool x.spaced, h] 35))
  by_cases h3 : x.kind = 3
  rotate_left
  · have HF : Hid (x.text = bit x) := by show _ = _; unfold bit; rw [if_neg h3]
    have hk' : (x.kind != 3) = true := by simp [h3]
    clear h3
    go_enter Try.func77, Try.ntmps77
    go_wp2
    go_ret
    exact ⟨ret_text HF.out, hb0⟩
  have HF : Hid (escTo x.text x.text.size = bit x) := by show _ = _; unfold bit; rw [if_pos h3]
  have hk' : (x.kind != 3) = false := by simp [h3]
  clear h3
  go_enter Try.func77, Try.ntmps77
  go_wp2
  have hs0 : (w.alloc (.cells #[.int .i64 x.kind, .string x.text, .bool x.spaced, h] 35)).heap.size = w.heap.size + 1 := by show (w.heap.push _).size = _; simp
  have HS0 := Lib.hid hs0
  clear hs0
  generalize (w.alloc (.cells #[.int .i64 x.kind, .string x.text, .bool x.spaced, h] 35)) = W1 at *
  go_loopw [3, 13] (fun o i wr => ∃ (k : Nat) (out : ByteArray), i = .int .i64 k ∧ k ≤ x.text.size ∧ Hid (out = escTo x.text k) ∧ Bytes W1.heap.size o out wr ∧ Below W1.heap.size W1 wr) (fun _ i _ => x.text.size - (intOf i).toNat)
  case atStart => exact ⟨0, _, rfl, by omega, rfl, Bytes.none _ _, Below.refl _ _⟩
  case round =>
    obtain ⟨k, out, rfl, hk, HO, hown, hb⟩ := hrel
    have ho : out.size ≤ 2 * k := by rw [HO.out]; exact escTo_size _ k
    have hbs := hb.size
    have hcv := run_own_string hown
    have hlt1 : w.heap.size < W1.heap.size := by have := HS0.out; omega
    have c1 : wr.cell? ⟨w.heap.size, 1, none⟩ = some (.string x.text) := (hb.cell (p := ⟨w.heap.size, 1, none⟩) hlt1).trans (cell_of_row _ _ 1 _ _ _ HX.out)
    by_cases hlt : k < x.text.size
    · have hb1 := strCells_at x.text k hlt
      rcases q_ways x.text[k] with ⟨e1, HQ⟩ | ⟨e1, e2, HQ⟩ | ⟨e1, e2, HQ⟩
      · have HN : Hid (out ++ ⟨#[92]⟩ ++ x.text.extract k (k + 1) = escTo x.text (k + 1)) := by show _ = _; rw [escTo_q hlt HQ.out, HO.out]
        clear HO HQ
        go_wp2_with (first
          | (at_builtin; refine wp_append_byte rfl (.tmp 28) (.tmp 29) rfl W1.heap.size _ out ⟨#[92]⟩ 92 rfl hown rfl rfl (by omega) hbs ?_; intro v1 w1 hown1 hg1; have hbel1 := hb.grown hg1 hbs (fun b hb => (hown.lt b hb).1); have c2 : w1.cell? ⟨w.heap.size, 1, none⟩ = some (.string x.text) := (hbel1.cell (p := ⟨w.heap.size, 1, none⟩) hlt1).trans (cell_of_row _ _ 1 _ _ _ HX.out))
          | (at_builtin; refine wp_append_byte rfl (.tmp 31) (.tmp 36) rfl W1.heap.size _ (out ++ ⟨#[92]⟩) (x.text.extract k (k + 1)) _ rfl hown1 rfl hb1 (by rw [ByteArray.size_append]; have : (⟨#[92]⟩ : ByteArray).size = 1 := rfl; omega) hbel1.size ?_; intro v2 w2 hown2 hg2))
        have hbel2 := hbel1.grown hg2 hbel1.size (fun b hb => (hown1.lt b hb).1)
        go_roundw
        case rel => exact ⟨k + 1, _, by go_num, by omega, HN.out, hown2, hbel2⟩
        case measure => simp [intOf]; omega
      · have HN : Hid (out ++ ⟨#[92]⟩ ++ x.text.extract k (k + 1) = escTo x.text (k + 1)) := by show _ = _; rw [escTo_q hlt HQ.out, HO.out]
        clear HO HQ
        go_wp2_with (first
          | (at_builtin; refine wp_append_byte rfl (.tmp 28) (.tmp 29) rfl W1.heap.size _ out ⟨#[92]⟩ 92 rfl hown rfl rfl (by omega) hbs ?_; intro v1 w1 hown1 hg1; have hbel1 := hb.grown hg1 hbs (fun b hb => (hown.lt b hb).1); have c2 : w1.cell? ⟨w.heap.size, 1, none⟩ = some (.string x.text) := (hbel1.cell (p := ⟨w.heap.size, 1, none⟩) hlt1).trans (cell_of_row _ _ 1 _ _ _ HX.out))
          | (at_builtin; refine wp_append_byte rfl (.tmp 31) (.tmp 36) rfl W1.heap.size _ (out ++ ⟨#[92]⟩) (x.text.extract k (k + 1)) _ rfl hown1 rfl hb1 (by rw [ByteArray.size_append]; have : (⟨#[92]⟩ : ByteArray).size = 1 := rfl; omega) hbel1.size ?_; intro v2 w2 hown2 hg2))
        have hbel2 := hbel1.grown hg2 hbel1.size (fun b hb => (hown1.lt b hb).1)
        go_roundw
        case rel => exact ⟨k + 1, _, by go_num, by omega, HN.out, hown2, hbel2⟩
        case measure => simp [intOf]; omega
      · have HN : Hid (out ++ x.text.extract k (k + 1) = escTo x.text (k + 1)) := by show _ = _; rw [escTo_n hlt HQ.out, HO.out]
        clear HO HQ
        go_wp2_with (at_builtin; refine wp_append_byte rfl (.tmp 31) (.tmp 36) rfl W1.heap.size _ out (x.text.extract k (k + 1)) _ rfl hown rfl hb1 (by omega) hbs ?_; intro v2 w2 hown2 hg2)
        have hbel2 := hb.grown hg2 hbs (fun b hb => (hown.lt b hb).1)
        go_roundw
        case rel => exact ⟨k + 1, _, by go_num, by omega, HN.out, hown2, hbel2⟩
        case measure => simp [intOf]; omega
    · have HD : Hid (out = bit x) := by show _ = _; rw [← HF.out, HO.out, show k = x.text.size by omega]
      clear HO
      go_wp2
      go_ret
      exact ⟨ret_text HD.out, hb0.trans (hb.mono (by have := HS0.out; omega))⟩

/-! ### TextToken -/
theorem strCells_quote (s : ByteArray) : Lib.strCells s ++ [.int .u8 34] = Lib.strCells (s ++ ⟨#[34]⟩) := by
  unfold Lib.strCells; rw [ByteArray.data_append, Array.toList_append, List.map_append]; rfl
theorem bldQuote {b : Nat} {s : ByteArray} {w : World} (h : Bld b s w) (hs : s.size ≤ 1048576) :
    Calls Try.prog 75 #[.pointer (some ⟨b, 0, none⟩), .int .u8 34] w fun e w' => e = .returned .nilIface ∧ Bld b (s ++ ⟨#[34]⟩) w' ∧ Below b w w' ∧ Lib.OthersKept 5 (some b) w w' :=
  (bld_byte b b _ 34 w h (by rw [Lib.strCells_length]; exact hs) (Nat.le_of_lt h.lt)).mono fun e w' ⟨h1, h2⟩ => ⟨h1, Bld.of h2 (strCells_quote s), h2.2.1, h2.2.2⟩
def qTo (l : List Tok) (k : Nat) : ByteArray := ⟨#[34]⟩ ++ joinTo l k
theorem qTo_size {l : List Tok} (h : toksOk l = true) {k : Nat} (hk : k ≤ l.length) : (qTo l k).size ≤ 401 * k + 1 := by
  have := joinTo_size h k hk
  have h1 : (⟨#[34]⟩ : ByteArray).size = 1 := rfl
  unfold qTo; rw [ByteArray.size_append]; omega
theorem qTo_sp {l : List Tok} {k : Nat} (hk : k < l.length) (h0 : 0 < k) (h : l[k].spaced = true) : qTo l (k + 1) = qTo l k ++ ⟨#[32]⟩ ++ bit l[k] := by
  unfold qTo; rw [joinTo_sp hk h0 h, ByteArray.append_assoc, ByteArray.append_assoc, ByteArray.append_assoc]
theorem qTo_no {l : List Tok} {k : Nat} (hk : k < l.length) (h : ¬ (0 < k ∧ l[k].spaced = true)) : qTo l (k + 1) = qTo l k ++ bit l[k] := by
  unfold qTo; rw [joinTo_no hk h, ByteArray.append_assoc]
theorem qTo_zero (l : List Tok) : (⟨#[]⟩ : ByteArray) ++ ⟨#[34]⟩ = qTo l 0 := rfl
theorem qTo_end (l : List Tok) : qTo l l.length ++ ⟨#[34]⟩ = quoted (joinTo l l.length) := rfl

set_option maxHeartbeats 16000000 in
set_option maxRecDepth 100000 in
theorem impl_TextToken (v : Value) (l : List Tok) (fp : List Nat) (w : World) (H : (sSlice sTok).R w [v] l fp) :
    Calls Try.prog 55 #[v] w (TextOf l w) := by
  have hz0 := alloc_below' w (.cells #[.int .i64 0, .string ⟨#[]⟩, .bool false, .slice none 0 0] 35)
  have HZ := Lib.hid (heap_alloc_new w (.cells #[.int .i64 0, .string ⟨#[]⟩, .bool false, .slice none 0 0] 35))
  have hs0 : (w.alloc (.cells #[.int .i64 0, .string ⟨#[]⟩, .bool false, .slice none 0 0] 35)).heap.size = w.heap.size + 1 := by show (w.heap.push _).size = _; simp
  have HL0 := (sSlice sTok).below H hz0
  have HV := Lib.hid (impl_TokensValid v l fp _ HL0)
  obtain ⟨a, cap, rfl, hc, hm, hrow⟩ := open_rows HL0
  unfold maxLen at hm
  clear H HL0
  cases hv : toksOk l
  · have HF := Lib.hid (txtRes_no hv)
    rw [hv] at HV
    clear hv hs0
    go_enter Try.func55, Try.ntmps55
    go_wp2_with fail
    refine HV.out.mono ?_
    rintro e w2 ⟨rfl, hb2⟩
    have hB2 := hz0.trans (hb2.mono hz0.size)
    replace HZ := Lib.hid (mbox HZ.out hb2)
    clear HV hb2 hz0
    have z0 : w2.cell? ⟨w.heap.size, 0, none⟩ = some (.int .i64 0) := cell_of_row _ _ 0 _ _ _ HZ.out
    have zf0 : w2.frozen? ⟨w.heap.size, 0, none⟩ = false := frozen_of_row _ _ 0 _ _ HZ.out
    have z1 : w2.cell? ⟨w.heap.size, 1, none⟩ = some (.string ⟨#[]⟩) := cell_of_row _ _ 1 _ _ _ HZ.out
    have zf1 : w2.frozen? ⟨w.heap.size, 1, none⟩ = false := frozen_of_row _ _ 1 _ _ HZ.out
    have z2 : w2.cell? ⟨w.heap.size, 2, none⟩ = some (.bool false) := cell_of_row _ _ 2 _ _ _ HZ.out
    have zf2 : w2.frozen? ⟨w.heap.size, 2, none⟩ = false := frozen_of_row _ _ 2 _ _ HZ.out
    have z3 : w2.cell? ⟨w.heap.size, 3, none⟩ = some (.slice none 0 0) := cell_of_row _ _ 3 _ _ _ HZ.out
    have zf3 : w2.frozen? ⟨w.heap.size, 3, none⟩ = false := frozen_of_row _ _ 3 _ _ HZ.out
    have HS := Lib.hid (blk_set (blk_set (blk_set (blk_set HZ.out 0 (.int .i64 0)) 1 (.string ⟨#[]⟩)) 2 (.bool false)) 3 (.slice none 0 0))
    have HBF := Lib.hid ((((hB2.setCell (p := ⟨w.heap.size, 0, none⟩) (Nat.le_refl _) (.int .i64 0)).setCell (p := ⟨w.heap.size, 1, none⟩) (Nat.le_refl _) (.string ⟨#[]⟩)).setCell (p := ⟨w.heap.size, 2, none⟩) (Nat.le_refl _) (.bool false)).setCell (p := ⟨w.heap.size, 3, none⟩) (Nat.le_refl _) (.slice none 0 0))
    go_wp2
    refine bodyPost_ret (results_cell2 rfl _ _ w.heap.size _ _ _ _ rfl HS.out Try.underlying35 rfl (by kernel_rfl)) rfl ?_
    exact textOf_no HF.out HBF.out
  rw [hv] at HV
  have HOK := Lib.hid (toksOk_facts hv)
  have hlen := HOK.out.1
  have HSZ := Lib.hid (fun k hk => qTo_size hv (k := k) hk)
  have HY := Lib.hid (fun h => txtRes_yes (l := l) hv rfl h)
  have HG := Lib.hid (fun h => txtRes_long (l := l) hv rfl h)
  have HQL := Lib.hid (quoted_long hv)
  have HVD := Lib.hid hv
  clear hv
  go_enter Try.func55, Try.ntmps55
  go_wp2_with fail
  refine HV.out.mono ?_
  rintro e w1 ⟨rfl, hb1⟩
  have hB1 := hz0.trans (hb1.mono hz0.size)
  replace HZ := Lib.hid (mbox HZ.out hb1)
  have hgz : w.heap.size < w1.heap.size := by have := hb1.size; omega
  have HROW : Hid (∀ k, (hk : k < l.length) → ∃ b1 off1 h1 fpk, a = some ⟨b1, off1, none⟩ ∧ b1 < w1.heap.size ∧ ElemAt w1 b1 off1 4 k [.int .i64 l[k].kind, .string l[k].text, .bool l[k].spaced, h1] ∧ sTok.R w1 [.int .i64 l[k].kind, .string l[k].text, .bool l[k].spaced, h1] l[k] fpk) := fun k hk => by
    obtain ⟨b1, off1, fps1, rfl, hb1', -, he1⟩ := hrow (by omega)
    obtain ⟨es1, hE1, hR1⟩ := he1 k hk
    have hR1' := hR1
    obtain ⟨h1, rfl, -, -, -⟩ := hR1
    exact ⟨b1, off1, h1, _, rfl, Nat.lt_of_lt_of_le hb1' hb1.size, hE1.frame (hb1.block b1 hb1'), sTok.below hR1' hb1⟩
  clear hrow HV hb1 hz0 hs0
  have HB0 := Lib.hid (Bld.fresh w1)
  have hb2 := alloc_below' w1 (.cells #[.pointer none, .slice none 0 0] 103)
  go_wp2_with fail
  refine (bldQuote HB0.out (by show (0 : Nat) ≤ _; omega)).mono ?_
  rintro e w2 ⟨rfl, hB2, hb3, -⟩
  have hb4 := hb2.trans (hb3.mono (Nat.le_refl _))
  rw [qTo_zero l] at hB2
  replace HB0 := Lib.hid hB2
  clear hb2 hb3 hB2
  go_wp2_with fail
  go_loopw [14] (fun i wr => ∃ (k : Nat), k ≤ l.length ∧ i = .int .i64 k ∧ Hid (Bld w1.heap.size (qTo l k) wr) ∧ Below w1.heap.size w1 wr) (fun i _ => l.length - (intOf i).toNat)
  case atStart => exact ⟨0, by omega, rfl, HB0, hb4⟩
  case round =>
    obtain ⟨k, hk, rfl, HB, hb⟩ := hrel
    clear HB0 hb4
    by_cases hlt : k < l.length
    · obtain ⟨b1, off1, h1, fpk, rfl, hb1', hE1, hR1⟩ := HROW.out k hlt
      replace hE1 := hE1.frame (hb.block b1 hb1')
      have c10 : wr.cell? ⟨b1, off1 + k * 4, none⟩ = some _ := elem_cell0 hE1 (by decide) rfl
      have c11 : wr.cell? ⟨b1, off1 + k * 4 + 1, none⟩ = some _ := elem_cell (j := 1) hE1 (by decide) rfl
      have c12 : wr.cell? ⟨b1, off1 + k * 4 + 2, none⟩ = some _ := elem_cell (j := 2) hE1 (by decide) rfl
      have c13 : wr.cell? ⟨b1, off1 + k * 4 + 3, none⟩ = some _ := elem_cell (j := 3) hE1 (by decide) rfl
      have hsz1 := (tokOk_facts (HOK.out.2 k hlt)).2
      have hbz := bit_size l[k]
      have hso := HSZ.out k hk
      have HT : Hid (∀ W, Below w1.heap.size w1 W → Calls Try.prog 77 #[.agg #[.int .i64 l[k].kind, .string l[k].text, .bool l[k].spaced, h1]] W (StrOf (bit l[k]) W)) := fun W hW => impl_textWithin _ l[k] _ W hsz1 (sTok.below hR1 hW)
      obtain ⟨ah, caph, rfl⟩ : ∃ ah caph, h1 = .slice ah l[k].hidden.length caph := by
        obtain ⟨h', e', -, -, K⟩ := hR1
        obtain ⟨ah, caph, e2, -⟩ := open_rows K
        simp only [List.cons.injEq, and_true, true_and] at e'
        exact ⟨ah, caph, by rw [e', e2]⟩
      have hbx : Below wr.heap.size wr (wr.alloc (.cells #[.int .i64 l[k].kind, .string l[k].text, .bool l[k].spaced, .slice ah l[k].hidden.length caph] 35)) := alloc_below' _ _
      have HX := Lib.hid (heap_alloc_new wr (.cells #[.int .i64 l[k].kind, .string l[k].text, .bool l[k].spaced, .slice ah l[k].hidden.length caph] 35))
      have HB1 := Lib.hid (HB.out.below hbx)
      have hlw := HB.out.lt
      have hbw := hb.trans (hbx.mono hb.size)
      have hne : wr.heap.size ≠ w1.heap.size := by omega
      clear hE1 hR1 hbx
      by_cases h0 : k = 0
      · have h00 : ¬ (0 : Int) < (k : Int) := by omega
        have h01 : decide ((0 : Int) < (k : Int)) = false := by simp; omega
        have h02 : decide (0 < k) = false := by simp; omega
        have HNS : Hid (¬ (0 < k ∧ l[k].spaced = true)) := fun h => by omega
        clear h0
        have HN := Lib.hid (qTo_no hlt HNS.out)
        go_wp2_with fail
        refine (HT.out _ hbw).mono ?_
        rintro e w3 ⟨rfl, hb3⟩
        have HB3 := Lib.hid (HB1.out.below hb3)
        have hbw3 := hbw.trans (hb3.mono hbw.size)
        clear c10 c11 c12 c13 hb3
        go_wp2_with fail
        refine (bldText HB3.out (by omega)).mono ?_
        rintro e w4 ⟨rfl, hB4, hb4, -⟩
        rw [← HN.out] at hB4
        have hbw4 := hbw3.trans (hb4.mono (Nat.le_refl _))
        go_wp2
        go_roundw
        case rel => exact ⟨k + 1, by omega, by go_num, hB4, hbw4⟩
        case measure => simp [intOf]; omega
      · have h00 : (0 : Int) < (k : Int) := by omega
        have h01 : decide ((0 : Int) < (k : Int)) = true := by simp; omega
        have h02 : decide (0 < k) = true := by simp; omega
        cases hsp : l[k].spaced
        · have HNS : Hid (¬ (0 < k ∧ l[k].spaced = true)) := fun h => by rw [hsp] at h; exact absurd h.2 (by simp)
          rw [hsp] at c12 HT HX HB1 hbw
          have HN := Lib.hid (qTo_no hlt HNS.out)
          go_wp2_with fail
          refine (HT.out _ hbw).mono ?_
          rintro e w3 ⟨rfl, hb3⟩
          have HB3 := Lib.hid (HB1.out.below hb3)
          have hbw3 := hbw.trans (hb3.mono hbw.size)
          clear c10 c11 c12 c13 hb3
          go_wp2_with fail
          refine (bldText HB3.out (by omega)).mono ?_
          rintro e w4 ⟨rfl, hB4, hb4, -⟩
          rw [← HN.out] at hB4
          have hbw4 := hbw3.trans (hb4.mono (Nat.le_refl _))
          go_wp2
          go_roundw
          case rel => exact ⟨k + 1, by omega, by go_num, hB4, hbw4⟩
          case measure => simp [intOf]; omega
        · have HN := Lib.hid (qTo_sp hlt (by omega) hsp)
          rw [hsp] at c12 HT HX HB1 hbw
          go_wp2_with fail
          refine (bldByte HB1.out (by omega)).mono ?_
          rintro e w3 ⟨rfl, hB3, hb3, hk3⟩
          have hbw3 := hbw.trans (hb3.mono (Nat.le_refl _))
          have HX3 := Lib.hid (kept_cell hk3 HX.out hne (by decide))
          have q0 : w3.cell? ⟨wr.heap.size, 0, none⟩ = some (.int .i64 l[k].kind) := cell_of_row _ _ 0 _ _ _ HX3.out
          have q1 : w3.cell? ⟨wr.heap.size, 1, none⟩ = some (.string l[k].text) := cell_of_row _ _ 1 _ _ _ HX3.out
          have q2 : w3.cell? ⟨wr.heap.size, 2, none⟩ = some (.bool true) := cell_of_row _ _ 2 _ _ _ HX3.out
          have q3 : w3.cell? ⟨wr.heap.size, 3, none⟩ = some (.slice ah l[k].hidden.length caph) := cell_of_row _ _ 3 _ _ _ HX3.out
          have HB3 := Lib.hid hB3
          have h32 : (qTo l k ++ (⟨#[32]⟩ : ByteArray)).size ≤ 401 * k + 2 := by rw [ByteArray.size_append]; have : (⟨#[32]⟩ : ByteArray).size = 1 := rfl; omega
          have H32 := Lib.hid h32
          clear c10 c11 c12 c13 hb3 hk3 hB3 h32
          go_wp2_with fail
          refine (HT.out _ hbw3).mono ?_
          rintro e w4 ⟨rfl, hb4⟩
          have HB4 := Lib.hid (HB3.out.below hb4)
          have hbw4 := hbw3.trans (hb4.mono hbw3.size)
          clear q0 q1 q2 q3 hb4
          go_wp2_with fail
          refine (bldText HB4.out (by have := H32.out; omega)).mono ?_
          rintro e w5 ⟨rfl, hB5, hb5, -⟩
          rw [← HN.out] at hB5
          have hbw5 := hbw4.trans (hb5.mono (Nat.le_refl _))
          go_wp2
          go_roundw
          case rel => exact ⟨k + 1, by omega, by go_num, hB5, hbw5⟩
          case measure => simp [intOf]; omega
    · have hso := HSZ.out k hk
      have hkl : k = l.length := by omega
      have HE : Hid (qTo l k ++ ⟨#[34]⟩ = quoted (joinTo l l.length)) := by show _ = _; rw [hkl]; exact qTo_end l
      clear hkl
      go_wp2_with fail
      refine (bldQuote HB.out (by omega)).mono ?_
      rintro e w3 ⟨rfl, hB3, hb3, -⟩
      rw [HE.out] at hB3
      have HQL2 := HQL.out
      generalize quoted (joinTo l l.length) = Q at *
      have HL := Lib.hid (bldLen hB3)
      have HS := Lib.hid (bldString hB3)
      have hb5 := hb.trans (hb3.mono (Nat.le_refl _))
      have hbB := hB1.trans (hb5.mono hB1.size)
      replace HZ := Lib.hid (mbox HZ.out hb5)
      have hQ : Q.size ≤ 50000 := HQL2
      clear hb3 hB3 HQL2
      by_cases hbig : 200 < Q.size
      · have HF := Lib.hid (HG.out hbig)
        clear HG HY
        go_wp2_with fail
        refine HL.out.mono ?_
        rintro e w4 ⟨rfl, rfl⟩
        clear HL HS
        have z0 : w4.cell? ⟨w.heap.size, 0, none⟩ = some (.int .i64 0) := cell_of_row _ _ 0 _ _ _ HZ.out
        have zf0 : w4.frozen? ⟨w.heap.size, 0, none⟩ = false := frozen_of_row _ _ 0 _ _ HZ.out
        have z1 : w4.cell? ⟨w.heap.size, 1, none⟩ = some (.string ⟨#[]⟩) := cell_of_row _ _ 1 _ _ _ HZ.out
        have zf1 : w4.frozen? ⟨w.heap.size, 1, none⟩ = false := frozen_of_row _ _ 1 _ _ HZ.out
        have z2 : w4.cell? ⟨w.heap.size, 2, none⟩ = some (.bool false) := cell_of_row _ _ 2 _ _ _ HZ.out
        have zf2 : w4.frozen? ⟨w.heap.size, 2, none⟩ = false := frozen_of_row _ _ 2 _ _ HZ.out
        have z3 : w4.cell? ⟨w.heap.size, 3, none⟩ = some (.slice none 0 0) := cell_of_row _ _ 3 _ _ _ HZ.out
        have zf3 : w4.frozen? ⟨w.heap.size, 3, none⟩ = false := frozen_of_row _ _ 3 _ _ HZ.out
        have HS := Lib.hid (blk_set (blk_set (blk_set (blk_set HZ.out 0 (.int .i64 0)) 1 (.string ⟨#[]⟩)) 2 (.bool false)) 3 (.slice none 0 0))
        have HBF := Lib.hid ((((hbB.setCell (p := ⟨w.heap.size, 0, none⟩) (Nat.le_refl _) (.int .i64 0)).setCell (p := ⟨w.heap.size, 1, none⟩) (Nat.le_refl _) (.string ⟨#[]⟩)).setCell (p := ⟨w.heap.size, 2, none⟩) (Nat.le_refl _) (.bool false)).setCell (p := ⟨w.heap.size, 3, none⟩) (Nat.le_refl _) (.slice none 0 0))
        go_wp2
        refine bodyPost_ret (results_cell2 rfl _ _ w.heap.size _ _ _ _ rfl HS.out Try.underlying35 rfl (by kernel_rfl)) rfl ?_
        exact textOf_no HF.out HBF.out
      · have HF := Lib.hid (HY.out hbig)
        clear HG HY
        go_wp2_with fail
        refine HL.out.mono ?_
        rintro e w4 ⟨rfl, rfl⟩
        go_wp2_with fail
        refine HS.out.mono ?_
        rintro e w5 ⟨rfl, hb6⟩
        have hbC := hbB.trans (hb6.mono (by omega))
        replace HZ := Lib.hid ((hb6.block _ hgz).trans HZ.out)
        clear HL HS hb6
        have z0 : w5.cell? ⟨w.heap.size, 0, none⟩ = some (.int .i64 0) := cell_of_row _ _ 0 _ _ _ HZ.out
        have zf0 : w5.frozen? ⟨w.heap.size, 0, none⟩ = false := frozen_of_row _ _ 0 _ _ HZ.out
        have z1 : w5.cell? ⟨w.heap.size, 1, none⟩ = some (.string ⟨#[]⟩) := cell_of_row _ _ 1 _ _ _ HZ.out
        have zf1 : w5.frozen? ⟨w.heap.size, 1, none⟩ = false := frozen_of_row _ _ 1 _ _ HZ.out
        have z2 : w5.cell? ⟨w.heap.size, 2, none⟩ = some (.bool false) := cell_of_row _ _ 2 _ _ _ HZ.out
        have zf2 : w5.frozen? ⟨w.heap.size, 2, none⟩ = false := frozen_of_row _ _ 2 _ _ HZ.out
        have z3 : w5.cell? ⟨w.heap.size, 3, none⟩ = some (.slice none 0 0) := cell_of_row _ _ 3 _ _ _ HZ.out
        have zf3 : w5.frozen? ⟨w.heap.size, 3, none⟩ = false := frozen_of_row _ _ 3 _ _ HZ.out
        have HS := Lib.hid (blk_set (blk_set (blk_set (blk_set HZ.out 0 (.int .i64 3)) 1 (.string Q)) 2 (.bool false)) 3 (.slice none 0 0))
        have HBF := Lib.hid ((((hbC.setCell (p := ⟨w.heap.size, 0, none⟩) (Nat.le_refl _) (.int .i64 3)).setCell (p := ⟨w.heap.size, 1, none⟩) (Nat.le_refl _) (.string Q)).setCell (p := ⟨w.heap.size, 2, none⟩) (Nat.le_refl _) (.bool false)).setCell (p := ⟨w.heap.size, 3, none⟩) (Nat.le_refl _) (.slice none 0 0))
        go_wp2
        refine bodyPost_ret (results_cell2 rfl _ _ w.heap.size _ _ _ _ rfl HS.out Try.underlying35 rfl (by kernel_rfl)) rfl ?_
        exact textOf_yes HF.out HBF.out (by omega)

end Go.Proofs.Ytflbdanlcpojbaa

/- What is in place of a token of a body (pieceAt of the program). (Made by gen_sub8.py.) -/
namespace Go.Proofs.Ytflbdanlcpojbaa
open Go.RowKit

/-- What pieceAt hands back. -/
def PieceOf (P : List Tok × Nat × Bool) (w : World) (e : Ending) (w' : World) : Prop :=
  ∃ (v : Value) (L : List (Elem Tok)), e = .returned (.tuple #[v, .int .i64 (P.2.1 : Nat), .bool P.2.2]) ∧ RowN sTok w.heap.size 35 v L w' ∧ L.map (·.d) = P.1 ∧ Own w' w.heap.size (L.flatMap (·.fp)) ∧ Below w.heap.size w w'

set_option maxHeartbeats 16000000 in
set_option maxRecDepth 100000 in
theorem impl_pieceAt (csM : List Value) (m : DMacro) (fpM : List Nat) (vr vy : Value) (raw ready : List (List Tok)) (fpr fpy : List Nat) (k : Nat) (w : World) (hv : macOk m = true) (ha : argsOk m raw = true) (hy : argsOk m ready = true) (hk : k < m.body.length)
    (HM : sMacro.R w csM m fpM) (Hr : (sSlice (sSlice sTok)).R w [vr] raw fpr) (Hy : (sSlice (sSlice sTok)).R w [vy] ready fpy) :
    Calls Try.prog 27 #[.agg csM.toArray, vr, vy, .int .i64 k] w (PieceOf (partAt m raw ready k) w) := by
  have HM0 := HM
  obtain ⟨h2, h3, q2, q3, rfl, -, K2, K3, hfpM⟩ := HM
  obtain ⟨a2, c2, rfl, -⟩ := open_strs K2
  obtain ⟨a3, c3, rfl, hc3, hm3, hrow3⟩ := open_rows K3
  obtain ⟨bb, ob, -, rfl, -, -, -⟩ := hrow3 (by omega)
  unfold maxLen at hm3
  have hlen20 : m.body.length ≤ 20 := (macOk_facts hv).1.2.2.2.2
  have hraw : Hid (raw.length = m.params.length) := by show _ = _; unfold argsOk at ha; rw [Bool.and_eq_true, decide_eq_true_eq] at ha; exact ha.1
  have hrdy : Hid (ready.length = m.params.length) := by show _ = _; unfold argsOk at hy; rw [Bool.and_eq_true, decide_eq_true_eq] at hy; exact hy.1
  have HRA : Hid (∀ l ∈ raw, toksOk l = true) := args_all ha
  have HYA : Hid (∀ l ∈ ready, toksOk l = true) := args_all hy
  obtain ⟨ak, ck, fk, e0, e1, e2, e3, Rk, hbb, hfk⟩ := tok_at K3 hk
  have HV := Lib.hid hv
  have HIM : Hid (isM m.body[k] [35] = (m.body[k].text.toList == [35])) := body_isM hv hk []
  have HIX : Hid (idxTx m.params m.body[k].text 0 = parOf m.params m.body[k]) := idx_body hv hk
  have HHK : Hid (m.body[k].hidden.length ≤ 2000000) := by show _ ≤ _; rw [(bodOk_facts hk ((macOk_facts hv).2.2 k hk)).2.1]; simp
  have b0 := alloc_below' w (.cells #[.string m.name, .bool m.function, .slice a2 m.params.length c2, .slice (some ⟨bb, ob, none⟩) m.body.length c3] 26)
  have b1 := alloc_below' (w.alloc (.cells #[.string m.name, .bool m.function, .slice a2 m.params.length c2, .slice (some ⟨bb, ob, none⟩) m.body.length c3] 26)) (.cells #[.int .i64 m.body[k].kind, .string m.body[k].text, .bool m.body[k].spaced, .slice ak m.body[k].hidden.length ck] 35)
  have b2 : Below w.heap.size w ((w.alloc (.cells #[.string m.name, .bool m.function, .slice a2 m.params.length c2, .slice (some ⟨bb, ob, none⟩) m.body.length c3] 26)).alloc (.cells #[.int .i64 m.body[k].kind, .string m.body[k].text, .bool m.body[k].spaced, .slice ak m.body[k].hidden.length ck] 35)) := b0.trans (b1.mono b0.size)
  have HX := Lib.hid (alloc2_blk w #[.string m.name, .bool m.function, .slice a2 m.params.length c2, .slice (some ⟨bb, ob, none⟩) m.body.length c3] #[.int .i64 m.body[k].kind, .string m.body[k].text, .bool m.body[k].spaced, .slice ak m.body[k].hidden.length ck] 26 35)
  have g0 : (w.alloc (.cells #[.string m.name, .bool m.function, .slice a2 m.params.length c2, .slice (some ⟨bb, ob, none⟩) m.body.length c3] 26)).cell? ⟨bb, ob + k * 4, none⟩ = some _ := (b0.cell (p := ⟨bb, ob + k * 4, none⟩) hbb).trans e0
  have g1 : (w.alloc (.cells #[.string m.name, .bool m.function, .slice a2 m.params.length c2, .slice (some ⟨bb, ob, none⟩) m.body.length c3] 26)).cell? ⟨bb, ob + k * 4 + 1, none⟩ = some _ := (b0.cell (p := ⟨bb, ob + k * 4 + 1, none⟩) hbb).trans e1
  have g2 : (w.alloc (.cells #[.string m.name, .bool m.function, .slice a2 m.params.length c2, .slice (some ⟨bb, ob, none⟩) m.body.length c3] 26)).cell? ⟨bb, ob + k * 4 + 2, none⟩ = some _ := (b0.cell (p := ⟨bb, ob + k * 4 + 2, none⟩) hbb).trans e2
  have g3 : (w.alloc (.cells #[.string m.name, .bool m.function, .slice a2 m.params.length c2, .slice (some ⟨bb, ob, none⟩) m.body.length c3] 26)).cell? ⟨bb, ob + k * 4 + 3, none⟩ = some _ := (b0.cell (p := ⟨bb, ob + k * 4 + 3, none⟩) hbb).trans e3
  have HRk := Lib.hid (sTok.below Rk b2)
  have HMr := Lib.hid (sMacro.below HM0 b2)
  have HRR := Lib.hid ((sSlice (sSlice sTok)).below Hr b2)
  have HYY := Lib.hid ((sSlice (sSlice sTok)).below Hy b2)
  have HB2 := Lib.hid ((sSlice sTok).below K3 b2)
  have HP2 := Lib.hid ((sSlice sStr).below K2 b2)
  have hi0 : (0 : Int) ≤ (k : Int) := by omega
  have hi1 : (k : Int) < (m.body.length : Int) := by omega
  have hs2 : ((w.alloc (.cells #[.string m.name, .bool m.function, .slice a2 m.params.length c2, .slice (some ⟨bb, ob, none⟩) m.body.length c3] 26)).alloc (.cells #[.int .i64 m.body[k].kind, .string m.body[k].text, .bool m.body[k].spaced, .slice ak m.body[k].hidden.length ck] 35)).heap.size = w.heap.size + 2 := by show ((w.heap.push _).push _).size = _; simp
  clear HM0 K2 K3 Hr Hy Rk b0 b1 e0 e1 e2 e3 hv ha hy hfk hfpM hrow3
  go_enter Try.func27, Try.ntmps27
  go_upto_region 2 with fail
  clear g0 g1 g2 g3
  have hbs := b2.size
  clear hs2
  generalize ((w.alloc (.cells #[.string m.name, .bool m.function, .slice a2 m.params.length c2, .slice (some ⟨bb, ob, none⟩) m.body.length c3] 26)).alloc (.cells #[.int .i64 m.body[k].kind, .string m.body[k].text, .bool m.body[k].spaced, .slice ak m.body[k].hidden.length ck] 35)) = W2 at *
  go_cut [26] from 15 (fun d wr => d = .bool (m.function && isM m.body[k] [35]) ∧ wr = W2)
  case first =>
    have p0 := cell_of_row W2 (w.heap.size) 0 _ _ _ HX.out.1
    have p1 := cell_of_row W2 (w.heap.size) 1 _ _ _ HX.out.1
    have p2 := cell_of_row W2 (w.heap.size) 2 _ _ _ HX.out.1
    have p3 := cell_of_row W2 (w.heap.size) 3 _ _ _ HX.out.1
    rcases Bool.eq_false_or_eq_true m.function with hf | hf
    · have HFN := Lib.hid hf
      rw [hf] at p1
      clear hf
      have q0 := cell_of_row W2 (w.heap.size + 1) 0 _ _ _ HX.out.2
      have q1 := cell_of_row W2 (w.heap.size + 1) 1 _ _ _ HX.out.2
      have q2 := cell_of_row W2 (w.heap.size + 1) 2 _ _ _ HX.out.2
      have q3 := cell_of_row W2 (w.heap.size + 1) 3 _ _ _ HX.out.2
      go_wp2
      go_meet
      case rel => exact ⟨by rw [HFN.out, HIM.out]; rfl, by trivial⟩
    · have HFN := Lib.hid hf
      rw [hf] at p1
      clear hf
      go_wp2
      go_meet
      case rel => exact ⟨by rw [HFN.out]; rfl, by trivial⟩
  obtain ⟨rfl, rfl⟩ := hcut
  generalize wc = W2 at *
  cases hfi : (m.function && isM m.body[k] [35])
  rotate_left
  · skip
    obtain ⟨hft, hmt⟩ := Bool.and_eq_true_iff.1 hfi
    obtain ⟨hk1, n, hn, hnp⟩ := hash_next HV.out hk hft hmt
    have hnr : n < raw.length := by have := hraw.out; omega
    have HAR := Lib.hid (argAt_in (a := raw) hn hnr)
    have HPN := Lib.hid hn
    obtain ⟨kk, s, okb, hx, hkk0, hkk4, hsz⟩ := txt_bare raw[n]
    have HX0 := Lib.hid hx
    have HF := Lib.hid (part_text (raw := raw) (ready := ready) hk1 hft hmt (u := ⟨kk, s, false, []⟩) (o := okb) (by rw [HAR.out]; exact hx))
    obtain ⟨ya, yc, yf, -, y1, -, -, -, ybb, -⟩ := tok_at HB2.out hk1
    obtain ⟨ar, cr, rfl, -, -, hrowR⟩ := open_rows HRR.out
    obtain ⟨br, orr, -, rfl, -, -, -⟩ := hrowR (by omega)
    obtain ⟨aj, cj, fj, dq, Rj, hbr, -⟩ := rows_at HRR.out hnr
    have HLP : Hid (∀ (U : World), Below W2.heap.size W2 U → Calls Try.prog 56 #[.slice a2 m.params.length c2, .string (m.body[k + 1]'hk1).text] U fun e w' => e = .returned (.int .i64 (n : Nat)) ∧ w' = U) := fun U hU => by have := lib_Index _ m.params q2 (m.body[k + 1]'hk1).text U ((sSlice sStr).below HP2.out hU); rw [idx_body HV.out hk1, hn] at this; exact this
    have HTT := Lib.hid (fun (U : World) (hU : Below W2.heap.size W2 U) => impl_TextToken _ raw[n] fj U ((sSlice sTok).below Rj hU))
    have HS : Hid (∀ U : World, Below W2.heap.size W2 U → U.heap[w.heap.size]? = some (.cells #[.string m.name, .bool m.function, .slice a2 m.params.length c2, .slice (some ⟨bb, ob, none⟩) m.body.length c3] 26 (0, 0)) ∧ U.cell? ⟨bb, ob + (k + 1) * 4 + 1, none⟩ = some (.string (m.body[k + 1]'hk1).text) ∧ U.cell? ⟨br, orr + n, none⟩ = some (.slice aj raw[n].length cj)) := fun U hU => ⟨mbox HX.out.1 hU, (hU.cell (by show bb < W2.heap.size; omega)).trans y1, (hU.cell (by show br < W2.heap.size; omega)).trans dq⟩
    have hcs : Below W2.heap.size W2 W2.drew := belowN (Below.refl _ _) 1
    have hw1 : IntKind.i64.wrap ((k : Int) + 1) = (k : Int) + 1 := IntWalk.i64_in _ (by omega)
    have j1 : (0 : Int) ≤ (k : Int) + 1 := by omega
    have j2 : (k : Int) + 1 < (m.body.length : Int) := by omega
    have j3 : ((k : Int) + 1).toNat = k + 1 := by omega
    have j4 : (0 : Int) ≤ (n : Int) := by omega
    have j5 : (n : Int) < (raw.length : Int) := by omega
    have hbmm : 0 < m.body.length := by omega
    clear hx hn hft hmt hfi y1 dq Rj hrowR
    go_upto_region 3 with fail
    go_cut [12, 13] from 15 (fun d b wr => ∃ (gB : Nat) (ax : Option Addr) (cx : Nat), d = .pointer (some ⟨gB, 0, none⟩) ∧ b = .bool okb ∧ wr.heap[gB]? = some (.cells #[.int .i64 kk, .string s, .bool false, .slice ax 0 cx] 35 (0, 0)) ∧ W2.heap.size ≤ gB ∧ gB < wr.heap.size ∧ cx ≤ maxLen ∧ Below W2.heap.size W2 wr)
    case first =>
      refine wp_region_noPanic ?_
      refine wp_region_held_drew (S := fun w' => w'.heap[w.heap.size]? = some (.cells #[.string m.name, .bool m.function, .slice a2 m.params.length c2, .slice (some ⟨bb, ob, none⟩) m.body.length c3] 26 (0, 0)) ∧ w'.cell? ⟨bb, ob + (k + 1) * 4 + 1, none⟩ = some (.string (m.body[k + 1]'hk1).text) ∧ w'.cell? ⟨br, orr + n, none⟩ = some (.slice aj raw[n].length cj)) (by kernel_rfl) (by exact HS.out _ hcs) (fun hHeld => ?_)
      generalize W2.drew = wd at *
      refine takeH2 0 28 (v := ?_) rfl rfl (by kernel_rfl) (by kernel_rfl) (by kernel_rfl) (fun _ _ _ h => h) (by rfl) (by assumption) ?_ ?_
      rotate_left
      · intro w hSw; go_simp; (first | done | with_reducible rfl | rfl)
      try simp only [Act.put, List.setIfInBounds_toArray, List.set_cons_zero, List.set_cons_succ]
      refine takeH2 1 29 (v := ?_) rfl rfl (by kernel_rfl) (by kernel_rfl) (by kernel_rfl) (fun _ _ _ h => h) (by rfl) (by assumption) ?_ ?_
      rotate_left
      · intro w hSw; go_simp; (first | done | with_reducible rfl | rfl)
      try simp only [Act.put, List.setIfInBounds_toArray, List.set_cons_zero, List.set_cons_succ]
      refine takeH2 2 30 (v := ?_) rfl rfl (by kernel_rfl) (by kernel_rfl) (by kernel_rfl) (fun _ _ _ h => h) (by rfl) (by assumption) ?_ ?_
      rotate_left
      · intro w hSw; obtain ⟨sm, s1, sr⟩ := hSw; have m2 := cell_of_row _ _ 2 _ _ _ sm; have m3 := cell_of_row _ _ 3 _ _ _ sm; go_simp; (first | done | with_reducible rfl | rfl)
      try simp only [Act.put, List.setIfInBounds_toArray, List.set_cons_zero, List.set_cons_succ]
      refine takeH2 3 31 (v := ?_) rfl rfl (by kernel_rfl) (by kernel_rfl) (by kernel_rfl) (fun _ _ _ h => h) (by rfl) (by assumption) ?_ ?_
      rotate_left
      · intro w hSw; go_simp; (first | done | with_reducible rfl | rfl)
      try simp only [Act.put, List.setIfInBounds_toArray, List.set_cons_zero, List.set_cons_succ]
      refine takeH2 4 32 (v := ?_) rfl rfl (by kernel_rfl) (by kernel_rfl) (by kernel_rfl) (fun _ _ _ h => h) (by rfl) (by assumption) ?_ ?_
      rotate_left
      · intro w hSw; obtain ⟨sm, s1, sr⟩ := hSw; have m2 := cell_of_row _ _ 2 _ _ _ sm; have m3 := cell_of_row _ _ 3 _ _ _ sm; go_simp; (first | done | with_reducible rfl | rfl)
      try simp only [Act.put, List.setIfInBounds_toArray, List.set_cons_zero, List.set_cons_succ]
      refine takeH2 5 33 (v := ?_) rfl rfl (by kernel_rfl) (by kernel_rfl) (by kernel_rfl) (fun _ _ _ h => h) (by rfl) (by assumption) ?_ ?_
      rotate_left
      · intro w hSw; go_simp; (first | done | with_reducible rfl | rfl)
      try simp only [Act.put, List.setIfInBounds_toArray, List.set_cons_zero, List.set_cons_succ]
      refine takeH2 6 34 (v := ?_) rfl rfl (by kernel_rfl) (by kernel_rfl) (by kernel_rfl) (fun _ _ _ h => h) (by rfl) (by assumption) ?_ ?_
      rotate_left
      · intro w hSw; go_simp; (first | done | with_reducible rfl | rfl)
      try simp only [Act.put, List.setIfInBounds_toArray, List.set_cons_zero, List.set_cons_succ]
      refine takeH2 7 35 (v := ?_) rfl rfl (by kernel_rfl) (by kernel_rfl) (by kernel_rfl) (fun _ _ _ h => h) (by rfl) (by assumption) ?_ ?_
      rotate_left
      · intro w hSw; go_simp; (first | done | with_reducible rfl | rfl)
      try simp only [Act.put, List.setIfInBounds_toArray, List.set_cons_zero, List.set_cons_succ]
      refine takeH2 8 36 (v := ?_) rfl rfl (by kernel_rfl) (by kernel_rfl) (by kernel_rfl) (fun _ _ _ h => h) (by rfl) (by assumption) ?_ ?_
      rotate_left
      · intro w hSw; go_simp; (first | done | with_reducible rfl | rfl)
      try simp only [Act.put, List.setIfInBounds_toArray, List.set_cons_zero, List.set_cons_succ]
      refine takeH2 9 37 (v := ?_) rfl rfl (by kernel_rfl) (by kernel_rfl) (by kernel_rfl) (fun _ _ _ h => h) (by rfl) (by assumption) ?_ ?_
      rotate_left
      · intro w hSw; obtain ⟨sm, s1, sr⟩ := hSw; have m2 := cell_of_row _ _ 2 _ _ _ sm; have m3 := cell_of_row _ _ 3 _ _ _ sm; go_simp; (first | done | with_reducible rfl | rfl)
      try simp only [Act.put, List.setIfInBounds_toArray, List.set_cons_zero, List.set_cons_succ]
      refine wpAnyH_ready (rs := [10, 17]) (by kernel_rfl) (by simp) ?_
      refine AllReadyH.cons rfl (fun K hK => ?_) ?_
      · skip
        go_simp
        refine (HLP.out _ hcs).mono ?_
        rintro e wx1 ⟨rfl, rfl⟩
        have hx1 := hcs
        refine hK.out _ _ (HS.out _ hx1) (fun hHeld => ?_)
        clear hK K
        try simp only [Act.put, List.setIfInBounds_toArray, List.set_cons_zero, List.set_cons_succ]
        refine takeH2 11 39 (v := ?_) rfl rfl (by kernel_rfl) (by kernel_rfl) (by kernel_rfl) (fun _ _ _ h => h) (by rfl) (by assumption) ?_ ?_
        rotate_left
        · intro w hSw; go_simp; (first | done | with_reducible rfl | rfl)
        try simp only [Act.put, List.setIfInBounds_toArray, List.set_cons_zero, List.set_cons_succ]
        refine takeH2 12 40 (v := ?_) rfl rfl (by kernel_rfl) (by kernel_rfl) (by kernel_rfl) (fun _ _ _ h => h) (by rfl) (by assumption) ?_ ?_
        rotate_left
        · intro w hSw; obtain ⟨sm, s1, sr⟩ := hSw; have m2 := cell_of_row _ _ 2 _ _ _ sm; have m3 := cell_of_row _ _ 3 _ _ _ sm; go_simp; (first | done | with_reducible rfl | rfl)
        try simp only [Act.put, List.setIfInBounds_toArray, List.set_cons_zero, List.set_cons_succ]
        refine wpAnyH_ready (rs := [13, 17]) (by kernel_rfl) (by simp) ?_
        refine AllReadyH.cons rfl (fun K hK => ?_) ?_
        · skip
          go_simp
          refine (HTT.out _ hx1).mono ?_
          rintro e wx2 hT2
          obtain ⟨k9, s9, b9, ax, cx, e9, rfl, -, -, -, hcx, br2⟩ := hT2.bare
          rw [HX0.out] at e9
          simp only [Prod.mk.injEq, Tok.mk.injEq, and_true] at e9
          obtain ⟨⟨rfl, rfl⟩, rfl⟩ := e9
          have hx2 := hx1.trans (br2.mono hx1.size)
          refine hK.out _ _ (HS.out _ hx2) (fun hHeld => ?_)
          clear hK K
          try simp only [Act.put, List.setIfInBounds_toArray, List.set_cons_zero, List.set_cons_succ]
          refine takeH2 14 27 (v := ?_) rfl rfl (by kernel_rfl) (by kernel_rfl) (by kernel_rfl) (fun _ _ _ h => h) (by rfl) (by assumption) ?_ ?_
          rotate_left
          · intro w hSw; go_simp; (first | done | with_reducible rfl | rfl)
          try simp only [Act.put, List.setIfInBounds_toArray, List.set_cons_zero, List.set_cons_succ]
          refine takeH2 15 42 (v := ?_) rfl rfl (by kernel_rfl) (by kernel_rfl) (by kernel_rfl) (fun _ _ _ h => h) (by rfl) (by assumption) ?_ ?_
          rotate_left
          · intro w hSw; go_simp; (first | done | with_reducible rfl | rfl)
          try simp only [Act.put, List.setIfInBounds_toArray, List.set_cons_zero, List.set_cons_succ]
          refine takeH2 16 43 (v := ?_) rfl rfl (by kernel_rfl) (by kernel_rfl) (by kernel_rfl) (fun _ _ _ h => h) (by rfl) (by assumption) ?_ ?_
          rotate_left
          · intro w hSw; go_simp; (first | done | with_reducible rfl | rfl)
          try simp only [Act.put, List.setIfInBounds_toArray, List.set_cons_zero, List.set_cons_succ]
          refine wpAnyH_ready (rs := [17]) (by kernel_rfl) (by simp) ?_
          refine AllReadyH.cons rfl (fun K hK => ?_) AllReadyH.nil
          go_simp
          have bk := alloc_below' wx2 (.cells #[.int .i64 0, .string ⟨#[]⟩, .bool false, .slice none 0 0] 35)
          have HB := Lib.hid (heap_alloc_new wx2 (.cells #[.int .i64 0, .string ⟨#[]⟩, .bool false, .slice none 0 0] 35))
          have hx3 := hx2.trans (bk.mono hx2.size)
          have hge := hx2.size
          refine hK.out _ _ (HS.out _ hx3) (fun hHeld => ?_)
          clear hK K bk
          try simp only [Act.put, List.setIfInBounds_toArray, List.set_cons_zero, List.set_cons_succ]
          generalize (wx2.alloc (.cells #[.int .i64 0, .string ⟨#[]⟩, .bool false, .slice none 0 0] 35)) = wx3 at *
          have zc0 := cell_of_row wx3 (wx2.heap.size) 0 _ _ _ HB.out
          have zf0 : wx3.frozen? ⟨wx2.heap.size, 0, none⟩ = false := frozen_of_row _ _ 0 _ _ HB.out
          have zc1 := cell_of_row wx3 (wx2.heap.size) 1 _ _ _ HB.out
          have zf1 : wx3.frozen? ⟨wx2.heap.size, 1, none⟩ = false := frozen_of_row _ _ 1 _ _ HB.out
          have zc2 := cell_of_row wx3 (wx2.heap.size) 2 _ _ _ HB.out
          have zf2 : wx3.frozen? ⟨wx2.heap.size, 2, none⟩ = false := frozen_of_row _ _ 2 _ _ HB.out
          have zc3 := cell_of_row wx3 (wx2.heap.size) 3 _ _ _ HB.out
          have zf3 : wx3.frozen? ⟨wx2.heap.size, 3, none⟩ = false := frozen_of_row _ _ 3 _ _ HB.out
          have HD1 := Lib.hid (set4_at HB.out (.int .i64 kk) (.string s) (.bool false) (.slice ax 0 cx))
          have HD2 := Lib.hid (set4_below (g := wx2.heap.size) hx3 hge (.int .i64 kk) (.string s) (.bool false) (.slice ax 0 cx))
          have HD3 : Hid (wx2.heap.size < (set4 wx3 (wx2.heap.size) (.int .i64 kk) (.string s) (.bool false) (.slice ax 0 cx)).heap.size) := by show _ < _; rw [set4_size]; exact mlt HB.out
          refine wpAnyH_ready (rs := [18]) (by kernel_rfl) (by simp) ?_
          refine AllReadyH.cons rfl (fun K hK => ?_) AllReadyH.nil
          go_simp
          change K _ (set4 wx3 (wx2.heap.size) (.int .i64 kk) (.string s) (.bool false) (.slice ax 0 cx))
          refine hK.out _ _ (HS.out _ HD2.out) (fun hHeld => ?_)
          clear hK K
          try simp only [Act.put, List.setIfInBounds_toArray, List.set_cons_zero, List.set_cons_succ]
          refine takeH2 19 13 (v := ?_) rfl rfl (by kernel_rfl) (by kernel_rfl) (by kernel_rfl) (fun _ _ _ h => h) (by rfl) (by assumption) ?_ ?_
          rotate_left
          · intro w hSw; go_simp; (first | done | with_reducible rfl | rfl)
          try simp only [Act.put, List.setIfInBounds_toArray, List.set_cons_zero, List.set_cons_succ]
          refine wpAnyH_done (by kernel_rfl) ?_ _
          refine NoPanic.normal ?_
          clear hHeld
          go_wp2
          go_meet
          case rel => exact ⟨_, ax, cx, rfl, rfl, HD1.out, hge, HD3.out, hcx, HD2.out⟩
        refine AllReadyH.cons rfl (fun K hK => ?_) AllReadyH.nil
        go_simp
        have bk := alloc_below' wx1 (.cells #[.int .i64 0, .string ⟨#[]⟩, .bool false, .slice none 0 0] 35)
        have HB := Lib.hid (heap_alloc_new wx1 (.cells #[.int .i64 0, .string ⟨#[]⟩, .bool false, .slice none 0 0] 35))
        have hx4 := hx1.trans (bk.mono hx1.size)
        have hge := hx1.size
        refine hK.out _ _ (HS.out _ hx4) (fun hHeld => ?_)
        clear hK K bk
        try simp only [Act.put, List.setIfInBounds_toArray, List.set_cons_zero, List.set_cons_succ]
        generalize (wx1.alloc (.cells #[.int .i64 0, .string ⟨#[]⟩, .bool false, .slice none 0 0] 35)) = wx4 at *
        refine wpAnyH_ready (rs := [13]) (by kernel_rfl) (by simp) ?_
        refine AllReadyH.cons rfl (fun K hK => ?_) AllReadyH.nil
        go_simp
        refine (HTT.out _ hx4).mono ?_
        rintro e wx5 hT5
        obtain ⟨k9, s9, b9, ax, cx, e9, rfl, -, -, -, hcx, br5⟩ := hT5.bare
        rw [HX0.out] at e9
        simp only [Prod.mk.injEq, Tok.mk.injEq, and_true] at e9
        obtain ⟨⟨rfl, rfl⟩, rfl⟩ := e9
        have hx5 := hx4.trans (br5.mono hx4.size)
        have HB5 := Lib.hid (mbox HB.out br5)
        refine hK.out _ _ (HS.out _ hx5) (fun hHeld => ?_)
        clear hK K
        try simp only [Act.put, List.setIfInBounds_toArray, List.set_cons_zero, List.set_cons_succ]
        refine takeH2 14 27 (v := ?_) rfl rfl (by kernel_rfl) (by kernel_rfl) (by kernel_rfl) (fun _ _ _ h => h) (by rfl) (by assumption) ?_ ?_
        rotate_left
        · intro w hSw; go_simp; (first | done | with_reducible rfl | rfl)
        try simp only [Act.put, List.setIfInBounds_toArray, List.set_cons_zero, List.set_cons_succ]
        refine takeH2 15 42 (v := ?_) rfl rfl (by kernel_rfl) (by kernel_rfl) (by kernel_rfl) (fun _ _ _ h => h) (by rfl) (by assumption) ?_ ?_
        rotate_left
        · intro w hSw; go_simp; (first | done | with_reducible rfl | rfl)
        try simp only [Act.put, List.setIfInBounds_toArray, List.set_cons_zero, List.set_cons_succ]
        refine takeH2 16 43 (v := ?_) rfl rfl (by kernel_rfl) (by kernel_rfl) (by kernel_rfl) (fun _ _ _ h => h) (by rfl) (by assumption) ?_ ?_
        rotate_left
        · intro w hSw; go_simp; (first | done | with_reducible rfl | rfl)
        try simp only [Act.put, List.setIfInBounds_toArray, List.set_cons_zero, List.set_cons_succ]
        have zc0 := cell_of_row wx5 (wx1.heap.size) 0 _ _ _ HB5.out
        have zf0 : wx5.frozen? ⟨wx1.heap.size, 0, none⟩ = false := frozen_of_row _ _ 0 _ _ HB5.out
        have zc1 := cell_of_row wx5 (wx1.heap.size) 1 _ _ _ HB5.out
        have zf1 : wx5.frozen? ⟨wx1.heap.size, 1, none⟩ = false := frozen_of_row _ _ 1 _ _ HB5.out
        have zc2 := cell_of_row wx5 (wx1.heap.size) 2 _ _ _ HB5.out
        have zf2 : wx5.frozen? ⟨wx1.heap.size, 2, none⟩ = false := frozen_of_row _ _ 2 _ _ HB5.out
        have zc3 := cell_of_row wx5 (wx1.heap.size) 3 _ _ _ HB5.out
        have zf3 : wx5.frozen? ⟨wx1.heap.size, 3, none⟩ = false := frozen_of_row _ _ 3 _ _ HB5.out
        have HD1 := Lib.hid (set4_at HB5.out (.int .i64 kk) (.string s) (.bool false) (.slice ax 0 cx))
        have HD2 := Lib.hid (set4_below (g := wx1.heap.size) hx5 hge (.int .i64 kk) (.string s) (.bool false) (.slice ax 0 cx))
        have HD3 : Hid (wx1.heap.size < (set4 wx5 (wx1.heap.size) (.int .i64 kk) (.string s) (.bool false) (.slice ax 0 cx)).heap.size) := by show _ < _; rw [set4_size]; exact mlt HB5.out
        refine wpAnyH_ready (rs := [18]) (by kernel_rfl) (by simp) ?_
        refine AllReadyH.cons rfl (fun K hK => ?_) AllReadyH.nil
        go_simp
        change K _ (set4 wx5 (wx1.heap.size) (.int .i64 kk) (.string s) (.bool false) (.slice ax 0 cx))
        refine hK.out _ _ (HS.out _ HD2.out) (fun hHeld => ?_)
        clear hK K
        try simp only [Act.put, List.setIfInBounds_toArray, List.set_cons_zero, List.set_cons_succ]
        refine takeH2 19 13 (v := ?_) rfl rfl (by kernel_rfl) (by kernel_rfl) (by kernel_rfl) (fun _ _ _ h => h) (by rfl) (by assumption) ?_ ?_
        rotate_left
        · intro w hSw; go_simp; (first | done | with_reducible rfl | rfl)
        try simp only [Act.put, List.setIfInBounds_toArray, List.set_cons_zero, List.set_cons_succ]
        refine wpAnyH_done (by kernel_rfl) ?_ _
        refine NoPanic.normal ?_
        clear hHeld
        go_wp2
        go_meet
        case rel => exact ⟨_, ax, cx, rfl, rfl, HD1.out, hge, HD3.out, hcx, HD2.out⟩
      refine AllReadyH.cons rfl (fun K hK => ?_) AllReadyH.nil
      go_simp
      have bk := alloc_below' wd (.cells #[.int .i64 0, .string ⟨#[]⟩, .bool false, .slice none 0 0] 35)
      have HB := Lib.hid (heap_alloc_new wd (.cells #[.int .i64 0, .string ⟨#[]⟩, .bool false, .slice none 0 0] 35))
      have hx6 := hcs.trans (bk.mono hcs.size)
      have hge := hcs.size
      refine hK.out _ _ (HS.out _ hx6) (fun hHeld => ?_)
      clear hK K bk
      try simp only [Act.put, List.setIfInBounds_toArray, List.set_cons_zero, List.set_cons_succ]
      generalize (wd.alloc (.cells #[.int .i64 0, .string ⟨#[]⟩, .bool false, .slice none 0 0] 35)) = wx6 at *
      refine wpAnyH_ready (rs := [10]) (by kernel_rfl) (by simp) ?_
      refine AllReadyH.cons rfl (fun K hK => ?_) AllReadyH.nil
      go_simp
      refine (HLP.out _ hx6).mono ?_
      rintro e wx7 ⟨rfl, rfl⟩
      have hx7 := hx6
      refine hK.out _ _ (HS.out _ hx7) (fun hHeld => ?_)
      clear hK K
      try simp only [Act.put, List.setIfInBounds_toArray, List.set_cons_zero, List.set_cons_succ]
      refine takeH2 11 39 (v := ?_) rfl rfl (by kernel_rfl) (by kernel_rfl) (by kernel_rfl) (fun _ _ _ h => h) (by rfl) (by assumption) ?_ ?_
      rotate_left
      · intro w hSw; go_simp; (first | done | with_reducible rfl | rfl)
      try simp only [Act.put, List.setIfInBounds_toArray, List.set_cons_zero, List.set_cons_succ]
      refine takeH2 12 40 (v := ?_) rfl rfl (by kernel_rfl) (by kernel_rfl) (by kernel_rfl) (fun _ _ _ h => h) (by rfl) (by assumption) ?_ ?_
      rotate_left
      · intro w hSw; obtain ⟨sm, s1, sr⟩ := hSw; have m2 := cell_of_row _ _ 2 _ _ _ sm; have m3 := cell_of_row _ _ 3 _ _ _ sm; go_simp; (first | done | with_reducible rfl | rfl)
      try simp only [Act.put, List.setIfInBounds_toArray, List.set_cons_zero, List.set_cons_succ]
      refine wpAnyH_ready (rs := [13]) (by kernel_rfl) (by simp) ?_
      refine AllReadyH.cons rfl (fun K hK => ?_) AllReadyH.nil
      go_simp
      refine (HTT.out _ hx7).mono ?_
      rintro e wx8 hT8
      obtain ⟨k9, s9, b9, ax, cx, e9, rfl, -, -, -, hcx, br8⟩ := hT8.bare
      rw [HX0.out] at e9
      simp only [Prod.mk.injEq, Tok.mk.injEq, and_true] at e9
      obtain ⟨⟨rfl, rfl⟩, rfl⟩ := e9
      have hx8 := hx7.trans (br8.mono hx7.size)
      have HB8 := Lib.hid (mbox HB.out br8)
      refine hK.out _ _ (HS.out _ hx8) (fun hHeld => ?_)
      clear hK K
      try simp only [Act.put, List.setIfInBounds_toArray, List.set_cons_zero, List.set_cons_succ]
      refine takeH2 14 27 (v := ?_) rfl rfl (by kernel_rfl) (by kernel_rfl) (by kernel_rfl) (fun _ _ _ h => h) (by rfl) (by assumption) ?_ ?_
      rotate_left
      · intro w hSw; go_simp; (first | done | with_reducible rfl | rfl)
      try simp only [Act.put, List.setIfInBounds_toArray, List.set_cons_zero, List.set_cons_succ]
      refine takeH2 15 42 (v := ?_) rfl rfl (by kernel_rfl) (by kernel_rfl) (by kernel_rfl) (fun _ _ _ h => h) (by rfl) (by assumption) ?_ ?_
      rotate_left
      · intro w hSw; go_simp; (first | done | with_reducible rfl | rfl)
      try simp only [Act.put, List.setIfInBounds_toArray, List.set_cons_zero, List.set_cons_succ]
      refine takeH2 16 43 (v := ?_) rfl rfl (by kernel_rfl) (by kernel_rfl) (by kernel_rfl) (fun _ _ _ h => h) (by rfl) (by assumption) ?_ ?_
      rotate_left
      · intro w hSw; go_simp; (first | done | with_reducible rfl | rfl)
      try simp only [Act.put, List.setIfInBounds_toArray, List.set_cons_zero, List.set_cons_succ]
      have zc0 := cell_of_row wx8 (wd.heap.size) 0 _ _ _ HB8.out
      have zf0 : wx8.frozen? ⟨wd.heap.size, 0, none⟩ = false := frozen_of_row _ _ 0 _ _ HB8.out
      have zc1 := cell_of_row wx8 (wd.heap.size) 1 _ _ _ HB8.out
      have zf1 : wx8.frozen? ⟨wd.heap.size, 1, none⟩ = false := frozen_of_row _ _ 1 _ _ HB8.out
      have zc2 := cell_of_row wx8 (wd.heap.size) 2 _ _ _ HB8.out
      have zf2 : wx8.frozen? ⟨wd.heap.size, 2, none⟩ = false := frozen_of_row _ _ 2 _ _ HB8.out
      have zc3 := cell_of_row wx8 (wd.heap.size) 3 _ _ _ HB8.out
      have zf3 : wx8.frozen? ⟨wd.heap.size, 3, none⟩ = false := frozen_of_row _ _ 3 _ _ HB8.out
      have HD1 := Lib.hid (set4_at HB8.out (.int .i64 kk) (.string s) (.bool false) (.slice ax 0 cx))
      have HD2 := Lib.hid (set4_below (g := wd.heap.size) hx8 hge (.int .i64 kk) (.string s) (.bool false) (.slice ax 0 cx))
      have HD3 : Hid (wd.heap.size < (set4 wx8 (wd.heap.size) (.int .i64 kk) (.string s) (.bool false) (.slice ax 0 cx)).heap.size) := by show _ < _; rw [set4_size]; exact mlt HB8.out
      refine wpAnyH_ready (rs := [18]) (by kernel_rfl) (by simp) ?_
      refine AllReadyH.cons rfl (fun K hK => ?_) AllReadyH.nil
      go_simp
      change K _ (set4 wx8 (wd.heap.size) (.int .i64 kk) (.string s) (.bool false) (.slice ax 0 cx))
      refine hK.out _ _ (HS.out _ HD2.out) (fun hHeld => ?_)
      clear hK K
      try simp only [Act.put, List.setIfInBounds_toArray, List.set_cons_zero, List.set_cons_succ]
      refine takeH2 19 13 (v := ?_) rfl rfl (by kernel_rfl) (by kernel_rfl) (by kernel_rfl) (fun _ _ _ h => h) (by rfl) (by assumption) ?_ ?_
      rotate_left
      · intro w hSw; go_simp; (first | done | with_reducible rfl | rfl)
      try simp only [Act.put, List.setIfInBounds_toArray, List.set_cons_zero, List.set_cons_succ]
      refine wpAnyH_done (by kernel_rfl) ?_ _
      refine NoPanic.normal ?_
      clear hHeld
      go_wp2
      go_meet
      case rel => exact ⟨_, ax, cx, rfl, rfl, HD1.out, hge, HD3.out, hcx, HD2.out⟩
    obtain ⟨gB, ax, cx, rfl, rfl, HG0, hg1, hg2, hcx, hbg⟩ := hcut
    generalize wc = W4 at *
    have HG := Lib.hid HG0
    have HTB := Lib.hid (mbox HX.out.2 hbg)
    have HRk4 := Lib.hid (sTok.below HRk.out hbg)
    clear HG0 HS HLP HTT hcs
    have t0 := cell_of_row W4 (w.heap.size + 1) 0 _ _ _ HTB.out
    have t1 := cell_of_row W4 (w.heap.size + 1) 1 _ _ _ HTB.out
    have t2 := cell_of_row W4 (w.heap.size + 1) 2 _ _ _ HTB.out
    have t3 := cell_of_row W4 (w.heap.size + 1) 3 _ _ _ HTB.out
    have g0 := cell_of_row W4 (gB) 0 _ _ _ HG.out
    have g1 := cell_of_row W4 (gB) 1 _ _ _ HG.out
    have g2 := cell_of_row W4 (gB) 2 _ _ _ HG.out
    have g3 := cell_of_row W4 (gB) 3 _ _ _ HG.out
    have hb4 := b2.trans (hbg.mono b2.size)
    have hw2 : IntKind.i64.wrap ((k : Int) + 2) = (k : Int) + 2 := IntWalk.i64_in _ (by omega)
    have HL := Lib.hid (RowN.lit1 (S := sTok) (e := 35) (w := W4) (base := W4.heap.size) (x := ⟨[.int .i64 kk, .string s, .bool false, .slice ax 0 cx], ⟨kk, s, false, []⟩, []⟩) (Nat.le_refl _) rfl (tok_bareA kk s _ ax cx W4 hkk0 hkk4 (by omega) hcx))
    obtain ⟨fpl, RL, -, -⟩ := HL.out.read
    have bl := alloc_below' W4 (.cells #[.int .i64 kk, .string s, .bool false, .slice ax 0 cx] 35)
    have HC := Lib.hid (impl_spacedAs _ m.body[k] fk (.slice (some ⟨W4.heap.size, 0, none⟩) 1 1) [⟨kk, s, false, []⟩] fpl (W4.alloc (.cells #[.int .i64 kk, .string s, .bool false, .slice ax 0 cx] 35)) (by simp) (fun j hj => by have : j = 0 := (by simpa using hj); subst this; exact (Nat.zero_le _)) (sTok.below HRk4.out bl) RL)
    have hbl := hb4.trans (bl.mono hb4.size)
    clear RL bl
    -- MARKA2
    go_wp2_with fail
    -- MARKB2
    refine HC.out.mono ?_
    rintro e w9 ⟨v9, L9, rfl, HR9, HD9, HO9, hb9⟩
    have HRF := Lib.hid (HR9.lower (base' := w.heap.size) hbl.size)
    have HOF := Lib.hid (HO9.lower (lo' := w.heap.size) hbl.size)
    have HDF := Lib.hid HD9
    have hbx := hbl.trans (hb9.mono hbl.size)
    clear HR9 HD9 HO9 HC hb9 hbl
    go_wp2
    go_ret3
    exact ⟨v9, L9, by rw [HF.out]; rfl, HRF.out, by rw [HDF.out, HF.out]; rfl, HOF.out, hbx⟩
  have HNF : Hid (¬ (m.function = true ∧ isM m.body[k] [35] = true)) := fun h => by rw [h.1, h.2] at hfi; exact absurd hfi (by simp)
  clear hfi HIM
  have p2 := cell_of_row W2 (w.heap.size) 2 _ _ _ HX.out.1
  have q1 := cell_of_row W2 (w.heap.size + 1) 1 _ _ _ HX.out.2
  have HP := Lib.hid (lib_Index _ m.params q2 m.body[k].text W2 HP2.out)
  rw [HIX.out] at HP
  go_upto_region 6 with (go_at_call 56; refine HP.out.mono ?_; rintro e w3 ⟨rfl, rfl⟩)
  clear p2 q1 HP HIX
  try generalize w3 = W2 at *
  have hk1 : IntKind.i64.wrap ((k : Int) + 1) = (k : Int) + 1 := IntWalk.i64_in _ (by omega)
  by_cases hp : parOf m.params m.body[k] < 0
  · have HF := Lib.hid (part_self (raw := raw) (ready := ready) hk HNF.out hp)
    have hpd : decide (parOf m.params m.body[k] < 0) = true := decide_eq_true hp
    have t0 := cell_of_row W2 (w.heap.size + 1) 0 _ _ _ HX.out.2
    have t1 := cell_of_row W2 (w.heap.size + 1) 1 _ _ _ HX.out.2
    have t2 := cell_of_row W2 (w.heap.size + 1) 2 _ _ _ HX.out.2
    have t3 := cell_of_row W2 (w.heap.size + 1) 3 _ _ _ HX.out.2
    generalize parOf m.params m.body[k] = pn at *
    have HL := Lib.hid (RowN.lit1 (S := sTok) (e := 35) (w := W2) (base := W2.heap.size) (x := ⟨[.int .i64 m.body[k].kind, .string m.body[k].text, .bool m.body[k].spaced, .slice ak m.body[k].hidden.length ck], m.body[k], fk⟩) (Nat.le_refl _) rfl HRk.out)
    obtain ⟨fpl, RL, -, -⟩ := HL.out.read
    have bl := alloc_below' W2 (.cells #[.int .i64 m.body[k].kind, .string m.body[k].text, .bool m.body[k].spaced, .slice ak m.body[k].hidden.length ck] 35)
    have HC := Lib.hid (impl_spacedAs _ m.body[k] fk (.slice (some ⟨W2.heap.size, 0, none⟩) 1 1) [m.body[k]] fpl (W2.alloc (.cells #[.int .i64 m.body[k].kind, .string m.body[k].text, .bool m.body[k].spaced, .slice ak m.body[k].hidden.length ck] 35)) (by simp) (fun j hj => by have : j = 0 := (by simpa using hj); subst this; exact HHK.out) (sTok.below HRk.out bl) RL)
    have hbl := b2.trans (bl.mono b2.size)
    clear RL bl
    -- MARKA1
    go_wp2_with fail
    -- MARKB1
    refine HC.out.mono ?_
    rintro e w9 ⟨v9, L9, rfl, HR9, HD9, HO9, hb9⟩
    have HRF := Lib.hid (HR9.lower (base' := w.heap.size) hbl.size)
    have HOF := Lib.hid (HO9.lower (lo' := w.heap.size) hbl.size)
    have HDF := Lib.hid HD9
    have hbx := hbl.trans (hb9.mono hbl.size)
    clear HR9 HD9 HO9 HC hb9 hbl
    go_wp2
    go_ret3
    exact ⟨v9, L9, by rw [HF.out]; rfl, HRF.out, by rw [HDF.out, HF.out]; rfl, HOF.out, hbx⟩
  obtain ⟨n, hn, hnp⟩ := par_nat hp
  have HPN := Lib.hid hn
  have HPP := Lib.hid hp
  rw [hn]
  clear hn hp
  have hn0 : ¬ ((n : Int) < 0) := by omega
  have p3 := cell_of_row W2 (w.heap.size) 3 _ _ _ HX.out.1
  have HBP := Lib.hid (impl_besidePaste _ m.body q3 k W2 (by omega) hk HB2.out)
  rw [bes_glue HV.out k] at HBP
  go_wp2_with fail
  refine HBP.out.mono ?_
  rintro e w5 ⟨rfl, rfl⟩
  clear p3 HBP
  try generalize w5 = W2 at *
  cases hg : (glueL m k || glueR m k)
  · skip
    have HF := Lib.hid (part_ready (raw := raw) (ready := ready) hk HNF.out (by have := HPP.out; omega) hg)
    have hnr : n < ready.length := by have := hraw.out; have := hrdy.out; omega
    have HAR := Lib.hid (argAt_in (a := ready) HPN.out hnr)
    obtain ⟨ar, cr, rfl, -, -, hrowR⟩ := open_rows HYY.out
    obtain ⟨br, orr, -, rfl, -, -, -⟩ := hrowR (by omega)
    obtain ⟨aj, cj, fj, dq, Rj, hbr, hfj⟩ := rows_at HYY.out hnr
    have hTV := toksOk_facts (HYA.out _ (List.getElem_mem hnr))
    have hjl : (ready[n]).length ≤ 60 := hTV.1
    have HJH : Hid (∀ j, (hj : j < (ready[n]).length) → (ready[n])[j].hidden.length ≤ 2000000) := fun j hj => by have := (hid_at (tok_hidOk (hTV.2 j hj))).1; omega
    have HSP := Lib.hid (fun (U : World) (hU : Below W2.heap.size W2 U) => impl_spacedAs _ m.body[k] fk _ ready[n] fj U (by omega) HJH.out (sTok.below HRk.out hU) ((sSlice sTok).below Rj hU))
    have d0 : W2.drew.heap[w.heap.size + 1]? = some (.cells #[.int .i64 m.body[k].kind, .string m.body[k].text, .bool m.body[k].spaced, .slice ak m.body[k].hidden.length ck] 35 (0, 0)) := HX.out.2
    have d1 : W2.drew.cell? ⟨br, orr + n, none⟩ = some (.slice aj (ready[n]).length cj) := dq
    have hcs : Below W2.heap.size W2 W2.drew := belowN (Below.refl _ _) 1
    have HS : Hid (∀ U : World, Below W2.heap.size W2 U → U.heap[w.heap.size + 1]? = some (.cells #[.int .i64 m.body[k].kind, .string m.body[k].text, .bool m.body[k].spaced, .slice ak m.body[k].hidden.length ck] 35 (0, 0)) ∧ U.cell? ⟨br, orr + n, none⟩ = some (.slice aj (ready[n]).length cj)) := fun U hU => ⟨mbox HX.out.2 hU, (hU.cell (by show br < W2.heap.size; omega)).trans dq⟩
    have i6 : (0 : Int) ≤ (n : Int) := by omega
    have i7 : (n : Int) < (ready.length : Int) := by omega
    have i8 : n < ready.length := hnr
    clear dq Rj hfj hrowR hg hTV
    go_wp2_with fail
    refine wp_region_noPanic ?_
    refine wp_region_held_drew (S := fun w' => w'.heap[w.heap.size + 1]? = some (.cells #[.int .i64 m.body[k].kind, .string m.body[k].text, .bool m.body[k].spaced, .slice ak m.body[k].hidden.length ck] 35 (0, 0)) ∧ w'.cell? ⟨br, orr + n, none⟩ = some (.slice aj (ready[n]).length cj)) (by kernel_rfl) (by exact HS.out _ hcs) (fun hHeld => ?_)
    generalize W2.drew = wd at *
    refine takeH2 0 78 (v := ?_) rfl rfl (by kernel_rfl) (by kernel_rfl) (by kernel_rfl) (fun _ _ _ h => h) (by rfl) (by assumption) ?_ ?_
    rotate_left
    · intro w hSw; obtain ⟨st, sr⟩ := hSw; have t0 := cell_of_row _ _ 0 _ _ _ st; have t1 := cell_of_row _ _ 1 _ _ _ st; have t2 := cell_of_row _ _ 2 _ _ _ st; have t3 := cell_of_row _ _ 3 _ _ _ st; go_simp; (first | done | with_reducible rfl | rfl)
    try simp only [Act.put, List.setIfInBounds_toArray, List.set_cons_zero, List.set_cons_succ]
    refine takeH2 1 79 (v := ?_) rfl rfl (by kernel_rfl) (by kernel_rfl) (by kernel_rfl) (fun _ _ _ h => h) (by rfl) (by assumption) ?_ ?_
    rotate_left
    · intro w hSw; go_simp; (first | done | with_reducible rfl | rfl)
    try simp only [Act.put, List.setIfInBounds_toArray, List.set_cons_zero, List.set_cons_succ]
    refine takeH2 2 80 (v := ?_) rfl rfl (by kernel_rfl) (by kernel_rfl) (by kernel_rfl) (fun _ _ _ h => h) (by rfl) (by assumption) ?_ ?_
    rotate_left
    · intro w hSw; go_simp; (first | done | with_reducible rfl | rfl)
    try simp only [Act.put, List.setIfInBounds_toArray, List.set_cons_zero, List.set_cons_succ]
    refine takeH2 3 81 (v := ?_) rfl rfl (by kernel_rfl) (by kernel_rfl) (by kernel_rfl) (fun _ _ _ h => h) (by rfl) (by assumption) ?_ ?_
    rotate_left
    · intro w hSw; go_simp; (first | done | with_reducible rfl | rfl)
    try simp only [Act.put, List.setIfInBounds_toArray, List.set_cons_zero, List.set_cons_succ]
    refine takeH2 4 82 (v := ?_) rfl rfl (by kernel_rfl) (by kernel_rfl) (by kernel_rfl) (fun _ _ _ h => h) (by rfl) (by assumption) ?_ ?_
    rotate_left
    · intro w hSw; obtain ⟨st, sr⟩ := hSw; have t0 := cell_of_row _ _ 0 _ _ _ st; have t1 := cell_of_row _ _ 1 _ _ _ st; have t2 := cell_of_row _ _ 2 _ _ _ st; have t3 := cell_of_row _ _ 3 _ _ _ st; go_simp; (first | done | with_reducible rfl | rfl)
    try simp only [Act.put, List.setIfInBounds_toArray, List.set_cons_zero, List.set_cons_succ]
    refine takeH2 6 84 (v := ?_) rfl rfl (by kernel_rfl) (by kernel_rfl) (by kernel_rfl) (fun _ _ _ h => h) (by rfl) (by assumption) ?_ ?_
    rotate_left
    · intro w hSw; go_simp; (first | done | with_reducible rfl | rfl)
    try simp only [Act.put, List.setIfInBounds_toArray, List.set_cons_zero, List.set_cons_succ]
    refine takeH2 7 85 (v := ?_) rfl rfl (by kernel_rfl) (by kernel_rfl) (by kernel_rfl) (fun _ _ _ h => h) (by rfl) (by assumption) ?_ ?_
    rotate_left
    · intro w hSw; go_simp; (first | done | with_reducible rfl | rfl)
    try simp only [Act.put, List.setIfInBounds_toArray, List.set_cons_zero, List.set_cons_succ]
    refine wpAnyH_ready (rs := [5]) (by kernel_rfl) (by simp) ?_
    refine AllReadyH.cons rfl (fun K hK => ?_) AllReadyH.nil
    go_simp
    refine (HSP.out _ hcs).mono ?_
    rintro e w9 ⟨v9, L9, rfl, HR9, HD9, HO9, hb9⟩
    have hx9 := hcs.trans (hb9.mono hcs.size)
    have hbx := b2.trans (hx9.mono b2.size)
    have HRF := Lib.hid (HR9.lower (base' := w.heap.size) (Nat.le_trans b2.size hcs.size))
    have HOF := Lib.hid (HO9.lower (lo' := w.heap.size) (Nat.le_trans b2.size hcs.size))
    have HDF := Lib.hid HD9
    clear HR9 HD9 HO9
    refine hK.out _ _ (HS.out _ hx9) (fun hHeld => ?_)
    clear hK K
    try simp only [Act.put, List.setIfInBounds_toArray, List.set_cons_zero, List.set_cons_succ]
    refine takeH2 8 8 (v := ?_) rfl rfl (by kernel_rfl) (by kernel_rfl) (by kernel_rfl) (fun _ _ _ h => h) (by rfl) (by assumption) ?_ ?_
    rotate_left
    · intro w hSw; go_simp; (first | done | with_reducible rfl | rfl)
    try simp only [Act.put, List.setIfInBounds_toArray, List.set_cons_zero, List.set_cons_succ]
    refine takeH2 9 9 (v := ?_) rfl rfl (by kernel_rfl) (by kernel_rfl) (by kernel_rfl) (fun _ _ _ h => h) (by rfl) (by assumption) ?_ ?_
    rotate_left
    · intro w hSw; go_simp; (first | done | with_reducible rfl | rfl)
    try simp only [Act.put, List.setIfInBounds_toArray, List.set_cons_zero, List.set_cons_succ]
    refine takeH2 10 10 (v := ?_) rfl rfl (by kernel_rfl) (by kernel_rfl) (by kernel_rfl) (fun _ _ _ h => h) (by rfl) (by assumption) ?_ ?_
    rotate_left
    · intro w hSw; go_simp; (first | done | with_reducible rfl | rfl)
    try simp only [Act.put, List.setIfInBounds_toArray, List.set_cons_zero, List.set_cons_succ]
    refine wpAnyH_done (by kernel_rfl) ?_ _
    refine NoPanic.normal ?_
    clear hHeld HS HSP
    go_wp2
    go_ret3
    exact ⟨v9, L9, by rw [HF.out]; rfl, HRF.out, by rw [HDF.out, HF.out, HAR.out], HOF.out, hbx⟩
  · skip
    have HF := Lib.hid (part_raw (raw := raw) (ready := ready) hk HNF.out (by have := HPP.out; omega) hg)
    have hnr : n < raw.length := by have := hraw.out; have := hrdy.out; omega
    have HAR := Lib.hid (argAt_in (a := raw) HPN.out hnr)
    obtain ⟨ar, cr, rfl, -, -, hrowR⟩ := open_rows HRR.out
    obtain ⟨br, orr, -, rfl, -, -, -⟩ := hrowR (by omega)
    obtain ⟨aj, cj, fj, dq, Rj, hbr, hfj⟩ := rows_at HRR.out hnr
    have hTV := toksOk_facts (HRA.out _ (List.getElem_mem hnr))
    have hjl : (raw[n]).length ≤ 60 := hTV.1
    have HJH : Hid (∀ j, (hj : j < (raw[n]).length) → (raw[n])[j].hidden.length ≤ 2000000) := fun j hj => by have := (hid_at (tok_hidOk (hTV.2 j hj))).1; omega
    have HSP := Lib.hid (fun (U : World) (hU : Below W2.heap.size W2 U) => impl_spacedAs _ m.body[k] fk _ raw[n] fj U (by omega) HJH.out (sTok.below HRk.out hU) ((sSlice sTok).below Rj hU))
    have d0 : W2.drew.heap[w.heap.size + 1]? = some (.cells #[.int .i64 m.body[k].kind, .string m.body[k].text, .bool m.body[k].spaced, .slice ak m.body[k].hidden.length ck] 35 (0, 0)) := HX.out.2
    have d1 : W2.drew.cell? ⟨br, orr + n, none⟩ = some (.slice aj (raw[n]).length cj) := dq
    have hcs : Below W2.heap.size W2 W2.drew := belowN (Below.refl _ _) 1
    have HS : Hid (∀ U : World, Below W2.heap.size W2 U → U.heap[w.heap.size + 1]? = some (.cells #[.int .i64 m.body[k].kind, .string m.body[k].text, .bool m.body[k].spaced, .slice ak m.body[k].hidden.length ck] 35 (0, 0)) ∧ U.cell? ⟨br, orr + n, none⟩ = some (.slice aj (raw[n]).length cj)) := fun U hU => ⟨mbox HX.out.2 hU, (hU.cell (by show br < W2.heap.size; omega)).trans dq⟩
    have i6 : (0 : Int) ≤ (n : Int) := by omega
    have i7 : (n : Int) < (raw.length : Int) := by omega
    have i8 : n < raw.length := hnr
    clear dq Rj hfj hrowR hg hTV
    go_wp2_with fail
    refine wp_region_noPanic ?_
    refine wp_region_held_drew (S := fun w' => w'.heap[w.heap.size + 1]? = some (.cells #[.int .i64 m.body[k].kind, .string m.body[k].text, .bool m.body[k].spaced, .slice ak m.body[k].hidden.length ck] 35 (0, 0)) ∧ w'.cell? ⟨br, orr + n, none⟩ = some (.slice aj (raw[n]).length cj)) (by kernel_rfl) (by exact HS.out _ hcs) (fun hHeld => ?_)
    generalize W2.drew = wd at *
    refine takeH2 0 70 (v := ?_) rfl rfl (by kernel_rfl) (by kernel_rfl) (by kernel_rfl) (fun _ _ _ h => h) (by rfl) (by assumption) ?_ ?_
    rotate_left
    · intro w hSw; obtain ⟨st, sr⟩ := hSw; have t0 := cell_of_row _ _ 0 _ _ _ st; have t1 := cell_of_row _ _ 1 _ _ _ st; have t2 := cell_of_row _ _ 2 _ _ _ st; have t3 := cell_of_row _ _ 3 _ _ _ st; go_simp; (first | done | with_reducible rfl | rfl)
    try simp only [Act.put, List.setIfInBounds_toArray, List.set_cons_zero, List.set_cons_succ]
    refine takeH2 1 71 (v := ?_) rfl rfl (by kernel_rfl) (by kernel_rfl) (by kernel_rfl) (fun _ _ _ h => h) (by rfl) (by assumption) ?_ ?_
    rotate_left
    · intro w hSw; go_simp; (first | done | with_reducible rfl | rfl)
    try simp only [Act.put, List.setIfInBounds_toArray, List.set_cons_zero, List.set_cons_succ]
    refine takeH2 2 72 (v := ?_) rfl rfl (by kernel_rfl) (by kernel_rfl) (by kernel_rfl) (fun _ _ _ h => h) (by rfl) (by assumption) ?_ ?_
    rotate_left
    · intro w hSw; go_simp; (first | done | with_reducible rfl | rfl)
    try simp only [Act.put, List.setIfInBounds_toArray, List.set_cons_zero, List.set_cons_succ]
    refine takeH2 3 73 (v := ?_) rfl rfl (by kernel_rfl) (by kernel_rfl) (by kernel_rfl) (fun _ _ _ h => h) (by rfl) (by assumption) ?_ ?_
    rotate_left
    · intro w hSw; go_simp; (first | done | with_reducible rfl | rfl)
    try simp only [Act.put, List.setIfInBounds_toArray, List.set_cons_zero, List.set_cons_succ]
    refine takeH2 4 74 (v := ?_) rfl rfl (by kernel_rfl) (by kernel_rfl) (by kernel_rfl) (fun _ _ _ h => h) (by rfl) (by assumption) ?_ ?_
    rotate_left
    · intro w hSw; obtain ⟨st, sr⟩ := hSw; have t0 := cell_of_row _ _ 0 _ _ _ st; have t1 := cell_of_row _ _ 1 _ _ _ st; have t2 := cell_of_row _ _ 2 _ _ _ st; have t3 := cell_of_row _ _ 3 _ _ _ st; go_simp; (first | done | with_reducible rfl | rfl)
    try simp only [Act.put, List.setIfInBounds_toArray, List.set_cons_zero, List.set_cons_succ]
    refine takeH2 6 76 (v := ?_) rfl rfl (by kernel_rfl) (by kernel_rfl) (by kernel_rfl) (fun _ _ _ h => h) (by rfl) (by assumption) ?_ ?_
    rotate_left
    · intro w hSw; go_simp; (first | done | with_reducible rfl | rfl)
    try simp only [Act.put, List.setIfInBounds_toArray, List.set_cons_zero, List.set_cons_succ]
    refine takeH2 7 77 (v := ?_) rfl rfl (by kernel_rfl) (by kernel_rfl) (by kernel_rfl) (fun _ _ _ h => h) (by rfl) (by assumption) ?_ ?_
    rotate_left
    · intro w hSw; go_simp; (first | done | with_reducible rfl | rfl)
    try simp only [Act.put, List.setIfInBounds_toArray, List.set_cons_zero, List.set_cons_succ]
    refine wpAnyH_ready (rs := [5]) (by kernel_rfl) (by simp) ?_
    refine AllReadyH.cons rfl (fun K hK => ?_) AllReadyH.nil
    go_simp
    refine (HSP.out _ hcs).mono ?_
    rintro e w9 ⟨v9, L9, rfl, HR9, HD9, HO9, hb9⟩
    have hx9 := hcs.trans (hb9.mono hcs.size)
    have hbx := b2.trans (hx9.mono b2.size)
    have HRF := Lib.hid (HR9.lower (base' := w.heap.size) (Nat.le_trans b2.size hcs.size))
    have HOF := Lib.hid (HO9.lower (lo' := w.heap.size) (Nat.le_trans b2.size hcs.size))
    have HDF := Lib.hid HD9
    clear HR9 HD9 HO9
    refine hK.out _ _ (HS.out _ hx9) (fun hHeld => ?_)
    clear hK K
    try simp only [Act.put, List.setIfInBounds_toArray, List.set_cons_zero, List.set_cons_succ]
    refine takeH2 8 8 (v := ?_) rfl rfl (by kernel_rfl) (by kernel_rfl) (by kernel_rfl) (fun _ _ _ h => h) (by rfl) (by assumption) ?_ ?_
    rotate_left
    · intro w hSw; go_simp; (first | done | with_reducible rfl | rfl)
    try simp only [Act.put, List.setIfInBounds_toArray, List.set_cons_zero, List.set_cons_succ]
    refine takeH2 9 9 (v := ?_) rfl rfl (by kernel_rfl) (by kernel_rfl) (by kernel_rfl) (fun _ _ _ h => h) (by rfl) (by assumption) ?_ ?_
    rotate_left
    · intro w hSw; go_simp; (first | done | with_reducible rfl | rfl)
    try simp only [Act.put, List.setIfInBounds_toArray, List.set_cons_zero, List.set_cons_succ]
    refine takeH2 10 10 (v := ?_) rfl rfl (by kernel_rfl) (by kernel_rfl) (by kernel_rfl) (fun _ _ _ h => h) (by rfl) (by assumption) ?_ ?_
    rotate_left
    · intro w hSw; go_simp; (first | done | with_reducible rfl | rfl)
    try simp only [Act.put, List.setIfInBounds_toArray, List.set_cons_zero, List.set_cons_succ]
    refine wpAnyH_done (by kernel_rfl) ?_ _
    refine NoPanic.normal ?_
    clear hHeld HS HSP
    go_wp2
    go_ret3
    exact ⟨v9, L9, by rw [HF.out]; rfl, HRF.out, by rw [HDF.out, HF.out, HAR.out], HOF.out, hbx⟩

end Go.Proofs.Ytflbdanlcpojbaa

/- The two sides of a ## (pastePieces of the program). (Made by gen_sub9.py.) -/
namespace Go.Proofs.Ytflbdanlcpojbaa
open Go.RowKit

theorem flat_take {α β : Type} {f : α → List β} {m : Nat} : ∀ (L : List α) (k : Nat), (∀ x ∈ L, (f x).length = m) → (L.take k).flatMap f = (L.flatMap f).take (k * m)
  | [], k, _ => by simp
  | x :: r, 0, _ => by simp
  | x :: r, k + 1, h => by
    have hx := h x (by simp)
    rw [List.take_succ_cons, List.flatMap_cons, List.flatMap_cons, flat_take r k (fun y hy => h y (by simp [hy])), List.take_append, hx, Nat.succ_mul, List.take_of_length_le (by omega : (f x).length ≤ k * m + m)]
    congr 2
    omega
/-- The first elements of a row. -/
theorem RowN.short {α : Type} {S : Shape α} {base : Nat} {e : TypeId} {L : List (Elem α)} {w : World} {g n cap : Nat} (h : RowN S base e (.slice (some ⟨g, 0, none⟩) n cap) L w) {k : Nat} (hk : k ≤ L.length) : RowN S base e (.slice (some ⟨g, 0, none⟩) k cap) (L.take k) w where
  row := by
    have hl : (L.take k).length = k := by rw [List.length_take]; omega
    have hf : ((L.take k).flatMap (·.cells)).length = k * S.m := by rw [flatMap_len (f := Elem.cells) (m := S.m) (fun y hy => h.len y (List.mem_of_mem_take hy)), hl]
    rw [hl]
    refine ⟨hf, ?_⟩
    rcases h.row.2 with ⟨h', _⟩ | ⟨g', cap', cur, h', h1, h2, h3, h4, h5, h6⟩
    · cases h'
    · simp only [Value.slice.injEq, Option.some.injEq, Addr.mk.injEq, and_true] at h'
      obtain ⟨rfl, rfl, rfl⟩ := h'
      refine .inr ⟨g, cap, cur, rfl, h1, h2, by omega, h4, h5, ?_⟩
      rw [flat_take (f := Elem.cells) L k h.len, ← h6, List.take_take, Nat.min_eq_left (Nat.mul_le_mul_right _ hk)]
  len := fun x hx => h.len x (List.mem_of_mem_take hx)
  el := fun x hx => h.el x (List.mem_of_mem_take hx)
  ap := fun x hx => h.ap x (List.mem_of_mem_take hx)

/-- Two rows of tokens of the call's own, apart from each other. -/
structure TwoN (base : Nat) (vd : Value) (D : List (Elem Tok)) (vl : Value) (L : List (Elem Tok)) (w : World) : Prop where
  d : RowN sTok base 35 vd D w
  l : RowN sTok base 35 vl L w
  own : Own w base (D.flatMap (·.fp) ++ L.flatMap (·.fp))
  ne : ∀ b, vd.ownBlock = some b → vl.ownBlock ≠ some b
  dl : ∀ x ∈ D, ∀ b ∈ x.fp, vl.ownBlock ≠ some b
  ld : ∀ x ∈ L, ∀ b ∈ x.fp, vd.ownBlock ≠ some b
section
variable {base : Nat} {vd vl : Value} {D L : List (Elem Tok)} {w w' : World}
theorem TwoN.start (base : Nat) (w : World) : TwoN base (.slice none 0 0) [] (.slice none 0 0) [] w := ⟨RowN.nil _ _ _ _, RowN.nil _ _ _ _, Own.nil _ _, by simp [Value.ownBlock], by simp, by simp⟩
theorem TwoN.below (h : TwoN base vd D vl L w) (hb : Below w.heap.size w w') : TwoN base vd D vl L w' := ⟨h.d.below hb, h.l.below hb, h.own.grow hb, h.ne, h.dl, h.ld⟩
/-- A piece that was made later. -/
theorem TwoN.fresh {vp : Value} {P : List (Elem Tok)} {lo : Nat} (hd : RowN sTok base 35 vd D w) (ho : Own w base (D.flatMap (·.fp))) (hp : RowN sTok lo 35 vp P w) (hpo : Own w lo (P.flatMap (·.fp))) (hlo : base ≤ lo) (h1 : ∀ b, vd.ownBlock = some b → b < lo) (h2 : ∀ x ∈ D, ∀ b ∈ x.fp, b < lo) : TwoN base vd D vp P w where
  d := hd
  l := hp.lower hlo
  own := ho.app (hpo.lower hlo) fun b hb hx => by
    obtain ⟨x, hx1, hx2⟩ := List.mem_flatMap.1 hb
    have := h2 x hx1 b hx2
    have := (hpo.2 b hx).1
    omega
  ne := fun b hb hv => by have := h1 b hb; have := (hp.mine b hv).1; omega
  dl := fun x hx b hb hv => by have := h2 x hx b hb; have := (hp.mine b hv).1; omega
  ld := fun x hx b hb hv => by have := h1 b hv; have := (hpo.2 b (List.mem_flatMap.2 ⟨x, hx, hb⟩)).1; omega
theorem TwoN.lt (h : TwoN base vd D vl L w) : (∀ b, vd.ownBlock = some b → b < w.heap.size) ∧ (∀ b, vl.ownBlock = some b → b < w.heap.size) ∧ (∀ x ∈ D, ∀ b ∈ x.fp, b < w.heap.size) ∧ ∀ x ∈ L, ∀ b ∈ x.fp, b < w.heap.size :=
  ⟨fun b hb => (h.d.mine b hb).2, fun b hb => (h.l.mine b hb).2, fun x hx b hb => sTok.lt (h.d.el x hx) b hb, fun x hx b hb => sTok.lt (h.l.el x hx) b hb⟩
/-- What waited is put behind what is done. -/
theorem TwoN.flushed {vd' : Value} (h : TwoN base vd D vl L w) (hr : RowN sTok base 35 vd' (D ++ L) w') (hg : w.grownBy w' vd.ownBlock) : Own w' base ((D ++ L).flatMap (·.fp)) := by
  rw [flat_more]
  refine own_grownN h.own (fun b hb => ?_) hg
  rcases List.mem_append.1 hb with hb | hb
  · obtain ⟨x, hx1, hx2⟩ := List.mem_flatMap.1 hb
    exact h.d.ap x hx1 b hx2
  · obtain ⟨x, hx1, hx2⟩ := List.mem_flatMap.1 hb
    exact h.ld x hx1 b hx2
end
/-- What pastePieces hands back where both sides have tokens. -/
def GlueOf (base : Nat) (vl : Value) (L R : List (Elem Tok)) (w : World) (e : Ending) (w' : World) : Prop :=
  ((pasteRes ((L.map (·.d)).getLastD zTok) ((R.map (·.d)).headD zTok)).2 = false ∧ e = .returned (.tuple #[.slice none 0 0, .bool false]) ∧ Below w.heap.size w w') ∨
  ((pasteRes ((L.map (·.d)).getLastD zTok) ((R.map (·.d)).headD zTok)).2 = true ∧ ∃ (v : Value) (X : Elem Tok), e = .returned (.tuple #[v, .bool true]) ∧ RowN sTok base 35 v (L.dropLast ++ X :: R.tail) w' ∧ X.d = (pasteRes ((L.map (·.d)).getLastD zTok) ((R.map (·.d)).headD zTok)).1 ∧
    Own w' w.heap.size X.fp ∧ Kept vl.ownBlock.toList w w' ∧ (v.ownBlock = vl.ownBlock ∨ ∃ b, v.ownBlock = some b ∧ w.heap.size ≤ b))
theorem GlueOf.no {base : Nat} {vl : Value} {L R : List (Elem Tok)} {w w' : World} {z : Tok} (h : pasteRes ((L.map (·.d)).getLastD zTok) ((R.map (·.d)).headD zTok) = (z, false)) (hb : Below w.heap.size w w') : GlueOf base vl L R w (.returned (.tuple #[.slice none 0 0, .bool false])) w' :=
  .inl ⟨by rw [h], rfl, hb⟩
theorem GlueOf.yes {base : Nat} {vl v : Value} {L R : List (Elem Tok)} {X : Elem Tok} {w w' : World} {z : Tok} (h : pasteRes ((L.map (·.d)).getLastD zTok) ((R.map (·.d)).headD zTok) = (z, true)) (hr : RowN sTok base 35 v (L.dropLast ++ X :: R.tail) w') (hx : X.d = z)
    (ho : Own w' w.heap.size X.fp) (hk : Kept vl.ownBlock.toList w w') (hv : v.ownBlock = vl.ownBlock ∨ ∃ b, v.ownBlock = some b ∧ w.heap.size ≤ b) : GlueOf base vl L R w (.returned (.tuple #[v, .bool true])) w' :=
  .inr ⟨by rw [h], v, X, rfl, hr, by rw [h]; exact hx, ho, hk, hv⟩
/-- What is done stays apart from what is glued. -/
theorem TwoN.glued {base : Nat} {vd vl vr v : Value} {D L R : List (Elem Tok)} {X : Elem Tok} {w w' : World} (h : TwoN base vd D vl L w) (h2 : TwoN base vl L vr R w) (h3 : ∀ b, vd.ownBlock = some b → ∀ x ∈ R, b ∉ x.fp) (h4 : ∀ b ∈ D.flatMap (·.fp), b ∉ R.flatMap (·.fp)) (hb : base ≤ w.heap.size)
    (hr : RowN sTok base 35 v (L.dropLast ++ X :: R.tail) w') (ho : Own w' w.heap.size X.fp) (hk : Kept vl.ownBlock.toList w w') (hv : v.ownBlock = vl.ownBlock ∨ ∃ b, v.ownBlock = some b ∧ w.heap.size ≤ b) : TwoN base vd D v (L.dropLast ++ X :: R.tail) w' where
  d := h.d.kept hk (fun g hg hx => by simp only [Option.mem_toList] at hx; exact h.ne g hg hx) (fun x hx b hb hx' => by simp only [Option.mem_toList] at hx'; exact h.dl x hx b hb hx')
  l := hr
  own := by
    have hsL : (L.dropLast.flatMap (·.fp)).Sublist (L.flatMap (·.fp)) := flats_sub (List.dropLast_sublist L)
    have hsR : (R.tail.flatMap (·.fp)).Sublist (R.flatMap (·.fp)) := flats_sub (List.tail_sublist R)
    have hK : ∀ b ∈ D.flatMap (·.fp) ++ (L.dropLast.flatMap (·.fp) ++ R.tail.flatMap (·.fp)), b < w.heap.size ∧ b ∉ vl.ownBlock.toList := fun b hb => by
      simp only [Option.mem_toList]
      rcases List.mem_append.1 hb with hb | hb
      · obtain ⟨x, q1, q2⟩ := List.mem_flatMap.1 hb
        exact ⟨h.lt.2.2.1 x q1 b q2, h.dl x q1 b q2⟩
      · rcases List.mem_append.1 hb with hb | hb
        · obtain ⟨x, q1, q2⟩ := List.mem_flatMap.1 (hsL.subset hb)
          exact ⟨h.lt.2.2.2 x q1 b q2, h.l.ap x q1 b q2⟩
        · obtain ⟨x, q1, q2⟩ := List.mem_flatMap.1 (hsR.subset hb)
          exact ⟨h2.lt.2.2.2 x q1 b q2, h2.ld x q1 b q2⟩
    have o1 : Own w base (D.flatMap (·.fp) ++ (L.dropLast.flatMap (·.fp) ++ R.tail.flatMap (·.fp))) := by
      have a1 := h.own.split
      have a2 := h2.own.split
      have n1 : (L.dropLast.flatMap (·.fp) ++ R.tail.flatMap (·.fp)).Nodup := (hsL.append hsR).nodup h2.own.1
      refine a1.1.app ⟨n1, fun b hb => ?_⟩ fun b hb hx => ?_
      · rcases List.mem_append.1 hb with hb | hb
        · exact a2.1.2 b (hsL.subset hb)
        · exact a2.2.1.2 b (hsR.subset hb)
      · rcases List.mem_append.1 hx with hx | hx
        · exact (List.nodup_append.1 h.own.1).2.2 b hb b (hsL.subset hx) rfl
        · exact h4 b hb (hsR.subset hx)
    have o2 : Own w' base (D.flatMap (·.fp) ++ (L.dropLast.flatMap (·.fp) ++ R.tail.flatMap (·.fp))) := o1.kept (fun b hb => (hK b hb).2) hk
    have o3 : Own w' base ((D.flatMap (·.fp) ++ (L.dropLast.flatMap (·.fp) ++ R.tail.flatMap (·.fp))) ++ X.fp) := o2.app (ho.lower hb) fun b hb hx => by
      have := (hK b hb).1; have := (ho.2 b hx).1; omega
    refine ⟨?_, fun b hb => o3.2 b ?_⟩
    · refine (List.Perm.nodup_iff ?_).1 o3.1
      rw [List.append_assoc, List.flatMap_append, List.flatMap_cons, List.append_assoc]
      exact (List.Perm.refl _).append ((List.Perm.refl _).append List.perm_append_comm)
    · simp only [List.flatMap_append, List.flatMap_cons, List.mem_append] at hb ⊢
      rcases hb with hb | hb | hb | hb
      · exact .inl (.inl hb)
      · exact .inl (.inr (.inl hb))
      · exact .inr hb
      · exact .inl (.inr (.inr hb))
  ne := fun b hb hx => by
    rcases hv with e | ⟨c, e, hc⟩
    · exact h.ne b hb (by rw [← e]; exact hx)
    · rw [e, Option.some.injEq] at hx; subst hx; have := h.lt.1 _ hb; omega
  dl := fun x hx b hb hx' => by
    rcases hv with e | ⟨c, e, hc⟩
    · exact h.dl x hx b hb (by rw [← e]; exact hx')
    · rw [e, Option.some.injEq] at hx'; subst hx'; have := h.lt.2.2.1 x hx _ hb; omega
  ld := fun x hx b hb hx' => by
    rcases List.mem_append.1 hx with hx | hx
    · exact h.ld x ((List.dropLast_sublist L).subset hx) b hb hx'
    · rcases List.mem_cons.1 hx with rfl | hx
      · have := h.lt.1 _ hx'; have := (ho.2 b hb).1; omega
      · exact h3 b hx' x (List.mem_of_mem_tail hx) hb

/-- append of elements that stand somewhere; at one operation of a drawn region. -/
theorem step_append_rowNR {α : Type} {S : Shape α} {P : Program} {t e : TypeId} {z : Value} {bytes : Nat} (ti : TI P t e z S.m bytes) (hzs : z.cells.size = S.m) (h0 : 0 < S.m) (w : World) {L X : List (Elem α)} {ops : Array Oper} {o : Oper} {a : Act} {K : Act → World → Prop} {Q : Exit → Act → World → Prop} {E : Prop}
    (d : Nat) (hdst : o.dst = some d) (hg : o.guard = none) (s y : Operand) (ho : o.op = .call { callee := .builtin .append, args := #[s, y], argTypes := #[t, t] })
    (base : Nat) (v : Value) (hs : a.eval s = v) (hown : RowN S base e v L w) (ad : Addr) (m c : Nat) (hy : a.eval y = .slice (some ad) m c) (hm : X.length = m)
    (hX : ∀ x ∈ X, x.cells.length = S.m ∧ S.R w x.cells x.d x.fp ∧ ∀ b ∈ x.fp, v.ownBlock ≠ some b) (h1 : ∀ x ∈ X, ∀ u ∈ x.cells, u.oneCell' = true) (hcell : ∀ j u, (X.flatMap (·.cells))[j]? = some u → w.cell? (ad.add j) = some u)
    (h63 : L.length + m ≤ maxLen) (hbytes : (L.length + m) * bytes ≤ 140737488355328) (hbase : base ≤ w.heap.size)
    (h : ∀ v' w', RowN S base e v' (L ++ X) w' → w.grownBy w' v.ownBlock → (v'.ownBlock = v.ownBlock ∨ v'.ownBlock = some w.heap.size) → K (a.put (some d) v') w') : if Region.wanted o (yielded ops a.tmps) = true then Oper.wp P o a w K Q else E := by
  rw [← hdst] at h
  have hwt : Region.wanted o (yielded ops a.tmps) = true := by simp [Region.wanted, hg]
  rw [if_pos hwt]
  exact step_append_rowN ti hzs h0 w s y ho base v hs hown ad m c hy hm hX h1 hcell h63 hbytes hbase h

set_option maxHeartbeats 1000000 in
theorem impl_paste_none (al : Option Addr) (cl : Nat) (vr : Value) (w : World) : Calls Try.prog 28 #[.slice al 0 cl, vr] w fun e w' => e = .returned (.tuple #[vr, .bool true]) ∧ w' = w := by
  go_enter Try.func28, Try.ntmps28
  go_wp2
  go_ret2
  exact ⟨rfl, rfl⟩
set_option maxHeartbeats 1000000 in
theorem impl_paste_left (al ar : Option Addr) (n cl cr : Nat) (w : World) (hn : 0 < n) : Calls Try.prog 28 #[.slice al n cl, .slice ar 0 cr] w fun e w' => e = .returned (.tuple #[.slice al n cl, .bool true]) ∧ w' = w := by
  have e0 : ((n : Int) == 0) = false := by rw [beq_eq_false_iff_ne]; omega
  go_enter Try.func28, Try.ntmps28
  go_wp2
  go_ret2
  exact ⟨rfl, rfl⟩

set_option maxHeartbeats 16000000 in
set_option maxRecDepth 100000 in
theorem impl_pastePieces (base : Nat) (vl vr : Value) (L R : List (Elem Tok)) (w : World) (hbase : base ≤ w.heap.size) (H : TwoN base vl L vr R w) (hl : 0 < L.length) (hr : 0 < R.length) (hlm : L.length ≤ 5000) (hrm : R.length ≤ 5000) (hhl : ∀ x ∈ L, x.d.hidden.length ≤ 60) (hhr : ∀ x ∈ R, x.d.hidden.length ≤ 60) :
    Calls Try.prog 28 #[vl, vr] w (GlueOf base vl L R w) := by
  obtain ⟨al, co, rfl, hco, hcm, hvl⟩ := H.d.val
  obtain ⟨g, rfl, hgw, hg3⟩ := hvl hl
  obtain ⟨ar, c9, rfl, hc9, hc9m, hvr⟩ := H.l.val
  obtain ⟨g9, rfl, hg9w, hg93⟩ := hvr hr
  clear hvl hvr
  obtain ⟨N, HN⟩ : ∃ N : Nat, Hid (N = L.length) := ⟨L.length, Lib.hid rfl⟩
  obtain ⟨N9, HN9⟩ : ∃ N9 : Nat, Hid (N9 = R.length) := ⟨R.length, Lib.hid rfl⟩
  have HR := Lib.hid H.d
  have HR9' := Lib.hid H.l
  have HLD := Lib.hid H.ld
  rw [show L.length = N from HN.out.symm] at HR hl hlm hco ⊢
  rw [show R.length = N9 from HN9.out.symm] at HR9' hr hrm hc9 ⊢
  have hgg : g ≠ g9 := fun e => H.ne g rfl (by rw [e]; rfl)
  have hNl : N - 1 < L.length := by have := HN.out; omega
  have hN9l : 0 < R.length := by have := HN9.out; omega
  obtain ⟨y, hyd⟩ : ∃ y : Elem Tok, Hid (y = L[N - 1]'hNl) := ⟨L[N - 1]'hNl, Lib.hid rfl⟩
  obtain ⟨x, hxd⟩ : ∃ x : Elem Tok, Hid (x = R[0]'hN9l) := ⟨R[0]'hN9l, Lib.hid rfl⟩
  have hym : y ∈ L := by rw [hyd.out]; exact List.getElem_mem hNl
  have hxm : x ∈ R := by rw [hxd.out]; exact List.getElem_mem hN9l
  obtain ⟨hyv, hyc, -, -, KY⟩ := HR.out.el y hym
  obtain ⟨ya, yc, rfl, -⟩ := open_strs KY
  obtain ⟨hxv, hxc, -, -, KX⟩ := HR9'.out.el x hxm
  obtain ⟨xa, xc, rfl, -⟩ := open_strs KX
  clear KY KX
  have RY := HR.out.el y hym
  have RX := HR9'.out.el x hxm
  rw [hyc] at RY
  rw [hxc] at RX
  have y0 : w.cell? ⟨g, (N - 1) * 4, none⟩ = some (.int .i64 y.d.kind) := HR.out.cellAt hNl (j := 0) (by decide) (by rw [← hyd.out, hyc]; rfl)
  have y1 : w.cell? ⟨g, (N - 1) * 4 + 1, none⟩ = some (.string y.d.text) := HR.out.cellAt hNl (j := 1) (by decide) (by rw [← hyd.out, hyc]; rfl)
  have y2 : w.cell? ⟨g, (N - 1) * 4 + 2, none⟩ = some (.bool y.d.spaced) := HR.out.cellAt hNl (j := 2) (by decide) (by rw [← hyd.out, hyc]; rfl)
  have y3 : w.cell? ⟨g, (N - 1) * 4 + 3, none⟩ = some (.slice ya y.d.hidden.length yc) := HR.out.cellAt hNl (j := 3) (by decide) (by rw [← hyd.out, hyc]; rfl)
  have x0 : w.cell? ⟨g9, 0, none⟩ = some (.int .i64 x.d.kind) := by have := HR9'.out.cellAt hN9l (j := 0) (by decide) (u := .int .i64 x.d.kind) (by rw [← hxd.out, hxc]; rfl); simpa using this
  have x1 : w.cell? ⟨g9, 1, none⟩ = some (.string x.d.text) := by have := HR9'.out.cellAt hN9l (j := 1) (by decide) (u := .string x.d.text) (by rw [← hxd.out, hxc]; rfl); simpa using this
  have x2 : w.cell? ⟨g9, 2, none⟩ = some (.bool x.d.spaced) := by have := HR9'.out.cellAt hN9l (j := 2) (by decide) (u := .bool x.d.spaced) (by rw [← hxd.out, hxc]; rfl); simpa using this
  have x3 : w.cell? ⟨g9, 3, none⟩ = some (.slice xa x.d.hidden.length xc) := by have := HR9'.out.cellAt hN9l (j := 3) (by decide) (u := .slice xa x.d.hidden.length xc) (by rw [← hxd.out, hxc]; rfl); simpa using this
  have HYX : Hid ((L.map (·.d)).getLastD zTok = y.d ∧ (R.map (·.d)).headD zTok = x.d) := by
    refine ⟨?_, ?_⟩
    · have hne : L.map (·.d) ≠ [] := fun h => by have := congrArg List.length h; rw [List.length_map] at this; simp at this; rw [this] at hNl; simp at hNl
      rw [List.getLastD_eq_getLast?, List.getLast?_eq_some_getLast hne, Option.getD_some, List.getLast_eq_getElem, List.getElem_map, hyd.out]
      congr 2
      rw [List.length_map]; have := HN.out; omega
    · rw [hxd.out]
      cases R with
      | nil => simp at hN9l
      | cons q r => rfl
  have hyh : y.d.hidden.length ≤ 60 := hhl y hym
  have hxh : x.d.hidden.length ≤ 60 := hhr x hxm
  rcases hpr : pasteRes y.d x.d with ⟨z, fine⟩
  have HPR := Lib.hid hpr
  have HPT2 := Lib.hid (fun (U : World) (hU : Below w.heap.size w U) => impl_PasteTokens [.int .i64 y.d.kind, .string y.d.text, .bool y.d.spaced, .slice ya y.d.hidden.length yc] [.int .i64 x.d.kind, .string x.d.text, .bool x.d.spaced, .slice xa x.d.hidden.length xc] y.d x.d y.fp x.fp U (by omega) (by omega) (sTok.below RY hU) (sTok.below RX hU))
  unfold PasteOf at HPT2
  rw [hpr] at HPT2
  try dsimp only at HPT2
  have HPZ : Hid (pasteRes ((L.map (·.d)).getLastD zTok) ((R.map (·.d)).headD zTok) = (z, fine)) := by show _ = _; rw [HYX.out.1, HYX.out.2]; exact HPR.out
  have HSS : Hid (∀ U : World, Below w.heap.size w U → U.cell? ⟨g, (N - 1) * 4, none⟩ = some (.int .i64 y.d.kind) ∧ U.cell? ⟨g, (N - 1) * 4 + 1, none⟩ = some (.string y.d.text) ∧ U.cell? ⟨g, (N - 1) * 4 + 2, none⟩ = some (.bool y.d.spaced) ∧ U.cell? ⟨g, (N - 1) * 4 + 3, none⟩ = some (.slice ya y.d.hidden.length yc) ∧ U.cell? ⟨g9, 0, none⟩ = some (.int .i64 x.d.kind) ∧ U.cell? ⟨g9, 1, none⟩ = some (.string x.d.text) ∧ U.cell? ⟨g9, 2, none⟩ = some (.bool x.d.spaced) ∧ U.cell? ⟨g9, 3, none⟩ = some (.slice xa x.d.hidden.length xc)) := fun U hU => ⟨(hU.cell hg3).trans y0, (hU.cell hg3).trans y1, (hU.cell hg3).trans y2, (hU.cell hg3).trans y3, (hU.cell hg93).trans x0, (hU.cell hg93).trans x1, (hU.cell hg93).trans x2, (hU.cell hg93).trans x3⟩
  have hcs : Below w.heap.size w w.drew := belowN (Below.refl _ _) 1
  have hwn : IntKind.i64.wrap ((N : Int) - 1) = (N : Int) - 1 := IntWalk.i64_in _ (by omega)
  have n0 : ((N : Int) == 0) = false := by rw [beq_eq_false_iff_ne]; omega
  have m0 : ((N9 : Int) == 0) = false := by rw [beq_eq_false_iff_ne]; omega
  have n1 : (0 : Int) ≤ (N : Int) - 1 := by omega
  have n2 : (N : Int) - 1 < (N : Int) := by omega
  have n3 : ((N : Int) - 1).toNat = N - 1 := by omega
  have n4 : (1 : Int) ≤ (N : Int) := by omega
  have n5 : (0 : Int) < (N9 : Int) := by omega
  clear y0 y1 y2 y3 x0 x1 x2 x3 hpr RY RX hxc
  go_enter Try.func28, Try.ntmps28
  go_upto_region 6 with fail
  go_cut [7, 8] from 9 (fun d e wx => ∃ (gB : Nat) (za : Option Addr) (zc : Nat) (fz : List Nat), d = .pointer (some ⟨gB, 0, none⟩) ∧ e = .bool fine ∧ wx.heap[gB]? = some (.cells #[.int .i64 z.kind, .string z.text, .bool z.spaced, .slice za z.hidden.length zc] 35 (0, 0)) ∧ w.heap.size ≤ gB ∧ gB < wx.heap.size ∧ sTok.R wx [.int .i64 z.kind, .string z.text, .bool z.spaced, .slice za z.hidden.length zc] z fz ∧ Own wx w.heap.size fz ∧ Below w.heap.size w wx)
  case first =>
    refine wp_region_noPanic ?_
    refine wp_region_held_drew (S := fun w' => w'.cell? ⟨g, (N - 1) * 4, none⟩ = some (.int .i64 y.d.kind) ∧ w'.cell? ⟨g, (N - 1) * 4 + 1, none⟩ = some (.string y.d.text) ∧ w'.cell? ⟨g, (N - 1) * 4 + 2, none⟩ = some (.bool y.d.spaced) ∧ w'.cell? ⟨g, (N - 1) * 4 + 3, none⟩ = some (.slice ya y.d.hidden.length yc) ∧ w'.cell? ⟨g9, 0, none⟩ = some (.int .i64 x.d.kind) ∧ w'.cell? ⟨g9, 1, none⟩ = some (.string x.d.text) ∧ w'.cell? ⟨g9, 2, none⟩ = some (.bool x.d.spaced) ∧ w'.cell? ⟨g9, 3, none⟩ = some (.slice xa x.d.hidden.length xc)) (by kernel_rfl) (by exact HSS.out _ hcs) (fun hHeld => ?_)
    generalize w.drew = wd at *
    refine takeH2 0 21 (v := ?_) rfl rfl (by kernel_rfl) (by kernel_rfl) (by kernel_rfl) (fun _ _ _ h => h) (by rfl) (by assumption) ?_ ?_
    rotate_left
    · intro w hSw; go_simp; (first | done | with_reducible rfl | rfl)
    try simp only [Act.put, List.setIfInBounds_toArray, List.set_cons_zero, List.set_cons_succ]
    refine takeH2 1 22 (v := ?_) rfl rfl (by kernel_rfl) (by kernel_rfl) (by kernel_rfl) (fun _ _ _ h => h) (by rfl) (by assumption) ?_ ?_
    rotate_left
    · intro w hSw; go_simp; (first | done | with_reducible rfl | rfl)
    try simp only [Act.put, List.setIfInBounds_toArray, List.set_cons_zero, List.set_cons_succ]
    refine takeH2 2 23 (v := ?_) rfl rfl (by kernel_rfl) (by kernel_rfl) (by kernel_rfl) (fun _ _ _ h => h) (by rfl) (by assumption) ?_ ?_
    rotate_left
    · intro w hSw; go_simp; (first | done | with_reducible rfl | rfl)
    try simp only [Act.put, List.setIfInBounds_toArray, List.set_cons_zero, List.set_cons_succ]
    refine takeH2 3 24 (v := ?_) rfl rfl (by kernel_rfl) (by kernel_rfl) (by kernel_rfl) (fun _ _ _ h => h) (by rfl) (by assumption) ?_ ?_
    rotate_left
    · intro w hSw; obtain ⟨s0, s1, s2, s3, t0, t1, t2, t3⟩ := hSw; go_simp; (first | done | with_reducible rfl | rfl)
    try simp only [Act.put, List.setIfInBounds_toArray, List.set_cons_zero, List.set_cons_succ]
    refine takeH2 4 25 (v := ?_) rfl rfl (by kernel_rfl) (by kernel_rfl) (by kernel_rfl) (fun _ _ _ h => h) (by rfl) (by assumption) ?_ ?_
    rotate_left
    · intro w hSw; go_simp; (first | done | with_reducible rfl | rfl)
    try simp only [Act.put, List.setIfInBounds_toArray, List.set_cons_zero, List.set_cons_succ]
    refine takeH2 5 26 (v := ?_) rfl rfl (by kernel_rfl) (by kernel_rfl) (by kernel_rfl) (fun _ _ _ h => h) (by rfl) (by assumption) ?_ ?_
    rotate_left
    · intro w hSw; go_simp; (first | done | with_reducible rfl | rfl)
    try simp only [Act.put, List.setIfInBounds_toArray, List.set_cons_zero, List.set_cons_succ]
    refine takeH2 6 27 (v := ?_) rfl rfl (by kernel_rfl) (by kernel_rfl) (by kernel_rfl) (fun _ _ _ h => h) (by rfl) (by assumption) ?_ ?_
    rotate_left
    · intro w hSw; obtain ⟨s0, s1, s2, s3, t0, t1, t2, t3⟩ := hSw; go_simp; (first | done | with_reducible rfl | rfl)
    try simp only [Act.put, List.setIfInBounds_toArray, List.set_cons_zero, List.set_cons_succ]
    refine wpAnyH_ready (rs := [7, 11]) (by kernel_rfl) (by simp) ?_
    refine AllReadyH.cons rfl (fun K hK => ?_) ?_
    · skip
      go_simp
      refine (HPT2.out _ hcs).mono ?_
      rintro e wx1 ⟨czs, fz, rfl, rZ, oZ, brz⟩
      obtain ⟨hz, rfl, -, -, KZ⟩ := id rZ
      obtain ⟨za, zc, rfl, -⟩ := open_strs KZ
      clear KZ
      have hx1 := hcs.trans (brz.mono hcs.size)
      replace oZ := oZ.lower hcs.size
      refine hK.out _ _ (HSS.out _ hx1) (fun hHeld => ?_)
      clear hK K
      try simp only [Act.put, List.setIfInBounds_toArray, List.set_cons_zero, List.set_cons_succ]
      refine takeH2 8 20 (v := ?_) rfl rfl (by kernel_rfl) (by kernel_rfl) (by kernel_rfl) (fun _ _ _ h => h) (by rfl) (by assumption) ?_ ?_
      rotate_left
      · intro w hSw; go_simp; (first | done | with_reducible rfl | rfl)
      try simp only [Act.put, List.setIfInBounds_toArray, List.set_cons_zero, List.set_cons_succ]
      refine takeH2 9 29 (v := ?_) rfl rfl (by kernel_rfl) (by kernel_rfl) (by kernel_rfl) (fun _ _ _ h => h) (by rfl) (by assumption) ?_ ?_
      rotate_left
      · intro w hSw; go_simp; (first | done | with_reducible rfl | rfl)
      try simp only [Act.put, List.setIfInBounds_toArray, List.set_cons_zero, List.set_cons_succ]
      refine takeH2 10 30 (v := ?_) rfl rfl (by kernel_rfl) (by kernel_rfl) (by kernel_rfl) (fun _ _ _ h => h) (by rfl) (by assumption) ?_ ?_
      rotate_left
      · intro w hSw; go_simp; (first | done | with_reducible rfl | rfl)
      try simp only [Act.put, List.setIfInBounds_toArray, List.set_cons_zero, List.set_cons_succ]
      refine wpAnyH_ready (rs := [11]) (by kernel_rfl) (by simp) ?_
      refine AllReadyH.cons rfl (fun K hK => ?_) AllReadyH.nil
      go_simp
      have bk := alloc_below' wx1 (.cells #[.int .i64 0, .string ⟨#[]⟩, .bool false, .slice none 0 0] 35)
      have HBX := Lib.hid (heap_alloc_new wx1 (.cells #[.int .i64 0, .string ⟨#[]⟩, .bool false, .slice none 0 0] 35))
      have hx2 := hx1.trans (bk.mono hx1.size)
      have hge := hx1.size
      replace rZ := sTok.below rZ bk
      have hnz : wx1.heap.size ∉ fz := fun h => Nat.lt_irrefl _ (oZ.lt _ h)
      replace oZ := oZ.grow bk
      refine hK.out _ _ (HSS.out _ hx2) (fun hHeld => ?_)
      clear hK K bk
      try simp only [Act.put, List.setIfInBounds_toArray, List.set_cons_zero, List.set_cons_succ]
      generalize (wx1.alloc (.cells #[.int .i64 0, .string ⟨#[]⟩, .bool false, .slice none 0 0] 35)) = wx2 at *
      have zc0 := cell_of_row wx2 (wx1.heap.size) 0 _ _ _ HBX.out
      have zf0 : wx2.frozen? ⟨wx1.heap.size, 0, none⟩ = false := frozen_of_row _ _ 0 _ _ HBX.out
      have zc1 := cell_of_row wx2 (wx1.heap.size) 1 _ _ _ HBX.out
      have zf1 : wx2.frozen? ⟨wx1.heap.size, 1, none⟩ = false := frozen_of_row _ _ 1 _ _ HBX.out
      have zc2 := cell_of_row wx2 (wx1.heap.size) 2 _ _ _ HBX.out
      have zf2 : wx2.frozen? ⟨wx1.heap.size, 2, none⟩ = false := frozen_of_row _ _ 2 _ _ HBX.out
      have zc3 := cell_of_row wx2 (wx1.heap.size) 3 _ _ _ HBX.out
      have zf3 : wx2.frozen? ⟨wx1.heap.size, 3, none⟩ = false := frozen_of_row _ _ 3 _ _ HBX.out
      have HDN := Lib.hid (box_done HBX.out hge rZ oZ hnz hx2 (.int .i64 z.kind) (.string z.text) (.bool z.spaced) (.slice za z.hidden.length zc))
      refine wpAnyH_ready (rs := [12]) (by kernel_rfl) (by simp) ?_
      refine AllReadyH.cons rfl (fun K hK => ?_) AllReadyH.nil
      go_simp
      change K _ (set4 wx2 (wx1.heap.size) (.int .i64 z.kind) (.string z.text) (.bool z.spaced) (.slice za z.hidden.length zc))
      refine hK.out _ _ (HSS.out _ HDN.out.2.2.2.2.2) (fun hHeld => ?_)
      clear hK K
      try simp only [Act.put, List.setIfInBounds_toArray, List.set_cons_zero, List.set_cons_succ]
      refine takeH2 13 8 (v := ?_) rfl rfl (by kernel_rfl) (by kernel_rfl) (by kernel_rfl) (fun _ _ _ h => h) (by rfl) (by assumption) ?_ ?_
      rotate_left
      · intro w hSw; go_simp; (first | done | with_reducible rfl | rfl)
      try simp only [Act.put, List.setIfInBounds_toArray, List.set_cons_zero, List.set_cons_succ]
      refine wpAnyH_done (by kernel_rfl) ?_ _
      refine NoPanic.normal ?_
      clear hHeld
      go_wp2
      go_meet
      case rel => exact ⟨_, za, zc, _, rfl, rfl, HDN.out.1, HDN.out.2.1, HDN.out.2.2.1, HDN.out.2.2.2.1, HDN.out.2.2.2.2.1, HDN.out.2.2.2.2.2⟩
    refine AllReadyH.cons rfl (fun K hK => ?_) AllReadyH.nil
    go_simp
    have bk := alloc_below' wd (.cells #[.int .i64 0, .string ⟨#[]⟩, .bool false, .slice none 0 0] 35)
    have HBX := Lib.hid (heap_alloc_new wd (.cells #[.int .i64 0, .string ⟨#[]⟩, .bool false, .slice none 0 0] 35))
    have hx3 := hcs.trans (bk.mono hcs.size)
    have hge := hcs.size
    refine hK.out _ _ (HSS.out _ hx3) (fun hHeld => ?_)
    clear hK K bk
    try simp only [Act.put, List.setIfInBounds_toArray, List.set_cons_zero, List.set_cons_succ]
    generalize (wd.alloc (.cells #[.int .i64 0, .string ⟨#[]⟩, .bool false, .slice none 0 0] 35)) = wx3 at *
    refine wpAnyH_ready (rs := [7]) (by kernel_rfl) (by simp) ?_
    refine AllReadyH.cons rfl (fun K hK => ?_) AllReadyH.nil
    go_simp
    refine (HPT2.out _ hx3).mono ?_
    rintro e wx4 ⟨czs, fz, rfl, rZ, oZ, brz⟩
    obtain ⟨hz, rfl, -, -, KZ⟩ := id rZ
    obtain ⟨za, zc, rfl, -⟩ := open_strs KZ
    clear KZ
    have hx4 := hx3.trans (brz.mono hx3.size)
    have hnz : wd.heap.size ∉ fz := fun h => by have h1 := (oZ.2 _ h).1; have h2 := mlt HBX.out; omega
    replace HBX := Lib.hid (mbox HBX.out brz)
    replace oZ := oZ.lower hx3.size
    refine hK.out _ _ (HSS.out _ hx4) (fun hHeld => ?_)
    clear hK K
    try simp only [Act.put, List.setIfInBounds_toArray, List.set_cons_zero, List.set_cons_succ]
    refine takeH2 8 20 (v := ?_) rfl rfl (by kernel_rfl) (by kernel_rfl) (by kernel_rfl) (fun _ _ _ h => h) (by rfl) (by assumption) ?_ ?_
    rotate_left
    · intro w hSw; go_simp; (first | done | with_reducible rfl | rfl)
    try simp only [Act.put, List.setIfInBounds_toArray, List.set_cons_zero, List.set_cons_succ]
    refine takeH2 9 29 (v := ?_) rfl rfl (by kernel_rfl) (by kernel_rfl) (by kernel_rfl) (fun _ _ _ h => h) (by rfl) (by assumption) ?_ ?_
    rotate_left
    · intro w hSw; go_simp; (first | done | with_reducible rfl | rfl)
    try simp only [Act.put, List.setIfInBounds_toArray, List.set_cons_zero, List.set_cons_succ]
    refine takeH2 10 30 (v := ?_) rfl rfl (by kernel_rfl) (by kernel_rfl) (by kernel_rfl) (fun _ _ _ h => h) (by rfl) (by assumption) ?_ ?_
    rotate_left
    · intro w hSw; go_simp; (first | done | with_reducible rfl | rfl)
    try simp only [Act.put, List.setIfInBounds_toArray, List.set_cons_zero, List.set_cons_succ]
    have zc0 := cell_of_row wx4 (wd.heap.size) 0 _ _ _ HBX.out
    have zf0 : wx4.frozen? ⟨wd.heap.size, 0, none⟩ = false := frozen_of_row _ _ 0 _ _ HBX.out
    have zc1 := cell_of_row wx4 (wd.heap.size) 1 _ _ _ HBX.out
    have zf1 : wx4.frozen? ⟨wd.heap.size, 1, none⟩ = false := frozen_of_row _ _ 1 _ _ HBX.out
    have zc2 := cell_of_row wx4 (wd.heap.size) 2 _ _ _ HBX.out
    have zf2 : wx4.frozen? ⟨wd.heap.size, 2, none⟩ = false := frozen_of_row _ _ 2 _ _ HBX.out
    have zc3 := cell_of_row wx4 (wd.heap.size) 3 _ _ _ HBX.out
    have zf3 : wx4.frozen? ⟨wd.heap.size, 3, none⟩ = false := frozen_of_row _ _ 3 _ _ HBX.out
    have HDN := Lib.hid (box_done HBX.out hge rZ oZ hnz hx4 (.int .i64 z.kind) (.string z.text) (.bool z.spaced) (.slice za z.hidden.length zc))
    refine wpAnyH_ready (rs := [12]) (by kernel_rfl) (by simp) ?_
    refine AllReadyH.cons rfl (fun K hK => ?_) AllReadyH.nil
    go_simp
    change K _ (set4 wx4 (wd.heap.size) (.int .i64 z.kind) (.string z.text) (.bool z.spaced) (.slice za z.hidden.length zc))
    refine hK.out _ _ (HSS.out _ HDN.out.2.2.2.2.2) (fun hHeld => ?_)
    clear hK K
    try simp only [Act.put, List.setIfInBounds_toArray, List.set_cons_zero, List.set_cons_succ]
    refine takeH2 13 8 (v := ?_) rfl rfl (by kernel_rfl) (by kernel_rfl) (by kernel_rfl) (fun _ _ _ h => h) (by rfl) (by assumption) ?_ ?_
    rotate_left
    · intro w hSw; go_simp; (first | done | with_reducible rfl | rfl)
    try simp only [Act.put, List.setIfInBounds_toArray, List.set_cons_zero, List.set_cons_succ]
    refine wpAnyH_done (by kernel_rfl) ?_ _
    refine NoPanic.normal ?_
    clear hHeld
    go_wp2
    go_meet
    case rel => exact ⟨_, za, zc, _, rfl, rfl, HDN.out.1, HDN.out.2.1, HDN.out.2.2.1, HDN.out.2.2.2.1, HDN.out.2.2.2.2.1, HDN.out.2.2.2.2.2⟩
  obtain ⟨gB, za, zc, fz, rfl, rfl, HZB0, hgB1, hgB2, RZ, hfz, hbz⟩ := hcut
  generalize wc = wb at *
  have HZB := Lib.hid HZB0
  replace HR := Lib.hid (HR.out.below hbz)
  replace HR9' := Lib.hid (HR9'.out.below hbz)
  clear HZB0 HPT2 HSS hcs
  cases fine
  · go_wp2
    go_ret2
    exact GlueOf.no HPZ.out hbz
  have hgx : g ∉ fz := fun h => by have := (hfz.2 _ h).1; omega
  obtain ⟨R1, HR1⟩ : ∃ R1 : List (Elem Tok), Hid (R1 = R.tail) := ⟨R.tail, Lib.hid rfl⟩
  have HRC : Hid (R1.length = N9 - 1) := by show _ = _; rw [HR1.out, List.length_tail]; have := HN9.out; omega
  have HRM : Hid (∀ q ∈ R1, q ∈ R) := fun q hq => List.mem_of_mem_tail (by rw [← HR1.out]; exact hq)
  have hcl : Below wb.heap.size wb wb.drew := belowN (Below.refl _ _) 1
  have hwd := hcl.size
  have bl := alloc_below' wb.drew (.cells #[.int .i64 z.kind, .string z.text, .bool z.spaced, .slice za z.hidden.length zc] 35)
  have HL5 := Lib.hid (heap_alloc_new wb.drew (.cells #[.int .i64 z.kind, .string z.text, .bool z.spaced, .slice za z.hidden.length zc] 35))
  have HS5 := Lib.hid ((HR.out.short (k := N - 1) (by have := HN.out; omega)).below (hcl.trans (bl.mono hcl.size)))
  have RZ5 := Lib.hid (sTok.below RZ (hcl.trans (bl.mono hcl.size)))
  have OZ5 := Lib.hid ((hfz.grow hcl).grow bl)
  have HR95 := Lib.hid (HR9'.out.below (hcl.trans (bl.mono hcl.size)))
  have hbz5 := hbz.trans ((hcl.trans (bl.mono hcl.size)).mono hbz.size)
  have HZ5 := Lib.hid (mbox HZB.out (hcl.trans (bl.mono hcl.size)))
  have HZd : wb.drew.heap[gB]? = some (.cells #[.int .i64 z.kind, .string z.text, .bool z.spaced, .slice za z.hidden.length zc] 35 (0, 0)) := HZB.out
  have hlt' : (L.take (N - 1)).length = N - 1 := by rw [List.length_take]; have := HN.out; omega
  have HTL := Lib.hid hlt'
  obtain ⟨L1, HL1⟩ : ∃ L1 : List (Elem Tok), Hid (L1 = L.take (N - 1)) := ⟨L.take (N - 1), Lib.hid rfl⟩
  have HL1D : Hid (L1 = L.dropLast) := by show _ = _; rw [HL1.out, List.dropLast_eq_take]; congr 1; have := HN.out; omega
  rw [show L.take (N - 1) = L1 from HL1.out.symm] at HS5 HTL
  have HL1M : Hid (∀ q ∈ L1, q ∈ L) := fun q hq => List.mem_of_mem_take (by rw [← HL1.out]; exact hq)
  have hgb3 : g < wb.heap.size := Nat.lt_of_lt_of_le hg3 hbz.size
  have hg9b3 : g9 < wb.heap.size := Nat.lt_of_lt_of_le hg93 hbz.size
  clear hlt' hcl bl HR HR9' hfz RZ
  have HRT : Hid (∀ j u, (R1.flatMap (·.cells))[j]? = some u → (wb.drew.alloc (.cells #[.int .i64 z.kind, .string z.text, .bool z.spaced, .slice za z.hidden.length zc] 35)).cell? ⟨g9, 4 + j, none⟩ = some u) := by
    intro j u hj
    cases R with
    | nil => simp at hN9l
    | cons q r =>
      have e1 : R1 = r := HR1.out
      rw [e1] at hj
      have hql : q.cells.length = 4 := HR95.out.len q (by simp)
      have hj2 : j < (r.flatMap (·.cells)).length := (List.getElem?_eq_some_iff.1 hj).1
      rw [flatMap_len (f := Elem.cells) (m := 4) (fun q' hq' => HR95.out.len q' (by simp [hq']))] at hj2
      have hrow := HR95.out.row
      rw [show N9 = (q :: r).length from HN9.out] at hrow
      rw [hrow.cellAt (4 + j) (by show 4 + j < (r.length + 1) * 4; omega), List.flatMap_cons, List.getElem?_append_right (by omega), hql, show 4 + j - 4 = j by omega]
      exact hj
  generalize hw5 : (wb.drew.alloc (.cells #[.int .i64 z.kind, .string z.text, .bool z.spaced, .slice za z.hidden.length zc] 35)) = w5 at HL5 HS5 RZ5 OZ5 HR95 hbz5 HZ5 HRT
  have HW5 := Lib.hid hw5
  clear hw5
  have o1 : (1 : Int) ≤ (N9 : Int) := by omega
  have o2 : 1 ≤ N9 := hr
  have o3 : 1 ≤ c9 := by omega
  have o4 : (1 : Int) ≤ (c9 : Int) := by omega
  have o5 : (N : Int) - 1 ≤ (co : Int) := by omega
  have o6 : N - 1 ≤ co := by omega
  by_cases h1 : c9 = 1
  · have HC1 : Hid (c9 = 1 ∧ N9 - 1 = 0) := ⟨h1, by omega⟩
    have HSL : Hid (Value.slice (if c9 = 1 then some ⟨g9, 0, none⟩ else some ⟨g9, 4, none⟩) (N9 - 1) (c9 - 1) = .slice (some ⟨g9, 0, none⟩) (N9 - 1) (c9 - 1)) := by show _ = _; rw [if_pos h1]
    go_upto_region 9 with fail
    refine wp_region_noPanic ?_
    refine wp_region_held_drew (S := fun w' => w'.heap[gB]? = some (.cells #[.int .i64 z.kind, .string z.text, .bool z.spaced, .slice za z.hidden.length zc] 35 (0, 0))) (by kernel_rfl) (by exact HZd) (fun hHeld => ?_)
    generalize wb.drew = wd at *
    refine takeH2 0 33 (v := ?_) rfl rfl (by kernel_rfl) (by kernel_rfl) (by kernel_rfl) (fun _ _ _ h => h) (by rfl) (by assumption) ?_ ?_
    rotate_left
    · intro w hSw; go_simp; (first | done | with_reducible rfl | rfl)
    try simp only [Act.put, List.setIfInBounds_toArray, List.set_cons_zero, List.set_cons_succ]
    refine takeH2 1 34 (v := ?_) rfl rfl (by kernel_rfl) (by kernel_rfl) (by kernel_rfl) (fun _ _ _ h => h) (by rfl) (by assumption) ?_ ?_
    rotate_left
    · intro w hSw; go_simp; (first | done | with_reducible rfl | rfl)
    try simp only [Act.put, List.setIfInBounds_toArray, List.set_cons_zero, List.set_cons_succ]
    refine takeH2 2 35 (v := ?_) rfl rfl (by kernel_rfl) (by kernel_rfl) (by kernel_rfl) (fun _ _ _ h => h) (by rfl) (by assumption) ?_ ?_
    rotate_left
    · intro w hSw; go_simp; (first | done | with_reducible rfl | rfl)
    try simp only [Act.put, List.setIfInBounds_toArray, List.set_cons_zero, List.set_cons_succ]
    refine takeH2 3 36 (v := ?_) rfl rfl (by kernel_rfl) (by kernel_rfl) (by kernel_rfl) (fun _ _ _ h => h) (by rfl) (by assumption) ?_ ?_
    rotate_left
    · intro w hSw; have t0 := cell_of_row _ _ 0 _ _ _ hSw; have t1 := cell_of_row _ _ 1 _ _ _ hSw; have t2 := cell_of_row _ _ 2 _ _ _ hSw; have t3 := cell_of_row _ _ 3 _ _ _ hSw; go_simp; (first | done | with_reducible rfl | rfl)
    try simp only [Act.put, List.setIfInBounds_toArray, List.set_cons_zero, List.set_cons_succ]
    refine takeH2 6 39 (v := ?_) rfl rfl (by kernel_rfl) (by kernel_rfl) (by kernel_rfl) (fun _ _ _ h => h) (by rfl) (by assumption) ?_ ?_
    rotate_left
    · intro w hSw; go_simp; (first | done | with_reducible rfl | rfl)
    try simp only [Act.put, List.setIfInBounds_toArray, List.set_cons_zero, List.set_cons_succ]
    refine takeH2 7 40 (v := ?_) rfl rfl (by kernel_rfl) (by kernel_rfl) (by kernel_rfl) (fun _ _ _ h => h) (by rfl) (by assumption) ?_ ?_
    rotate_left
    · intro w hSw; go_simp; (first | done | with_reducible rfl | rfl)
    try simp only [Act.put, List.setIfInBounds_toArray, List.set_cons_zero, List.set_cons_succ]
    refine wpAnyH_ready (rs := [4]) (by kernel_rfl) (by simp) ?_
    refine AllReadyH.cons rfl (fun K hK => ?_) AllReadyH.nil
    go_simp
    rw [HW5.out]
    refine hK.out _ _ HZ5.out (fun hHeld => ?_)
    clear hK K
    try simp only [Act.put, List.setIfInBounds_toArray, List.set_cons_zero, List.set_cons_succ]
    refine wpAnyH_ready (rs := [5]) (by kernel_rfl) (by simp) ?_
    refine AllReadyH.cons rfl (fun K hK => ?_) AllReadyH.nil
    refine step_append_rowNR (X := [(⟨[.int .i64 z.kind, .string z.text, .bool z.spaced, .slice za z.hidden.length zc], z, fz⟩ : Elem Tok)]) ti_tok rfl (by decide) _ 38 rfl rfl (.tmp 35) (.tmp 37) rfl base (.slice (some ⟨g, 0, none⟩) (N - 1) co) rfl HS5.out ⟨wd.heap.size, 0, none⟩ 1 1 rfl rfl (fun q hq => by obtain rfl := List.mem_singleton.1 hq; exact ⟨rfl, RZ5.out, fun b hb h => hgx (by simp only [Value.ownBlock, Option.some.injEq] at h; rw [h]; exact hb)⟩) (fun q hq => by obtain rfl := List.mem_singleton.1 hq; exact tok_one1 _ _ _ _ RZ5.out) (fun j u hj => by rw [addr_add, Nat.zero_add, cell_of_row _ _ _ _ _ _ HL5.out]; simpa using hj) (by have := HTL.out; unfold maxLen; omega) (by have := HTL.out; omega) (Nat.le_trans hbase hbz5.size) ?_
    intro v6 w6 hG6 hg6 hp6
    have hv6 : ∀ b, v6.ownBlock = some b → b = g ∨ w.heap.size ≤ b := fun b hb => by
      rcases hp6 with h | h
      · rw [h] at hb; simp only [Value.ownBlock, Option.some.injEq] at hb; exact .inl hb.symm
      · rw [h] at hb; simp only [Option.some.injEq] at hb; have := hbz5.size; right; omega
    have hv6b : ∀ b, v6.ownBlock = some b → b = g ∨ w5.heap.size ≤ b := fun b hb => by
      rcases hp6 with h | h
      · rw [h] at hb; simp only [Value.ownBlock, Option.some.injEq] at hb; exact .inl hb.symm
      · rw [h] at hb; simp only [Option.some.injEq] at hb; right; omega
    have HZ6 := Lib.hid ((hg6.block _ (mlt HZ5.out) (fun e => by simp only [Value.ownBlock, Option.some.injEq] at e; omega)).trans HZ5.out)
    have hK6 : Kept [g] w w6 := (Kept.of_below hbz5).trans ((grown_kept hg6).mono (fun b hb => by simpa [Value.ownBlock] using hb))
    have OZ6 := Lib.hid (own_grownN OZ5.out (fun b hb h => hgx (by simp only [Value.ownBlock, Option.some.injEq] at h; rw [h]; exact hb)) hg6)
    have HRE6 : Hid (∀ q ∈ R1, q.cells.length = 4 ∧ sTok.R w6 q.cells q.d q.fp ∧ ∀ b ∈ q.fp, v6.ownBlock ≠ some b) := fun q hq => by
      have hqR := HRM.out q hq
      have q1 := HR95.out.el q hqR
      have q2 : ∀ b ∈ q.fp, b ≠ g := fun b hb e => HLD.out q hqR b hb (by rw [e]; rfl)
      refine ⟨HR95.out.len q hqR, sTok.frame (fun b hb => hg6.block b (sTok.lt q1 b hb) (fun e => by simp only [Value.ownBlock, Option.some.injEq] at e; exact q2 b hb e)) q1, fun b hb h => ?_⟩
      rcases hv6b b h with h | h
      · exact q2 b hb h
      · have := sTok.lt q1 b hb; omega
    have HRT6 : Hid (∀ j u, (R1.flatMap (·.cells))[j]? = some u → w6.cell? ⟨g9, 4 + j, none⟩ = some u) := fun j u hj => (World.cell?_of_block (hg6.block g9 (Nat.lt_of_lt_of_le hg93 hbz5.size) (fun e => by simp only [Value.ownBlock, Option.some.injEq] at e; exact hgg e.symm))).trans (HRT.out j u hj)
    have hl6 : (L1 ++ [(⟨[.int .i64 z.kind, .string z.text, .bool z.spaced, .slice za z.hidden.length zc], z, fz⟩ : Elem Tok)]).length = N := by rw [List.length_append, HTL.out]; simp; omega
    have HL6 := Lib.hid hl6
    obtain ⟨a6, c6, hv6e, -⟩ := hG6.val
    rw [hl6] at hv6e
    subst hv6e
    have HG6 := Lib.hid hG6
    obtain ⟨M6, HM6⟩ : ∃ M6, Hid (M6 = L1 ++ [(⟨[.int .i64 z.kind, .string z.text, .bool z.spaced, .slice za z.hidden.length zc], z, fz⟩ : Elem Tok)]) := ⟨L1 ++ [(⟨[.int .i64 z.kind, .string z.text, .bool z.spaced, .slice za z.hidden.length zc], z, fz⟩ : Elem Tok)], Lib.hid rfl⟩
    rw [show L1 ++ [(⟨[.int .i64 z.kind, .string z.text, .bool z.spaced, .slice za z.hidden.length zc], z, fz⟩ : Elem Tok)] = M6 from HM6.out.symm] at HG6 HL6
    have hs6 := hg6.size
    clear hG6 hg6 hp6 hl6 hv6
    refine hK.out _ _ HZ6.out (fun hHeld => ?_)
    clear hK K
    try simp only [Act.put, List.setIfInBounds_toArray, List.set_cons_zero, List.set_cons_succ]
    refine wpAnyH_ready (rs := [8]) (by kernel_rfl) (by simp) ?_
    refine AllReadyH.cons rfl (fun K hK => ?_) AllReadyH.nil
    refine step_append_rowNR (X := R1) ti_tok rfl (by decide) _ 41 rfl rfl (.tmp 38) (.tmp 40) rfl base (.slice a6 N c6) rfl HG6.out ⟨g9, 0, none⟩ (N9 - 1) 0 rfl HRC.out (fun q hq => HRE6.out q hq) (fun q hq => tok_one1 _ _ _ _ (HRE6.out q hq).2.1) (fun j u hj => by have h1 : R1 = [] := List.length_eq_zero_iff.1 (by have := HRC.out; have := HC1.out; omega); rw [h1] at hj; simp at hj) (by have := HL6.out; unfold maxLen; omega) (by have := HL6.out; omega) (by have := hbz5.size; omega) ?_
    intro v7 w7 hG7 hg7 hp7
    have HZ7 := Lib.hid ((hg7.block _ (Nat.lt_of_lt_of_le (mlt HZ5.out) hs6) (fun e => by rcases hv6b gB e.symm with h | h; omega; have := mlt HZ5.out; omega)).trans HZ6.out)
    have hK7 : Kept [g] w w7 := ⟨hg7.os.trans hK6.os, hg7.tape.trans hK6.tape, hg7.output.trans hK6.output, Nat.le_trans hK6.size hg7.size, fun b hb hn => (hg7.block b (Nat.lt_of_lt_of_le hb hK6.size) (fun e => by rcases hv6b b e.symm with h | h; exact hn (by simp [h]); have := hbz5.size; omega)).trans (hK6.block b hb hn)⟩
    have OZ7 := Lib.hid (own_grownN OZ6.out (fun b hb h => by rcases hv6b b h with h | h; exact hgx (h ▸ hb); have := OZ5.out.lt b hb; omega) hg7)
    have hv7 : v7.ownBlock = some g ∨ ∃ b, v7.ownBlock = some b ∧ w.heap.size ≤ b := by
      rcases hp7 with h | h
      · obtain ⟨a8, c8, e8, -, -, h8⟩ := HG6.out.val
        simp only [Value.slice.injEq] at e8
        obtain ⟨rfl, -, -⟩ := e8
        obtain ⟨g8, rfl, -, -⟩ := h8 (by have := HL6.out; omega)
        rcases hv6b g8 rfl with h6 | h6
        · left; rw [h, ← h6]; rfl
        · right; exact ⟨g8, h, by have := hbz5.size; omega⟩
      · right; exact ⟨_, h, by have := hbz5.size; omega⟩
    have HG7 : Hid (RowN sTok base 35 v7 (L.dropLast ++ (⟨[.int .i64 z.kind, .string z.text, .bool z.spaced, .slice za z.hidden.length zc], z, fz⟩ : Elem Tok) :: R.tail) w7) := by
      show RowN _ _ _ _ _ _
      rw [HM6.out, HL1D.out, HR1.out, List.append_assoc] at hG7
      exact hG7
    clear hG7 hg7 hp7
    refine hK.out _ _ HZ7.out (fun hHeld => ?_)
    clear hK K
    try simp only [Act.put, List.setIfInBounds_toArray, List.set_cons_zero, List.set_cons_succ]
    refine takeH2 9 4 (v := ?_) rfl rfl (by kernel_rfl) (by kernel_rfl) (by kernel_rfl) (fun _ _ _ h => h) (by rfl) (by assumption) ?_ ?_
    rotate_left
    · intro w hSw; go_simp; (first | done | with_reducible rfl | rfl)
    try simp only [Act.put, List.setIfInBounds_toArray, List.set_cons_zero, List.set_cons_succ]
    refine takeH2 10 5 (v := ?_) rfl rfl (by kernel_rfl) (by kernel_rfl) (by kernel_rfl) (fun _ _ _ h => h) (by rfl) (by assumption) ?_ ?_
    rotate_left
    · intro w hSw; go_simp; (first | done | with_reducible rfl | rfl)
    try simp only [Act.put, List.setIfInBounds_toArray, List.set_cons_zero, List.set_cons_succ]
    refine wpAnyH_done (by kernel_rfl) ?_ _
    refine NoPanic.normal ?_
    clear hHeld
    go_wp2
    go_ret2
    exact GlueOf.yes (X := ⟨[.int .i64 z.kind, .string z.text, .bool z.spaced, .slice za z.hidden.length zc], z, fz⟩) HPZ.out HG7.out rfl OZ7.out hK7 hv7
  · have HC1 : Hid (c9 ≠ 1) := h1
    have HSL : Hid (Value.slice (if c9 = 1 then some ⟨g9, 0, none⟩ else some ⟨g9, 4, none⟩) (N9 - 1) (c9 - 1) = .slice (some ⟨g9, 4, none⟩) (N9 - 1) (c9 - 1)) := by show _ = _; rw [if_neg h1]
    go_upto_region 9 with fail
    refine wp_region_noPanic ?_
    refine wp_region_held_drew (S := fun w' => w'.heap[gB]? = some (.cells #[.int .i64 z.kind, .string z.text, .bool z.spaced, .slice za z.hidden.length zc] 35 (0, 0))) (by kernel_rfl) (by exact HZd) (fun hHeld => ?_)
    generalize wb.drew = wd at *
    refine takeH2 0 33 (v := ?_) rfl rfl (by kernel_rfl) (by kernel_rfl) (by kernel_rfl) (fun _ _ _ h => h) (by rfl) (by assumption) ?_ ?_
    rotate_left
    · intro w hSw; go_simp; (first | done | with_reducible rfl | rfl)
    try simp only [Act.put, List.setIfInBounds_toArray, List.set_cons_zero, List.set_cons_succ]
    refine takeH2 1 34 (v := ?_) rfl rfl (by kernel_rfl) (by kernel_rfl) (by kernel_rfl) (fun _ _ _ h => h) (by rfl) (by assumption) ?_ ?_
    rotate_left
    · intro w hSw; go_simp; (first | done | with_reducible rfl | rfl)
    try simp only [Act.put, List.setIfInBounds_toArray, List.set_cons_zero, List.set_cons_succ]
    refine takeH2 2 35 (v := ?_) rfl rfl (by kernel_rfl) (by kernel_rfl) (by kernel_rfl) (fun _ _ _ h => h) (by rfl) (by assumption) ?_ ?_
    rotate_left
    · intro w hSw; go_simp; (first | done | with_reducible rfl | rfl)
    try simp only [Act.put, List.setIfInBounds_toArray, List.set_cons_zero, List.set_cons_succ]
    refine takeH2 3 36 (v := ?_) rfl rfl (by kernel_rfl) (by kernel_rfl) (by kernel_rfl) (fun _ _ _ h => h) (by rfl) (by assumption) ?_ ?_
    rotate_left
    · intro w hSw; have t0 := cell_of_row _ _ 0 _ _ _ hSw; have t1 := cell_of_row _ _ 1 _ _ _ hSw; have t2 := cell_of_row _ _ 2 _ _ _ hSw; have t3 := cell_of_row _ _ 3 _ _ _ hSw; go_simp; (first | done | with_reducible rfl | rfl)
    try simp only [Act.put, List.setIfInBounds_toArray, List.set_cons_zero, List.set_cons_succ]
    refine takeH2 6 39 (v := ?_) rfl rfl (by kernel_rfl) (by kernel_rfl) (by kernel_rfl) (fun _ _ _ h => h) (by rfl) (by assumption) ?_ ?_
    rotate_left
    · intro w hSw; go_simp; (first | done | with_reducible rfl | rfl)
    try simp only [Act.put, List.setIfInBounds_toArray, List.set_cons_zero, List.set_cons_succ]
    refine takeH2 7 40 (v := ?_) rfl rfl (by kernel_rfl) (by kernel_rfl) (by kernel_rfl) (fun _ _ _ h => h) (by rfl) (by assumption) ?_ ?_
    rotate_left
    · intro w hSw; go_simp; (first | done | with_reducible rfl | rfl)
    try simp only [Act.put, List.setIfInBounds_toArray, List.set_cons_zero, List.set_cons_succ]
    refine wpAnyH_ready (rs := [4]) (by kernel_rfl) (by simp) ?_
    refine AllReadyH.cons rfl (fun K hK => ?_) AllReadyH.nil
    go_simp
    rw [HW5.out]
    refine hK.out _ _ HZ5.out (fun hHeld => ?_)
    clear hK K
    try simp only [Act.put, List.setIfInBounds_toArray, List.set_cons_zero, List.set_cons_succ]
    refine wpAnyH_ready (rs := [5]) (by kernel_rfl) (by simp) ?_
    refine AllReadyH.cons rfl (fun K hK => ?_) AllReadyH.nil
    refine step_append_rowNR (X := [(⟨[.int .i64 z.kind, .string z.text, .bool z.spaced, .slice za z.hidden.length zc], z, fz⟩ : Elem Tok)]) ti_tok rfl (by decide) _ 38 rfl rfl (.tmp 35) (.tmp 37) rfl base (.slice (some ⟨g, 0, none⟩) (N - 1) co) rfl HS5.out ⟨wd.heap.size, 0, none⟩ 1 1 rfl rfl (fun q hq => by obtain rfl := List.mem_singleton.1 hq; exact ⟨rfl, RZ5.out, fun b hb h => hgx (by simp only [Value.ownBlock, Option.some.injEq] at h; rw [h]; exact hb)⟩) (fun q hq => by obtain rfl := List.mem_singleton.1 hq; exact tok_one1 _ _ _ _ RZ5.out) (fun j u hj => by rw [addr_add, Nat.zero_add, cell_of_row _ _ _ _ _ _ HL5.out]; simpa using hj) (by have := HTL.out; unfold maxLen; omega) (by have := HTL.out; omega) (Nat.le_trans hbase hbz5.size) ?_
    intro v6 w6 hG6 hg6 hp6
    have hv6 : ∀ b, v6.ownBlock = some b → b = g ∨ w.heap.size ≤ b := fun b hb => by
      rcases hp6 with h | h
      · rw [h] at hb; simp only [Value.ownBlock, Option.some.injEq] at hb; exact .inl hb.symm
      · rw [h] at hb; simp only [Option.some.injEq] at hb; have := hbz5.size; right; omega
    have hv6b : ∀ b, v6.ownBlock = some b → b = g ∨ w5.heap.size ≤ b := fun b hb => by
      rcases hp6 with h | h
      · rw [h] at hb; simp only [Value.ownBlock, Option.some.injEq] at hb; exact .inl hb.symm
      · rw [h] at hb; simp only [Option.some.injEq] at hb; right; omega
    have HZ6 := Lib.hid ((hg6.block _ (mlt HZ5.out) (fun e => by simp only [Value.ownBlock, Option.some.injEq] at e; omega)).trans HZ5.out)
    have hK6 : Kept [g] w w6 := (Kept.of_below hbz5).trans ((grown_kept hg6).mono (fun b hb => by simpa [Value.ownBlock] using hb))
    have OZ6 := Lib.hid (own_grownN OZ5.out (fun b hb h => hgx (by simp only [Value.ownBlock, Option.some.injEq] at h; rw [h]; exact hb)) hg6)
    have HRE6 : Hid (∀ q ∈ R1, q.cells.length = 4 ∧ sTok.R w6 q.cells q.d q.fp ∧ ∀ b ∈ q.fp, v6.ownBlock ≠ some b) := fun q hq => by
      have hqR := HRM.out q hq
      have q1 := HR95.out.el q hqR
      have q2 : ∀ b ∈ q.fp, b ≠ g := fun b hb e => HLD.out q hqR b hb (by rw [e]; rfl)
      refine ⟨HR95.out.len q hqR, sTok.frame (fun b hb => hg6.block b (sTok.lt q1 b hb) (fun e => by simp only [Value.ownBlock, Option.some.injEq] at e; exact q2 b hb e)) q1, fun b hb h => ?_⟩
      rcases hv6b b h with h | h
      · exact q2 b hb h
      · have := sTok.lt q1 b hb; omega
    have HRT6 : Hid (∀ j u, (R1.flatMap (·.cells))[j]? = some u → w6.cell? ⟨g9, 4 + j, none⟩ = some u) := fun j u hj => (World.cell?_of_block (hg6.block g9 (Nat.lt_of_lt_of_le hg93 hbz5.size) (fun e => by simp only [Value.ownBlock, Option.some.injEq] at e; exact hgg e.symm))).trans (HRT.out j u hj)
    have hl6 : (L1 ++ [(⟨[.int .i64 z.kind, .string z.text, .bool z.spaced, .slice za z.hidden.length zc], z, fz⟩ : Elem Tok)]).length = N := by rw [List.length_append, HTL.out]; simp; omega
    have HL6 := Lib.hid hl6
    obtain ⟨a6, c6, hv6e, -⟩ := hG6.val
    rw [hl6] at hv6e
    subst hv6e
    have HG6 := Lib.hid hG6
    obtain ⟨M6, HM6⟩ : ∃ M6, Hid (M6 = L1 ++ [(⟨[.int .i64 z.kind, .string z.text, .bool z.spaced, .slice za z.hidden.length zc], z, fz⟩ : Elem Tok)]) := ⟨L1 ++ [(⟨[.int .i64 z.kind, .string z.text, .bool z.spaced, .slice za z.hidden.length zc], z, fz⟩ : Elem Tok)], Lib.hid rfl⟩
    rw [show L1 ++ [(⟨[.int .i64 z.kind, .string z.text, .bool z.spaced, .slice za z.hidden.length zc], z, fz⟩ : Elem Tok)] = M6 from HM6.out.symm] at HG6 HL6
    have hs6 := hg6.size
    clear hG6 hg6 hp6 hl6 hv6
    refine hK.out _ _ HZ6.out (fun hHeld => ?_)
    clear hK K
    try simp only [Act.put, List.setIfInBounds_toArray, List.set_cons_zero, List.set_cons_succ]
    refine wpAnyH_ready (rs := [8]) (by kernel_rfl) (by simp) ?_
    refine AllReadyH.cons rfl (fun K hK => ?_) AllReadyH.nil
    refine step_append_rowNR (X := R1) ti_tok rfl (by decide) _ 41 rfl rfl (.tmp 38) (.tmp 40) rfl base (.slice a6 N c6) rfl HG6.out ⟨g9, 4, none⟩ (N9 - 1) (c9 - 1) rfl HRC.out (fun q hq => HRE6.out q hq) (fun q hq => tok_one1 _ _ _ _ (HRE6.out q hq).2.1) (fun j u hj => by rw [addr_add]; exact HRT6.out j u hj) (by have := HL6.out; unfold maxLen; omega) (by have := HL6.out; omega) (by have := hbz5.size; omega) ?_
    intro v7 w7 hG7 hg7 hp7
    have HZ7 := Lib.hid ((hg7.block _ (Nat.lt_of_lt_of_le (mlt HZ5.out) hs6) (fun e => by rcases hv6b gB e.symm with h | h; omega; have := mlt HZ5.out; omega)).trans HZ6.out)
    have hK7 : Kept [g] w w7 := ⟨hg7.os.trans hK6.os, hg7.tape.trans hK6.tape, hg7.output.trans hK6.output, Nat.le_trans hK6.size hg7.size, fun b hb hn => (hg7.block b (Nat.lt_of_lt_of_le hb hK6.size) (fun e => by rcases hv6b b e.symm with h | h; exact hn (by simp [h]); have := hbz5.size; omega)).trans (hK6.block b hb hn)⟩
    have OZ7 := Lib.hid (own_grownN OZ6.out (fun b hb h => by rcases hv6b b h with h | h; exact hgx (h ▸ hb); have := OZ5.out.lt b hb; omega) hg7)
    have hv7 : v7.ownBlock = some g ∨ ∃ b, v7.ownBlock = some b ∧ w.heap.size ≤ b := by
      rcases hp7 with h | h
      · obtain ⟨a8, c8, e8, -, -, h8⟩ := HG6.out.val
        simp only [Value.slice.injEq] at e8
        obtain ⟨rfl, -, -⟩ := e8
        obtain ⟨g8, rfl, -, -⟩ := h8 (by have := HL6.out; omega)
        rcases hv6b g8 rfl with h6 | h6
        · left; rw [h, ← h6]; rfl
        · right; exact ⟨g8, h, by have := hbz5.size; omega⟩
      · right; exact ⟨_, h, by have := hbz5.size; omega⟩
    have HG7 : Hid (RowN sTok base 35 v7 (L.dropLast ++ (⟨[.int .i64 z.kind, .string z.text, .bool z.spaced, .slice za z.hidden.length zc], z, fz⟩ : Elem Tok) :: R.tail) w7) := by
      show RowN _ _ _ _ _ _
      rw [HM6.out, HL1D.out, HR1.out, List.append_assoc] at hG7
      exact hG7
    clear hG7 hg7 hp7
    refine hK.out _ _ HZ7.out (fun hHeld => ?_)
    clear hK K
    try simp only [Act.put, List.setIfInBounds_toArray, List.set_cons_zero, List.set_cons_succ]
    refine takeH2 9 4 (v := ?_) rfl rfl (by kernel_rfl) (by kernel_rfl) (by kernel_rfl) (fun _ _ _ h => h) (by rfl) (by assumption) ?_ ?_
    rotate_left
    · intro w hSw; go_simp; (first | done | with_reducible rfl | rfl)
    try simp only [Act.put, List.setIfInBounds_toArray, List.set_cons_zero, List.set_cons_succ]
    refine takeH2 10 5 (v := ?_) rfl rfl (by kernel_rfl) (by kernel_rfl) (by kernel_rfl) (fun _ _ _ h => h) (by rfl) (by assumption) ?_ ?_
    rotate_left
    · intro w hSw; go_simp; (first | done | with_reducible rfl | rfl)
    try simp only [Act.put, List.setIfInBounds_toArray, List.set_cons_zero, List.set_cons_succ]
    refine wpAnyH_done (by kernel_rfl) ?_ _
    refine NoPanic.normal ?_
    clear hHeld
    go_wp2
    go_ret2
    exact GlueOf.yes (X := ⟨[.int .i64 z.kind, .string z.text, .bool z.spaced, .slice za z.hidden.length zc], z, fz⟩) HPZ.out HG7.out rfl OZ7.out hK7 hv7

end Go.Proofs.Ytflbdanlcpojbaa

/- Substitute of the program. (Made by gen_sub10.py.) -/
namespace Go.Proofs.Ytflbdanlcpojbaa
open Go.RowKit

/-- append(s, row...), the row the call's own, too; at one operation. -/
theorem step_append_ownN {α : Type} {S : Shape α} {P : Program} {t e : TypeId} {z : Value} {bytes : Nat} (ti : TI P t e z S.m bytes) (hzs : z.cells.size = S.m) (h0 : 0 < S.m) (hone : ∀ w cs x fp, S.R w cs x fp → ∀ u ∈ cs, u.oneCell' = true) (w : World) {L X : List (Elem α)} {o : Oper} {a : Act} {K : Act → World → Prop} {Q : Exit → Act → World → Prop}
    (s y : Operand) (ho : o.op = .call { callee := .builtin .append, args := #[s, y], argTypes := #[t, t] })
    (base base' : Nat) (v u : Value) (hs : a.eval s = v) (hown : RowN S base e v L w) (hy : a.eval y = u) (hX : RowN S base' e u X w) (hap : ∀ x ∈ X, ∀ b ∈ x.fp, v.ownBlock ≠ some b)
    (h63 : L.length + X.length ≤ maxLen) (hbytes : (L.length + X.length) * bytes ≤ 140737488355328) (hbase : base ≤ w.heap.size)
    (h : ∀ v' w', RowN S base e v' (L ++ X) w' → w.grownBy w' v.ownBlock → (v'.ownBlock = v.ownBlock ∨ v'.ownBlock = some w.heap.size) → K (a.put o.dst v') w') : o.wp P a w K Q := by
  rcases hX.row.2 with ⟨rfl, hx0⟩ | ⟨g, cap, cur, rfl, -, -, -, -, -, -⟩
  · have hX0 : X = [] := List.length_eq_zero_iff.1 hx0
    subst hX0
    obtain ⟨i, hi, hz0, hz1, hz2⟩ := info_parts ti.2
    have hdone : K (a.put o.dst v) w := h v w (by simpa using hown) ⟨rfl, rfl, rfl, Nat.le_refl _, fun _ _ _ => rfl⟩ (.inl rfl)
    have hrun := run_append_none (P := P) (w := w) base _ o.type _ i S.m 0 ti.1 hi v L.length _ hown.row
    unfold Oper.wp
    simp [execOp, ho, resolve, invoke, builtin, hs, hy, hrun, Result.andThen]
    exact hdone
  · refine step_append_rowN ti hzs h0 w (X := X) s y ho base v hs hown ⟨g, 0, none⟩ X.length cap hy rfl (fun x hx => ⟨hX.len x hx, hX.el x hx, hap x hx⟩) (fun x hx => hone _ _ _ _ (hX.el x hx)) ?_ h63 hbytes hbase h
    intro j u hj
    have hjl := (List.getElem?_eq_some_iff.1 hj).1
    rw [flatMap_len (f := Elem.cells) hX.len] at hjl
    rw [Addr.add_lit, Nat.zero_add, hX.row.cellAt j hjl]
    exact hj
theorem wp_append_ownN {α : Type} {S : Shape α} {P : Program} {t e : TypeId} {z : Value} {bytes : Nat} (ti : TI P t e z S.m bytes) (hzs : z.cells.size = S.m) (h0 : 0 < S.m) (hone : ∀ w cs x fp, S.R w cs x fp → ∀ u ∈ cs, u.oneCell' = true) (w : World) {L X : List (Elem α)} {ops : Array Oper} {rest : List Oper} {o : Oper} {a : Act} {Q : Exit → Act → World → Prop}
    (hg : o.guard = none) (s y : Operand) (ho : o.op = .call { callee := .builtin .append, args := #[s, y], argTypes := #[t, t] })
    (base base' : Nat) (v u : Value) (hs : a.eval s = v) (hown : RowN S base e v L w) (hy : a.eval y = u) (hX : RowN S base' e u X w) (hap : ∀ x ∈ X, ∀ b ∈ x.fp, v.ownBlock ≠ some b)
    (h63 : L.length + X.length ≤ maxLen) (hbytes : (L.length + X.length) * bytes ≤ 140737488355328) (hbase : base ≤ w.heap.size)
    (h : ∀ v' w', RowN S base e v' (L ++ X) w' → w.grownBy w' v.ownBlock → (v'.ownBlock = v.ownBlock ∨ v'.ownBlock = some w.heap.size) → wpList P ops Q rest (a.put o.dst v') w') : wpList P ops Q (o :: rest) a w :=
  wpList_plain hg fun _ hK => step_append_ownN ti hzs h0 hone w s y ho base base' v u hs hown hy hX hap h63 hbytes hbase fun v' w' h2 h3 h4 => hK _ _ (h v' w' h2 h3 h4)

/-- What Substitute of the program hands back. -/
def MineSub (m : DMacro) (raw ready : List (List Tok)) (w : World) (e : Ending) (w' : World) : Prop :=
  ∃ (v : Value) (fp : List Nat), e = .returned (.tuple #[v, .bool (subRes m raw ready).2]) ∧ (sSlice sTok).R w' [v] (subRes m raw ready).1 fp ∧ Own w' w.heap.size fp ∧ Below w.heap.size w w'
theorem mineSub_no {m : DMacro} {raw ready : List (List Tok)} {w W : World} (h : subRes m raw ready = ([], false)) (hb : Below w.heap.size w W) : MineSub m raw ready w (.returned (.tuple #[.slice none 0 0, .bool false])) W :=
  ⟨_, [], by rw [h], by rw [h]; exact slice_empty _ _ _ _ (by simp), Own.nil _ _, hb⟩
theorem last_app {D L : List Tok} (h : L ≠ []) : (D ++ L).getLastD zTok = L.getLastD zTok := by
  rw [List.getLastD_eq_getLast?, List.getLastD_eq_getLast?, List.getLast?_append, List.getLast?_eq_some_getLast h]; rfl
theorem drop_app {D L : List Tok} (h : L ≠ []) : (D ++ L).dropLast = D ++ L.dropLast := List.dropLast_append_of_ne_nil h
theorem map_ne {L : List (Elem Tok)} (h : 0 < L.length) : L.map (·.d) ≠ [] := fun e => absurd (List.map_eq_nil_iff.1 e) (List.ne_nil_of_length_pos h)

set_option maxHeartbeats 16000000 in
set_option maxRecDepth 100000 in
theorem impl_Substitute (csM : List Value) (m : DMacro) (fpM : List Nat) (vr vy : Value) (raw ready : List (List Tok)) (fpr fpy : List Nat) (w : World)
    (HM : sMacro.R w csM m fpM) (Hr : (sSlice (sSlice sTok)).R w [vr] raw fpr) (Hy : (sSlice (sSlice sTok)).R w [vy] ready fpy) :
    Calls Try.prog 6 #[.agg csM.toArray, vr, vy] w (MineSub m raw ready w) := by
  have HM0 := HM
  obtain ⟨h2, h3, q2, q3, rfl, -, K2, K3, -⟩ := HM
  obtain ⟨a2, c2, rfl, -⟩ := open_strs K2
  obtain ⟨a3, c3, rfl, hc3, hm3, hrow3⟩ := open_rows K3
  obtain ⟨ar, cr, rfl, -⟩ := open_rows Hr
  obtain ⟨ay, cy, rfl, -⟩ := open_rows Hy
  unfold maxLen at hm3
  have b0 := alloc_below' w (.cells #[.string m.name, .bool m.function, .slice a2 m.params.length c2, .slice a3 m.body.length c3] 26)
  have HX := Lib.hid (heap_alloc_new w (.cells #[.string m.name, .bool m.function, .slice a2 m.params.length c2, .slice a3 m.body.length c3] 26))
  have HM1 := Lib.hid (sMacro.below HM0 b0)
  have Hr1 := Lib.hid ((sSlice (sSlice sTok)).below Hr b0)
  have Hy1 := Lib.hid ((sSlice (sSlice sTok)).below Hy b0)
  have HB3 := Lib.hid ((sSlice sTok).below K3 b0)
  have HROW : Hid (∀ hlt : 0 < m.body.length, ∃ bb ob, a3 = some ⟨bb, ob, none⟩) := fun h => by obtain ⟨b, o, -, e, -⟩ := hrow3 h; exact ⟨b, o, e⟩
  clear K2 K3 HM0 Hr Hy hrow3
  go_enter Try.func6, Try.ntmps6
  go_upto_region 1 with fail
  generalize (w.alloc (.cells #[.string m.name, .bool m.function, .slice a2 m.params.length c2, .slice a3 m.body.length c3] 26)) = W1 at *
  have HMV := Lib.hid (impl_MacroValid _ m fpM W1 HM1.out)
  have HAR := Lib.hid (fun (U : World) (hU : Below W1.heap.size W1 U) => impl_argumentsValid _ m fpM _ raw fpr U (sMacro.below HM1.out hU) ((sSlice (sSlice sTok)).below Hr1.out hU))
  have HAY := Lib.hid (fun (U : World) (hU : Below W1.heap.size W1 U) => impl_argumentsValid _ m fpM _ ready fpy U (sMacro.below HM1.out hU) ((sSlice (sSlice sTok)).below Hy1.out hU))
  have p0 := cell_of_row W1 (w.heap.size) 0 _ _ _ HX.out
  have p1 := cell_of_row W1 (w.heap.size) 1 _ _ _ HX.out
  have p2 := cell_of_row W1 (w.heap.size) 2 _ _ _ HX.out
  have p3 := cell_of_row W1 (w.heap.size) 3 _ _ _ HX.out
  cases hv : macOk m
  · have HF := Lib.hid (subRes_bad (m := m) (raw := raw) (ready := ready) (fun h => by rw [hv] at h; exact absurd h.1 (by simp) : ¬ (macOk m = true ∧ argsOk m raw = true ∧ argsOk m ready = true)))
    rw [hv] at HMV
    clear hv
    go_wp2_with fail
    refine (HMV.out).mono ?_
    rintro e w2 ⟨rfl, hb2⟩
    go_wp2
    go_ret2
    exact mineSub_no HF.out (b0.trans (hb2.mono b0.size))
  have HVv := Lib.hid hv
  rw [hv] at HMV
  clear hv
  go_wp2_with fail
  refine (HMV.out).mono ?_
  rintro e w2 ⟨rfl, hb2⟩
  clear p0 p1 p2 p3
  have hB2 := hb2
  have HX2 := Lib.hid (mbox HX.out hB2)
  have p0 := cell_of_row w2 (w.heap.size) 0 _ _ _ HX2.out
  have p1 := cell_of_row w2 (w.heap.size) 1 _ _ _ HX2.out
  have p2 := cell_of_row w2 (w.heap.size) 2 _ _ _ HX2.out
  have p3 := cell_of_row w2 (w.heap.size) 3 _ _ _ HX2.out
  cases ha : argsOk m raw
  · have HF := Lib.hid (subRes_bad (m := m) (raw := raw) (ready := ready) (fun h => by rw [ha] at h; exact absurd h.2.1 (by simp) : ¬ (macOk m = true ∧ argsOk m raw = true ∧ argsOk m ready = true)))
    rw [ha] at HAR
    clear ha
    go_wp2_with fail
    refine (HAR.out _ hB2).mono ?_
    rintro e w3 ⟨rfl, hb3⟩
    go_wp2
    go_ret2
    exact mineSub_no HF.out (b0.trans ((hB2.trans (hb3.mono hB2.size)).mono b0.size))
  have HVa := Lib.hid ha
  rw [ha] at HAR
  clear ha
  go_wp2_with fail
  refine (HAR.out _ hB2).mono ?_
  rintro e w3 ⟨rfl, hb3⟩
  clear p0 p1 p2 p3
  have hB3 := hB2.trans (hb3.mono hB2.size)
  have HX3 := Lib.hid (mbox HX.out hB3)
  have p0 := cell_of_row w3 (w.heap.size) 0 _ _ _ HX3.out
  have p1 := cell_of_row w3 (w.heap.size) 1 _ _ _ HX3.out
  have p2 := cell_of_row w3 (w.heap.size) 2 _ _ _ HX3.out
  have p3 := cell_of_row w3 (w.heap.size) 3 _ _ _ HX3.out
  cases hy : argsOk m ready
  · have HF := Lib.hid (subRes_bad (m := m) (raw := raw) (ready := ready) (fun h => by rw [hy] at h; exact absurd h.2.2 (by simp) : ¬ (macOk m = true ∧ argsOk m raw = true ∧ argsOk m ready = true)))
    rw [hy] at HAY
    clear hy
    go_wp2_with fail
    refine (HAY.out _ hB3).mono ?_
    rintro e w4 ⟨rfl, hb4⟩
    go_wp2
    go_ret2
    exact mineSub_no HF.out (b0.trans ((hB3.trans (hb4.mono hB3.size)).mono b0.size))
  have HVy := Lib.hid hy
  rw [hy] at HAY
  clear hy
  go_wp2_with fail
  refine (HAY.out _ hB3).mono ?_
  rintro e w4 ⟨rfl, hb4⟩
  clear p0 p1 p2 p3
  have hB4 := hB3.trans (hb4.mono hB3.size)
  clear HMV HAR HAY HX2 HX3 hb2 hb3 hb4 hB2 hB3
  have hlen20 : m.body.length ≤ 20 := (macOk_facts HVv.out).1.2.2.2.2
  have HPT := Lib.hid (fun (k : Nat) (hk : k < m.body.length) (U : World) (hU : Below W1.heap.size W1 U) => impl_pieceAt _ m fpM _ _ raw ready fpr fpy k U HVv.out HVa.out HVy.out hk (sMacro.below HM1.out hU) ((sSlice (sSlice sTok)).below Hr1.out hU) ((sSlice (sSlice sTok)).below Hy1.out hU))
  unfold PieceOf at HPT
  have HSM := Lib.hid (fun (k : Nat) (hk : k < m.body.length) (P : List Tok) (nx : Nat) (ok : Bool) (h : partAt m raw ready k = (P, nx, ok)) => part_small HVv.out HVa.out HVy.out hk h)
  have HBM := Lib.hid (fun (k : Nat) (hk : k < m.body.length) => body_isM HVv.out hk [35])
  have HMI := Lib.hid (fun (k : Nat) (hk : k < m.body.length) (h : isM m.body[k] [35, 35] = true) => mark_in HVv.out hk h)
  have hsz1 : w.heap.size < W1.heap.size := mlt HX.out
  clear HM1 Hr1 Hy1
  go_wp2
  go_loopw [8, 9, 10] (fun vd vl va wr => ∃ (k : Nat) (D L : List (Elem Tok)), k ≤ m.body.length ∧ va = .int .i64 k ∧ Hid (TwoN W1.heap.size vd D vl L wr) ∧ Hid (subGo m raw ready 0 [] true false = subGo m raw ready k ((D ++ L).map (·.d)) (decide (L.length = 0)) false) ∧ Hid (D.length + L.length ≤ 61 * k) ∧ Hid (∀ x ∈ D ++ L, x.d.hidden.length ≤ 60) ∧ Below W1.heap.size W1 wr) (fun _ _ va _ => m.body.length - (intOf va).toNat)
  case atStart => exact ⟨0, [], [], by omega, rfl, TwoN.start _ _, rfl, (show (0 : Nat) ≤ _ by omega), (fun x hx => by simp at hx), hB4⟩
  case round =>
    clear hB4
    obtain ⟨k, D, L, hk, rfl, HT, HGO, HLL, HHD, hb⟩ := hrel
    have HXr := Lib.hid (mbox HX.out hb)
    obtain ⟨ad, cd, hvd, -⟩ := HT.out.d.val
    obtain ⟨al, cl, hvl, hcl, -, -⟩ := HT.out.l.val
    subst hvd hvl
    obtain ⟨N, HN⟩ : ∃ N : Nat, Hid (N = L.length) := ⟨L.length, Lib.hid rfl⟩
    obtain ⟨ND, HND⟩ : ∃ N : Nat, Hid (N = D.length) := ⟨D.length, Lib.hid rfl⟩
    rw [show L.length = N from HN.out.symm] at HT hcl ⊢
    rw [show D.length = ND from HND.out.symm] at HT ⊢
    have hbw := b0.trans (hb.mono b0.size)
    have p0 := cell_of_row wr (w.heap.size) 0 _ _ _ HXr.out
    have p1 := cell_of_row wr (w.heap.size) 1 _ _ _ HXr.out
    have p2 := cell_of_row wr (w.heap.size) 2 _ _ _ HXr.out
    have p3 := cell_of_row wr (w.heap.size) 3 _ _ _ HXr.out
    by_cases hlt : k < m.body.length
    · obtain ⟨bb, ob, rfl⟩ := HROW.out (by omega)
      obtain ⟨xa, xc, xf, -, xq1, -, -, -, hbb, -⟩ := tok_at HB3.out hlt
      have x1 : wr.cell? ⟨bb, ob + k * 4 + 1, none⟩ = some _ := (hb.cell (p := ⟨bb, ob + k * 4 + 1, none⟩) hbb).trans xq1
      clear xq1
      have i0 : (0 : Int) ≤ (k : Int) := by omega
      have i1 : (k : Int) < (m.body.length : Int) := by omega
      cases hmk : isM m.body[k] [35, 35]
      · have e1 : (m.body[k].text.toList == [35, 35]) = false := by rw [← HBM.out k hlt]; exact hmk
        have HMK := Lib.hid hmk
        clear hmk
        rcases hP : partAt m raw ready k with ⟨P, nx, ok⟩
        have HS := Lib.hid (HSM.out k hlt P nx ok hP)
        have HPP := Lib.hid hP
        have HC := Lib.hid (HPT.out k hlt _ hb)
        rw [hP] at HC
        try dsimp only at HC
        clear hP
        go_wp2_with fail
        refine HC.out.mono ?_
        rintro e w3 ⟨v9, L9, rfl, HR9, HD9, HO9, hb3⟩
        have hB3 := hbw.trans (hb3.mono hbw.size)
        clear p0 p1 p2 p3 x1 e1 HC
        cases ok
        · have HF := Lib.hid (subRes_no (HGO.out.trans (sub_bad hlt (fun h => by rw [HMK.out] at h; exact absurd h.1 (by simp)) HPP.out)))
          go_wp2
          go_ret2
          exact mineSub_no HF.out hB3
        have hb13 := hb.trans (hb3.mono hb.size)
        have HT3 := Lib.hid (HT.out.below hb3)
        have HLT := Lib.hid HT.out.lt
        have HR9' := Lib.hid HR9
        have HO9' := Lib.hid HO9
        have HD9' := Lib.hid HD9
        obtain ⟨a9, c9, hv9, -⟩ := HR9.val
        subst hv9
        have hk20 : k ≤ 20 := by omega
        have hNL : ND + N ≤ 61 * k := by have := HLL.out; have := HN.out; have := HND.out; omega
        have hWr := hb.size
        clear HR9 HO9 HD9 HT
        go_wp2_with (at_builtin; refine wp_append_ownN ti_tok rfl (by decide) tok_one1 w3 rfl (.tmp 59) (.tmp 60) rfl W1.heap.size W1.heap.size (.slice ad ND cd) (.slice al N cl) rfl HT3.out.d rfl HT3.out.l HT3.out.ld (by have := HN.out; have := HND.out; unfold maxLen; omega) (by have := HN.out; have := HND.out; omega) hb13.size ?_; intro v5 w5 hR5 hg5 hp5)
        have hb5 : Below W1.heap.size W1 w5 := hb13.grown hg5 hb13.size (fun b hb => (HT3.out.d.mine b hb).1)
        have h9g : ∀ b, (Value.slice ad ND cd).ownBlock = some b → b < wr.heap.size := HLT.out.1
        have HT5 : Hid (TwoN W1.heap.size v5 (D ++ L) (.slice a9 L9.length c9) L9 w5) := by
          have ho5 := HT3.out.flushed hR5 hg5
          have hr9 : RowN sTok wr.heap.size 35 (.slice a9 L9.length c9) L9 w5 := HR9'.out.same (fun g hg => hg5.block g (HR9'.out.mine g hg).2 (fun e => by have := h9g g e.symm; have := (HR9'.out.mine g hg).1; omega)) (fun x hx b hb => hg5.block b (sTok.lt (HR9'.out.el x hx) b hb) (fun e => by have := h9g b e.symm; have := (HO9'.out.2 b (List.mem_flatMap.2 ⟨x, hx, hb⟩)).1; omega))
          have ho9 : Own w5 wr.heap.size (L9.flatMap (·.fp)) := own_grownN HO9'.out (fun b hb e => by have := h9g b e; have := (HO9'.out.2 b hb).1; omega) hg5
          show TwoN _ _ _ _ _ _
          have h3s := hb3.size
          rcases hp5 with hp5 | hp5
          · refine TwoN.fresh hR5 ho5 hr9 ho9 hWr (fun b hb => h9g b (by rw [← hp5]; exact hb)) (fun x hx b hb => ?_)
            rcases List.mem_append.1 hx with hx | hx
            · exact HLT.out.2.2.1 x hx b hb
            · exact HLT.out.2.2.2 x hx b hb
          · refine ⟨hR5, hr9.lower hWr, ho5.app (ho9.lower hWr) (fun b hb hx => ?_), (fun b hb hv => ?_), (fun x hx b hb hv => ?_), (fun x hx b hb hv => ?_)⟩
            · have h1 := (ho9.2 b hx).1
              obtain ⟨x, hx1, hx2⟩ := List.mem_flatMap.1 hb
              rcases List.mem_append.1 hx1 with hx1 | hx1
              · have := HLT.out.2.2.1 x hx1 b hx2; omega
              · have := HLT.out.2.2.2 x hx1 b hx2; omega
            · rw [hp5, Option.some.injEq] at hb
              have := (HR9'.out.mine b hv).2; omega
            · have h1 := (HR9'.out.mine b hv).1
              rcases List.mem_append.1 hx with hx | hx
              · have := HLT.out.2.2.1 x hx b hb; omega
              · have := HLT.out.2.2.2 x hx b hb; omega
            · rw [hp5, Option.some.injEq] at hv
              have := sTok.lt (HR9'.out.el x hx) b hb; omega
        have hPl : P.length = L9.length := by rw [← HD9'.out, List.length_map]
        have HGO5 : Hid (subGo m raw ready 0 [] true false = subGo m raw ready nx (((D ++ L) ++ L9).map (·.d)) (decide (L9.length = 0)) false) := by
          show _ = _
          rw [HGO.out, sub_put hlt (fun h => by rw [HMK.out] at h; exact absurd h.1 (by simp)) HPP.out (fun h => absurd h.1 (by simp)), List.map_append (l₁ := D ++ L), HD9'.out, hPl]
          simp
        have HLL5 : Hid ((D ++ L).length + L9.length ≤ 61 * nx) := by show _ ≤ _; rw [List.length_append, ← hPl]; have := HS.out.1; have := HS.out.2.2.1; have := HN.out; have := HND.out; omega
        have HHD5 : Hid (∀ x ∈ (D ++ L) ++ L9, x.d.hidden.length ≤ 60) := fun x hx => by
          rcases List.mem_append.1 hx with hx | hx
          · exact HHD.out x hx
          · have hm : x.d ∈ P := by rw [← HD9'.out]; exact List.mem_map.2 ⟨x, hx, rfl⟩
            exact HS.out.2.2.2 x.d hm
        have hnx := HS.out.2.1
        have hnk := HS.out.2.2.1
        clear hR5 hg5 hp5 h9g HR9' HO9' hPl
        go_wp2
        go_roundw
        case rel => exact ⟨nx, D ++ L, L9, hnx, by trivial, HT5, HGO5, HLL5, HHD5, hb5⟩
        case measure => simp [intOf]; omega
      · have e1 : (m.body[k].text.toList == [35, 35]) = true := by rw [← HBM.out k hlt]; exact hmk
        have hk1 : k + 1 < m.body.length := HMI.out k hlt hmk
        have HGO1 := Lib.hid (HGO.out.trans (by rw [sub_mark hlt hmk]))
        have hw1 : IntKind.i64.wrap ((k : Int) + 1) = (k : Int) + 1 := IntWalk.i64_in _ (by omega)
        clear hmk HGO
        rcases hP : partAt m raw ready (k + 1) with ⟨P, nx, ok⟩
        have HS := Lib.hid (HSM.out (k + 1) hk1 P nx ok hP)
        have HPP := Lib.hid hP
        have HC := Lib.hid (HPT.out (k + 1) hk1 _ hb)
        rw [hP] at HC
        try dsimp only at HC
        clear hP
        go_wp2_with fail
        refine HC.out.mono ?_
        rintro e w3 ⟨v9, L9, rfl, HR9, HD9, HO9, hb3⟩
        have hB3 := hbw.trans (hb3.mono hbw.size)
        clear p0 p1 p2 p3 x1 e1 HC
        cases ok
        · have HF := Lib.hid (subRes_no (HGO1.out.trans (sub_bad hk1 (fun h => absurd h.2 (by simp)) HPP.out)))
          go_wp2
          go_ret2
          exact mineSub_no HF.out hB3
        have hb13 := hb.trans (hb3.mono hb.size)
        have HT3 := Lib.hid (HT.out.below hb3)
        have HLT := Lib.hid HT.out.lt
        have HR9' := Lib.hid HR9
        have HO9' := Lib.hid HO9
        have HD9' := Lib.hid HD9
        obtain ⟨a9, c9, hv9, -⟩ := HR9.val
        subst hv9
        have hk20 : k ≤ 20 := by omega
        have hNL : ND + N ≤ 61 * k := by have := HLL.out; have := HN.out; have := HND.out; omega
        have hWr := hb.size
        have hPl : Hid (P.length = L9.length) := by show _ = _; rw [← HD9'.out, List.length_map]
        have HFR : Hid (TwoN W1.heap.size (.slice ad ND cd) D (.slice a9 L9.length c9) L9 w3) := TwoN.fresh HT3.out.d (HT3.out.own.split.1) HR9 HO9 hWr HLT.out.1 HLT.out.2.2.1
        have HFL : Hid (TwoN W1.heap.size (.slice al N cl) L (.slice a9 L9.length c9) L9 w3) := TwoN.fresh HT3.out.l (HT3.out.own.split.2.1) HR9 HO9 hWr HLT.out.2.1 HLT.out.2.2.2
        have hnx := HS.out.2.1
        have hnk := HS.out.2.2.1
        obtain ⟨N9, HN9⟩ : ∃ N9 : Nat, Hid (N9 = L9.length) := ⟨L9.length, Lib.hid rfl⟩
        rw [show L9.length = N9 from HN9.out.symm] at HFR HFL ⊢
        clear HR9 HO9 HD9 HT
        by_cases hN0 : N = 0
        · have hL0 : L = [] := List.length_eq_zero_iff.1 (by have := HN.out; omega)
          subst hN0
          subst hL0
          have HGO5 : Hid (subGo m raw ready 0 [] true false = subGo m raw ready nx ((D ++ L9).map (·.d)) (decide (L9.length = 0)) false) := by
            show _ = _
            rw [HGO1.out, sub_put hk1 (fun h => absurd h.2 (by simp)) HPP.out (fun h => absurd h.2.1 (by simp)), List.append_nil, List.map_append, HD9'.out, hPl.out]
            simp
          have HLL5 : Hid (D.length + L9.length ≤ 61 * nx) := by show _ ≤ _; have := hPl.out; have := HS.out.1; have := HND.out; omega
          have HHD5 : Hid (∀ x ∈ D ++ L9, x.d.hidden.length ≤ 60) := fun x hx => by
            rcases List.mem_append.1 hx with hx | hx
            · exact HHD.out x (by simpa using hx)
            · have hm : x.d ∈ P := by rw [← HD9'.out]; exact List.mem_map.2 ⟨x, hx, rfl⟩
              exact HS.out.2.2.2 x.d hm
          go_wp2_with fail
          refine (impl_paste_none al cl (.slice a9 N9 c9) w3).mono ?_
          rintro e w4 ⟨rfl, rfl⟩
          go_wp2
          go_roundw
          case rel => exact ⟨nx, D, L9, hnx, by trivial, HFR, HGO5, HLL5, HHD5, hb13⟩
          case measure => simp [intOf]; omega
        by_cases hN9 : N9 = 0
        · have hL0 : L9 = [] := List.length_eq_zero_iff.1 (by have := HN9.out; omega)
          have HP0 : Hid (P = []) := by show _ = _; rw [← HD9'.out, hL0]; rfl
          subst hN9
          have HNE : Hid (decide (L.length = 0) = false) := decide_eq_false (by have := HN.out; omega)
          have HGO5 : Hid (subGo m raw ready 0 [] true false = subGo m raw ready nx ((D ++ L).map (·.d)) (decide (L.length = 0)) false) := by
            show _ = _
            rw [HGO1.out, sub_put hk1 (fun h => absurd h.2 (by simp)) HPP.out (fun h => by rw [HP0.out] at h; exact absurd h.2.2 (by simp)), HP0.out, List.append_nil, HNE.out]
            rfl
          have HLL5 : Hid (D.length + L.length ≤ 61 * nx) := by show _ ≤ _; have := HLL.out; omega
          have hNp : 0 < N := by omega
          clear hL0
          go_wp2_with fail
          refine (impl_paste_left al a9 N cl c9 w3 hNp).mono ?_
          rintro e w4 ⟨rfl, rfl⟩
          go_wp2
          go_roundw
          case rel => exact ⟨nx, D, L, hnx, by trivial, HT3, HGO5, HLL5, HHD, hb13⟩
          case measure => simp [intOf]; omega
        have hNp : 0 < N := by omega
        have hN9p : 0 < N9 := by omega
        have HNE : Hid (decide (L.length = 0) = false) := decide_eq_false (by have := HN.out; omega)
        have HLN := Lib.hid (map_ne (L := L) (by have := HN.out; omega))
        have HPZ : Hid (P.headD zTok = (L9.map (·.d)).headD zTok) := by show _ = _; rw [HD9'.out]
        have HPp : Hid (0 < P.length) := by show _ < _; have := hPl.out; have := HN9.out; omega
        have hN960 : N9 ≤ 60 := by have := hPl.out; have := HN9.out; have := HS.out.1; omega
        have HG := Lib.hid (impl_pastePieces W1.heap.size (.slice al N cl) (.slice a9 N9 c9) L L9 w3 hb13.size HFL.out (by have := HN.out; omega) (by have := HN9.out; omega) (by have := HN.out; omega) (by have := HN9.out; omega) (fun x hx => HHD.out x (by simp [hx])) (fun x hx => HS.out.2.2.2 x.d (by rw [← HD9'.out]; exact List.mem_map.2 ⟨x, hx, rfl⟩)))
        unfold GlueOf at HG
        rcases hpr : pasteRes ((L.map (·.d)).getLastD zTok) ((L9.map (·.d)).headD zTok) with ⟨z, fine⟩
        rw [hpr] at HG
        try dsimp only at HG
        have HP3 : Hid (pasteRes (((D ++ L).map (·.d)).getLastD zTok) (P.headD zTok) = (z, fine)) := by show _ = _; rw [List.map_append, last_app HLN.out, HPZ.out]; exact hpr
        have HPF := Lib.hid hpr
        have HLA : Hid (((L.map (·.d)).getLastD zTok).hidden.length ≤ 60) := by
          show _ ≤ _
          rw [List.getLastD_eq_getLast?, List.getLast?_eq_some_getLast HLN.out, Option.getD_some]
          obtain ⟨x, hx, e⟩ := List.mem_map.1 (List.getLast_mem HLN.out)
          rw [← e]
          exact HHD.out x (by simp [hx])
        clear hpr
        cases fine
        · have HF := Lib.hid (subRes_no (HGO1.out.trans (sub_no hk1 (fun h => absurd h.2 (by simp)) HPP.out ⟨rfl, HNE.out, HPp.out⟩ HP3.out)))
          go_wp2_with fail
          refine HG.out.mono ?_
          rintro e w4 (⟨-, rfl, hb4⟩ | ⟨h, -⟩)
          rotate_left
          · exact absurd h (by simp)
          go_wp2
          go_ret2
          exact mineSub_no HF.out (hB3.trans (hb4.mono hB3.size))
        have HNX := Lib.hid (HGO1.out.trans (sub_yes hk1 (fun h => absurd h.2 (by simp)) HPP.out ⟨rfl, HNE.out, HPp.out⟩ HP3.out))
        have hDL : Hid (∀ b ∈ D.flatMap (·.fp), b ∉ L9.flatMap (·.fp)) := fun b hb hx => (List.nodup_append.1 HFR.out.own.1).2.2 b hb b hx rfl
        go_wp2_with fail
        refine HG.out.mono ?_
        rintro e w4 (⟨h, -⟩ | ⟨-, v4, X, rfl, HR4, hXz, HO4, HK4, hv4⟩)
        · exact absurd h (by simp)
        have HT5 := Lib.hid (TwoN.glued HT3.out HFL.out (fun b hb x hx h => HFR.out.ld x hx b h hb) hDL.out hb13.size HR4 HO4 HK4 hv4)
        have hb5 : Below W1.heap.size W1 w4 := hb13.trans (HK4.below (fun b hb => by simp only [Option.mem_toList] at hb; exact (HT3.out.l.mine b hb).1) hb13.size)
        have HGO5 : Hid (subGo m raw ready 0 [] true false = subGo m raw ready nx ((D ++ (L.dropLast ++ X :: L9.tail)).map (·.d)) (decide ((L.dropLast ++ X :: L9.tail).length = 0)) false) := by
          show _ = _
          rw [HNX.out, decide_eq_false (by rw [List.length_append, List.length_cons]; omega : ¬ (L.dropLast ++ X :: L9.tail).length = 0), List.map_append, drop_app HLN.out, List.map_append, List.map_append, List.map_cons, List.map_tail, List.map_dropLast, HD9'.out, hXz, List.append_assoc, HNE.out]
        have hlen5 : Hid ((L.dropLast ++ X :: L9.tail).length = N + N9 - 1) := by show _ = _; rw [List.length_append, List.length_cons, List.length_dropLast, List.length_tail]; have := HN.out; have := HN9.out; omega
        have HLL5 : Hid (D.length + (L.dropLast ++ X :: L9.tail).length ≤ 61 * nx) := by show _ ≤ _; rw [hlen5.out]; have := HND.out; omega
        have HHD5 : Hid (∀ x ∈ D ++ (L.dropLast ++ X :: L9.tail), x.d.hidden.length ≤ 60) := fun x hx => by
          have hP9 : ∀ y ∈ L9, y.d.hidden.length ≤ 60 := fun y hy => HS.out.2.2.2 y.d (by rw [← HD9'.out]; exact List.mem_map.2 ⟨y, hy, rfl⟩)
          rcases List.mem_append.1 hx with hx | hx
          · exact HHD.out x (by simp [hx])
          · rcases List.mem_append.1 hx with hx | hx
            · exact HHD.out x (by simp [(List.dropLast_sublist L).subset hx])
            · rcases List.mem_cons.1 hx with rfl | hx
              · rw [hXz]
                have h1 := (paste_fact HPF.out).2.2.2.2.2
                have h2 := HLA.out
                omega
              · exact hP9 x (List.mem_of_mem_tail hx)
        clear HR4 HO4 HK4 hv4 hXz
        go_wp2
        go_roundw
        case rel => exact ⟨nx, D, _, hnx, by trivial, HT5, HGO5, HLL5, HHD5, hb5⟩
        case measure => simp [intOf]; omega
    · have hkl : k = m.body.length := by omega
      have HSG : Hid (subGo m raw ready 0 [] true false = ((D ++ L).map (·.d), true)) := by show _ = _; rw [HGO.out, sub_end (by omega)]
      have hNL : ND + N ≤ 61 * k := by have := HLL.out; have := HN.out; have := HND.out; omega
      clear hkl
      go_upto_region 20 with (at_builtin; refine wp_append_ownN ti_tok rfl (by decide) tok_one1 wr rfl (.tmp 71) (.tmp 72) rfl W1.heap.size W1.heap.size (.slice ad ND cd) (.slice al N cl) rfl HT.out.d rfl HT.out.l HT.out.ld (by have := HN.out; have := HND.out; unfold maxLen; omega) (by have := HN.out; have := HND.out; omega) hb.size ?_; intro v5 w5 hR5 hg5 hp5; have ho5 := HT.out.flushed hR5 hg5; have hb5 : Below W1.heap.size W1 w5 := hb.grown hg5 hb.size (fun b hb => (HT.out.d.mine b hb).1); obtain ⟨fp5, r5, -, f5⟩ := hR5.read; have o5 := f5 ho5; obtain ⟨a5, c5, hv5, -⟩ := hR5.val; have hl5 : (D ++ L).length = ND + N := (by rw [List.length_append]; have := HN.out; have := HND.out; omega); rw [hl5] at hv5; subst hv5; have HR5 := Lib.hid r5; have HO5 := Lib.hid (o5.lower (lo' := w.heap.size) b0.size); have HL5 := Lib.hid hl5; clear hR5 hg5 hp5 ho5 f5 r5 o5 hl5)
      have hbf := b0.trans (hb5.mono b0.size)
      by_cases h9 : 240 < ND + N
      · have HF := Lib.hid (subRes_long (raw := raw) (ready := ready) HSG.out (by rw [List.length_map, HL5.out]; exact h9))
        have e9 : (240 : Int) < ((ND + N : Nat) : Int) := by omega
        have e8 : (240 : Int) < (ND : Int) + (N : Int) := by omega
        go_wp2
        go_ret2
        exact mineSub_no HF.out hbf
      · have HF := Lib.hid (subRes_yes ⟨HVv.out, HVa.out, HVy.out⟩ HSG.out (by rw [List.length_map, HL5.out]; exact h9))
        have e9 : ¬ (240 : Int) < ((ND + N : Nat) : Int) := by omega
        have e8 : ¬ (240 : Int) < (ND : Int) + (N : Int) := by omega
        go_wp2
        go_ret2
        exact ⟨_, fp5, by rw [HF.out]; rfl, by rw [HF.out]; exact HR5.out, HO5.out, hbf⟩

end Go.Proofs.Ytflbdanlcpojbaa

/- Substitute of both, as the exact law calls them: under a weight; its marks. -/
namespace Go.Proofs.Ytflbdanlcpojbaa
open Go.RowKit

theorem cntT_small : ∀ {l : List Tok}, (∀ t ∈ l, t.hidden.length ≤ 60) → cntTokenS l ≤ 63 * l.length
  | [], _ => Nat.le_refl _
  | t :: r, h => by
    have h1 := h t (by simp)
    have h2 := cntT_small (l := r) fun u hu => h u (by simp [hu])
    have e : cntTokenS (t :: r) = (3 + t.hidden.length) + cntTokenS r := rfl
    rw [e, List.length_cons]
    omega
theorem sub_hid {m : DMacro} {raw ready : List (List Tok)} (hv : macOk m = true) (ha : argsOk m raw = true) (hy : argsOk m ready = true) : ∀ (d k : Nat) (out : List Tok) (emp paste : Bool), m.body.length - k ≤ d → (∀ t ∈ out, t.hidden.length ≤ 60) → ∀ t ∈ (subGo m raw ready k out emp paste).1, t.hidden.length ≤ 60 := by
  intro d
  induction d with
  | zero => intro k out emp paste hd ho; rw [sub_end (by omega)]; exact ho
  | succ d ih =>
    intro k out emp paste hd ho
    by_cases hk : k < m.body.length
    rotate_left
    · rw [sub_end (by omega)]; exact ho
    by_cases h1 : isM m.body[k] [35, 35] = true ∧ paste = false
    · obtain ⟨h1, rfl⟩ := h1
      rw [sub_mark hk h1]
      exact ih _ _ _ _ (by omega) ho
    rcases hP : partAt m raw ready k with ⟨P, nx, ok⟩
    have hS := part_small hv ha hy hk hP
    cases ok
    · rw [sub_bad hk h1 hP]; simp
    by_cases h2 : paste = true ∧ emp = false ∧ 0 < P.length
    · rcases hz : pasteRes (out.getLastD zTok) (P.headD zTok) with ⟨z, fine⟩
      cases fine
      · rw [sub_no hk h1 hP h2 hz]; simp
      · rw [sub_yes hk h1 hP h2 hz]
        refine ih _ _ _ _ (by omega) fun t ht => ?_
        rcases List.mem_append.1 ht with ht | ht
        · exact ho t ((List.dropLast_sublist out).subset ht)
        · rcases List.mem_cons.1 ht with rfl | ht
          · have := (paste_fact hz).2.2.2.2.2
            have hl : (out.getLastD zTok).hidden.length ≤ 60 := by
              rcases List.eq_nil_or_concat out with rfl | ⟨a, b, rfl⟩
              · exact Nat.zero_le _
              · rw [List.concat_eq_append, List.getLastD_concat]; exact ho b (by simp)
            omega
          · exact hS.2.2.2 t (List.mem_of_mem_tail ht)
    · rw [sub_put hk h1 hP h2]
      refine ih _ _ _ _ (by omega) fun t ht => ?_
      rcases List.mem_append.1 ht with ht | ht
      · exact ho t ht
      · exact hS.2.2.2 t ht
theorem Substitute_cnt (m : DMacro) (raw ready : List (List Tok)) : cntTokenS (subRes m raw ready).1 ≤ 20000 := by
  unfold subRes
  split
  · rename_i h
    split
    · exact Nat.zero_le _
    · rename_i h2
      have := cntT_small (sub_hid h.1 h.2.1 h.2.2 _ 0 [] true false (Nat.le_refl _) (by simp))
      omega
  · exact Nat.zero_le _
theorem wtMac_sm {m : DMacro} (h : wtMacro m ≤ 1048576) : MacSm m := by
  unfold wtMacro at h
  have h1 : wtTokenS m.body ≤ 1048576 := by omega
  have h2 : wtStringS m.params ≤ 1048576 := by omega
  exact ⟨by unfold wtStringS at h2; omega, wtTokenS_len h1, wtTokenS_hid h1⟩
theorem wtRows_sm {l : List (List Tok)} (h : wtTokenSS l ≤ 1048576) : l.length ≤ 1048576 ∧ RowsSm l := by
  refine ⟨by unfold wtTokenSS at h; omega, fun k hk => ?_⟩
  have h1 := wsum_at wtTokenS l k hk
  unfold wtTokenSS at h
  have h2 : wtTokenS l[k] ≤ 1048576 := by omega
  exact ⟨wtTokenS_len h2, wtTokenS_hid h2⟩
theorem spec_Substitute_w (csM : List Value) (m : DMacro) (fpM : List Nat) (vr : Value) (raw : List (List Tok)) (fpr : List Nat) (vy : Value) (ready : List (List Tok)) (fpy : List Nat) (w : World) (hm : wtMacro m ≤ 1048576) (hr : wtTokenSS raw ≤ 1048576) (hy : wtTokenSS ready ≤ 1048576)
    (HM : sMacro.R w csM m fpM) (Hr : (sSlice (sSlice sTok)).R w [vr] raw fpr) (Hy : (sSlice (sSlice sTok)).R w [vy] ready fpy) :
    Calls Try.prog 7 #[.agg csM.toArray, vr, vy] w (RetSub m raw ready w) :=
  spec_Substitute csM m fpM vr vy raw ready fpr fpy w (wtMac_sm hm) (wtRows_sm hr).1 (wtRows_sm hy).1 (wtRows_sm hr).2 (wtRows_sm hy).2 HM Hr Hy
theorem impl_Substitute_w (csM : List Value) (m : DMacro) (fpM : List Nat) (vr : Value) (raw : List (List Tok)) (fpr : List Nat) (vy : Value) (ready : List (List Tok)) (fpy : List Nat) (w : World) (hm : wtMacro m ≤ 1048576) (hr : wtTokenSS raw ≤ 1048576) (hy : wtTokenSS ready ≤ 1048576)
    (HM : sMacro.R w csM m fpM) (Hr : (sSlice (sSlice sTok)).R w [vr] raw fpr) (Hy : (sSlice (sSlice sTok)).R w [vy] ready fpy) :
    Calls Try.prog 6 #[.agg csM.toArray, vr, vy] w (MineSub m raw ready w) :=
  impl_Substitute csM m fpM vr vy raw ready fpr fpy w HM Hr Hy

end Go.Proofs.Ytflbdanlcpojbaa

/- MacroText of both. (Made by gen_mac7.py.) -/
namespace Go.Proofs.Ytflbdanlcpojbaa
open Go.RowKit

/-! ### The head's bytes -/
theorem name_size {s : ByteArray} (h : oneTok s 1 = true) : s.size ≤ 12 := (name_facts h).2.1
end Go.Proofs.Ytflbdanlcpojbaa
