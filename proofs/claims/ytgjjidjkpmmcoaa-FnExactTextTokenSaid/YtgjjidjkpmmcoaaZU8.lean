/- Texts that the proof of U stands on, in one file. -/
import Derived.Test.YtgjjidjkpmmcoaaZU5
import Derived.Test.YtgjjidjkpmmcoaaZU4
import Derived.Test.YtgjjidjkpmmcoaaZU7
import Derived.Test.YtgjjidjkpmmcoaaZU6
import Derived.Test.YtgjjidjkpmmcoaaZU2
import Derived.Test.YtgjjidjkpmmcoaaZU1
set_option linter.unusedVariables false
set_option linter.unusedSimpArgs false
/- Weights and marks of tokens. No program. -/
namespace Go.Proofs.Ytgjjidjkpmmcoaa
open Go.RowKit

theorem wtTokenS_len {l : List Tok} (h : wtTokenS l ≤ 1048576) : l.length ≤ 1048576 := by unfold wtTokenS at h; omega
theorem wtTokenS_hid {l : List Tok} (h : wtTokenS l ≤ 1048576) : ∀ k, (hk : k < l.length) → l[k].hidden.length ≤ 2000000 := fun k hk => by
  have h1 := wsum_at wtToken l k hk
  unfold wtTokenS at h
  have h2 : wtToken l[k] = l[k].text.size + (l[k].hidden.length + (l[k].hidden.map (·.size)).sum) := rfl
  omega
theorem cnt_bare : ∀ {l : List Tok}, (∀ t ∈ l, t.hidden = []) → cntTokenS l = 3 * l.length
  | [], _ => rfl
  | t :: l, h => by
    have ih := cnt_bare (l := l) (fun t ht => h t (by simp [ht]))
    have h1 : cntTokenS (t :: l) = cntToken t + cntTokenS l := by unfold cntTokenS cntAll; simp
    have h2 : cntToken t = 3 + t.hidden.length := rfl
    rw [h1, ih, h2, h t (by simp)]
    simp; omega
theorem cntTokenS_le : ∀ l : List Tok, cntTokenS l ≤ 3 * wtTokenS l
  | [] => Nat.zero_le _
  | t :: l => by
    have ih := cntTokenS_le l
    have h1 : cntTokenS (t :: l) = cntToken t + cntTokenS l := by unfold cntTokenS cntAll; simp
    have h2 : cntToken t = 3 + t.hidden.length := rfl
    have h3 : wtTokenS (t :: l) = 1 + wtToken t + wtTokenS l := by unfold wtTokenS; simp; omega
    have h4 : wtToken t = t.text.size + (t.hidden.length + (t.hidden.map (·.size)).sum) := rfl
    omega

end Go.Proofs.Ytgjjidjkpmmcoaa

/- TextToken of both, as the exact law calls them. -/
namespace Go.Proofs.Ytgjjidjkpmmcoaa
open Go.RowKit

theorem spec_TextToken_w (v : Value) (l : List Tok) (fp : List Nat) (w : World) (hw : wtTokenS l ≤ 1048576) (H : (sSlice sTok).R w [v] l fp) :
    Calls Try.prog 16 #[v] w (TextOf l w) := spec_TextToken v l fp w (wtTokenS_len hw) (wtTokenS_hid hw) H
theorem impl_TextToken_w (v : Value) (l : List Tok) (fp : List Nat) (w : World) (hw : wtTokenS l ≤ 1048576) (H : (sSlice sTok).R w [v] l fp) :
    Calls Try.prog 14 #[v] w (TextOf l w) := impl_TextToken v l fp w H

end Go.Proofs.Ytgjjidjkpmmcoaa

/- The drawing of lists of tokens. -/
namespace Go.Proofs.Ytgjjidjkpmmcoaa
open Go.RowKit

/-- Tokens are drawn. -/
def DrawnList (w : World) (e : Ending) (w' : World) : Prop :=
  ∃ (v : Value) (L : List (Elem Tok)), e = .returned v ∧ RowE sTok w.heap.size 28 v L w' ∧ (∀ x ∈ L, okTok x.d) ∧ L.length ≤ 61 ∧ Below w.heap.size w w'
theorem okPlus : okTok ⟨4, ⟨#[43]⟩, false, []⟩ := ⟨by decide, by decide, by decide, by decide⟩
/-- A token's Spaced is stored. -/
theorem RowE.spaced {base g n cap : Nat} {L : List (Elem Tok)} {w : World} (h : RowE sTok base 28 (.slice (some ⟨g, 0, none⟩) n cap) L w) {k : Nat} (hk : k < L.length) (b : Bool) :
    ∃ x', RowE sTok base 28 (.slice (some ⟨g, 0, none⟩) n cap) (L.set k x') (w.setCell ⟨g, k * 4 + 2, none⟩ (.bool b)) ∧ (okTok L[k].d → okTok x'.d) := by
  have hm := List.getElem_mem hk
  obtain ⟨hh, hcs, hi, hs, hK⟩ := h.el _ hm
  refine ⟨⟨[.int .i64 L[k].d.kind, .string L[k].d.text, .bool b, hh], ⟨L[k].d.kind, L[k].d.text, b, L[k].d.hidden⟩, L[k].fp⟩, h.set hk (j := 2) (by decide) _ _ (by rw [hcs]; rfl) ⟨hh, rfl, hi, hs, hK⟩ (fun b hb => h.lo L[k] hm b hb) (fun b hb => h.ty L[k] hm b hb), fun h => h⟩
theorem okSet {L : List (Elem Tok)} (h : ∀ x ∈ L, okTok x.d) {k : Nat} {x' : Elem Tok} (hx : okTok x'.d) : ∀ x ∈ L.set k x', okTok x.d := fun x hm => by
  rcases List.mem_or_eq_of_mem_set hm with h1 | h1
  · exact h x h1
  · subst h1; exact hx

end Go.Proofs.Ytgjjidjkpmmcoaa

/- The drawing of chapter 8. (Made by gen_drawtxt.py.) -/
namespace Go.Proofs.Ytgjjidjkpmmcoaa
open Go.RowKit

theorem tok_bare0 (k : Int) (s : ByteArray) (ao : Option Addr) (c : Nat) (w : World) (h0 : 0 ≤ k) (h1 : k ≤ 4) (h2 : s.size ≤ 1000) (h3 : c ≤ maxLen) : sTok.R w [.int .i64 k, .string s, .bool false, .slice ao 0 c] ⟨k, s, false, []⟩ [] :=
  ⟨_, rfl, (show okInt k from ⟨by omega, by omega⟩), (show s.size ≤ maxLen by unfold maxLen; omega), slice_empty sStr _ _ _ h3⟩
/-- A text of tokens has nothing behind it. -/
theorem txt_bare (l : List Tok) : ∃ k s b, txtRes l = (⟨k, s, false, []⟩, b) ∧ 0 ≤ k ∧ k ≤ 4 ∧ s.size ≤ 200 := by
  rcases h : txtRes l with ⟨t, b⟩
  unfold txtRes at h
  split at h
  · split at h
    · simp only [Prod.mk.injEq] at h; exact ⟨0, ⟨#[]⟩, b, by rw [← h.1]; rfl, by omega, by omega, by decide⟩
    · simp only [Prod.mk.injEq] at h; exact ⟨3, quoted (joinTo l l.length), b, by rw [← h.1], by omega, by omega, by omega⟩
  · simp only [Prod.mk.injEq] at h; exact ⟨0, ⟨#[]⟩, b, by rw [← h.1]; rfl, by omega, by omega, by decide⟩
theorem TextOf.bare {l : List Tok} {w w' : World} {e : Ending} (h : TextOf l w e w') : ∃ (k : Int) (s : ByteArray) (b : Bool) (ao : Option Addr) (c : Nat), txtRes l = (⟨k, s, false, []⟩, b) ∧ e = .returned (.tuple #[.agg #[.int .i64 k, .string s, .bool false, .slice ao 0 c], .bool b]) ∧ 0 ≤ k ∧ k ≤ 4 ∧ s.size ≤ 200 ∧ c ≤ maxLen ∧ Below w.heap.size w w' := by
  obtain ⟨cs, fp, rfl, hR, -, hb⟩ := h
  obtain ⟨k, s, b, e, h1, h2, h3⟩ := txt_bare l
  rw [e] at hR ⊢
  obtain ⟨h', rfl, -, -, K⟩ := hR
  obtain ⟨ao, c, rfl, -, hc, -⟩ := open_rows K
  exact ⟨k, s, b, ao, c, rfl, rfl, h1, h2, h3, hc, hb⟩
/-- A literal of one token. -/
theorem lit_one {w : World} {k : Int} {s : ByteArray} {sp : Bool} {v : Value} {x : Tok} {fp : List Nat} (h : sTok.R w [.int .i64 k, .string s, .bool sp, v] x fp) :
    (sSlice sTok).R (w.alloc (.cells #[.int .i64 k, .string s, .bool sp, v] 28)) [.slice (some ⟨w.heap.size, 0, none⟩) 1 1] [x] (w.heap.size :: fp) := by
  have hb := alloc_below' w (.cells #[.int .i64 k, .string s, .bool sp, v] 28)
  refine ⟨_, 1, rfl, Nat.le_refl _, by simp [maxLen], .inr ⟨by simp, w.heap.size, 0, fun _ => fp, rfl, by simp, by show _ < (w.heap.push _).size; simp, fun i hi => ?_⟩⟩
  obtain rfl : i = 0 := by simpa using hi
  refine ⟨_, ⟨rfl, fun j hj => ?_⟩, sTok.below h hb⟩
  have e : 0 + 0 * sTok.m + j = j := by simp
  rw [e, World.cell?_alloc_at _ _ _ _ rfl]
  simp

set_option maxHeartbeats 4000000 in
set_option maxRecDepth 100000 in
theorem DrawTextToken (v : Value) (l : List UInt8) (fp : List Nat) (w : World) (H : (sSlice sByte).R w [v] l fp) :
    Calls Try.prog 22 #[v] w (DrawnList w) := by
  go_enter Try.func22, Try.ntmps22
  go_wp2_with fail
  refine (l20Open _ l fp _ H).mono ?_
  rintro e w1 ⟨rb, rfl, hrb, hR, hB⟩
  go_wp2_with fail
  refine (l20Tokens rb 0 _ _ hR (by omega) (by omega) (by omega) 0 (by omega) (by omega)).mono ?_
  rintro e w3 ⟨v3, L, q3, rfl, hE, hok, -, hl, hq3, hR3, hK3⟩
  have hs1 := hB.size
  go_wp2
  go_ret
  exact ⟨v3, L, rfl, hE.lower hs1, hok, hl, kept_below hB hK3 hrb hs1⟩

/-- A token is drawn. -/
def DrawnTk (w : World) (e : Ending) (w' : World) : Prop :=
  ∃ (k : Int) (s : ByteArray) (sp : Bool) (ao : Option Addr) (m c : Nat) (l : List ByteArray) (fp : List Nat), e = .returned (.agg #[.int .i64 k, .string s, .bool sp, .slice ao m c]) ∧
    sTok.R w' [.int .i64 k, .string s, .bool sp, .slice ao m c] ⟨k, s, sp, l⟩ fp ∧ okTok ⟨k, s, sp, l⟩ ∧ Below w.heap.size w w'
theorem ok_bare {k : Int} {s : ByteArray} (h0 : 0 ≤ k) (h1 : k ≤ 4) (h2 : s.size ≤ 1000) : okTok ⟨k, s, false, []⟩ := ⟨h2, h0, h1, by show (0 : Nat) ≤ 3; omega⟩
theorem list_hid {L : List (Elem Tok)} (h : ∀ x ∈ L, okTok x.d) : ∀ k, (hk : k < (L.map (fun x : Elem Tok => x.d)).length) → (L.map (fun x : Elem Tok => x.d))[k].hidden.length ≤ 2000000 := fun k hk => by
  obtain ⟨x, hx, e⟩ := List.mem_map.1 (List.getElem_mem hk)
  have := (h x hx).2.2.2
  rw [← e]; omega

set_option maxHeartbeats 16000000 in
set_option maxRecDepth 100000 in
theorem DrawTokenBytes (v : Value) (l : List UInt8) (fp : List Nat) (w : World) (H : (sSlice sByte).R w [v] l fp) :
    Calls Try.prog 12 #[v] w (DrawnTk w) := by
  have hB0 := alloc_below' w (.cells #[.int .i64 0, .string ⟨#[]⟩, .bool false, .slice none 0 0] 28)
  have HX := Lib.hid (heap_alloc_new w (.cells #[.int .i64 0, .string ⟨#[]⟩, .bool false, .slice none 0 0] 28))
  have hs0 : (w.alloc (.cells #[.int .i64 0, .string ⟨#[]⟩, .bool false, .slice none 0 0] 28)).heap.size = w.heap.size + 1 := by show (w.heap.push _).size = _; simp
  go_enter Try.func12, Try.ntmps12
  go_wp2_with fail
  refine (l20Open _ l fp _ ((sSlice sByte).below H hB0)).mono ?_
  rintro e w1 ⟨rb, rfl, hrb, hR, hB⟩
  have HX1 := Lib.hid (mbox HX.out hB)
  have hB1 := hB0.trans (hB.mono hB0.size)
  have hrb' : w.heap.size < rb := by omega
  clear hs0 hB0 hB HX hrb
  go_wp2_with fail
  refine (pick rb 0 _ _ hR (by omega) (by omega) (by omega)).mono ?_
  rintro e w2 ⟨r, rfl, h0, h1, hR2, hK2⟩
  have HX2 := Lib.hid (blkKept HX1.out hK2 (by omega))
  have hB2 := kept_below hB1 hK2 (by omega) hB1.size
  clear hK2 hB1 HX1 hR
  by_cases hr : 0 < r
  · go_wp2_with fail
    refine (l20Tokens rb 1 _ _ hR2 (by omega) (by omega) (by omega) 0 (by omega) (by omega)).mono ?_
    rintro e w3 ⟨v3, L, q3, rfl, hE, hok, -, hl, hq3, hR3, hK3⟩
    have HX3 := Lib.hid (blkKept HX2.out hK3 (by omega))
    have hB3 := kept_below hB2 hK3 (by omega) hB2.size
    obtain ⟨f1, r1, -⟩ := hE.read
    have HHD := Lib.hid (list_hid hok)
    have hll : (L.map (·.d)).length ≤ 61 := by rw [List.length_map]; exact hl
    generalize L.map (·.d) = l1 at r1 HHD hll
    have HT := Lib.hid (spec_TextToken _ l1 _ _ (by omega) HHD.out r1)
    clear hE hok hK3 hR3 hR2 hB2 HX2 r1 HHD
    go_wp2_with fail
    refine HT.out.mono ?_
    rintro e w4 h4
    obtain ⟨k, s, b, ao, c, -, rfl, hk0, hk4, hsz, hc, hb4⟩ := h4.bare
    have HX4 := Lib.hid (mbox HX3.out hb4)
    have hB4 := hB3.trans (hb4.mono hB3.size)
    have hb5 := alloc_below' w4 (.cells #[.int .i64 k, .string s, .bool false, .slice ao 0 c] 28)
    have HX5 := Lib.hid (mbox HX4.out hb5)
    have hB5 := hB4.trans (hb5.mono hB4.size)
    have hne := mlt HX4.out
    have HN := Lib.hid (heap_alloc_new w4 (.cells #[.int .i64 k, .string s, .bool false, .slice ao 0 c] 28))
    have HR := Lib.hid (tok_bare0 k s ao c (w4.alloc (.cells #[.int .i64 k, .string s, .bool false, .slice ao 0 c] 28)) hk0 hk4 (by omega) hc)
    have HOK := Lib.hid (ok_bare (s := s) hk0 hk4 (by omega))
    clear h4 hb4 HX3 HX4 hB3 hB4 HT hb5
    go_upto_region 4 with fail
    generalize (w4.alloc (.cells #[.int .i64 k, .string s, .bool false, .slice ao 0 c] 28)) = W5 at *
    have z0 : W5.cell? ⟨w.heap.size, 0, none⟩ = some (.int .i64 0) := cell_of_row _ _ 0 _ _ _ HX5.out
    have zf0 : W5.frozen? ⟨w.heap.size, 0, none⟩ = false := frozen_of_row _ _ 0 _ _ HX5.out
    have z1 : W5.cell? ⟨w.heap.size, 1, none⟩ = some (.string ⟨#[]⟩) := cell_of_row _ _ 1 _ _ _ HX5.out
    have zf1 : W5.frozen? ⟨w.heap.size, 1, none⟩ = false := frozen_of_row _ _ 1 _ _ HX5.out
    have z2 : W5.cell? ⟨w.heap.size, 2, none⟩ = some (.bool false) := cell_of_row _ _ 2 _ _ _ HX5.out
    have zf2 : W5.frozen? ⟨w.heap.size, 2, none⟩ = false := frozen_of_row _ _ 2 _ _ HX5.out
    have z3 : W5.cell? ⟨w.heap.size, 3, none⟩ = some (.slice none 0 0) := cell_of_row _ _ 3 _ _ _ HX5.out
    have zf3 : W5.frozen? ⟨w.heap.size, 3, none⟩ = false := frozen_of_row _ _ 3 _ _ HX5.out
    have y0 : W5.cell? ⟨w4.heap.size, 0, none⟩ = some (.int .i64 k) := cell_of_row _ _ 0 _ _ _ HN.out
    have y1 : W5.cell? ⟨w4.heap.size, 1, none⟩ = some (.string s) := cell_of_row _ _ 1 _ _ _ HN.out
    have y2 : W5.cell? ⟨w4.heap.size, 2, none⟩ = some (.bool false) := cell_of_row _ _ 2 _ _ _ HN.out
    have y3 : W5.cell? ⟨w4.heap.size, 3, none⟩ = some (.slice ao 0 c) := cell_of_row _ _ 3 _ _ _ HN.out
    have HS := Lib.hid (blk_set (blk_set (blk_set (blk_set HX5.out 0 (.int .i64 k)) 1 (.string s)) 2 (.bool false)) 3 (.slice ao 0 c))
    have HBF := Lib.hid ((((hB5.setCell (p := ⟨w.heap.size, 0, none⟩) (Nat.le_refl _) (.int .i64 k)).setCell (p := ⟨w.heap.size, 1, none⟩) (Nat.le_refl _) (.string s)).setCell (p := ⟨w.heap.size, 2, none⟩) (Nat.le_refl _) (.bool false)).setCell (p := ⟨w.heap.size, 3, none⟩) (Nat.le_refl _) (.slice ao 0 c))
    have HDR := Lib.hid (sTok.setB (sTok.setB (sTok.setB (sTok.setB HR.out (by simp : w.heap.size ∉ ([] : List Nat)) 0 (.int .i64 k)) (by simp : w.heap.size ∉ ([] : List Nat)) 1 (.string s)) (by simp : w.heap.size ∉ ([] : List Nat)) 2 (.bool false)) (by simp : w.heap.size ∉ ([] : List Nat)) 3 (.slice ao 0 c))
    go_wp2
    refine bodyPost_ret (results_cell_row rfl _ _ w.heap.size _ _ _ _ rfl HS.out Try.underlying28 rfl (by kernel_rfl)) rfl ?_
    exact ⟨k, s, false, ao, 0, c, [], [], rfl, HDR.out, HOK.out, HBF.out⟩
  · go_wp2_with fail
    refine (l20Token rb 1 _ _ hR2 (by omega) (by omega) (by omega)).mono ?_
    rintro e w3 ⟨k, s, sp, ao, m, c, l', fp', q, rfl, hT, hok, hlo, -, hq, hR3, hK3⟩
    have HX3 := Lib.hid (blkKept HX2.out hK3 (by omega))
    have hB3 := kept_below hB2 hK3 (by omega) hB2.size
    have hs2 := hB2.size
    have hw2 := mlt HX2.out
    have dn : w.heap.size ∉ fp' := fun hx => by have := hlo _ hx; omega
    have HOK := Lib.hid hok
    have hb4 := alloc_below' w3 (.cells #[.int .i64 3, .string ⟨#[34, 97, 92, 110, 98, 34]⟩, .bool false, .slice none 0 0, .int .i64 3, .string ⟨#[34, 92, 92, 34]⟩, .bool false, .slice none 0 0, .int .i64 3, .string ⟨#[34, 34]⟩, .bool false, .slice none 0 0, .int .i64 k, .string s, .bool sp, .slice ao m c] 28)
    have HN := Lib.hid (heap_alloc_new w3 (.cells #[.int .i64 3, .string ⟨#[34, 97, 92, 110, 98, 34]⟩, .bool false, .slice none 0 0, .int .i64 3, .string ⟨#[34, 92, 92, 34]⟩, .bool false, .slice none 0 0, .int .i64 3, .string ⟨#[34, 34]⟩, .bool false, .slice none 0 0, .int .i64 k, .string s, .bool sp, .slice ao m c] 28))
    have HX4 := Lib.hid (mbox HX3.out hb4)
    have hB4 := hB3.trans (hb4.mono hB3.size)
    have hR4 := hR3.grow hb4
    have hT4 := sTok.below hT hb4
    have hw3 := mlt HX3.out
    have hrl := hR3.lt
    have HRB : Hid (rb ∉ fp') := fun hx => by have := hlo _ hx; have := hR2.lt; omega
    clear hK3 hb4 HX3 hB3 hR3 hT hB2 HX2 hR2 hok hlo
    go_wp2_with fail
    refine (pick rb q _ _ hR4 (by omega) (by omega) (by omega)).mono ?_
    rintro e w5 ⟨r2, rfl, h20, h21, hR5, hK5⟩
    have HX5 := Lib.hid (blkKept HX4.out hK5 (by omega))
    have hB5 := kept_below hB4 hK5 (by omega) hB4.size
    have HN5 := Lib.hid (blkKept HN.out hK5 (by omega))
    have hT5 := sTok.kept hT4 (fun b hb => by simp; rintro rfl; exact HRB.out hb) hK5
    clear hK5 hR5 hR4 hT4 HX4 hB4 HN
    obtain rfl | rfl | rfl | rfl : r2 = 0 ∨ r2 = 1 ∨ r2 = 2 ∨ r2 = 3 := by omega
    · have z0 : w5.cell? ⟨w.heap.size, 0, none⟩ = some (.int .i64 0) := cell_of_row _ _ 0 _ _ _ HX5.out
      have zf0 : w5.frozen? ⟨w.heap.size, 0, none⟩ = false := frozen_of_row _ _ 0 _ _ HX5.out
      have z1 : w5.cell? ⟨w.heap.size, 1, none⟩ = some (.string ⟨#[]⟩) := cell_of_row _ _ 1 _ _ _ HX5.out
      have zf1 : w5.frozen? ⟨w.heap.size, 1, none⟩ = false := frozen_of_row _ _ 1 _ _ HX5.out
      have z2 : w5.cell? ⟨w.heap.size, 2, none⟩ = some (.bool false) := cell_of_row _ _ 2 _ _ _ HX5.out
      have zf2 : w5.frozen? ⟨w.heap.size, 2, none⟩ = false := frozen_of_row _ _ 2 _ _ HX5.out
      have z3 : w5.cell? ⟨w.heap.size, 3, none⟩ = some (.slice none 0 0) := cell_of_row _ _ 3 _ _ _ HX5.out
      have zf3 : w5.frozen? ⟨w.heap.size, 3, none⟩ = false := frozen_of_row _ _ 3 _ _ HX5.out
      have y0 : w5.cell? ⟨w3.heap.size, 0, none⟩ = some (.int .i64 3) := cell_of_row _ _ 0 _ _ _ HN5.out
      have y1 : w5.cell? ⟨w3.heap.size, 1, none⟩ = some (.string ⟨#[34, 97, 92, 110, 98, 34]⟩) := cell_of_row _ _ 1 _ _ _ HN5.out
      have y2 : w5.cell? ⟨w3.heap.size, 2, none⟩ = some (.bool false) := cell_of_row _ _ 2 _ _ _ HN5.out
      have y3 : w5.cell? ⟨w3.heap.size, 3, none⟩ = some (.slice none 0 0) := cell_of_row _ _ 3 _ _ _ HN5.out
      have hTT := tok_bare0 3 ⟨#[34, 97, 92, 110, 98, 34]⟩ none 0 w5 (by omega) (by omega) (by decide) (by simp [maxLen])
      have HS := Lib.hid (blk_set (blk_set (blk_set (blk_set HX5.out 0 (.int .i64 3)) 1 (.string ⟨#[34, 97, 92, 110, 98, 34]⟩)) 2 (.bool false)) 3 (.slice none 0 0))
      have HBF := Lib.hid ((((hB5.setCell (p := ⟨w.heap.size, 0, none⟩) (Nat.le_refl _) (.int .i64 3)).setCell (p := ⟨w.heap.size, 1, none⟩) (Nat.le_refl _) (.string ⟨#[34, 97, 92, 110, 98, 34]⟩)).setCell (p := ⟨w.heap.size, 2, none⟩) (Nat.le_refl _) (.bool false)).setCell (p := ⟨w.heap.size, 3, none⟩) (Nat.le_refl _) (.slice none 0 0))
      have HDR := Lib.hid (sTok.setB (sTok.setB (sTok.setB (sTok.setB hTT (by simp : w.heap.size ∉ ([] : List Nat)) 0 (.int .i64 3)) (by simp : w.heap.size ∉ ([] : List Nat)) 1 (.string ⟨#[34, 97, 92, 110, 98, 34]⟩)) (by simp : w.heap.size ∉ ([] : List Nat)) 2 (.bool false)) (by simp : w.heap.size ∉ ([] : List Nat)) 3 (.slice none 0 0))
      clear hT5 hB5 HX5 HN5 hTT
      go_wp2
      refine bodyPost_ret (results_cell_row rfl _ _ w.heap.size _ _ _ _ rfl HS.out Try.underlying28 rfl (by kernel_rfl)) rfl ?_
      exact ⟨3, _, false, none, 0, 0, [], [], rfl, HDR.out, ok_bare (by omega) (by omega) (by decide), HBF.out⟩
    · have z0 : w5.cell? ⟨w.heap.size, 0, none⟩ = some (.int .i64 0) := cell_of_row _ _ 0 _ _ _ HX5.out
      have zf0 : w5.frozen? ⟨w.heap.size, 0, none⟩ = false := frozen_of_row _ _ 0 _ _ HX5.out
      have z1 : w5.cell? ⟨w.heap.size, 1, none⟩ = some (.string ⟨#[]⟩) := cell_of_row _ _ 1 _ _ _ HX5.out
      have zf1 : w5.frozen? ⟨w.heap.size, 1, none⟩ = false := frozen_of_row _ _ 1 _ _ HX5.out
      have z2 : w5.cell? ⟨w.heap.size, 2, none⟩ = some (.bool false) := cell_of_row _ _ 2 _ _ _ HX5.out
      have zf2 : w5.frozen? ⟨w.heap.size, 2, none⟩ = false := frozen_of_row _ _ 2 _ _ HX5.out
      have z3 : w5.cell? ⟨w.heap.size, 3, none⟩ = some (.slice none 0 0) := cell_of_row _ _ 3 _ _ _ HX5.out
      have zf3 : w5.frozen? ⟨w.heap.size, 3, none⟩ = false := frozen_of_row _ _ 3 _ _ HX5.out
      have y0 : w5.cell? ⟨w3.heap.size, 4, none⟩ = some (.int .i64 3) := cell_of_row _ _ 4 _ _ _ HN5.out
      have y1 : w5.cell? ⟨w3.heap.size, 5, none⟩ = some (.string ⟨#[34, 92, 92, 34]⟩) := cell_of_row _ _ 5 _ _ _ HN5.out
      have y2 : w5.cell? ⟨w3.heap.size, 6, none⟩ = some (.bool false) := cell_of_row _ _ 6 _ _ _ HN5.out
      have y3 : w5.cell? ⟨w3.heap.size, 7, none⟩ = some (.slice none 0 0) := cell_of_row _ _ 7 _ _ _ HN5.out
      have hTT := tok_bare0 3 ⟨#[34, 92, 92, 34]⟩ none 0 w5 (by omega) (by omega) (by decide) (by simp [maxLen])
      have HS := Lib.hid (blk_set (blk_set (blk_set (blk_set HX5.out 0 (.int .i64 3)) 1 (.string ⟨#[34, 92, 92, 34]⟩)) 2 (.bool false)) 3 (.slice none 0 0))
      have HBF := Lib.hid ((((hB5.setCell (p := ⟨w.heap.size, 0, none⟩) (Nat.le_refl _) (.int .i64 3)).setCell (p := ⟨w.heap.size, 1, none⟩) (Nat.le_refl _) (.string ⟨#[34, 92, 92, 34]⟩)).setCell (p := ⟨w.heap.size, 2, none⟩) (Nat.le_refl _) (.bool false)).setCell (p := ⟨w.heap.size, 3, none⟩) (Nat.le_refl _) (.slice none 0 0))
      have HDR := Lib.hid (sTok.setB (sTok.setB (sTok.setB (sTok.setB hTT (by simp : w.heap.size ∉ ([] : List Nat)) 0 (.int .i64 3)) (by simp : w.heap.size ∉ ([] : List Nat)) 1 (.string ⟨#[34, 92, 92, 34]⟩)) (by simp : w.heap.size ∉ ([] : List Nat)) 2 (.bool false)) (by simp : w.heap.size ∉ ([] : List Nat)) 3 (.slice none 0 0))
      clear hT5 hB5 HX5 HN5 hTT
      go_wp2
      refine bodyPost_ret (results_cell_row rfl _ _ w.heap.size _ _ _ _ rfl HS.out Try.underlying28 rfl (by kernel_rfl)) rfl ?_
      exact ⟨3, _, false, none, 0, 0, [], [], rfl, HDR.out, ok_bare (by omega) (by omega) (by decide), HBF.out⟩
    · have z0 : w5.cell? ⟨w.heap.size, 0, none⟩ = some (.int .i64 0) := cell_of_row _ _ 0 _ _ _ HX5.out
      have zf0 : w5.frozen? ⟨w.heap.size, 0, none⟩ = false := frozen_of_row _ _ 0 _ _ HX5.out
      have z1 : w5.cell? ⟨w.heap.size, 1, none⟩ = some (.string ⟨#[]⟩) := cell_of_row _ _ 1 _ _ _ HX5.out
      have zf1 : w5.frozen? ⟨w.heap.size, 1, none⟩ = false := frozen_of_row _ _ 1 _ _ HX5.out
      have z2 : w5.cell? ⟨w.heap.size, 2, none⟩ = some (.bool false) := cell_of_row _ _ 2 _ _ _ HX5.out
      have zf2 : w5.frozen? ⟨w.heap.size, 2, none⟩ = false := frozen_of_row _ _ 2 _ _ HX5.out
      have z3 : w5.cell? ⟨w.heap.size, 3, none⟩ = some (.slice none 0 0) := cell_of_row _ _ 3 _ _ _ HX5.out
      have zf3 : w5.frozen? ⟨w.heap.size, 3, none⟩ = false := frozen_of_row _ _ 3 _ _ HX5.out
      have y0 : w5.cell? ⟨w3.heap.size, 8, none⟩ = some (.int .i64 3) := cell_of_row _ _ 8 _ _ _ HN5.out
      have y1 : w5.cell? ⟨w3.heap.size, 9, none⟩ = some (.string ⟨#[34, 34]⟩) := cell_of_row _ _ 9 _ _ _ HN5.out
      have y2 : w5.cell? ⟨w3.heap.size, 10, none⟩ = some (.bool false) := cell_of_row _ _ 10 _ _ _ HN5.out
      have y3 : w5.cell? ⟨w3.heap.size, 11, none⟩ = some (.slice none 0 0) := cell_of_row _ _ 11 _ _ _ HN5.out
      have hTT := tok_bare0 3 ⟨#[34, 34]⟩ none 0 w5 (by omega) (by omega) (by decide) (by simp [maxLen])
      have HS := Lib.hid (blk_set (blk_set (blk_set (blk_set HX5.out 0 (.int .i64 3)) 1 (.string ⟨#[34, 34]⟩)) 2 (.bool false)) 3 (.slice none 0 0))
      have HBF := Lib.hid ((((hB5.setCell (p := ⟨w.heap.size, 0, none⟩) (Nat.le_refl _) (.int .i64 3)).setCell (p := ⟨w.heap.size, 1, none⟩) (Nat.le_refl _) (.string ⟨#[34, 34]⟩)).setCell (p := ⟨w.heap.size, 2, none⟩) (Nat.le_refl _) (.bool false)).setCell (p := ⟨w.heap.size, 3, none⟩) (Nat.le_refl _) (.slice none 0 0))
      have HDR := Lib.hid (sTok.setB (sTok.setB (sTok.setB (sTok.setB hTT (by simp : w.heap.size ∉ ([] : List Nat)) 0 (.int .i64 3)) (by simp : w.heap.size ∉ ([] : List Nat)) 1 (.string ⟨#[34, 34]⟩)) (by simp : w.heap.size ∉ ([] : List Nat)) 2 (.bool false)) (by simp : w.heap.size ∉ ([] : List Nat)) 3 (.slice none 0 0))
      clear hT5 hB5 HX5 HN5 hTT
      go_wp2
      refine bodyPost_ret (results_cell_row rfl _ _ w.heap.size _ _ _ _ rfl HS.out Try.underlying28 rfl (by kernel_rfl)) rfl ?_
      exact ⟨3, _, false, none, 0, 0, [], [], rfl, HDR.out, ok_bare (by omega) (by omega) (by decide), HBF.out⟩
    · have z0 : w5.cell? ⟨w.heap.size, 0, none⟩ = some (.int .i64 0) := cell_of_row _ _ 0 _ _ _ HX5.out
      have zf0 : w5.frozen? ⟨w.heap.size, 0, none⟩ = false := frozen_of_row _ _ 0 _ _ HX5.out
      have z1 : w5.cell? ⟨w.heap.size, 1, none⟩ = some (.string ⟨#[]⟩) := cell_of_row _ _ 1 _ _ _ HX5.out
      have zf1 : w5.frozen? ⟨w.heap.size, 1, none⟩ = false := frozen_of_row _ _ 1 _ _ HX5.out
      have z2 : w5.cell? ⟨w.heap.size, 2, none⟩ = some (.bool false) := cell_of_row _ _ 2 _ _ _ HX5.out
      have zf2 : w5.frozen? ⟨w.heap.size, 2, none⟩ = false := frozen_of_row _ _ 2 _ _ HX5.out
      have z3 : w5.cell? ⟨w.heap.size, 3, none⟩ = some (.slice none 0 0) := cell_of_row _ _ 3 _ _ _ HX5.out
      have zf3 : w5.frozen? ⟨w.heap.size, 3, none⟩ = false := frozen_of_row _ _ 3 _ _ HX5.out
      have y0 : w5.cell? ⟨w3.heap.size, 12, none⟩ = some (.int .i64 k) := cell_of_row _ _ 12 _ _ _ HN5.out
      have y1 : w5.cell? ⟨w3.heap.size, 13, none⟩ = some (.string s) := cell_of_row _ _ 13 _ _ _ HN5.out
      have y2 : w5.cell? ⟨w3.heap.size, 14, none⟩ = some (.bool sp) := cell_of_row _ _ 14 _ _ _ HN5.out
      have y3 : w5.cell? ⟨w3.heap.size, 15, none⟩ = some (.slice ao m c) := cell_of_row _ _ 15 _ _ _ HN5.out
      have HS := Lib.hid (blk_set (blk_set (blk_set (blk_set HX5.out 0 (.int .i64 k)) 1 (.string s)) 2 (.bool sp)) 3 (.slice ao m c))
      have HBF := Lib.hid ((((hB5.setCell (p := ⟨w.heap.size, 0, none⟩) (Nat.le_refl _) (.int .i64 k)).setCell (p := ⟨w.heap.size, 1, none⟩) (Nat.le_refl _) (.string s)).setCell (p := ⟨w.heap.size, 2, none⟩) (Nat.le_refl _) (.bool sp)).setCell (p := ⟨w.heap.size, 3, none⟩) (Nat.le_refl _) (.slice ao m c))
      have HDR := Lib.hid (sTok.setB (sTok.setB (sTok.setB (sTok.setB hT5 dn 0 (.int .i64 k)) dn 1 (.string s)) dn 2 (.bool sp)) dn 3 (.slice ao m c))
      clear hT5 hB5 HX5 HN5
      go_wp2
      refine bodyPost_ret (results_cell_row rfl _ _ w.heap.size _ _ _ _ rfl HS.out Try.underlying28 rfl (by kernel_rfl)) rfl ?_
      exact ⟨k, s, sp, ao, m, c, l', fp', rfl, HDR.out, HOK.out, HBF.out⟩

end Go.Proofs.Ytgjjidjkpmmcoaa

/- Lists of texts and of numbers are compared by the laws. -/
namespace Go.Proofs.Ytgjjidjkpmmcoaa
open Go.RowKit

set_option maxHeartbeats 400000 in
theorem sameTexts (v1 v2 : Value) (l1 l2 : List ByteArray) (fp1 fp2 : List Nat) (w : World) (H1 : (sSlice sStr).R w [v1] l1 fp1) (H2 : (sSlice sStr).R w [v2] l2 fp2) :
    Calls Try.prog 49 #[v1, v2] w fun e w' => e = .returned (.bool (decide (l1 = l2))) ∧ ∃ n, w' = w.drewN n := by
  obtain ⟨a1, cap1, rfl, hc1, hm1, hcell1, hsz1⟩ := open_strs H1
  obtain ⟨a2, cap2, rfl, hc2, hm2, hcell2, hsz2⟩ := open_strs H2
  unfold maxLen at hm1 hm2
  by_cases hl : l1.length = l2.length
  · have hnb : ((l1.length : Int) != (l2.length : Int)) = false := by simp [hl]
    have HL := Lib.hid hl; clear hl
    go_enter Try.func49, Try.ntmps49
    go_wp2
    go_loopw [5] (fun i wr => ∃ k : Nat, k ≤ l1.length ∧ i = .int .i64 k ∧ (∃ n, wr = w.drewN n) ∧ EqUpto l1 l2 k) (fun i _ => l1.length - (intOf i).toNat)
    case atStart => exact ⟨0, by omega, rfl, ⟨0, rfl⟩, by intro j h h' hj; omega⟩
    case round =>
      obtain ⟨k, hk, rfl, ⟨n, rfl⟩, hall⟩ := hrel
      by_cases hlt : k < l1.length
      · have hlt2 : k < l2.length := by have := HL.out; omega
        obtain ⟨b1, off1, rfl, hb1, _, hd1⟩ := hcell1 (by omega)
        obtain ⟨b2, off2, rfl, hb2, _, hd2⟩ := hcell2 (by omega)
        have hck1 := hd1 k hlt
        have hck2 := hd2 k hlt2
        clear hd1 hd2
        by_cases heq : l1[k] = l2[k]
        · have hne := bytes_beq heq
          have hn := hall.succ hlt hlt2 heq
          clear heq
          go_wp2
          go_quiet (fail)
          go_wp2
          go_roundw
          case rel => exact ⟨k + 1, by omega, by go_num, ⟨_, rfl⟩, hn⟩
          case measure => simp [intOf]; omega
        · have hne := bytes_bne heq
          have HF := Lib.hid (eq_no hlt hlt2 heq)
          clear heq
          go_wp2
          go_quiet (fail)
          go_wp2
          go_ret
          exact ⟨ret_bool HF.out.symm, _, World.drewN_drewN _ _ _⟩
      · have HF := Lib.hid (hall.eq HL.out (by omega))
        go_wp2
        go_ret
        exact ⟨ret_bool HF.out.symm, _, rfl⟩
  · have hnb : ((l1.length : Int) != (l2.length : Int)) = true := by simp; omega
    have HF : Hid (decide (l1 = l2) = false) := decide_eq_false (by rintro rfl; exact hl rfl)
    clear hl
    go_enter Try.func49, Try.ntmps49
    go_wp2
    go_ret
    exact ⟨ret_bool HF.out.symm, 0, rfl⟩


end Go.Proofs.Ytgjjidjkpmmcoaa

/- Lists of tokens are compared by the laws. -/
namespace Go.Proofs.Ytgjjidjkpmmcoaa
open Go.RowKit

set_option maxHeartbeats 8000000 in
set_option maxRecDepth 100000 in
theorem sameTokens_same (v1 v2 : Value) (l : List Tok) (fp1 fp2 : List Nat) (w : World) (H1 : (sSlice sTok).R w [v1] l fp1) (H2 : (sSlice sTok).R w [v2] l fp2) :
    Calls Try.prog 23 #[v1, v2] w fun e w' => e = .returned (.bool true) ∧ Below w.heap.size w w' := by
  obtain ⟨a1, cap1, rfl, hc1, hm1, hrow1⟩ := open_rows H1
  obtain ⟨a2, cap2, rfl, hc2, hm2, hrow2⟩ := open_rows H2
  unfold maxLen at hm1 hm2
  clear H1 H2
  have hnb : ((l.length : Int) != (l.length : Int)) = false := by simp
  go_enter Try.func23, Try.ntmps23
  go_wp2
  go_loopw [5] (fun i wr => ∃ k : Nat, k ≤ l.length ∧ i = .int .i64 k ∧ Below w.heap.size w wr) (fun i _ => l.length - (intOf i).toNat)
  case atStart => exact ⟨0, by omega, rfl, Below.refl _ _⟩
  case round =>
    obtain ⟨k, hk, rfl, hb⟩ := hrel
    by_cases hlt : k < l.length
    · obtain ⟨b1, off1, fps1, rfl, hb1, -, he1⟩ := hrow1 (by omega)
      obtain ⟨b2, off2, fps2, rfl, hb2, -, he2⟩ := hrow2 (by omega)
      obtain ⟨es1, hE1, hR1⟩ := he1 k hlt
      obtain ⟨es2, hE2, hR2⟩ := he2 k hlt
      clear hrow1 hrow2 he1 he2
      obtain ⟨h1, rfl, -, -, K1⟩ := hR1
      obtain ⟨h2, rfl, -, -, K2⟩ := hR2
      replace hE1 := hE1.frame (hb.block b1 hb1)
      replace hE2 := hE2.frame (hb.block b2 hb2)
      have HC : Hid (∀ n, Calls Try.prog 49 #[h1, h2] (wr.drewN n) fun e w' => e = .returned (.bool true) ∧ ∃ m, w' = (wr.drewN n).drewN m) := fun n =>
        (sameTexts h1 h2 _ _ _ _ (wr.drewN n) ((sSlice sStr).frame (w := wr) (fun _ _ => rfl) ((sSlice sStr).below K1 hb)) ((sSlice sStr).frame (w := wr) (fun _ _ => rfl) ((sSlice sStr).below K2 hb))).mono
          fun e w' ⟨a, m, c⟩ => ⟨by rw [a, decide_eq_true rfl], m, c⟩
      have c10 : wr.cell? ⟨b1, off1 + k * 4, none⟩ = some _ := elem_cell0 hE1 (by decide) rfl
      have c11 : wr.cell? ⟨b1, off1 + k * 4 + 1, none⟩ = some _ := elem_cell (j := 1) hE1 (by decide) rfl
      have c12 : wr.cell? ⟨b1, off1 + k * 4 + 2, none⟩ = some _ := elem_cell (j := 2) hE1 (by decide) rfl
      have c13 : wr.cell? ⟨b1, off1 + k * 4 + 3, none⟩ = some _ := elem_cell (j := 3) hE1 (by decide) rfl
      have c20 : wr.cell? ⟨b2, off2 + k * 4, none⟩ = some _ := elem_cell0 hE2 (by decide) rfl
      have c21 : wr.cell? ⟨b2, off2 + k * 4 + 1, none⟩ = some _ := elem_cell (j := 1) hE2 (by decide) rfl
      have c22 : wr.cell? ⟨b2, off2 + k * 4 + 2, none⟩ = some _ := elem_cell (j := 2) hE2 (by decide) rfl
      have c23 : wr.cell? ⟨b2, off2 + k * 4 + 3, none⟩ = some _ := elem_cell (j := 3) hE2 (by decide) rfl
      clear hE1 hE2 K1 K2
      have q1 : (l[k].kind != l[k].kind) = false := by simp
      have q2 := bytes_beq (rfl : l[k].text = l[k].text)
      have q3 : (l[k].spaced != l[k].spaced) = false := by simp
      go_wp2
      go_quiet (first | (go_at_call 49; refine Calls.quiet_of (HC.out _)))
      go_wp2
      go_roundw
      case rel => exact ⟨k + 1, by omega, by go_num, belowN hb _⟩
      case measure => simp [intOf]; omega
    · go_wp2
      go_ret
      exact ⟨rfl, hb⟩

end Go.Proofs.Ytgjjidjkpmmcoaa

/- The law's fixed answer. -/
namespace Go.Proofs.Ytgjjidjkpmmcoaa
open Go.RowKit

theorem small_ok {s : ByteArray} (h : s.size ≤ 1000000) : s.size ≤ maxLen := by unfold maxLen; omega
theorem line_ab (w : World) : Calls Try.prog 36 #[.string ⟨#[97, 32, 98]⟩] w fun e w' => e = .returned (.bool true) ∧ w = w' := by
  have := impl_LineValid ⟨#[97, 32, 98]⟩ w (small_ok (by decide))
  rwa [show lineOk ⟨#[97, 32, 98]⟩ = true from by decide] at this
theorem line_nl (w : World) : Calls Try.prog 36 #[.string ⟨#[10]⟩] w fun e w' => e = .returned (.bool false) ∧ w = w' := by
  have := impl_LineValid ⟨#[10]⟩ w (small_ok (by decide))
  rwa [show lineOk ⟨#[10]⟩ = false from by decide] at this
theorem alive (w : World) : Calls Try.prog 13 #[] w fun e w' => e = .returned (.bool true) ∧ w = w' := by
  go_enter Try.func13, Try.ntmps13
  go_wp2_with fail
  refine (line_ab _).mono ?_
  rintro e w' ⟨rfl, rfl⟩
  go_wp2_with fail
  refine (line_nl _).mono ?_
  rintro e w' ⟨rfl, rfl⟩
  go_wp2
  go_ret
  exact ⟨rfl, rfl⟩

end Go.Proofs.Ytgjjidjkpmmcoaa
