/- Texts that the proof of U stands on, in one file. -/
import Derived.Test.YtiaiggjfepoahabShelf
import Derived.Test.YtiaiggjfepoahabZU1
import Derived.Lib.FrozenHead2
import Derived.Lib.OthersKept
import Derived.Lib.Builder
import Derived.Laws.Externs
import Derived.Test.YtiaiggjfepoahabZU5
import Derived.Test.YtiaiggjfepoahabZU8
import Derived.Lib.Join
import Derived.Test.YtiaiggjfepoahabZU7
import Derived.Test.YtiaiggjfepoahabZU11
import Derived.Test.YtiaiggjfepoahabZU6
set_option linter.unusedVariables false
set_option linter.unusedSimpArgs false
/- strings.Builder at this program, walked here: what its writers leave. (The library's own contracts don't fit this translation: a builder's copy check ends otherwise.) -/
namespace Go.Proofs.Ytiaiggjfepoahab
open Go.RowKit
end Go.Proofs.Ytiaiggjfepoahab

/- PrintTokens: the program. -/
namespace Go.Proofs.Ytiaiggjfepoahab
open Go.RowKit
end Go.Proofs.Ytiaiggjfepoahab

/- MacroText of both. (Made by gen_mac7.py.) -/
namespace Go.Proofs.Ytiaiggjfepoahab
open Go.RowKit

/-! ### The head's bytes -/
end Go.Proofs.Ytiaiggjfepoahab

/- Macros are drawn. (Made by gen_drawmac.py.) -/
namespace Go.Proofs.Ytiaiggjfepoahab
open Go.RowKit
end Go.Proofs.Ytiaiggjfepoahab

/- The drawing of lists of tokens. -/
namespace Go.Proofs.Ytiaiggjfepoahab
open Go.RowKit
/-- A token's Spaced is stored. -/
theorem RowE.spaced {base g n cap : Nat} {L : List (Elem Tok)} {w : World} (h : RowE sTok base 47 (.slice (some ⟨g, 0, none⟩) n cap) L w) {k : Nat} (hk : k < L.length) (b : Bool) :
    ∃ x', RowE sTok base 47 (.slice (some ⟨g, 0, none⟩) n cap) (L.set k x') (w.setCell ⟨g, k * 4 + 2, none⟩ (.bool b)) ∧ (okTok L[k].d → okTok x'.d) := by
  have hm := List.getElem_mem hk
  obtain ⟨hh, hcs, hi, hs, hK⟩ := h.el _ hm
  refine ⟨⟨[.int .i64 L[k].d.kind, .string L[k].d.text, .bool b, hh], ⟨L[k].d.kind, L[k].d.text, b, L[k].d.hidden⟩, L[k].fp⟩, h.set hk (j := 2) (by decide) _ _ (by rw [hcs]; rfl) ⟨hh, rfl, hi, hs, hK⟩ (fun b hb => h.lo L[k] hm b hb) (fun b hb => h.ty L[k] hm b hb), fun h => h⟩
end Go.Proofs.Ytiaiggjfepoahab

/- Tokens and a place, drawn. (Made by gen_drawspl.py.) -/
namespace Go.Proofs.Ytiaiggjfepoahab
open Go.RowKit

def spl_texts : List ByteArray := [⟨#[40, 97, 44, 32, 98, 41]⟩, ⟨#[102, 40, 97, 44, 40, 98, 44, 99, 41, 44, 41]⟩, ⟨#[40, 41]⟩, ⟨#[40, 97]⟩, ⟨#[120, 40, 49, 41, 40, 50, 41]⟩, ⟨#[40, 40, 97, 41, 44, 98, 41, 32, 99]⟩, ⟨#[97, 32, 98]⟩, ⟨#[40, 44, 41]⟩]
theorem spl_texts_size : ∀ s ∈ spl_texts, s.size ≤ 14 := by decide
theorem grownRd' {w w' : World} {rb p base : Nat} {r : Option Nat} (h : Rd w rb p) (hg : w.grownBy w' r) (hr : rb < base) (hm : ∀ b, r = some b → base ≤ b) : Rd w' rb p :=
  h.kept (fp := r.toList) ⟨hg.os, hg.tape, hg.output, hg.size, fun b hb hn => hg.block b hb (by intro e; exact hn (by rw [← e]; simp))⟩ (fun b hb => by
    have e : r = some b := by cases r <;> simp_all
    have := hm b e
    omega)
/-- Tokens and a place. -/
def DrawnSpl (w : World) (e : Ending) (w' : World) : Prop :=
  ∃ (v : Value) (L : List (Elem Tok)) (i : Int), e = .returned (.tuple #[v, .int .i64 i]) ∧ RowE sTok w.heap.size 47 v L w' ∧ (∀ x ∈ L, okTok x.d) ∧ L.length ≤ 61 ∧ Below w.heap.size w w'

set_option maxHeartbeats 8000000 in
set_option maxRecDepth 100000 in
theorem DrawSplitArguments (v : Value) (l : List UInt8) (fp : List Nat) (w : World) (H : (sSlice sByte).R w [v] l fp) :
    Calls Try.prog 23 #[v] w (DrawnSpl w) := by
  go_enter Try.func23, Try.ntmps23
  go_wp2_with fail
  refine (l20Open _ l fp _ H).mono ?_
  rintro e w1 ⟨rb, rfl, hrb, hR, hB⟩
  have hzl := alloc_below' w1 (.cells #[.string ⟨#[40, 97, 44, 32, 98, 41]⟩, .string ⟨#[102, 40, 97, 44, 40, 98, 44, 99, 41, 44, 41]⟩, .string ⟨#[40, 41]⟩, .string ⟨#[40, 97]⟩, .string ⟨#[120, 40, 49, 41, 40, 50, 41]⟩, .string ⟨#[40, 40, 97, 41, 44, 98, 41, 32, 99]⟩, .string ⟨#[97, 32, 98]⟩, .string ⟨#[40, 44, 41]⟩] 9)
  have HR1 := Lib.hid (hR.grow hzl)
  have HB1 := Lib.hid (hB.trans (hzl.mono hB.size))
  have hlt := hR.lt
  clear hzl hB hR
  go_wp2_with fail
  refine (pick rb 0 _ _ HR1.out (by omega) (by omega) (by omega)).mono ?_
  rintro e w2 ⟨r, rfl, h0, h1, hR2, hK2⟩
  obtain ⟨s0, hs0, hcs⟩ := lit_pick spl_texts 20 (fun s hs => Nat.le_trans (spl_texts_size s hs) (by decide)) h0 (by show r < 8; omega) hlt hK2
  have HBX := Lib.hid (kept_below HB1.out hK2 hrb HB1.out.size)
  have HRX := Lib.hid hR2
  have hs : s0.size ≤ 1000 := by omega
  clear hK2 hR2 HB1 HR1
  go_wp2_with fail
  refine (spec_TokensOf_row s0 _ (by unfold maxLen; omega)).mono ?_
  rintro e w4 ⟨v4, rfl, hrow, hfr, hB4⟩
  have hcnt := (tokRes_all s0).1
  obtain ⟨hE0, hok0⟩ := toks_rowE hrow hfr hs
  have HR4 := Lib.hid (HRX.out.grow hB4)
  have HB4 := Lib.hid (HBX.out.trans (hB4.mono HBX.out.size))
  have HE4 := Lib.hid hE0
  have hX1 := HRX.out.lt
  have hX2 := hB4.size
  have hX3 := HBX.out.size
  have HN : Hid (((tokRes s0).1.map elemTok).length ≤ 60) := by show _ ≤ _; rw [List.length_map]; exact hcnt
  generalize (tokRes s0).1.map elemTok = L0 at hE0 HE4 hok0 HN
  generalize (tokRes s0).2 = b0 at *
  have HOK := Lib.hid hok0
  clear hrow hfr hcnt hB4 hE0 hok0
  go_wp2_with fail
  refine (odd rb 1 _ _ HR4.out (by omega) (by omega) (by omega)).mono ?_
  rintro e w5 ⟨b, q5, rfl, hq51, hq52, hR5, hK5⟩
  have hE5 := HE4.out.keptR hK5 hX1
  have hX5 := hK5.size
  have hB5 := kept_below HB4.out hK5 (by omega) HB4.out.size
  cases b
  · have HE5 := Lib.hid hE5
    have HB5 := Lib.hid hB5
    have HR5 := Lib.hid hR5
    clear hE5 hB5 hR5 hK5
    go_wp2_with fail
    refine (pick rb q5 _ _ HR5.out (by omega) (by omega) (by omega)).mono ?_
    rintro e w6 ⟨r6, rfl, h60, h61, hR6, hK6⟩
    have HE6 := Lib.hid (HE5.out.keptR hK6 hX1)
    have HB6 := Lib.hid (kept_below HB5.out hK6 (by omega) HB5.out.size)
    go_wp2_with fail
    refine (pick rb (q5 + 1) _ _ hR6 (by omega) (by omega) (by omega)).mono ?_
    rintro e w7 ⟨r7, rfl, h70, h71, hR7, hK7⟩
    have HE7 := Lib.hid (HE6.out.keptR hK7 hX1)
    have HB7 := Lib.hid (kept_below HB6.out hK7 (by omega) HB6.out.size)
    go_wp2
    go_ret2
    exact ⟨_, L0, _, rfl, HE7.out.lower hX3, HOK.out, by have := HN.out; omega, HB7.out⟩
  · go_wp2_with fail
    refine (l20Token rb q5 _ _ hR5 (by omega) (by omega) (by omega)).mono ?_
    rintro e w6 ⟨tk, ts, sp, ao, tm, tc, tl, tf, q6, rfl, dR, dok, dlo, dty, hq6, hR6, hK6⟩
    have hE6 := hE5.keptR hK6 hX1
    have hB6 := kept_below hB5 hK6 (by omega) hB5.size
    have HE6 := Lib.hid hE6
    have HB6 := Lib.hid hB6
    have HT := Lib.hid (And.intro dR (And.intro (fun b hb => Nat.le_trans (Nat.le_trans hX2 hX5) (dlo b hb)) dty))
    have HDK := Lib.hid dok
    have HR6 := Lib.hid hR6
    have hbs := hB6.size
    have hX6 := hK6.size
    have hbX : w2.heap.size ≤ w6.heap.size := by omega
    have HG := Lib.hid (fun b hb => Nat.le_trans hX3 (HE6.out.mine b hb))
    have HGR := Lib.hid (fun b hb => Nat.lt_of_lt_of_le hX1 (HE6.out.mine b hb))
    clear hE6 hB6 dR dlo dty dok hK6 hR6 hE5 hB5 hK5 hR5 HE4 HB4 HR4
    go_wp2_with (at_builtin; refine wp_append_tokE rfl (.tmp 20) (.tmp 23) rfl w2.heap.size v4 L0 rfl HE6.out tk ts sp ao tm tc tl tf rfl HT.out.1 HT.out.2.1 HT.out.2.2 (by have := HN.out; omega) hbX ?_; intro v7 w7 hE7 hg7; have HF := Lib.hid (HB6.out.grown hg7 hbs HG.out); have HE7 := Lib.hid hE7; have HR7 := Lib.hid (grownRd' HR6.out hg7 hX1 (fun b hb => HE6.out.mine b hb)); clear hE7 hg7)
    go_wp2_with fail
    refine (pick rb q6 _ _ HR7.out (by omega) (by omega) (by omega)).mono ?_
    rintro e w8 ⟨r8, rfl, h80, h81, hR8, hK8⟩
    have HE8 := Lib.hid (HE7.out.keptR hK8 hX1)
    have HB8 := Lib.hid (kept_below HF.out hK8 (by omega) HF.out.size)
    go_wp2_with fail
    refine (pick rb (q6 + 1) _ _ hR8 (by omega) (by omega) (by omega)).mono ?_
    rintro e w9 ⟨r9, rfl, h90, h91, hR9, hK9⟩
    have HE9 := Lib.hid (HE8.out.keptR hK9 hX1)
    have HB9 := Lib.hid (kept_below HB8.out hK9 (by omega) HB8.out.size)
    go_wp2
    go_ret2
    exact ⟨_, _, _, rfl, HE9.out.lower hX3, okApp HOK.out HDK.out, by have := HN.out; rw [List.length_append]; simp; omega, HB9.out⟩

end Go.Proofs.Ytiaiggjfepoahab

/- The law's fixed answer. -/
namespace Go.Proofs.Ytiaiggjfepoahab
open Go.RowKit

theorem small_ok {s : ByteArray} (h : s.size ≤ 1000000) : s.size ≤ maxLen := by unfold maxLen; omega
theorem line_ab (w : World) : Calls Try.prog 54 #[.string ⟨#[97, 32, 98]⟩] w fun e w' => e = .returned (.bool true) ∧ w = w' := by
  have := impl_LineValid ⟨#[97, 32, 98]⟩ w (small_ok (by decide))
  rwa [show lineOk ⟨#[97, 32, 98]⟩ = true from by decide] at this
theorem line_nl (w : World) : Calls Try.prog 54 #[.string ⟨#[10]⟩] w fun e w' => e = .returned (.bool false) ∧ w = w' := by
  have := impl_LineValid ⟨#[10]⟩ w (small_ok (by decide))
  rwa [show lineOk ⟨#[10]⟩ = false from by decide] at this
theorem alive (w : World) : Calls Try.prog 25 #[] w fun e w' => e = .returned (.bool true) ∧ w = w' := by
  go_enter Try.func25, Try.ntmps25
  go_wp2_with fail
  refine (line_ab _).mono ?_
  rintro e w' ⟨rfl, rfl⟩
  go_wp2_with fail
  refine (line_nl _).mono ?_
  rintro e w' ⟨rfl, rfl⟩
  go_wp2
  go_ret
  exact ⟨rfl, rfl⟩

end Go.Proofs.Ytiaiggjfepoahab
