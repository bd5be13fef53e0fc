/- Texts that the proof of U stands on, in one file. -/
import Derived.Test.YtdnjpjiepnhhhaaZU7
import Derived.Test.YtdnjpjiepnhhhaaZU6
import Derived.Test.YtdnjpjiepnhhhaaZU9
import Derived.Test.YtdnjpjiepnhhhaaZU8
set_option linter.unusedVariables false
set_option linter.unusedSimpArgs false
/- The drawing of lists of tokens. -/
namespace Go.Proofs.Ytdnjpjiepnhhhaa
open Go.RowKit

/-- Tokens are drawn. -/
def DrawnList (w : World) (e : Ending) (w' : World) : Prop :=
  ∃ (v : Value) (L : List (Elem Tok)), e = .returned v ∧ RowE sTok w.heap.size 59 v L w' ∧ (∀ x ∈ L, okTok x.d) ∧ L.length ≤ 61 ∧ Below w.heap.size w w'
theorem okPlus : okTok ⟨4, ⟨#[43]⟩, false, []⟩ := ⟨by decide, by decide, by decide, by decide⟩
/-- A token's Spaced is stored. -/
theorem RowE.spaced {base g n cap : Nat} {L : List (Elem Tok)} {w : World} (h : RowE sTok base 59 (.slice (some ⟨g, 0, none⟩) n cap) L w) {k : Nat} (hk : k < L.length) (b : Bool) :
    ∃ x', RowE sTok base 59 (.slice (some ⟨g, 0, none⟩) n cap) (L.set k x') (w.setCell ⟨g, k * 4 + 2, none⟩ (.bool b)) ∧ (okTok L[k].d → okTok x'.d) := by
  have hm := List.getElem_mem hk
  obtain ⟨hh, hcs, hi, hs, hK⟩ := h.el _ hm
  refine ⟨⟨[.int .i64 L[k].d.kind, .string L[k].d.text, .bool b, hh], ⟨L[k].d.kind, L[k].d.text, b, L[k].d.hidden⟩, L[k].fp⟩, h.set hk (j := 2) (by decide) _ _ (by rw [hcs]; rfl) ⟨hh, rfl, hi, hs, hK⟩ (fun b hb => h.lo L[k] hm b hb) (fun b hb => h.ty L[k] hm b hb), fun h => h⟩
theorem okSet {L : List (Elem Tok)} (h : ∀ x ∈ L, okTok x.d) {k : Nat} {x' : Elem Tok} (hx : okTok x'.d) : ∀ x ∈ L.set k x', okTok x.d := fun x hm => by
  rcases List.mem_or_eq_of_mem_set hm with h1 | h1
  · exact h x h1
  · subst h1; exact hx

end Go.Proofs.Ytdnjpjiepnhhhaa

/- Tokens that the law of MacroOf draws. (Made by gen_drawmo.py.) -/
namespace Go.Proofs.Ytdnjpjiepnhhhaa
open Go.RowKit

def mo_texts : List ByteArray := [⟨#[97]⟩, ⟨#[102, 40, 120, 41, 32, 120]⟩, ⟨#[102, 32, 40, 120, 41, 32, 120]⟩, ⟨#[102, 40, 41, 32, 49]⟩, ⟨#[102, 40, 120, 44, 121, 41, 32, 120]⟩, ⟨#[102, 40, 120]⟩, ⟨#[102, 40, 120, 44, 41, 32, 120]⟩, ⟨#[102, 40, 120, 32, 121, 41, 32, 120]⟩, ⟨#[102, 40, 120, 44, 120, 41, 32, 120]⟩, ⟨#[102, 40, 49, 41, 32, 120]⟩, ⟨#[49, 32, 97]⟩, ⟨#[100, 101, 102, 105, 110, 101, 100, 32, 49]⟩, ⟨#[102, 40, 120, 41, 32, 35, 32, 121]⟩, ⟨#[97, 32, 35, 35, 32, 98]⟩, ⟨#[97, 32, 120, 32, 35, 35]⟩, ⟨#[]⟩, ⟨#[102, 40, 97, 44, 98, 44, 99, 44, 100, 44, 101, 41, 32, 97]⟩]
theorem mo_texts_size : ∀ s ∈ mo_texts, s.size ≤ 14 := by decide

set_option maxHeartbeats 8000000 in
set_option maxRecDepth 100000 in
theorem DrawMacroOf (v : Value) (l : List UInt8) (fp : List Nat) (w : World) (H : (sSlice sByte).R w [v] l fp) :
    Calls Try.prog 28 #[v] w (DrawnList w) := by
  go_enter Try.func28, Try.ntmps28
  go_wp2_with fail
  refine (l20Open _ l fp _ H).mono ?_
  rintro e w1 ⟨rb, rfl, hrb, hR, hB⟩
  have hzl := alloc_below' w1 (.cells #[.string ⟨#[97]⟩, .string ⟨#[102, 40, 120, 41, 32, 120]⟩, .string ⟨#[102, 32, 40, 120, 41, 32, 120]⟩, .string ⟨#[102, 40, 41, 32, 49]⟩, .string ⟨#[102, 40, 120, 44, 121, 41, 32, 120]⟩, .string ⟨#[102, 40, 120]⟩, .string ⟨#[102, 40, 120, 44, 41, 32, 120]⟩, .string ⟨#[102, 40, 120, 32, 121, 41, 32, 120]⟩, .string ⟨#[102, 40, 120, 44, 120, 41, 32, 120]⟩, .string ⟨#[102, 40, 49, 41, 32, 120]⟩, .string ⟨#[49, 32, 97]⟩, .string ⟨#[100, 101, 102, 105, 110, 101, 100, 32, 49]⟩, .string ⟨#[102, 40, 120, 41, 32, 35, 32, 121]⟩, .string ⟨#[97, 32, 35, 35, 32, 98]⟩, .string ⟨#[97, 32, 120, 32, 35, 35]⟩, .string ⟨#[]⟩, .string ⟨#[102, 40, 97, 44, 98, 44, 99, 44, 100, 44, 101, 41, 32, 97]⟩] 9)
  have HR1 := Lib.hid (hR.grow hzl)
  have HB1 := Lib.hid (hB.trans (hzl.mono hB.size))
  have hlt := hR.lt
  clear hzl hB hR
  go_wp2_with fail
  refine (pick rb 0 _ _ HR1.out (by omega) (by omega) (by omega)).mono ?_
  rintro e w2 ⟨r, rfl, h0, h1, hR2, hK2⟩
  obtain ⟨s0, hs0, hcs⟩ := lit_pick mo_texts 20 (fun s hs => Nat.le_trans (mo_texts_size s hs) (by decide)) h0 (by show r < 17; omega) hlt hK2
  have HB2 := Lib.hid (kept_below HB1.out hK2 hrb HB1.out.size)
  have HR2 := Lib.hid hR2
  clear hK2 hR2 HB1 HR1
  go_wp2_with fail
  refine (pick rb 1 _ _ HR2.out (by omega) (by omega) (by omega)).mono ?_
  rintro e w3 ⟨r3, rfl, h30, h31, hR3, hK3⟩
  have HB3 := Lib.hid (kept_below HB2.out hK3 hrb HB2.out.size)
  have HR3 := Lib.hid hR3
  clear hK3 hR3 HB2 HR2 hcs
  by_cases hr : r3 = 0
  · have hr' : (r3 == 0) = true := by simp [hr]
    clear hr
    go_wp2_with fail
    refine (l20Macro rb 2 _ _ HR3.out (by omega) (by omega) (by omega)).mono ?_
    rintro e w31 ⟨nm, f, a2, a3, n2, c2, n3, c3, ps, bd, fp', q31, rfl, hT, hok, hlo, hq, hR31, hK31⟩
    have HB31 := Lib.hid (kept_below HB3.out hK31 hrb HB3.out.size)
    clear hlo hok
    go_wp2_with fail
    refine (spec_MacroText _ _ _ _ hT).mono ?_
    rintro e w32 ⟨rfl, hb32⟩
    have HRX := Lib.hid (hR31.grow hb32)
    have HBX := Lib.hid (HB31.out.trans (hb32.mono HB31.out.size))
    have hs : (macText ⟨nm, f, ps, bd⟩).1.size ≤ 1000 := Nat.le_trans macText_size (by omega)
    generalize (macText ⟨nm, f, ps, bd⟩).1 = s at *
    generalize (macText ⟨nm, f, ps, bd⟩).2 = okm at *
    have hqX : q31 ≤ 20 := by omega
    clear hT hK31 hR31 hb32 HB31 HB3 HR3 hq
    go_wp2_with fail
    refine (spec_TokensOf_row s _ (by unfold maxLen; omega)).mono ?_
    rintro e w4 ⟨v4, rfl, hrow, hfr, hB4⟩
    have hcnt := (tokRes_all s).1
    obtain ⟨hE0, hok0⟩ := toks_rowE hrow hfr hs
    have HR4 := Lib.hid (HRX.out.grow hB4)
    have HB4 := Lib.hid (HBX.out.trans (hB4.mono HBX.out.size))
    have HE4 := Lib.hid hE0
    have hX1 := HRX.out.lt
    have hX2 := hB4.size
    have hX3 := HBX.out.size
    have HN : Hid (((tokRes s).1.map elemTok).length ≤ 60) := by show _ ≤ _; rw [List.length_map]; exact hcnt
    generalize (tokRes s).1.map elemTok = L0 at hE0 HE4 hok0 HN
    generalize (tokRes s).2 = b0 at *
    have HOK := Lib.hid hok0
    clear hrow hfr hcnt hB4 hE0 hok0
    go_wp2_with fail
    refine (odd rb q31 _ _ HR4.out (by omega) (by omega) (by omega)).mono ?_
    rintro e w5 ⟨b, q5, rfl, hq51, hq52, hR5, hK5⟩
    have hE5 := HE4.out.keptR hK5 hX1
    have hX5 := hK5.size
    have hB5 := kept_below HB4.out hK5 (by omega) HB4.out.size
    cases b
    · go_wp2
      go_ret
      exact ⟨_, L0, rfl, hE5.lower hX3, HOK.out, by have := HN.out; omega, hB5⟩
    · go_wp2_with fail
      refine (l20Token rb q5 _ _ hR5 (by omega) (by omega) (by omega)).mono ?_
      rintro e w6 ⟨tk, ts, sp, ao, tm, tc, tl, tf, q6, rfl, dR, dok, dlo, dty, hq6, hR6, hK6⟩
      have hE6 := hE5.keptR hK6 hX1
      have hB6 := kept_below hB5 hK6 (by omega) hB5.size
      have HE6 := Lib.hid hE6
      have HB6 := Lib.hid hB6
      have HT := Lib.hid (And.intro dR (And.intro (fun b hb => Nat.le_trans (Nat.le_trans hX2 hX5) (dlo b hb)) dty))
      have HDK := Lib.hid dok
      have hbs := hB6.size
      have hX6 := hK6.size
      have hbX : w32.heap.size ≤ w6.heap.size := by omega
      have HG := Lib.hid (fun b hb => Nat.le_trans hX3 (HE6.out.mine b hb))
      clear hE6 hB6 dR dlo dty dok hK6 hR6 hE5 hB5 hK5 hR5 HE4 HB4 HR4
      go_wp2_with (at_builtin; refine wp_append_tokE rfl (.tmp 34) (.tmp 37) rfl w32.heap.size v4 L0 rfl HE6.out tk ts sp ao tm tc tl tf rfl HT.out.1 HT.out.2.1 HT.out.2.2 (by have := HN.out; omega) hbX ?_; intro v7 w7 hE7 hg7)
      have HF := Lib.hid (HB6.out.grown hg7 hbs HG.out)
      have HE7 := Lib.hid hE7
      clear hE7 hg7
      go_wp2
      go_ret
      exact ⟨v7, _, rfl, HE7.out.lower hX3, okApp HOK.out HDK.out, by have := HN.out; rw [List.length_append]; simp; omega, HF.out⟩
  · have hr' : (r3 == 0) = false := by simp [hr]
    clear hr
    have HRX := HR3
    have HBX := HB3
    have hs : s0.size ≤ 1000 := by omega
    clear HR3 HB3
    go_wp2_with fail
    refine (spec_TokensOf_row s0 _ (by unfold maxLen; omega)).mono ?_
    rintro e w4 ⟨v4, rfl, hrow, hfr, hB4⟩
    have hcnt := (tokRes_all s0).1
    obtain ⟨hE0, hok0⟩ := toks_rowE hrow hfr hs
    have HR4 := Lib.hid (HRX.out.grow hB4)
    have HB4 := Lib.hid (HBX.out.trans (hB4.mono HBX.out.size))
    have HE4 := Lib.hid hE0
    have hX1 := HRX.out.lt
    have hX2 := hB4.size
    have hX3 := HBX.out.size
    have HN : Hid (((tokRes s0).1.map elemTok).length ≤ 60) := by show _ ≤ _; rw [List.length_map]; exact hcnt
    generalize (tokRes s0).1.map elemTok = L0 at hE0 HE4 hok0 HN
    generalize (tokRes s0).2 = b0 at *
    have HOK := Lib.hid hok0
    clear hrow hfr hcnt hB4 hE0 hok0
    go_wp2_with fail
    refine (odd rb 2 _ _ HR4.out (by omega) (by omega) (by omega)).mono ?_
    rintro e w5 ⟨b, q5, rfl, hq51, hq52, hR5, hK5⟩
    have hE5 := HE4.out.keptR hK5 hX1
    have hX5 := hK5.size
    have hB5 := kept_below HB4.out hK5 (by omega) HB4.out.size
    cases b
    · go_wp2
      go_ret
      exact ⟨_, L0, rfl, hE5.lower hX3, HOK.out, by have := HN.out; omega, hB5⟩
    · go_wp2_with fail
      refine (l20Token rb q5 _ _ hR5 (by omega) (by omega) (by omega)).mono ?_
      rintro e w6 ⟨tk, ts, sp, ao, tm, tc, tl, tf, q6, rfl, dR, dok, dlo, dty, hq6, hR6, hK6⟩
      have hE6 := hE5.keptR hK6 hX1
      have hB6 := kept_below hB5 hK6 (by omega) hB5.size
      have HE6 := Lib.hid hE6
      have HB6 := Lib.hid hB6
      have HT := Lib.hid (And.intro dR (And.intro (fun b hb => Nat.le_trans (Nat.le_trans hX2 hX5) (dlo b hb)) dty))
      have HDK := Lib.hid dok
      have hbs := hB6.size
      have hX6 := hK6.size
      have hbX : w3.heap.size ≤ w6.heap.size := by omega
      have HG := Lib.hid (fun b hb => Nat.le_trans hX3 (HE6.out.mine b hb))
      clear hE6 hB6 dR dlo dty dok hK6 hR6 hE5 hB5 hK5 hR5 HE4 HB4 HR4
      go_wp2_with (at_builtin; refine wp_append_tokE rfl (.tmp 34) (.tmp 37) rfl w3.heap.size v4 L0 rfl HE6.out tk ts sp ao tm tc tl tf rfl HT.out.1 HT.out.2.1 HT.out.2.2 (by have := HN.out; omega) hbX ?_; intro v7 w7 hE7 hg7)
      have HF := Lib.hid (HB6.out.grown hg7 hbs HG.out)
      have HE7 := Lib.hid hE7
      clear hE7 hg7
      go_wp2
      go_ret
      exact ⟨v7, _, rfl, HE7.out.lower hX3, okApp HOK.out HDK.out, by have := HN.out; rw [List.length_append]; simp; omega, HF.out⟩

end Go.Proofs.Ytdnjpjiepnhhhaa

/- Macros are compared by the laws. -/
namespace Go.Proofs.Ytdnjpjiepnhhhaa
open Go.RowKit

set_option maxHeartbeats 8000000 in
theorem sameMacro_same (cs1 cs2 : List Value) (x : DMacro) (fp1 fp2 : List Nat) (w : World) (H1 : sMacro.R w cs1 x fp1) (H2 : sMacro.R w cs2 x fp2) :
    Calls Try.prog 29 #[.agg cs1.toArray, .agg cs2.toArray] w fun e w' => e = .returned (.bool true) ∧ Below w.heap.size w w' := by
  obtain ⟨h2, h3, fpa2, fpa3, rfl, -, K2, K3, rfl⟩ := H1
  obtain ⟨g2, g3, fpb2, fpb3, rfl, -, L2, L3, rfl⟩ := H2
  obtain ⟨a2, ca2, rfl, -⟩ := open_strs K2
  obtain ⟨a3, ca3, rfl, -⟩ := open_rows K3
  obtain ⟨d2, cd2, rfl, -⟩ := open_strs L2
  obtain ⟨d3, cd3, rfl, -⟩ := open_rows L3
  have b0 := alloc_below' w (.cells #[.string x.name, .bool x.function, .slice a2 x.params.length ca2, .slice a3 x.body.length ca3] 27)
  have b1 := b0.trans ((alloc_below' (w.alloc (.cells #[.string x.name, .bool x.function, .slice a2 x.params.length ca2, .slice a3 x.body.length ca3] 27)) (.cells #[.string x.name, .bool x.function, .slice d2 x.params.length cd2, .slice d3 x.body.length cd3] 27)).mono b0.size)
  have HX := Lib.hid (alloc2_blk w #[.string x.name, .bool x.function, .slice a2 x.params.length ca2, .slice a3 x.body.length ca3] #[.string x.name, .bool x.function, .slice d2 x.params.length cd2, .slice d3 x.body.length cd3] 27 27)
  have HP := Lib.hid (fun W (hW : Below w.heap.size w W) => sameTexts _ _ x.params x.params _ _ W ((sSlice sStr).below K2 hW) ((sSlice sStr).below L2 hW))
  have HB := Lib.hid (fun W (hW : Below w.heap.size w W) => sameTokens_same _ _ x.body _ _ W ((sSlice sTok).below K3 hW) ((sSlice sTok).below L3 hW))
  rw [decide_eq_true (rfl : x.params = x.params)] at HP
  clear K2 K3 L2 L3 b0
  have g0 := bytes_beq (rfl : x.name = x.name)
  have g1 : (x.function == x.function) = true := by simp
  go_enter Try.func29, Try.ntmps29
  go_wp2_with fail
  refine (HP.out _ b1).mono ?_
  rintro e w2 ⟨rfl, n, rfl⟩
  have d2' := belowN b1 n
  replace HX := Lib.hid (blk2 HX.out (belowN (Below.refl _ _) n))
  have qa3 : (((w.alloc (.cells #[.string x.name, .bool x.function, .slice a2 x.params.length ca2, .slice a3 x.body.length ca3] 27)).alloc (.cells #[.string x.name, .bool x.function, .slice d2 x.params.length cd2, .slice d3 x.body.length cd3] 27)).drewN n).cell? ⟨w.heap.size, 3, none⟩ = some (.slice a3 x.body.length ca3) := cell_of_row _ _ 3 _ _ _ HX.out.1
  have qb3 : (((w.alloc (.cells #[.string x.name, .bool x.function, .slice a2 x.params.length ca2, .slice a3 x.body.length ca3] 27)).alloc (.cells #[.string x.name, .bool x.function, .slice d2 x.params.length cd2, .slice d3 x.body.length cd3] 27)).drewN n).cell? ⟨w.heap.size + 1, 3, none⟩ = some (.slice d3 x.body.length cd3) := cell_of_row _ _ 3 _ _ _ HX.out.2
  go_wp2_with fail
  refine (HB.out _ d2').mono ?_
  rintro e w3 ⟨rfl, c3⟩
  go_wp2
  go_ret
  exact ⟨rfl, d2'.trans (c3.mono d2'.size)⟩

end Go.Proofs.Ytdnjpjiepnhhhaa
