/- Texts that the proof of PSameMacro stands on, in one file. -/
import Derived.Test.YtdnjpjiepnhhhaaZPSameMacro2
import Derived.Test.YtdnjpjiepnhhhaaZPSameMacro1
import Derived.Test.YtdnjpjiepnhhhaaZPSameMacro3
import Derived.Test.YtdnjpjiepnhhhaaZPSameMacro4
import Derived.Deep.RegionHeld3
import Derived.Deep.QuietTactic
import Derived.BigQuiet
import Derived.Outline
import Derived.StillTailTactics
import Derived.Deep.Fields
import Derived.ChangeSame
import Derived.Laws.AppendOwnNone
import Derived.Orders
set_option linter.unusedVariables false
set_option linter.unusedSimpArgs false
/- Macro: its shape, and the law's own helpers. (Made by rec.py.) -/
namespace Go.Proofs.Ytdnjpjiepnhhhaa
open Go.RowKit Go.ChangeShapes Go.WideShapes Go.Deep

def sMacro : Shape DMacro where
  m := 4
  R w cs d fp := ∃ (h2 : Value) (h3 : Value) (fp2 : List Nat) (fp3 : List Nat), cs = [.string d.name, .bool d.function, h2, h3] ∧ okStr d.name ∧ (sSlice sStr).R w [h2] d.params fp2 ∧ (sSlice sTok).R w [h3] d.body fp3 ∧ fp = fp2 ++ fp3
  frame := by
    rintro w w' cs d fp hf ⟨h2, h3, fp2, fp3, rfl, k0, K2, K3, rfl⟩
    exact ⟨h2, h3, fp2, fp3, rfl, k0, (sSlice sStr).frame (fun b hb => hf b (by simp [hb])) K2, (sSlice sTok).frame (fun b hb => hf b (by simp [hb])) K3, rfl⟩
  lt := by
    rintro w cs d fp ⟨h2, h3, fp2, fp3, rfl, k0, K2, K3, rfl⟩ b hb
    rcases List.mem_append.1 hb with hb | hb
    · exact (sSlice sStr).lt K2 b hb
    · exact (sSlice sTok).lt K3 b hb
def mkMacro (k : Int) (x : DMacro) : DMacro := ⟨mtext (k), (k + 1) % 3 == 0, marks mtext (k + 1 + 1) x.params.length, mkTokenS (k + 1 + 1 + (x.params.length : Int)) x.body⟩
def cntMacro (x : DMacro) : Nat := 2 + x.params.length + cntTokenS x.body
def mkMacroS (k : Int) (l : List DMacro) : List DMacro := mkAll mkMacro cntMacro k l
def cntMacroS (l : List DMacro) : Nat := cntAll cntMacro l
def wtMacro (x : DMacro) : Nat := x.name.size + wtStringS x.params + wtTokenS x.body
def wtMacroS (l : List DMacro) : Nat := l.length + (l.map wtMacro).sum

section
variable {H : Type} {enc : TypeId × Value → H} {P : Program} {w : World} {base : Nat} {spare : Nat → Bool} {held : Bool}
theorem opensP_Macro {t : TypeId} {f0 f1 f2 f3 : Field} (hs : P.underlying t = some (.struct #[f0, f1, f2, f3])) (hone : oneCellFields P #[f0, f1, f2, f3] = true) (hC : P.cellsOf t = 4) (h0 : Opens enc P w base spare held f0.type sStr) (h1 : Opens enc P w base spare held f1.type sBool) (h2 : Opens enc P w base spare held f2.type (sSlice sStr)) (h3 : Opens enc P w base spare held f3.type (sSlice sTok)) : Opens enc P w base spare held t sMacro := by
  intro fuel cs x h
  obtain ⟨xs, n, _, hx, hcl, hlen, hg⟩ := DataW.trod_struct hs h
  rw [hC] at hcl
  match cs, hcl with
  | [c0, c1, c2, c3], _ =>
    obtain ⟨o0, k0⟩ := hone_of hone 0 f0 rfl
    have g0 := hg 0 f0 rfl
    rw [o0, k0] at g0
    obtain ⟨o1, k1⟩ := hone_of hone 1 f1 rfl
    have g1 := hg 1 f1 rfl
    rw [o1, k1] at g1
    obtain ⟨o2, k2⟩ := hone_of hone 2 f2 rfl
    have g2 := hg 2 f2 rfl
    rw [o2, k2] at g2
    obtain ⟨o3, k3⟩ := hone_of hone 3 f3 rfl
    have g3 := hg 3 f3 rfl
    rw [o3, k3] at g3
    match xs, hlen with
    | [y0, y1, y2, y3], _ =>
      obtain ⟨d0, p0, hc0, hok0, rfl⟩ := h0 n _ _ g0
      obtain ⟨d1, p1, hc1, hok1, rfl⟩ := h1 n _ _ g1
      obtain ⟨d2, p2, hc2⟩ := h2 n _ _ g2
      obtain ⟨d3, p3, hc3⟩ := h3 n _ _ g3
      simp at hc0 hc1 hc2 hc3
      subst hc0
      subst hc1
      exact ⟨⟨d0, d1, d2, d3⟩, p2 ++ p3, c2, c3, p2, p3, rfl, hok0, hc2, hc3, rfl⟩
end
section
variable {H : Type} {enc : TypeId × Value → H} {w : World} {base : Nat} {spare : Nat → Bool} {held : Bool}
theorem opens_Macro : Opens enc Try.prog w base spare held 37 sMacro :=
  opensP_Macro Try.underlying37 (by kernel_rfl) (by kernel_rfl) (opens_str Try.underlying9) (opens_bool Try.underlying4) (opens_slice Try.underlying24 (by kernel_rfl) (by decide) (opens_str Try.underlying9)) (opens_slice Try.underlying22 (by kernel_rfl) (by decide) opens_Token)
end
abbrev zero_Macro : Value := .agg #[.string ByteArray.empty, .bool false, .slice none 0 0, .slice none 0 0]

set_option maxHeartbeats 8000000 in
set_option maxRecDepth 100000 in
theorem eqMacro_same (cs1 cs2 : List Value) (x : DMacro) (fp1 fp2 : List Nat) (w : World) (H1 : sMacro.R w cs1 x fp1) (H2 : sMacro.R w cs2 x fp2) :
    Calls Try.prog 12 #[.agg cs1.toArray, .agg cs2.toArray] w fun e w' => e = .returned (.bool true) ∧ Below w.heap.size w w' := by
  obtain ⟨h2, h3, fpa2, fpa3, rfl, -, K2, K3, rfl⟩ := H1
  obtain ⟨g2, g3, fpb2, fpb3, rfl, -, L2, L3, rfl⟩ := H2
  have b0 := alloc_below' w (.cells #[.string x.name, .bool x.function, h2, h3] 27)
  have b1 := b0.trans ((alloc_below' (w.alloc (.cells #[.string x.name, .bool x.function, h2, h3] 27)) (.cells #[.string x.name, .bool x.function, g2, g3] 27)).mono b0.size)
  have HC2 : Hid (∀ W, Below w.heap.size w W → Calls Try.prog 41 #[h2, g2] W fun e w' => e = .returned (.bool true) ∧ Below W.heap.size W w') := fun W hb => eqStringS_same h2 g2 x.params _ _ W ((sSlice sStr).below K2 hb) ((sSlice sStr).below L2 hb)
  have HC3 : Hid (∀ W, Below w.heap.size w W → Calls Try.prog 13 #[h3, g3] W fun e w' => e = .returned (.bool true) ∧ Below W.heap.size W w') := fun W hb => eqTokenS_same h3 g3 x.body _ _ W ((sSlice sTok).below K3 hb) ((sSlice sTok).below L3 hb)
  have HX := Lib.hid (alloc2_blk w #[.string x.name, .bool x.function, h2, h3] #[.string x.name, .bool x.function, g2, g3] 27 27)
  have e0 := bytes_beq (rfl : x.name = x.name)
  have e1 : (x.function != x.function) = false := by simp
  go_enter Try.func12, Try.ntmps12
  go_wp2_with fail
  refine (HC2.out _ b1).mono ?_
  rintro e w2 ⟨rfl, c2⟩
  have d2 := b1.trans (c2.mono b1.size)
  replace HX := Lib.hid (And.intro ((c2.block _ (Array.getElem?_eq_some_iff.1 HX.out.1).1).trans HX.out.1) ((c2.block _ (Array.getElem?_eq_some_iff.1 HX.out.2).1).trans HX.out.2))
  have qa3 : w2.cell? ⟨w.heap.size, 3, none⟩ = some (h3) := cell_of_row _ _ 3 _ _ _ HX.out.1
  have qb3 : w2.cell? ⟨w.heap.size + 1, 3, none⟩ = some (g3) := cell_of_row _ _ 3 _ _ _ HX.out.2
  clear c2
  go_wp2_with fail
  refine (HC3.out _ d2).mono ?_
  rintro e w3 ⟨rfl, c3⟩
  have d3 := d2.trans (c3.mono d2.size)
  go_wp2
  go_ret
  exact ⟨rfl, d3⟩

set_option maxHeartbeats 8000000 in
set_option maxRecDepth 100000 in
theorem szMacro (cs : List Value) (x : DMacro) (fp : List Nat) (w : World) (B : Int) (h0 : 0 ≤ B) (h1 : B ≤ 1048576) (H : sMacro.R w cs x fp) :
    Calls Try.prog 17 #[.agg cs.toArray, .int .i64 B] w fun e w' => ∃ r : Int, e = .returned (.int .i64 r) ∧ SzR B r (wtMacro x) ∧ Below w.heap.size w w' := by
  obtain ⟨v2, v3, fp2, fp3, rfl, k0, K2, K3, rfl⟩ := H
  unfold okStr maxLen at k0
  have b0 := alloc_below' w (.cells #[.string x.name, .bool x.function, v2, v3] 37)
  have HC2 : Hid (∀ W r, Below w.heap.size w W → 0 ≤ r → r ≤ 1048576 → Calls Try.prog 47 #[v2, .int .i64 r] W fun e w' => ∃ r' : Int, e = .returned (.int .i64 r') ∧ SzR r r' (wtStringS x.params) ∧ Below W.heap.size W w') := fun W r hb hr0 hr1 => (szStringS v2 x.params _ W r hr0 hr1 ((sSlice sStr).below K2 hb)).mono fun e w' ⟨r, a, b, c⟩ => ⟨r, a, b, c ▸ Below.refl _ _⟩
  have HC3 : Hid (∀ W r, Below w.heap.size w W → 0 ≤ r → r ≤ 1048576 → Calls Try.prog 8 #[v3, .int .i64 r] W fun e w' => ∃ r' : Int, e = .returned (.int .i64 r') ∧ SzR r r' (wtTokenS x.body) ∧ Below W.heap.size W w') := fun W r hb hr0 hr1 => (szTokenS v3 x.body _ W r hr0 hr1 ((sSlice sTok).below K3 hb)).mono fun e w' ⟨r, a, b, c⟩ => ⟨r, a, b, c⟩
  have HX := Lib.hid (heap_alloc_new w (.cells #[.string x.name, .bool x.function, v2, v3] 37))
  clear K2
  clear K3
  go_enter Try.func17, Try.ntmps17
  by_cases ht0 : B < x.name.size
  · have HN : Hid (SzR B (-1) (wtMacro x)) := SzR.no (by unfold wtMacro; omega)
    go_wp2
    go_ret
    exact ⟨-1, rfl, HN.out, b0⟩
  go_wp2_with fail
  refine (HC2.out _ _ b0 (by omega) (by omega)).mono ?_
  rintro e u2 ⟨r2, rfl, hr2, c2⟩
  have e2 := b0.trans (c2.mono b0.size)
  replace HX := Lib.hid ((c2.block _ (Array.getElem?_eq_some_iff.1 HX.out).1).trans HX.out)
  have q2_3 : u2.cell? ⟨w.heap.size, 3, none⟩ = some v3 := cell_of_row _ _ 3 _ _ _ HX.out
  clear c2
  by_cases hn2 : r2 < 0
  · have HN : Hid (SzR B (-1) (wtMacro x)) := by
      refine SzR.no ?_
      unfold SzR at hr2; unfold wtMacro; split at hr2 <;> omega
    go_wp2
    go_ret
    exact ⟨-1, rfl, HN.out, e2⟩
  have hg2 := hr2.good hn2
  have hl2 := hr2.le (by omega)
  clear hr2
  go_wp2_with fail
  refine (HC3.out _ _ e2 (by omega) (by omega)).mono ?_
  rintro e u3 ⟨r3, rfl, hr3, c3⟩
  have e3 := e2.trans (c3.mono e2.size)
  clear c3
  by_cases hn3 : r3 < 0
  · have HN : Hid (SzR B (-1) (wtMacro x)) := by
      refine SzR.no ?_
      unfold SzR at hr3; unfold wtMacro; split at hr3 <;> omega
    go_wp2
    go_ret
    exact ⟨-1, rfl, HN.out, e3⟩
  have hg3 := hr3.good hn3
  have hl3 := hr3.le (by omega)
  clear hr3
  have HN : Hid (SzR B r3 (wtMacro x)) := SzR.yes (by unfold wtMacro; omega) (by unfold wtMacro; omega)
  clear hg2 hg3
  go_wp2
  go_ret
  exact ⟨r3, rfl, HN.out, e3⟩

set_option maxHeartbeats 8000000 in
set_option maxRecDepth 100000 in
theorem toMacro (cs : List Value) (x : DMacro) (fp : List Nat) (w : World) (hW : wtMacro x ≤ 1048576) (H : sMacro.R w cs x fp) :
    Calls Try.prog 19 #[.agg cs.toArray] w (MadeC sMacro x w) := by
  obtain ⟨v2, v3, fp2, fp3, rfl, k0, K2, K3, rfl⟩ := H
  have HC2 : Hid (∀ W, Below w.heap.size w W → Calls Try.prog 49 #[v2] W (Made (sSlice sStr) x.params W)) := fun W hb => toStringS v2 x.params _ W (by unfold wtMacro at hW; omega) ((sSlice sStr).below K2 hb)
  have HC3 : Hid (∀ W, Below w.heap.size w W → Calls Try.prog 10 #[v3] W (Made (sSlice sTok) x.body W)) := fun W hb => toTokenS v3 x.body _ W (by unfold wtMacro at hW; omega) ((sSlice sTok).below K3 hb)
  clear K2
  clear K3
  go_enter Try.func19, Try.ntmps19
  have b3 := below3 w #[.string x.name, .bool x.function, v2, v3] #[.string ⟨#[]⟩, .bool false, .slice none 0 0, .slice none 0 0] #[.string x.name, .bool x.function, .slice none 0 0, .slice none 0 0] 37 27 27
  have HA := Lib.hid (alloc3_blk0 w #[.string x.name, .bool x.function, v2, v3] #[.string ⟨#[]⟩, .bool false, .slice none 0 0, .slice none 0 0] #[.string x.name, .bool x.function, .slice none 0 0, .slice none 0 0] 37 27 27)
  obtain ⟨g1_, g2_, g3_⟩ := alloc3_blk w #[.string x.name, .bool x.function, v2, v3] #[.string ⟨#[]⟩, .bool false, .slice none 0 0, .slice none 0 0] #[.string x.name, .bool x.function, .slice none 0 0, .slice none 0 0] 37 27 27
  have HG := Lib.hid (And.intro g1_ g2_)
  have HS := Lib.hid g3_
  clear g1_ g2_ g3_
  go_wp2_with fail
  refine (HC2.out _ b3).mono ?_
  rintro e u2 ⟨h2, fp2, rfl, R2, O2, c2⟩
  have lo2 : ∀ b ∈ fp2, w.heap.size + 3 ≤ b := fun b hb => by have := (O2.2 b hb).1; rw [HS.out] at this; omega
  replace HA := Lib.hid ((c2.block _ (Array.getElem?_eq_some_iff.1 HA.out).1).trans HA.out)
  replace HG := Lib.hid (And.intro ((c2.block _ (Array.getElem?_eq_some_iff.1 HG.out.1).1).trans HG.out.1) ((c2.block _ (Array.getElem?_eq_some_iff.1 HG.out.2).1).trans HG.out.2))
  have e2 := b3.trans (c2.mono b3.size)
  clear c2
  obtain ⟨a2, cap2, rfl, -⟩ := open_rows R2
  have hn1_2 : w.heap.size + 1 ∉ fp2 := fun hx => by have := lo2 _ hx; omega
  have hn2_2 : w.heap.size + 1 + 1 ∉ fp2 := fun hx => by have := lo2 _ hx; omega
  have d2 : u2.cell? ⟨w.heap.size + 1 + 1, 2, none⟩ = some (.slice none 0 0) := cell_of_row _ _ 2 _ _ _ HG.out.2
  have f2 : u2.frozen? ⟨w.heap.size + 1 + 1, 2, none⟩ = false := frozen_of_row _ _ 2 _ _ HG.out.2
  replace HA := Lib.hid (blk_other HA.out (by omega : w.heap.size ≠ w.heap.size + 1 + 1) 2 (.slice a2 x.params.length cap2))
  replace HG := Lib.hid (And.intro (blk_other HG.out.1 (by omega : w.heap.size + 1 ≠ w.heap.size + 1 + 1) 2 (.slice a2 x.params.length cap2)) (blk_set HG.out.2 2 (.slice a2 x.params.length cap2)))
  replace R2 := Lib.hid ((sSlice sStr).setB R2 hn2_2 2 (.slice a2 x.params.length cap2))
  replace O2 := Lib.hid (O2.setCell ⟨w.heap.size + 1 + 1, 2, none⟩ (.slice a2 x.params.length cap2))
  replace e2 := e2.setCell (p := ⟨w.heap.size + 1 + 1, 2, none⟩) (by simp; omega) (.slice a2 x.params.length cap2)
  have U2 : Hid (∀ b ∈ fp2, b < (u2.setCell ⟨w.heap.size + 1 + 1, 2, none⟩ (.slice a2 x.params.length cap2)).heap.size) := fun b hb => (O2.out.lt b hb)
  have Z2 : Hid (w.heap.size + 1 + 1 < (u2.setCell ⟨w.heap.size + 1 + 1, 2, none⟩ (.slice a2 x.params.length cap2)).heap.size) := (Array.getElem?_eq_some_iff.1 HG.out.2).1
  have p3 : (u2.setCell ⟨w.heap.size + 1 + 1, 2, none⟩ (.slice a2 x.params.length cap2)).cell? ⟨w.heap.size, 3, none⟩ = some v3 := cell_of_row _ _ 3 _ _ _ HA.out
  go_wp2_with fail
  refine (HC3.out _ e2).mono ?_
  rintro e u3 ⟨h3, fp3, rfl, R3, O3, c3⟩
  have lo3 := Lib.hid (show ∀ b ∈ fp3, _ ≤ b from fun b hb => (O3.2 b hb).1)
  replace HA := Lib.hid ((c3.block _ (Array.getElem?_eq_some_iff.1 HA.out).1).trans HA.out)
  replace HG := Lib.hid (And.intro ((c3.block _ (Array.getElem?_eq_some_iff.1 HG.out.1).1).trans HG.out.1) ((c3.block _ (Array.getElem?_eq_some_iff.1 HG.out.2).1).trans HG.out.2))
  have e3 := e2.trans (c3.mono e2.size)
  replace R2 := Lib.hid ((sSlice sStr).below R2.out c3)
  replace O2 := Lib.hid (O2.out.grow c3)
  have ap3 : Hid (∀ b ∈ fp2, b ∉ fp3) := fun b h1 h2 => by have := lo3.out b h2; have := U2.out b h1; omega
  clear c3
  obtain ⟨a3, cap3, rfl, -⟩ := open_rows R3
  have hn1_3 : w.heap.size + 1 ∉ fp3 := fun hx => by have := lo3.out _ hx; have := Z2.out; omega
  have hn2_3 : w.heap.size + 1 + 1 ∉ fp3 := fun hx => by have := lo3.out _ hx; have := Z2.out; omega
  have d3 : u3.cell? ⟨w.heap.size + 1 + 1, 3, none⟩ = some (.slice none 0 0) := cell_of_row _ _ 3 _ _ _ HG.out.2
  have f3 : u3.frozen? ⟨w.heap.size + 1 + 1, 3, none⟩ = false := frozen_of_row _ _ 3 _ _ HG.out.2
  replace HA := Lib.hid (blk_other HA.out (by omega : w.heap.size ≠ w.heap.size + 1 + 1) 3 (.slice a3 x.body.length cap3))
  replace HG := Lib.hid (And.intro (blk_other HG.out.1 (by omega : w.heap.size + 1 ≠ w.heap.size + 1 + 1) 3 (.slice a3 x.body.length cap3)) (blk_set HG.out.2 3 (.slice a3 x.body.length cap3)))
  replace R3 := Lib.hid ((sSlice sTok).setB R3 hn2_3 3 (.slice a3 x.body.length cap3))
  replace O3 := Lib.hid (O3.setCell ⟨w.heap.size + 1 + 1, 3, none⟩ (.slice a3 x.body.length cap3))
  replace R2 := Lib.hid ((sSlice sStr).setB R2.out hn2_2 3 (.slice a3 x.body.length cap3))
  replace O2 := Lib.hid (O2.out.setCell ⟨w.heap.size + 1 + 1, 3, none⟩ (.slice a3 x.body.length cap3))
  replace e3 := e3.setCell (p := ⟨w.heap.size + 1 + 1, 3, none⟩) (by simp; omega) (.slice a3 x.body.length cap3)
  have U3 : Hid (∀ b ∈ fp3, b < (u3.setCell ⟨w.heap.size + 1 + 1, 3, none⟩ (.slice a3 x.body.length cap3)).heap.size) := fun b hb => (O3.out.lt b hb)
  have Z3 : Hid (w.heap.size + 1 + 1 < (u3.setCell ⟨w.heap.size + 1 + 1, 3, none⟩ (.slice a3 x.body.length cap3)).heap.size) := (Array.getElem?_eq_some_iff.1 HG.out.2).1
  -- the copy

  have y0 : (u3.setCell ⟨w.heap.size + 1 + 1, 3, none⟩ (.slice a3 x.body.length cap3)).cell? ⟨w.heap.size + 1, 0, none⟩ = some (.string ⟨#[]⟩) := cell_of_row _ _ 0 _ _ _ HG.out.1
  have z0 : (u3.setCell ⟨w.heap.size + 1 + 1, 3, none⟩ (.slice a3 x.body.length cap3)).cell? ⟨w.heap.size + 1 + 1, 0, none⟩ = some (.string x.name) := cell_of_row _ _ 0 _ _ _ HG.out.2
  have w0 : (u3.setCell ⟨w.heap.size + 1 + 1, 3, none⟩ (.slice a3 x.body.length cap3)).frozen? ⟨w.heap.size + 1, 0, none⟩ = false := frozen_of_row _ _ 0 _ _ HG.out.1
  have y1 : (u3.setCell ⟨w.heap.size + 1 + 1, 3, none⟩ (.slice a3 x.body.length cap3)).cell? ⟨w.heap.size + 1, 1, none⟩ = some (.bool false) := cell_of_row _ _ 1 _ _ _ HG.out.1
  have z1 : (u3.setCell ⟨w.heap.size + 1 + 1, 3, none⟩ (.slice a3 x.body.length cap3)).cell? ⟨w.heap.size + 1 + 1, 1, none⟩ = some (.bool x.function) := cell_of_row _ _ 1 _ _ _ HG.out.2
  have w1 : (u3.setCell ⟨w.heap.size + 1 + 1, 3, none⟩ (.slice a3 x.body.length cap3)).frozen? ⟨w.heap.size + 1, 1, none⟩ = false := frozen_of_row _ _ 1 _ _ HG.out.1
  have y2 : (u3.setCell ⟨w.heap.size + 1 + 1, 3, none⟩ (.slice a3 x.body.length cap3)).cell? ⟨w.heap.size + 1, 2, none⟩ = some (.slice none 0 0) := cell_of_row _ _ 2 _ _ _ HG.out.1
  have z2 : (u3.setCell ⟨w.heap.size + 1 + 1, 3, none⟩ (.slice a3 x.body.length cap3)).cell? ⟨w.heap.size + 1 + 1, 2, none⟩ = some (.slice a2 x.params.length cap2) := cell_of_row _ _ 2 _ _ _ HG.out.2
  have w2 : (u3.setCell ⟨w.heap.size + 1 + 1, 3, none⟩ (.slice a3 x.body.length cap3)).frozen? ⟨w.heap.size + 1, 2, none⟩ = false := frozen_of_row _ _ 2 _ _ HG.out.1
  have y3 : (u3.setCell ⟨w.heap.size + 1 + 1, 3, none⟩ (.slice a3 x.body.length cap3)).cell? ⟨w.heap.size + 1, 3, none⟩ = some (.slice none 0 0) := cell_of_row _ _ 3 _ _ _ HG.out.1
  have z3 : (u3.setCell ⟨w.heap.size + 1 + 1, 3, none⟩ (.slice a3 x.body.length cap3)).cell? ⟨w.heap.size + 1 + 1, 3, none⟩ = some (.slice a3 x.body.length cap3) := cell_of_row _ _ 3 _ _ _ HG.out.2
  have w3 : (u3.setCell ⟨w.heap.size + 1 + 1, 3, none⟩ (.slice a3 x.body.length cap3)).frozen? ⟨w.heap.size + 1, 3, none⟩ = false := frozen_of_row _ _ 3 _ _ HG.out.1
  have RF2 := Lib.hid ((sSlice sStr).setB ((sSlice sStr).setB ((sSlice sStr).setB ((sSlice sStr).setB (R2.out) hn1_2 0 (.string x.name)) hn1_2 1 (.bool x.function)) hn1_2 2 (.slice a2 x.params.length cap2)) hn1_2 3 (.slice a3 x.body.length cap3))
  have OF2 := Lib.hid (((((O2.out).setCell ⟨w.heap.size + 1, 0, none⟩ (.string x.name)).setCell ⟨w.heap.size + 1, 1, none⟩ (.bool x.function)).setCell ⟨w.heap.size + 1, 2, none⟩ (.slice a2 x.params.length cap2)).setCell ⟨w.heap.size + 1, 3, none⟩ (.slice a3 x.body.length cap3))
  have RF3 := Lib.hid ((sSlice sTok).setB ((sSlice sTok).setB ((sSlice sTok).setB ((sSlice sTok).setB (R3.out) hn1_3 0 (.string x.name)) hn1_3 1 (.bool x.function)) hn1_3 2 (.slice a2 x.params.length cap2)) hn1_3 3 (.slice a3 x.body.length cap3))
  have OF3 := Lib.hid (((((O3.out).setCell ⟨w.heap.size + 1, 0, none⟩ (.string x.name)).setCell ⟨w.heap.size + 1, 1, none⟩ (.bool x.function)).setCell ⟨w.heap.size + 1, 2, none⟩ (.slice a2 x.params.length cap2)).setCell ⟨w.heap.size + 1, 3, none⟩ (.slice a3 x.body.length cap3))
  have BF := Lib.hid (((((e3).setCell (p := ⟨w.heap.size + 1, 0, none⟩) (by simp) (.string x.name)).setCell (p := ⟨w.heap.size + 1, 1, none⟩) (by simp) (.bool x.function)).setCell (p := ⟨w.heap.size + 1, 2, none⟩) (by simp) (.slice a2 x.params.length cap2)).setCell (p := ⟨w.heap.size + 1, 3, none⟩) (by simp) (.slice a3 x.body.length cap3))
  have HF := Lib.hid (blk_set (blk_set (blk_set (blk_set (HG.out.1) 0 (.string x.name)) 1 (.bool x.function)) 2 (.slice a2 x.params.length cap2)) 3 (.slice a3 x.body.length cap3))
  clear HG HA
  go_wp2
  refine bodyPost_ret (results_cell_row rfl _ _ (w.heap.size + 1) _ _ _ _ rfl HF.out Try.underlying27 rfl (by kernel_rfl)) rfl ?_
  exact ⟨[.string x.name, .bool x.function, .slice a2 x.params.length cap2, .slice a3 x.body.length cap3], fp2 ++ fp3, rfl, ⟨_, _, fp2, fp3, rfl, k0, RF2.out, RF3.out, rfl⟩, Own.app (OF2.out.lower (by rw [HS.out]; omega)) (OF3.out.lower (by have := Z2.out; omega)) ap3.out, BF.out⟩

def cntVMacro (x : DMacro) : Nat := x.params.length + cntTokenS x.body
def mkVMacro (k : Int) (x : DMacro) : DMacro := ⟨x.name, x.function, (marks mtext (k) x.params.length), (mkTokenS (k + (x.params.length : Int)) x.body)⟩
end Go.Proofs.Ytdnjpjiepnhhhaa

/- Whether two tokens need a space between them: the program and its model. -/
namespace Go.Proofs.Ytdnjpjiepnhhhaa
open Go.RowKit

def begins (x y : UInt8) : Bool := decide (x.toNat = 47) && (decide (y.toNat = 47) || decide (y.toNat = 42))
theorem meets_begins {a b : ByteArray} (ha : 0 < a.size) (hb : 0 < b.size) : meets a b = begins (a[a.size - 1]'(by omega)) b[0] := by
  unfold meets; rw [dif_pos ⟨ha, hb⟩]; rfl

set_option maxHeartbeats 1000000 in
theorem impl_beginsComment (x y : UInt8) (w : World) :
    Calls Try.prog 94 #[.int .u8 x.toNat, .int .u8 y.toNat] w fun e w' => e = .returned (.bool (begins x y)) ∧ w' = w := by
  by_cases hx : x.toNat = 47
  · have q1 : ((x.toNat : Int) == 47) = true := by simp; omega
    by_cases hy : y.toNat = 47
    · have q2 : ((y.toNat : Int) == 47) = true := by simp; omega
      have HF : Hid (begins x y = true) := by simp [Hid, begins, hx, hy]
      clear hx hy
      go_enter Try.func94, Try.ntmps94
      go_wp2
      go_ret
      exact ⟨ret_bool HF.out.symm, rfl⟩
    · have q2 : ((y.toNat : Int) == 47) = false := by simp; omega
      by_cases hz : y.toNat = 42
      · have q3 : ((y.toNat : Int) == 42) = true := by simp; omega
        have HF : Hid (begins x y = true) := by simp [Hid, begins, hx, hz]
        clear hx hy hz
        go_enter Try.func94, Try.ntmps94
        go_wp2
        go_ret
        exact ⟨ret_bool HF.out.symm, rfl⟩
      · have q3 : ((y.toNat : Int) == 42) = false := by simp; omega
        have HF : Hid (begins x y = false) := by simp [Hid, begins, hy, hz]
        clear hx hy hz
        go_enter Try.func94, Try.ntmps94
        go_wp2
        go_ret
        exact ⟨ret_bool HF.out.symm, rfl⟩
  · have q1 : ((x.toNat : Int) == 47) = false := by simp; omega
    have HF : Hid (begins x y = false) := by simp [Hid, begins, hx]
    clear hx
    go_enter Try.func94, Try.ntmps94
    go_wp2
    go_ret
    exact ⟨ret_bool HF.out.symm, rfl⟩

theorem run_lastB (P : Program) (t : TypeId) (s : ByteArray) (h : P.underlying t = some .string) (h0 : 0 < s.size) (W : World) :
    (Instr.index t (.string s) (.int .i64 ((s.size : Int) - 1))).run P W = .ok (.int .u8 ((s[s.size - 1]'(by omega)).toNat : Int)) W := by
  rw [run_index_string W t s .i64 _ h, dif_pos (by omega)]
  congr 4
  congr 1
  omega

/-- A literal of structs, as a slice. -/
theorem lit_row {α : Type} {S : Shape α} {w : World} {e : TypeId} (L : List (Elem α)) (hlen : ∀ x ∈ L, x.cells.length = S.m) (hR : ∀ x ∈ L, S.R w x.cells x.d x.fp) (hn : L.length ≤ maxLen) :
    ∃ fp, (sSlice S).R (w.alloc (.cells (L.flatMap (·.cells)).toArray e)) [.slice (some ⟨w.heap.size, 0, none⟩) L.length L.length] (L.map (·.d)) fp := by
  have h := World.ownsRow_lit (base := w.heap.size) (e := e) (size := S.m) w (L.flatMap (·.cells)).toArray L.length (Nat.le_refl _) hn (by simpa using flatMap_len hlen)
  obtain ⟨fp, h1, _⟩ := slice_of_row h fun x hx => ⟨hlen x hx, S.below (hR x hx) (alloc_below' _ _)⟩
  exact ⟨fp, h1⟩

/-- What is asked of two tokens, before their texts meet. -/
def needBy (a b : Tok) (ok : Bool) (l : List Tok) : Bool := !ok || !sameTx l [a, b]
theorem need_meets {a b : Tok} (h : meets a.text b.text = true) : glued a.text b.text = true := by unfold glued; rw [h, Bool.or_true]
theorem need_no {a b : Tok} (ha : tokOk a = true) (hb : tokOk b = true) {l : List Tok} (h : meets a.text b.text = false) (hr : tokRes (a.text ++ b.text) = (l, false)) : glued a.text b.text = true := by
  have := glued_same ha hb
  rw [hr] at this
  unfold glued
  rw [← this, h]; rfl
theorem need_yes {a b : Tok} (ha : tokOk a = true) (hb : tokOk b = true) {l : List Tok} (h : meets a.text b.text = false) (hr : tokRes (a.text ++ b.text) = (l, true)) : glued a.text b.text = !sameTx l [a, b] := by
  have := glued_same ha hb
  rw [hr] at this
  unfold glued
  rw [← this, h]; simp

set_option maxHeartbeats 4000000 in
set_option maxRecDepth 100000 in
theorem impl_needSpace (cs1 cs2 : List Value) (a b : Tok) (fp1 fp2 : List Nat) (w : World) (H1 : sTok.R w cs1 a fp1) (H2 : sTok.R w cs2 b fp2) (ha : tokOk a = true) (hb : tokOk b = true) :
    Calls Try.prog 78 #[.agg cs1.toArray, .agg cs2.toArray] w (Says (glued a.text b.text) w) := by
  obtain ⟨⟨ha0, -⟩, ha2⟩ := tokOk_facts ha
  obtain ⟨⟨hb0, -⟩, hb2⟩ := tokOk_facts hb
  have HM := meets_begins ha0 hb0
  have hwl : IntKind.i64.wrap ((a.text.size : Int) - 1) = (a.text.size : Int) - 1 := IntWalk.i64_in _ (by omega)
  have hix := run_lastB Try.prog 9 a.text Try.underlying9 ha0
  have hi1 : (0 : Int) ≤ (a.text.size : Int) - 1 := by omega
  have hi2 : (0 : Int) < (b.text.size : Int) := by omega
  have HC := fun W => impl_beginsComment (a.text[a.text.size - 1]'(by omega)) b.text[0] W
  rw [← HM] at HC
  have HT : Hid (∀ W, Calls Try.prog 25 #[.string (a.text ++ b.text)] W (TokMade (tokRes (a.text ++ b.text)) W)) := fun W => impl_TokensOf (a.text ++ b.text) W (by rw [ByteArray.size_append]; unfold maxLen; omega)
  have hadd := fun W => run_string_add_sum (P := Try.prog) W a.text b.text (by omega)
  have R1 := H1
  have R2 := H2
  obtain ⟨h1, rfl, -, -, K1⟩ := H1
  obtain ⟨h2, rfl, -, -, K2⟩ := H2
  obtain ⟨a1, cap1, rfl, -⟩ := open_rows K1
  obtain ⟨a2, cap2, rfl, -⟩ := open_rows K2
  clear K1 K2 HM
  have b1 := alloc_below' w (.cells #[.int .i64 a.kind, .string a.text, .bool a.spaced, .slice a1 a.hidden.length cap1] 59)
  have b2 := b1.trans ((alloc_below' (w.alloc (.cells #[.int .i64 a.kind, .string a.text, .bool a.spaced, .slice a1 a.hidden.length cap1] 59)) (.cells #[.int .i64 b.kind, .string b.text, .bool b.spaced, .slice a2 b.hidden.length cap2] 59)).mono b1.size)
  cases hm : meets a.text b.text
  · rw [hm] at HC
    rcases hr : tokRes (a.text ++ b.text) with ⟨l, ok⟩
    rw [hr] at HT
    cases ok
    · have HF := Lib.hid (need_no ha hb hm hr)
      clear hm hr ha hb R1 R2
      go_enter Try.func78, Try.ntmps78
      go_wp2
      go_quiet (first | (go_at_call 94; refine Calls.quiet_of_same (HC _)))
      go_wp2_with (go_at_call 25; refine (HT.out _).mono ?_; rintro e w' ⟨v, fp, rfl, hR, hO, hB⟩)
      go_ret
      exact ⟨ret_bool HF.out.symm, (belowN b2 nq).trans (hB.mono (belowN b2 nq).size)⟩
    · have HF := Lib.hid (need_yes ha hb hm hr)
      clear hm hr ha hb
      have HX := Lib.hid (alloc2_blk w #[.int .i64 a.kind, .string a.text, .bool a.spaced, .slice a1 a.hidden.length cap1] #[.int .i64 b.kind, .string b.text, .bool b.spaced, .slice a2 b.hidden.length cap2] 59 59)
      go_enter Try.func78, Try.ntmps78
      go_wp2
      go_quiet (first | (go_at_call 94; refine Calls.quiet_of_same (HC _)))
      go_wp2_with fail
      refine (HT.out _).mono ?_
      rintro e w3 ⟨v, fp, rfl, hR, hO, hB⟩
      have hbel := (belowN b2 nq).trans (hB.mono (belowN b2 nq).size)
      have HY := Lib.hid (And.intro ((hB.block _ (Array.getElem?_eq_some_iff.1 HX.out.1).1).trans HX.out.1) ((hB.block _ (Array.getElem?_eq_some_iff.1 HX.out.2).1).trans HX.out.2))
      have q0 : w3.cell? ⟨w.heap.size, 0, none⟩ = some (.int .i64 a.kind) := cell_of_row _ _ 0 _ _ _ HY.out.1
      have q1 : w3.cell? ⟨w.heap.size, 1, none⟩ = some (.string a.text) := cell_of_row _ _ 1 _ _ _ HY.out.1
      have q2 : w3.cell? ⟨w.heap.size, 2, none⟩ = some (.bool a.spaced) := cell_of_row _ _ 2 _ _ _ HY.out.1
      have q3 : w3.cell? ⟨w.heap.size, 3, none⟩ = some (.slice a1 a.hidden.length cap1) := cell_of_row _ _ 3 _ _ _ HY.out.1
      have p0 : w3.cell? ⟨w.heap.size + 1, 0, none⟩ = some (.int .i64 b.kind) := cell_of_row _ _ 0 _ _ _ HY.out.2
      have p1 : w3.cell? ⟨w.heap.size + 1, 1, none⟩ = some (.string b.text) := cell_of_row _ _ 1 _ _ _ HY.out.2
      have p2 : w3.cell? ⟨w.heap.size + 1, 2, none⟩ = some (.bool b.spaced) := cell_of_row _ _ 2 _ _ _ HY.out.2
      have p3 : w3.cell? ⟨w.heap.size + 1, 3, none⟩ = some (.slice a2 b.hidden.length cap2) := cell_of_row _ _ 3 _ _ _ HY.out.2
      obtain ⟨fpl, HL⟩ := lit_row (S := sTok) (w := w3) (e := 59) [⟨[.int .i64 a.kind, .string a.text, .bool a.spaced, .slice a1 a.hidden.length cap1], a, fp1⟩, ⟨[.int .i64 b.kind, .string b.text, .bool b.spaced, .slice a2 b.hidden.length cap2], b, fp2⟩] (by simp [sTok]) (by
        intro x hx
        rcases List.mem_cons.1 hx with rfl | hx
        · exact sTok.below R1 hbel
        · obtain rfl := List.mem_singleton.1 hx
          exact sTok.below R2 hbel) (by simp [maxLen])
      have HC2 : Hid (Calls Try.prog 27 #[v, .slice (some ⟨w3.heap.size, 0, none⟩) 2 2] (w3.alloc (.cells #[.int .i64 a.kind, .string a.text, .bool a.spaced, .slice a1 a.hidden.length cap1, .int .i64 b.kind, .string b.text, .bool b.spaced, .slice a2 b.hidden.length cap2] 59)) (Says (sameTx l [a, b]) (w3.alloc (.cells #[.int .i64 a.kind, .string a.text, .bool a.spaced, .slice a1 a.hidden.length cap1, .int .i64 b.kind, .string b.text, .bool b.spaced, .slice a2 b.hidden.length cap2] 59)))) :=
        impl_SameTexts _ _ _ _ _ _ _ ((sSlice sTok).below hR (alloc_below' _ _)) HL
      have b4 := hbel.trans ((alloc_below' w3 (.cells #[.int .i64 a.kind, .string a.text, .bool a.spaced, .slice a1 a.hidden.length cap1, .int .i64 b.kind, .string b.text, .bool b.spaced, .slice a2 b.hidden.length cap2] 59)).mono hbel.size)
      clear hR hO hB R1 R2 HL HT HC hadd hix
      go_wp2_with fail
      refine (HC2.out).mono ?_
      rintro e w5 ⟨rfl, b5⟩
      go_wp2
      go_ret
      exact ⟨ret_bool (by rw [HF.out]), b4.trans (b5.mono b4.size)⟩
  · have HF := Lib.hid (need_meets hm)
    rw [hm] at HC
    clear hm R1 R2 HT ha hb
    go_enter Try.func78, Try.ntmps78
    go_wp2
    go_quiet (first | (go_at_call 94; refine Calls.quiet_of_same (HC _)))
    go_wp2
    go_ret
    exact ⟨ret_bool HF.out.symm, belowN b2 nq⟩

end Go.Proofs.Ytdnjpjiepnhhhaa

/- Whether two texts are read otherwise together: the model. -/
namespace Go.Proofs.Ytdnjpjiepnhhhaa
open Go.RowKit

/-- Two tokens, opened: their texts' cells. -/
theorem open_two {w : World} {v : Value} {t1 t2 : Tok} {fp : List Nat} (H : (sSlice sTok).R w [v] [t1, t2] fp) :
    ∃ b off cap, v = .slice (some ⟨b, off, none⟩) 2 cap ∧ cap ≤ maxLen ∧ 2 ≤ cap ∧ b < w.heap.size ∧ w.cell? ⟨b, off + 1, none⟩ = some (.string t1.text) ∧ w.cell? ⟨b, off + 4 + 1, none⟩ = some (.string t2.text) := by
  obtain ⟨a, cap, rfl, hc, hm, h⟩ := open_rows H
  obtain ⟨b, off, fps, rfl, hb, _, he⟩ := h (by simp)
  obtain ⟨es, ⟨h1, h2⟩, hh, rfl, _, _, _⟩ := he 0 (by simp)
  obtain ⟨es', ⟨h1', h2'⟩, hh', rfl, _, _, _⟩ := he 1 (by simp)
  refine ⟨b, off, cap, rfl, hm, by simpa using hc, hb, ?_, ?_⟩
  · simpa [sTok] using h2 1 (by decide)
  · simpa [sTok, Nat.add_assoc] using h2' 1 (by decide)

theorem meet_list {a b : ByteArray} (ha : 0 < a.size) (hb : 0 < b.size) : (a.extract (a.size - 1) a.size ++ b.extract 0 1).toList = [a[a.size - 1]'(by omega), b[0]] := by
  rw [ByteArray.toList_eq, ByteArray.data_append, Array.toList_append, ext_list, ext_list]
  have h1 : a.data.toList.drop (a.size - 1) = [a[a.size - 1]'(by omega)] := by
    rw [List.drop_eq_getElem_cons (by show a.size - 1 < a.size; omega)]
    have : a.data.toList.drop (a.size - 1 + 1) = [] := List.drop_eq_nil_iff.2 (by show a.size ≤ _; omega)
    rw [this]
    simp [ByteArray.getElem_eq_getElem_data]
  have h2 : (b.data.toList.drop 0).take (1 - 0) = [b[0]] := by
    rw [List.drop_zero]
    obtain ⟨c, l, hl⟩ : ∃ c l, b.data.toList = c :: l := by
      cases h : b.data.toList with
      | nil =>
        have : b.size = 0 := by show b.data.toList.length = 0; rw [h]; rfl
        omega
      | cons c l => exact ⟨c, l, rfl⟩
    have h3 : b[0] = c := by
      have h4 : b.data.toList[0]? = some c := by rw [hl]; rfl
      rw [ByteArray.getElem_eq_getElem_data]
      rw [List.getElem?_eq_getElem (by rw [hl]; simp)] at h4
      simpa using h4
    rw [hl, h3]; rfl
  rw [h1, h2, List.take_of_length_le (by simp; omega)]; rfl
/-- The three ways of two texts where they meet. -/
theorem meet_ways {a b : ByteArray} (ha : 0 < a.size) (hb : 0 < b.size) :
    (((a.extract (a.size - 1) a.size ++ b.extract 0 1).toList == [47, 47]) = true ∧ Hid (meets a b = true)) ∨
    (((a.extract (a.size - 1) a.size ++ b.extract 0 1).toList == [47, 47]) = false ∧ ((a.extract (a.size - 1) a.size ++ b.extract 0 1).toList == [47, 42]) = true ∧ Hid (meets a b = true)) ∨
    (((a.extract (a.size - 1) a.size ++ b.extract 0 1).toList == [47, 47]) = false ∧ ((a.extract (a.size - 1) a.size ++ b.extract 0 1).toList == [47, 42]) = false ∧ Hid (meets a b = false)) := by
  rw [meet_list ha hb, meets_begins ha hb]
  generalize a[a.size - 1]'(by omega) = x
  generalize b[0] = y
  have e47 : ∀ z : UInt8, z = 47 ↔ z.toNat = 47 := fun z => by rw [← UInt8.toNat_inj]; rfl
  have e42 : ∀ z : UInt8, z = 42 ↔ z.toNat = 42 := fun z => by rw [← UInt8.toNat_inj]; rfl
  by_cases h1 : x.toNat = 47
  · by_cases h2 : y.toNat = 47
    · exact .inl ⟨by simp [e47, h1, h2], by simp [Hid, begins, h1, h2]⟩
    · by_cases h3 : y.toNat = 42
      · exact .inr (.inl ⟨by simp [e47, h2], by simp [e47, e42, h1, h3], by simp [Hid, begins, h1, h3]⟩)
      · exact .inr (.inr ⟨by simp [e47, h2], by simp [e42, h3], by simp [Hid, begins, h2, h3]⟩)
  · exact .inr (.inr ⟨by simp [e47, h1], by simp [e47, h1], by simp [Hid, begins, h1]⟩)

set_option maxHeartbeats 4000000 in
set_option maxRecDepth 100000 in
theorem spec_l4Glued (a b : ByteArray) (w : World) (ha : a.size ≤ 1000) (hb : b.size ≤ 1000) :
    Calls Try.prog 81 #[.string a, .string b] w (Says (glued a b) w) := by
  have HT : Hid (∀ W, Calls Try.prog 60 #[.string (a ++ b)] W (TokMade (tokRes (a ++ b)) W)) := fun W => spec_TokensOf (a ++ b) W (by rw [ByteArray.size_append]; unfold maxLen; omega)
  have hadd := fun W => run_string_add_sum (P := Try.prog) W a b (by omega)
  rcases two_ways a b with ⟨hr, HF⟩ | ⟨l, hr, hl, HF⟩ | ⟨t1, t2, hr, hx, HF⟩ | ⟨t1, t2, hr, hx, hy, HF⟩ | ⟨t1, t2, hr, hx, hy, ha0, hb0, HF⟩
  · rw [hr] at HT
    clear hr
    go_enter Try.func81, Try.ntmps81
    go_wp2_with (go_at_call 60; refine (HT.out _).mono ?_; rintro e w' ⟨v, fp, rfl, hR, hO, hB⟩)
    go_ret
    exact ⟨ret_bool HF.out.symm, hB⟩
  · rw [hr] at HT
    have hl' : ((l.length : Int) != 2) = true := by simp; omega
    clear hr hl
    go_enter Try.func81, Try.ntmps81
    go_wp2_with (go_at_call 60; refine (HT.out _).mono ?_; rintro e w' ⟨v, fp, rfl, hR, hO, hB⟩; obtain ⟨a1, cap, rfl, -⟩ := open_rows hR)
    go_ret
    exact ⟨ret_bool HF.out.symm, hB⟩
  · rw [hr] at HT
    have hx' : (t1.text.toList == a.toList) = false := bytes_bne hx
    clear hr hx
    go_enter Try.func81, Try.ntmps81
    go_wp2_with (go_at_call 60; refine (HT.out _).mono ?_; rintro e w' ⟨v, fp, rfl, hR, hO, hB⟩; obtain ⟨b1, off, cap, rfl, hc1, hc2, hbb, h1, h2⟩ := open_two hR)
    go_ret
    exact ⟨ret_bool HF.out.symm, hB⟩
  · rw [hr] at HT
    have hx' : (t1.text.toList == a.toList) = true := bytes_beq hx
    have hy' : (t2.text.toList == b.toList) = false := bytes_bne hy
    clear hr hx hy
    go_enter Try.func81, Try.ntmps81
    go_wp2_with (go_at_call 60; refine (HT.out _).mono ?_; rintro e w' ⟨v, fp, rfl, hR, hO, hB⟩; obtain ⟨b1, off, cap, rfl, hc1, hc2, hbb, h1, h2⟩ := open_two hR)
    go_ret
    exact ⟨ret_bool HF.out.symm, hB⟩
  · rw [hr] at HT
    have hx' : (t1.text.toList == a.toList) = true := bytes_beq hx
    have hy' : (t2.text.toList == b.toList) = true := bytes_beq hy
    clear hr hx hy
    go_enter Try.func81, Try.ntmps81
    go_wp2_with (go_at_call 60; refine (HT.out _).mono ?_; rintro e w' ⟨v, fp, rfl, hR, hO, hB⟩; obtain ⟨b1, off, cap, rfl, hc1, hc2, hbb, h1, h2⟩ := open_two hR)
    have HW := Lib.hid (meet_ways ha0 hb0)
    go_quiet (fail)
    rcases HW.out with ⟨m1, HM⟩ | ⟨m1, m2, HM⟩ | ⟨m1, m2, HM⟩ <;>
    · go_wp2
      go_ret
      exact ⟨ret_bool (by rw [HF.out, HM.out]), belowN hB nq⟩

end Go.Proofs.Ytdnjpjiepnhhhaa

/- PrintTokens: the model. -/
namespace Go.Proofs.Ytdnjpjiepnhhhaa
open Go.RowKit

/-- What PrintTokens hands back. -/
def Printed (l : List Tok) (w : World) (e : Ending) (w' : World) : Prop := e = .returned (.tuple #[.string (printRes l).1, .bool (printRes l).2]) ∧ Below w.heap.size w w'
theorem printed_ret {l : List Tok} {s : ByteArray} {b : Bool} {w w' : World} (h : printRes l = (s, b)) (hb : Below w.heap.size w w') : Printed l w (.returned (.tuple #[.string s, .bool b])) w' := ⟨by rw [h], hb⟩

set_option maxHeartbeats 8000000 in
set_option maxRecDepth 100000 in
theorem spec_PrintTokens (v : Value) (l : List Tok) (fp : List Nat) (w : World) (H : (sSlice sTok).R w [v] l fp) :
    Calls Try.prog 56 #[v] w (Printed l w) := by
  have HV := Lib.hid (spec_TokensValid v l fp w H)
  obtain ⟨a, cap, rfl, hc, hm, hrow⟩ := open_rows H
  unfold maxLen at hm
  clear H
  cases hv : toksOk l
  · have HF := Lib.hid (printRes_no hv)
    rw [hv] at HV
    clear hv
    go_enter Try.func56, Try.ntmps56
    go_wp2_with (go_at_call 34; refine (HV.out).mono ?_; rintro e w1 ⟨rfl, hb1⟩)
    go_ret2
    exact printed_ret HF.out hb1
  · rw [hv] at HV
    have HOK := Lib.hid (toksOk_facts hv)
    have hlen := HOK.out.1
    have HSZ := Lib.hid (prTo_size hv)
    have HVD := Lib.hid hv
    clear hv
    go_enter Try.func56, Try.ntmps56
    go_wp2_with (go_at_call 34; refine (HV.out).mono ?_; rintro e w1 ⟨rfl, hb1⟩)
    go_loopw [4, 5] (fun o i wr => ∃ (k : Nat) (out : ByteArray), k ≤ l.length ∧ i = .int .i64 k ∧ o = .string out ∧ Hid (out = prTo l k) ∧ Below w.heap.size w wr) (fun _ i _ => l.length - (intOf i).toNat)
    case atStart => exact ⟨0, _, by omega, rfl, rfl, rfl, hb1⟩
    case round =>
      obtain ⟨k, out, hk, rfl, rfl, HO, hb⟩ := hrel
      by_cases hlt : k < l.length
      · obtain ⟨b1, off1, fps1, rfl, hb1', -, he1⟩ := hrow (by omega)
        obtain ⟨es1, hE1, hR1⟩ := he1 k hlt
        obtain ⟨h1, rfl, -, -, -⟩ := hR1
        replace hE1 := hE1.frame (hb.block b1 hb1')
        have c11 : wr.cell? ⟨b1, off1 + k * 4 + 1, none⟩ = some _ := elem_cell (j := 1) hE1 (by decide) rfl
        have c12 : wr.cell? ⟨b1, off1 + k * 4 + 2, none⟩ = some _ := elem_cell (j := 2) hE1 (by decide) rfl
        have hsz1 := (tokOk_facts (HOK.out.2 k hlt)).2
        have hso : out.size ≤ 201 * k := by rw [HO.out]; exact HSZ.out k hk
        have hadd1 := fun W => run_string_add_sum (P := Try.prog) W out (⟨#[32]⟩ : ByteArray) (by have : (⟨#[32]⟩ : ByteArray).size = 1 := rfl; omega)
        have hadd2 := fun W => run_string_add_sum (P := Try.prog) W (out ++ (⟨#[32]⟩ : ByteArray)) l[k].text (by rw [ByteArray.size_append]; have : (⟨#[32]⟩ : ByteArray).size = 1 := rfl; omega)
        have hadd3 := fun W => run_string_add_sum (P := Try.prog) W out l[k].text (by omega)
        by_cases h0 : k = 0
        · have h00 : ¬ (0 : Int) < (k : Int) := by omega
          have h01 : decide ((0 : Int) < (k : Int)) = false := by simp; omega
          have h02 : decide (0 < k) = false := by simp; omega
          have HN : Hid (out ++ l[k].text = prTo l (k + 1)) := by show _ = _; rw [prTo_no hlt (by subst h0; exact gap_zero l), HO.out]
          clear h0 he1 hrow hE1
          go_wp2
          go_quiet (fail)
          go_wp2
          go_roundw
          case rel => exact ⟨k + 1, _, by omega, by go_num, rfl, HN.out, belowN hb _⟩
          case measure => simp [intOf]; omega
        · have h00 : (0 : Int) < (k : Int) := by omega
          have h01 : decide ((0 : Int) < (k : Int)) = true := by simp; omega
          have h02 : decide (0 < k) = true := by simp; omega
          cases hsp : l[k].spaced
          · obtain ⟨es2, hE2, hR2⟩ := he1 (k - 1) (by omega)
            obtain ⟨h2, rfl, -, -, -⟩ := hR2
            replace hE2 := hE2.frame (hb.block b1 hb1')
            have c21 : wr.cell? ⟨b1, off1 + (k - 1) * 4 + 1, none⟩ = some _ := elem_cell (j := 1) hE2 (by decide) rfl
            have h6 : ((k : Int) - 1).toNat = k - 1 := by omega
            have hwl : IntKind.i64.wrap ((k : Int) - 1) = (k : Int) - 1 := IntWalk.i64_in _ (by omega)
            have hi1 : (0 : Int) ≤ (k : Int) - 1 := by omega
            have hi0 : (1 : Int) ≤ (k : Int) := by omega
            have hi2 : (k : Int) - 1 < (l.length : Int) := by omega
            have hbr : b1 < wr.heap.size := Nat.lt_of_lt_of_le hb1' hb.size
            have hsz2 := (tokOk_facts (HOK.out.2 (k - 1) (by omega))).2
            have HC : Hid (∀ W, Calls Try.prog 81 #[.string (l[k - 1]'(by omega)).text, .string l[k].text] W (Says (glued (l[k - 1]'(by omega)).text l[k].text) W)) := fun W => spec_l4Glued _ _ W (by omega) (by omega)
            have HG := gap_glued (by omega) hlt hsp
            rw [hsp] at c12
            clear hE1 hE2
            go_wp2_with fail
            go_still_tail 20, (by kernel_rfl)
            change wpList _ _ _ _ _ wr.drew
            have hd : Below wr.heap.size wr wr.drew := belowN (Below.refl _ _) 1
            generalize wr.drew = w2 at *
            cases hg : glued (l[k - 1]'(by omega)).text l[k].text
            · rw [hg] at HC HG
              have HN : Hid (out ++ l[k].text = prTo l (k + 1)) := by show _ = _; rw [prTo_no hlt HG, HO.out]
              clear hg HG
              go_wp2_with fail
              refine (HC.out _).mono ?_
              rintro e w3 ⟨rfl, hb3⟩
              have hb4 := hd.trans (hb3.mono hd.size)
              have d11 := (hb4.cell (p := ⟨b1, off1 + k * 4 + 1, none⟩) hbr).trans c11
              clear c11 c12 c21 hd hb3
              go_wp2
              go_roundw
              case rel => exact ⟨k + 1, _, by omega, by go_num, rfl, HN.out, hb.trans (hb4.mono hb.size)⟩
              case measure => simp [intOf]; omega
            · rw [hg] at HC HG
              have HN : Hid (out ++ ⟨#[32]⟩ ++ l[k].text = prTo l (k + 1)) := by show _ = _; rw [prTo_yes hlt HG, HO.out]
              clear hg HG
              go_wp2_with fail
              refine (HC.out _).mono ?_
              rintro e w3 ⟨rfl, hb3⟩
              have hb4 := hd.trans (hb3.mono hd.size)
              have d11 := (hb4.cell (p := ⟨b1, off1 + k * 4 + 1, none⟩) hbr).trans c11
              clear c11 c12 c21 hd hb3
              go_wp2
              go_roundw
              case rel => exact ⟨k + 1, _, by omega, by go_num, rfl, HN.out, hb.trans (hb4.mono hb.size)⟩
              case measure => simp [intOf]; omega
          · have HN : Hid (out ++ ⟨#[32]⟩ ++ l[k].text = prTo l (k + 1)) := by show _ = _; rw [prTo_yes hlt (gap_spaced (by omega) hlt hsp), HO.out]
            rw [hsp] at c12
            clear h0 he1 hrow hE1
            go_wp2
            go_quiet (fail)
            go_wp2
            go_roundw
            case rel => exact ⟨k + 1, _, by omega, by go_num, rfl, HN.out, belowN hb _⟩
            case measure => simp [intOf]; omega
      · have hkl : l.length = k := by omega
        by_cases hbig : 200 < out.size
        · have HF := Lib.hid (printRes_long HVD.out hkl (by rw [← HO.out]; exact hbig))
          clear hkl
          go_wp2
          go_ret2
          exact printed_ret HF.out hb
        · have HF := Lib.hid (printRes_yes HVD.out hkl (by rw [← HO.out]; exact hbig))
          rw [← HO.out] at HF
          clear hkl
          go_wp2
          go_ret2
          exact printed_ret HF.out hb

end Go.Proofs.Ytdnjpjiepnhhhaa

/- Macros: the model's own helpers; what both sides walk over. -/
namespace Go.Proofs.Ytdnjpjiepnhhhaa
open Go.RowKit

set_option maxHeartbeats 1000000 in
theorem spec_l5Name (x : ByteArray) (w : World) (hs : x.size ≤ maxLen) :
    Calls Try.prog 70 #[.string x] w (Says (oneTok x 1) w) := by
  have HT : Hid (∀ W, Calls Try.prog 60 #[.string x] W (TokMade (tokRes x) W)) := fun W => spec_TokensOf x W hs
  go_enter Try.func70, Try.ntmps70
  rcases one_ways x 1 with ⟨hr, HF⟩ | ⟨l, hr, hl, HF⟩ | ⟨t, hr, hk, HF⟩ | ⟨t, hr, hk, hx, HF⟩ | ⟨t, hr, hk, hx, _, HF⟩
  · rw [hr] at HT
    clear hr
    go_wp2_with (go_at_call 60; refine (HT.out _).mono ?_; rintro e w' ⟨v, fp, rfl, hR, hO, hB⟩)
    go_ret
    exact ⟨ret_bool HF.out.symm, hB⟩
  · rw [hr] at HT
    have hl' : ((l.length : Int) == 1) = false := by simp; omega
    clear hr hl
    go_wp2_with (go_at_call 60; refine (HT.out _).mono ?_; rintro e w' ⟨v, fp, rfl, hR, hO, hB⟩; obtain ⟨a, cap, rfl, _, _, _⟩ := open_rows hR)
    go_ret
    exact ⟨ret_bool HF.out.symm, hB⟩
  · rw [hr] at HT
    have hk' : (t.kind == 1) = false := by simp [hk]
    clear hr hk
    go_wp2_with (go_at_call 60; refine (HT.out _).mono ?_; rintro e w' ⟨v, fp, rfl, hR, hO, hB⟩; obtain ⟨b, off, cap, h, rfl, hc1, hc2, hb, h0, h1, h2, h3, _, _⟩ := open_one hR)
    go_ret
    exact ⟨ret_bool HF.out.symm, hB⟩
  · rw [hr] at HT
    have hk' : (t.kind == 1) = true := by simp [hk]
    have hx' : (t.text.toList == x.toList) = false := bytes_bne hx
    clear hr hk hx
    go_wp2_with (go_at_call 60; refine (HT.out _).mono ?_; rintro e w' ⟨v, fp, rfl, hR, hO, hB⟩; obtain ⟨b, off, cap, h, rfl, hc1, hc2, hb, h0, h1, h2, h3, _, _⟩ := open_one hR)
    go_ret
    exact ⟨ret_bool HF.out.symm, hB⟩
  · rw [hr] at HT
    have hk' : (t.kind == 1) = true := by simp [hk]
    have hx' : (t.text.toList == x.toList) = true := bytes_beq hx
    clear hr hk hx
    go_wp2_with (go_at_call 60; refine (HT.out _).mono ?_; rintro e w' ⟨v, fp, rfl, hR, hO, hB⟩; obtain ⟨b, off, cap, h, rfl, hc1, hc2, hb, h0, h1, h2, h3, _, _⟩ := open_one hR)
    go_ret
    exact ⟨ret_bool HF.out.symm, hB⟩

theorem par_end {ps : List ByteArray} {t : Tok} {k : Nat} (h : ps.length ≤ k) : parFrom ps t k = -1 := by rw [parFrom, dif_neg (by omega)]
theorem par_hit {ps : List ByteArray} {t : Tok} {k : Nat} (h : k < ps.length) (h1 : t.kind = 1) (h2 : ps[k] = t.text) : parFrom ps t k = k := by rw [parFrom, dif_pos h, if_pos ⟨h1, h2⟩]
theorem par_miss {ps : List ByteArray} {t : Tok} {k : Nat} (h : k < ps.length) (h1 : ¬ (t.kind = 1 ∧ ps[k] = t.text)) : parFrom ps t k = parFrom ps t (k + 1) := by rw [parFrom, dif_pos h, if_neg h1]

set_option maxHeartbeats 4000000 in
set_option maxRecDepth 100000 in
theorem spec_l5Param (csM csT : List Value) (m : DMacro) (t : Tok) (fpM fpT : List Nat) (w : World) (HM : sMacro.R w csM m fpM) (HT : sTok.R w csT t fpT) :
    Calls Try.prog 71 #[.agg csM.toArray, .agg csT.toArray] w fun e w' => e = .returned (.int .i64 (parOf m.params t)) ∧ Below w.heap.size w w' := by
  obtain ⟨h2, h3, fp2, fp3, rfl, -, K2, K3, rfl⟩ := HM
  obtain ⟨hh, rfl, -, -, -⟩ := HT
  obtain ⟨a, cap, rfl, hc, hm, hcell, hsz⟩ := open_strs K2
  unfold maxLen at hm
  clear K2 K3
  have b0 := alloc_below' w (.cells #[.string m.name, .bool m.function, .slice a m.params.length cap, h3] 27)
  have b1 := b0.trans ((alloc_below' (w.alloc (.cells #[.string m.name, .bool m.function, .slice a m.params.length cap, h3] 27)) (.cells #[.int .i64 t.kind, .string t.text, .bool t.spaced, hh] 59)).mono b0.size)
  have HX := Lib.hid (alloc2_blk w #[.string m.name, .bool m.function, .slice a m.params.length cap, h3] #[.int .i64 t.kind, .string t.text, .bool t.spaced, hh] 27 59)
  go_enter Try.func71, Try.ntmps71
  go_wp2
  generalize (w.alloc (.cells #[.string m.name, .bool m.function, .slice a m.params.length cap, h3] 27)).alloc (.cells #[.int .i64 t.kind, .string t.text, .bool t.spaced, hh] 59) = W at *
  clear b0
  go_loopw [5] (fun i wr => ∃ k : Nat, k ≤ m.params.length ∧ i = .int .i64 k ∧ Hid (parOf m.params t = parFrom m.params t k) ∧ Below W.heap.size W wr) (fun i _ => m.params.length - (intOf i).toNat)
  case atStart => exact ⟨0, by omega, rfl, rfl, Below.refl _ _⟩
  case round =>
    obtain ⟨k, hk, rfl, HP, hb⟩ := hrel
    have HX1 := Lib.hid (And.intro ((hb.block _ (Array.getElem?_eq_some_iff.1 HX.out.1).1).trans HX.out.1) ((hb.block _ (Array.getElem?_eq_some_iff.1 HX.out.2).1).trans HX.out.2))
    have q2 : wr.cell? ⟨w.heap.size, 2, none⟩ = some (.slice a m.params.length cap) := cell_of_row _ _ 2 _ _ _ HX1.out.1
    have p0 : wr.cell? ⟨w.heap.size + 1, 0, none⟩ = some (.int .i64 t.kind) := cell_of_row _ _ 0 _ _ _ HX1.out.2
    have p1 : wr.cell? ⟨w.heap.size + 1, 1, none⟩ = some (.string t.text) := cell_of_row _ _ 1 _ _ _ HX1.out.2
    by_cases hlt : k < m.params.length
    · obtain ⟨b, off, rfl, hbl, _, hc2⟩ := hcell (by omega)
      have hck := ((b1.trans (hb.mono b1.size)).cell (p := ⟨b, off + k, none⟩) hbl).trans (hc2 k hlt)
      clear hcell hc2
      by_cases e1 : t.kind = 1
      · have g1 : (t.kind == 1) = true := by simp [e1]
        by_cases e2 : m.params[k] = t.text
        · have g2 := bytes_beq e2
          have HF := Lib.hid (par_hit hlt e1 e2)
          clear e1 e2
          go_wp2
          go_quiet (fail)
          go_wp2
          go_ret
          exact ⟨ret_int (by rw [HP.out, HF.out]), b1.trans ((belowN hb _).mono b1.size)⟩
        · have g2 : (m.params[k].toList == t.text.toList) = false := bytes_bne e2
          have HF := Lib.hid (par_miss hlt (fun h => e2 h.2))
          clear e1 e2
          go_wp2
          go_quiet (fail)
          go_wp2
          go_roundw
          case rel => exact ⟨k + 1, by omega, by go_num, by show _ = _; rw [HP.out, HF.out], belowN hb _⟩
          case measure => simp [intOf]; omega
      · have g1 : (t.kind == 1) = false := by simp [e1]
        have HF := Lib.hid (par_miss hlt (fun h => e1 h.1))
        clear e1
        go_wp2
        go_quiet (fail)
        go_wp2
        go_roundw
        case rel => exact ⟨k + 1, by omega, by go_num, by show _ = _; rw [HP.out, HF.out], belowN hb _⟩
        case measure => simp [intOf]; omega
    · have HF := Lib.hid (par_end (t := t) (by omega : m.params.length ≤ k))
      go_wp2
      go_ret
      exact ⟨ret_int (by rw [HP.out, HF.out]), b1.trans (hb.mono b1.size)⟩

end Go.Proofs.Ytdnjpjiepnhhhaa

/- Rows of the call's own whose elements have memory behind them. Over any program. -/
namespace Go.Proofs.Ytdnjpjiepnhhhaa
open Go.RowKit

structure RowE {α : Type} (S : Shape α) (base : Nat) (e : TypeId) (v : Value) (L : List (Elem α)) (w : World) : Prop where
  row : w.ownsRow base e S.m v L.length (L.flatMap (·.cells))
  len : ∀ x ∈ L, x.cells.length = S.m
  el : ∀ x ∈ L, S.R w x.cells x.d x.fp
  lo : ∀ x ∈ L, ∀ b ∈ x.fp, base ≤ b
  ty : ∀ x ∈ L, ∀ b ∈ x.fp, ∃ cur t fr, w.heap[b]? = some (.cells cur t fr) ∧ t ≠ e

section
variable {α : Type} {S : Shape α} {base : Nat} {e : TypeId} {v v' : Value} {L : List (Elem α)} {w w' : World}
theorem ownsRow_same {n : Nat} {xs : List Value} {m : Nat} (h : w.ownsRow base e m v n xs) (hb : ∀ g, v.ownBlock = some g → w'.heap[g]? = w.heap[g]?) : w'.ownsRow base e m v n xs := by
  refine ⟨h.1, ?_⟩
  rcases h.2 with h0 | ⟨g, cap, cur, h1, h2, h3, h4⟩
  · exact .inl h0
  · exact .inr ⟨g, cap, cur, h1, h2, (hb g (by rw [h1]; rfl)).trans h3, h4⟩
theorem RowE.same (h : RowE S base e v L w) (hb : ∀ b, b < w.heap.size → base ≤ b → w'.heap[b]? = w.heap[b]?) : RowE S base e v L w' where
  row := ownsRow_same h.row fun g hg => by
    have := h.row.lt g hg
    exact hb g this.2 this.1
  len := h.len
  el := fun x hx => S.frame (fun b hb' => hb b (S.lt (h.el x hx) b hb') (h.lo x hx b hb')) (h.el x hx)
  lo := h.lo
  ty := fun x hx b hb' => by
    obtain ⟨cur, t, fr, h1, h2⟩ := h.ty x hx b hb'
    exact ⟨cur, t, fr, (hb b (S.lt (h.el x hx) b hb') (h.lo x hx b hb')).trans h1, h2⟩
theorem RowE.below (h : RowE S base e v L w) (hb : Below w.heap.size w w') : RowE S base e v L w' := h.same fun b hb' _ => hb.block b hb'
theorem RowE.keptR {rb : Nat} (h : RowE S base e v L w) (hk : Kept [rb] w w') (hr : rb < base) : RowE S base e v L w' := h.same fun b hb hl => hk.block b hb (by simp; omega)
theorem RowE.lower {base' : Nat} (h : RowE S base e v L w) (hl : base' ≤ base) : RowE S base' e v L w where
  row := ⟨h.row.1, by
    rcases h.row.2 with h0 | ⟨g, cap, cur, h1, h2, h3⟩
    · exact .inl h0
    · exact .inr ⟨g, cap, cur, h1, Nat.le_trans hl h2, h3⟩⟩
  len := h.len
  el := h.el
  lo := fun x hx b hb => Nat.le_trans hl (h.lo x hx b hb)
  ty := h.ty
theorem RowE.nil (S : Shape α) (base : Nat) (e : TypeId) (w : World) : RowE S base e (.slice none 0 0) [] w := ⟨World.ownsRow_nil _ _ _ _, by simp, by simp, by simp, by simp⟩
theorem RowE.val (h : RowE S base e v L w) : ∃ a cap, v = .slice a L.length cap ∧ L.length ≤ cap ∧ cap ≤ maxLen ∧ (0 < L.length → ∃ g, a = some ⟨g, 0, none⟩ ∧ base ≤ g ∧ g < w.heap.size) := by
  rcases h.row.2 with ⟨rfl, h0⟩ | ⟨g, cap, cur, rfl, hb, hg, hn, hc, _⟩
  · exact ⟨none, 0, by rw [h0], by omega, by simp, fun h => by omega⟩
  · exact ⟨_, cap, rfl, hn, hc, fun _ => ⟨g, rfl, hb, (Array.getElem?_eq_some_iff.1 hg).1⟩⟩
theorem RowE.mine (h : RowE S base e v L w) : ∀ b, v.ownBlock = some b → base ≤ b := fun b hb => (h.row.lt b hb).1
theorem RowE.slice (h : RowE S base e v L w) : ∃ fp, (sSlice S).R w [v] (L.map (·.d)) fp := by
  obtain ⟨fp, h1, _⟩ := slice_of_row h.row fun x hx => ⟨h.len x hx, h.el x hx⟩
  exact ⟨fp, h1⟩
/-- The blocks behind an element are not the row's. -/
theorem RowE.ap (h : RowE S base e v L w) {x : Elem α} (hx : x ∈ L) {b : Nat} (hb : b ∈ x.fp) : v.ownBlock ≠ some b := by
  intro hv
  obtain ⟨cur, t, fr, h1, h2⟩ := h.ty x hx b hb
  rcases h.row.2 with ⟨rfl, _⟩ | ⟨g, cap, cur', rfl, _, hg, _⟩
  · simp [Value.ownBlock] at hv
  · simp only [Value.ownBlock, Option.some.injEq] at hv
    subst hv
    rw [h1] at hg
    simp only [Option.some.injEq, Obj.cells.injEq] at hg
    exact h2 hg.2.1
theorem RowE.frozen {g n cap : Nat} (h : RowE S base e (.slice (some ⟨g, 0, none⟩) n cap) L w) (o : Nat) : w.frozen? ⟨g, o, none⟩ = false := by
  rcases h.row.2 with ⟨h', _⟩ | ⟨g', cap', cur, h', _, hg, _⟩
  · cases h'
  · simp only [Value.slice.injEq, Option.some.injEq, Addr.mk.injEq, and_true] at h'
    obtain ⟨rfl, _⟩ := h'
    exact frozen_of_row w g o cur e hg
/-- An element's cells. -/
theorem RowE.cellAt {g n cap : Nat} (h : RowE S base e (.slice (some ⟨g, 0, none⟩) n cap) L w) {k : Nat} (hk : k < L.length) {j : Nat} (hj : j < S.m) {u : Value} (hu : L[k].cells[j]? = some u) : w.cell? ⟨g, k * S.m + j, none⟩ = some u := by
  have hn : L.length = n := by
    rcases h.row.2 with ⟨h', _⟩ | ⟨g', cap', cur, h', _⟩
    · cases h'
    · simp only [Value.slice.injEq] at h'; exact h'.2.1.symm
  subst hn
  rw [h.row.cellAt (k * S.m + j) (by have : (k + 1) * S.m ≤ L.length * S.m := Nat.mul_le_mul_right _ hk; rw [Nat.succ_mul] at this; omega)]
  exact (flatMap_at (f := Elem.cells) h.len hk hj).trans hu
theorem flatMap_set {f : Elem α → List Value} {m : Nat} : ∀ {L : List (Elem α)} (_ : ∀ x ∈ L, (f x).length = m) {k : Nat} (hk : k < L.length) {j : Nat} (_ : j < m) (u : Value) (x' : Elem α) (_ : f x' = (f L[k]).set j u), (L.flatMap f).set (k * m + j) u = (L.set k x').flatMap f
  | [], _, k, hk, _, _, _, _, _ => by simp at hk
  | x :: L, hL, 0, _, j, hj, u, x', hx => by
    simp only [List.flatMap_cons, List.set_cons_zero, Nat.zero_mul, Nat.zero_add]
    rw [List.set_append_left _ _ (by rw [hL x (by simp)]; exact hj), hx]; rfl
  | x :: L, hL, k + 1, hk, j, hj, u, x', hx => by
    have hl := hL x (by simp)
    have e : (k + 1) * m + j = m + (k * m + j) := by rw [Nat.succ_mul]; omega
    simp only [List.flatMap_cons, List.set_cons_succ]
    rw [List.set_append_right _ _ (by rw [hl, e]; omega), hl, e, Nat.add_sub_cancel_left]
    rw [flatMap_set (fun y hy => hL y (by simp [hy])) (by simpa using hk) hj u x' (by simpa using hx)]
/-- A store into an element. -/
theorem RowE.set {g n cap : Nat} (h : RowE S base e (.slice (some ⟨g, 0, none⟩) n cap) L w) {k : Nat} (hk : k < L.length) {j : Nat} (hj : j < S.m) (u : Value) (x' : Elem α) (hx : x'.cells = L[k].cells.set j u)
    (hR : S.R w x'.cells x'.d x'.fp) (hlo : ∀ b ∈ x'.fp, base ≤ b) (hty : ∀ b ∈ x'.fp, ∃ cur t fr, w.heap[b]? = some (.cells cur t fr) ∧ t ≠ e) :
    RowE S base e (.slice (some ⟨g, 0, none⟩) n cap) (L.set k x') (w.setCell ⟨g, k * S.m + j, none⟩ u) := by
  have hne : ∀ b : Nat, (∃ cur t fr, w.heap[b]? = some (.cells cur t fr) ∧ t ≠ e) → b ≠ g := by
    rintro b ⟨cur, t, fr, h1, h2⟩ rfl
    rcases h.row.2 with ⟨h', _⟩ | ⟨g', cap', cur', h', _, hg, _⟩
    · cases h'
    · simp only [Value.slice.injEq, Option.some.injEq, Addr.mk.injEq, and_true] at h'
      obtain ⟨rfl, _⟩ := h'
      rw [h1] at hg
      simp only [Option.some.injEq, Obj.cells.injEq] at hg
      exact h2 hg.2.1
  have hblk : ∀ b : Nat, b ≠ g → (w.setCell ⟨g, k * S.m + j, none⟩ u).heap[b]? = w.heap[b]? := fun b hb => Below.heap_setCell _ _ _ _ hb
  have hmem : ∀ x ∈ L.set k x', x = x' ∨ x ∈ L := fun x hx => by
    rcases List.mem_or_eq_of_mem_set hx with h | h
    · exact .inr h
    · exact .inl h
  refine ⟨?_, fun x hx' => ?_, fun x hx' => ?_, fun x hx' => ?_, fun x hx' => ?_⟩
  · have hn : L.length = n := by
      rcases h.row.2 with ⟨h', _⟩ | ⟨g', cap', cur, h', _⟩
      · cases h'
      · simp only [Value.slice.injEq] at h'; exact h'.2.1.symm
    have hrow := h.row
    rw [hn] at hrow
    have := (hrow.stored (k * S.m + j) u).1
    rw [flatMap_set h.len hk hj u x' hx] at this
    rw [List.length_set, hn]
    exact this
  · rcases hmem x hx' with rfl | hx'
    · rw [hx, List.length_set]; exact h.len _ (List.getElem_mem hk)
    · exact h.len x hx'
  · rcases hmem x hx' with rfl | hx'
    · exact S.frame (fun b hb => hblk b (hne b (hty b hb))) hR
    · exact S.frame (fun b hb => hblk b (hne b (h.ty x hx' b hb))) (h.el x hx')
  · rcases hmem x hx' with rfl | hx'
    · exact hlo
    · exact h.lo x hx'
  · intro b hb
    rcases hmem x hx' with rfl | hx'
    · obtain ⟨cur, t, fr, h1, h2⟩ := hty b hb
      exact ⟨cur, t, fr, (hblk b (hne b ⟨cur, t, fr, h1, h2⟩)).trans h1, h2⟩
    · obtain ⟨cur, t, fr, h1, h2⟩ := h.ty x hx' b hb
      exact ⟨cur, t, fr, (hblk b (hne b ⟨cur, t, fr, h1, h2⟩)).trans h1, h2⟩
/-- Elements appended. -/
theorem RowE.appended (h : RowE S base e v L w) {X : List (Elem α)} (hrow : w'.ownsRow base e S.m v' (L ++ X).length ((L ++ X).flatMap (·.cells))) (hg : w.grownBy w' v.ownBlock)
    (hlen : ∀ x ∈ X, x.cells.length = S.m) (hR : ∀ x ∈ X, S.R w x.cells x.d x.fp) (hlo : ∀ x ∈ X, ∀ b ∈ x.fp, base ≤ b) (hty : ∀ x ∈ X, ∀ b ∈ x.fp, ∃ cur t fr, w.heap[b]? = some (.cells cur t fr) ∧ t ≠ e) :
    RowE S base e v' (L ++ X) w' := by
  have hne : ∀ b : Nat, (∃ cur t fr, w.heap[b]? = some (.cells cur t fr) ∧ t ≠ e) → w'.heap[b]? = w.heap[b]? := by
    rintro b ⟨cur, t, fr, h1, h2⟩
    refine hg.block b (Array.getElem?_eq_some_iff.1 h1).1 fun hv => ?_
    rcases h.row.2 with ⟨rfl, _⟩ | ⟨g', cap', cur', rfl, _, hg', _⟩
    · simp [Value.ownBlock] at hv
    · simp only [Value.ownBlock, Option.some.injEq] at hv
      subst hv
      rw [h1] at hg'
      simp only [Option.some.injEq, Obj.cells.injEq] at hg'
      exact h2 hg'.2.1
  refine ⟨hrow, fun x hx => ?_, fun x hx => ?_, fun x hx => ?_, fun x hx b hb => ?_⟩ <;> rcases List.mem_append.1 hx with hx | hx
  · exact h.len x hx
  · exact hlen x hx
  · exact S.frame (fun b hb => hne b (h.ty x hx b hb)) (h.el x hx)
  · exact S.frame (fun b hb => hne b (hty x hx b hb)) (hR x hx)
  · exact h.lo x hx
  · exact hlo x hx
  · obtain ⟨cur, t, fr, h1, h2⟩ := h.ty x hx b hb
    exact ⟨cur, t, fr, (hne b ⟨cur, t, fr, h1, h2⟩).trans h1, h2⟩
  · obtain ⟨cur, t, fr, h1, h2⟩ := hty x hx b hb
    exact ⟨cur, t, fr, (hne b ⟨cur, t, fr, h1, h2⟩).trans h1, h2⟩
end

/-- append of elements out of a literal's own block, or of any row that can be read. -/
theorem wp_append_rowE {α : Type} {S : Shape α} {P : Program} {t e : TypeId} {z : Value} {bytes : Nat} (ti : TI P t e z S.m bytes) (hzs : z.cells.size = S.m) (h0 : 0 < S.m) (w : World) {L X : List (Elem α)} {ops : Array Oper} {rest : List Oper} {o : Oper} {a : Act} {Q : Exit → Act → World → Prop}
    (hg : o.guard = none) (s y : Operand) (ho : o.op = .call { callee := .builtin .append, args := #[s, y], argTypes := #[t, t] })
    (base : Nat) (v : Value) (hs : a.eval s = v) (hown : RowE S base e v L w) (g m c : Nat) (hy : a.eval y = .slice (some ⟨g, 0, none⟩) m c) (hm : X.length = m)
    (hlen : ∀ x ∈ X, x.cells.length = S.m) (h1 : ∀ x ∈ X, ∀ u ∈ x.cells, u.oneCell' = true) (hcell : ∀ j u, (X.flatMap (·.cells))[j]? = some u → w.cell? ⟨g, j, none⟩ = some u)
    (hR : ∀ x ∈ X, S.R w x.cells x.d x.fp) (hlo : ∀ x ∈ X, ∀ b ∈ x.fp, base ≤ b) (hty : ∀ x ∈ X, ∀ b ∈ x.fp, ∃ cur t fr, w.heap[b]? = some (.cells cur t fr) ∧ t ≠ e)
    (h63 : L.length + m ≤ maxLen) (hbytes : (L.length + m) * bytes ≤ 140737488355328) (hbase : base ≤ w.heap.size)
    (h : ∀ v' w', RowE S base e v' (L ++ X) w' → w.grownBy w' v.ownBlock → wpList P ops Q rest (a.put o.dst v') w') : wpList P ops Q (o :: rest) a w := by
  obtain ⟨i, hi, hz0, hz1, hz2⟩ := info_parts ti.2
  subst hm
  refine wpList_append_own _ hg s y t ho base e i z S.m bytes ti.1 hi hz0 hz1 hz2 hzs h0 v L.length _ hs hown.row ⟨g, 0, none⟩ X.length c (X.flatMap (·.cells)) hy (flatMap_len hlen) ?_ ?_ h63 hbytes hbase fun v' w' a b _ => h v' w' ?_ b
  · intro j u hj
    rw [addr_add, Nat.zero_add]
    exact hcell j u hj
  · intro u hu
    obtain ⟨x, hx, hu⟩ := List.mem_flatMap.1 hu
    exact h1 x hx u hu
  · refine hown.appended ?_ b hlen hR hlo hty
    rw [List.length_append, List.flatMap_append]
    exact a

end Go.Proofs.Ytdnjpjiepnhhhaa

/- Rows of the call's own: literals, whole elements stored, rows behind rows. Over any program. -/
namespace Go.Proofs.Ytdnjpjiepnhhhaa
open Go.RowKit

section
variable {α : Type} {S : Shape α} {base : Nat} {e : TypeId} {v v' : Value} {L : List (Elem α)} {w w' : World}
/-- A literal's row. -/
theorem RowE.lit (X : List (Elem α)) (hlen : ∀ x ∈ X, x.cells.length = S.m) (hR : ∀ x ∈ X, S.R w x.cells x.d x.fp) (hlo : ∀ x ∈ X, ∀ b ∈ x.fp, base ≤ b) (hty : ∀ x ∈ X, ∀ b ∈ x.fp, ∃ cur t fr, w.heap[b]? = some (.cells cur t fr) ∧ t ≠ e)
    (hb : base ≤ w.heap.size) (hn : X.length ≤ 1000000) : RowE S base e (.slice (some ⟨w.heap.size, 0, none⟩) X.length X.length) X (w.alloc (.cells (X.flatMap (·.cells)).toArray e)) where
  row := World.ownsRow_lit (base := base) (e := e) (size := S.m) w (X.flatMap (·.cells)).toArray X.length hb (by unfold maxLen; omega) (by simpa using flatMap_len hlen)
  len := hlen
  el := fun x hx => S.below (hR x hx) (alloc_below' _ _)
  lo := hlo
  ty := fun x hx b hb' => by
    obtain ⟨cur, t, fr, h1, h2⟩ := hty x hx b hb'
    exact ⟨cur, t, fr, ((alloc_below' w _).block b (Array.getElem?_eq_some_iff.1 h1).1).trans h1, h2⟩
/-- What a row's slice reads, and in which blocks. -/
theorem RowE.read (h : RowE S base e v L w) : ∃ fp, (sSlice S).R w [v] (L.map (·.d)) fp ∧ ∀ b ∈ fp, base ≤ b := by
  obtain ⟨fp, h1, h2, _⟩ := slice_of_row h.row fun x hx => ⟨h.len x hx, h.el x hx⟩
  refine ⟨fp, h1, fun b hb => ?_⟩
  rcases h2 b hb with h3 | h3
  · exact h.mine b h3
  · obtain ⟨x, hx, hb'⟩ := List.mem_flatMap.1 h3
    exact h.lo x hx b hb'
theorem setFrom_flat : ∀ {L : List (Elem α)} {m : Nat} (_ : ∀ x ∈ L, x.cells.length = m) {k : Nat} (hk : k < L.length) (x' : Elem α) (_ : x'.cells.length = m), setFrom (L.flatMap (·.cells)) (k * m) x'.cells = (L.set k x').flatMap (·.cells) := by
  intro L m hL k hk x' hx'
  have h1 : L = L.take k ++ (L[k] :: L.drop (k + 1)) := by rw [List.getElem_cons_drop, List.take_append_drop]
  have h2 : (L.take k).length = k := by rw [List.length_take]; omega
  have h3 : ((L.take k).flatMap (·.cells)).length = k * m := by rw [flatMap_len (m := m) (fun x hx => hL x (List.mem_of_mem_take hx)), h2]
  have h4 : L.flatMap (·.cells) = (L.take k).flatMap (·.cells) ++ (L[k].cells ++ (L.drop (k + 1)).flatMap (·.cells)) := by
    conv => lhs; rw [h1]
    rw [List.flatMap_append, List.flatMap_cons]
  have h5 : L.set k x' = L.take k ++ (x' :: L.drop (k + 1)) := by rw [List.set_eq_take_append_cons_drop, if_pos hk]
  rw [h4, ← h3, setFrom_app _ _ _ _ (by rw [hL _ (List.getElem_mem hk), hx']), h5, List.flatMap_append, List.flatMap_cons]
/-- A whole element is stored. -/
theorem RowE.put {g n cap : Nat} (h : RowE S base e (.slice (some ⟨g, 0, none⟩) n cap) L w) {k : Nat} (hk : k < L.length) (x' : Elem α) (hl : x'.cells.length = S.m)
    (hR : S.R w x'.cells x'.d x'.fp) (hlo : ∀ b ∈ x'.fp, base ≤ b) (hty : ∀ b ∈ x'.fp, ∃ cur t fr, w.heap[b]? = some (.cells cur t fr) ∧ t ≠ e) :
    RowE S base e (.slice (some ⟨g, 0, none⟩) n cap) (L.set k x') (putAll w g (k * S.m) x'.cells) := by
  have hne : ∀ b : Nat, (∃ cur t fr, w.heap[b]? = some (.cells cur t fr) ∧ t ≠ e) → b ≠ g := by
    rintro b ⟨cur, t, fr, h1, h2⟩ rfl
    rcases h.row.2 with ⟨h', _⟩ | ⟨g', cap', cur', h', _, hg, _⟩
    · cases h'
    · simp only [Value.slice.injEq, Option.some.injEq, Addr.mk.injEq, and_true] at h'
      obtain ⟨rfl, _⟩ := h'
      rw [h1] at hg
      simp only [Option.some.injEq, Obj.cells.injEq] at hg
      exact h2 hg.2.1
  have hK := putAll_kept (g := g) x'.cells w (k * S.m)
  have hblk : ∀ b : Nat, b < w.heap.size → b ≠ g → (putAll w g (k * S.m) x'.cells).heap[b]? = w.heap[b]? := fun b hb hn => hK.block b hb (by simpa using hn)
  have hmem : ∀ x ∈ L.set k x', x = x' ∨ x ∈ L := fun x hx => by
    rcases List.mem_or_eq_of_mem_set hx with h | h
    · exact .inr h
    · exact .inl h
  refine ⟨?_, fun x hx' => ?_, fun x hx' => ?_, fun x hx' => ?_, fun x hx' => ?_⟩
  · have hn : L.length = n := by
      rcases h.row.2 with ⟨h', _⟩ | ⟨g', cap', cur, h', _⟩
      · cases h'
      · simp only [Value.slice.injEq] at h'; exact h'.2.1.symm
    have hrow := h.row
    rw [hn] at hrow
    have := putAll_row x'.cells w _ (k * S.m) hrow
    rw [setFrom_flat h.len hk x' hl] at this
    rw [List.length_set, hn]
    exact this
  · rcases hmem x hx' with rfl | hx'
    · exact hl
    · exact h.len x hx'
  · rcases hmem x hx' with rfl | hx'
    · exact S.frame (fun b hb => hblk b (S.lt hR b hb) (hne b (hty b hb))) hR
    · exact S.frame (fun b hb => hblk b (S.lt (h.el x hx') b hb) (hne b (h.ty x hx' b hb))) (h.el x hx')
  · rcases hmem x hx' with rfl | hx'
    · exact hlo
    · exact h.lo x hx'
  · intro b hb
    rcases hmem x hx' with rfl | hx'
    · obtain ⟨cur, t, fr, h1, h2⟩ := hty b hb
      exact ⟨cur, t, fr, (hblk b (Array.getElem?_eq_some_iff.1 h1).1 (hne b ⟨cur, t, fr, h1, h2⟩)).trans h1, h2⟩
    · obtain ⟨cur, t, fr, h1, h2⟩ := h.ty x hx' b hb
      exact ⟨cur, t, fr, (hblk b (Array.getElem?_eq_some_iff.1 h1).1 (hne b ⟨cur, t, fr, h1, h2⟩)).trans h1, h2⟩
end

/-- append(s, row...), the row one of the call's own. -/
theorem wp_append_rows {α : Type} {S : Shape α} {P : Program} {t e : TypeId} {z : Value} {bytes : Nat} (ti : TI P t e z S.m bytes) (hzs : z.cells.size = S.m) (h0 : 0 < S.m) (w : World) {L M : List (Elem α)} {ops : Array Oper} {rest : List Oper} {o : Oper} {a : Act} {Q : Exit → Act → World → Prop}
    (hg : o.guard = none) (s y : Operand) (ho : o.op = .call { callee := .builtin .append, args := #[s, y], argTypes := #[t, t] })
    (base : Nat) (v u : Value) (hs : a.eval s = v) (hown : RowE S base e v L w) (hy : a.eval y = u) (HM : RowE S base e u M w) (h1 : ∀ x ∈ M, ∀ u ∈ x.cells, u.oneCell' = true)
    (h63 : L.length + M.length ≤ maxLen) (hbytes : (L.length + M.length) * bytes ≤ 140737488355328) (hbase : base ≤ w.heap.size)
    (h : ∀ v' w', RowE S base e v' (L ++ M) w' → w.grownBy w' v.ownBlock → wpList P ops Q rest (a.put o.dst v') w') : wpList P ops Q (o :: rest) a w := by
  rcases HM.row.2 with ⟨rfl, hz⟩ | ⟨g, cap, cur, rfl, _⟩
  · have hM : M = [] := List.length_eq_zero_iff.1 hz
    subst hM
    obtain ⟨i, hi, hz0, hz1, hz2⟩ := info_parts ti.2
    refine wpList_append_own_none hg s y t ho base e i S.m ti.1 hi v L.length _ hs hown.row hy ?_
    exact h v w (by simpa using hown) ⟨rfl, rfl, rfl, Nat.le_refl _, fun _ _ _ => rfl⟩
  · refine wp_append_rowE ti hzs h0 w (X := M) hg s y ho base v hs hown g M.length cap hy rfl HM.len h1 ?_ HM.el HM.lo HM.ty h63 hbytes hbase h
    intro j u hj
    have hlt : j < (M.flatMap (·.cells)).length := (List.getElem?_eq_some_iff.1 hj).1
    rw [flatMap_len HM.len] at hlt
    rw [HM.row.cellAt j hlt]
    exact hj

/-- An operation whose guard holds is walked as one without. -/
theorem wpList_guarded {P : Program} {ops : Array Oper} {rest : List Oper} {a : Act} {w : World} {Q : Exit → Act → World → Prop} {d : Option Tmp} {op : Op} {ty : TypeId} {pos : String} {after : Array Edge} {g : Option (Nat × Bool)}
    (hw : Region.wanted (Oper.mk d op ty pos after g) (yielded ops a.tmps) = true) (h : wpList P ops Q (Oper.mk d op ty pos after none :: rest) a w) : wpList P ops Q (Oper.mk d op ty pos after g :: rest) a w := by
  unfold wpList at h ⊢
  rw [if_pos hw]
  rw [if_pos (show Region.wanted (Oper.mk d op ty pos after none) (yielded ops a.tmps) = true from rfl)] at h
  exact h

/-- .. and where the row lies then. -/
theorem wp_append_rowsB {α : Type} {S : Shape α} {P : Program} {t e : TypeId} {z : Value} {bytes : Nat} (ti : TI P t e z S.m bytes) (hzs : z.cells.size = S.m) (h0 : 0 < S.m) (w : World) {L M : List (Elem α)} {ops : Array Oper} {rest : List Oper} {o : Oper} {a : Act} {Q : Exit → Act → World → Prop}
    (hg : o.guard = none) (s y : Operand) (ho : o.op = .call { callee := .builtin .append, args := #[s, y], argTypes := #[t, t] })
    (base top : Nat) (v u : Value) (hs : a.eval s = v) (hown : RowE S base e v L w) (hy : a.eval y = u) (HM : RowE S base e u M w) (h1 : ∀ x ∈ M, ∀ u ∈ x.cells, u.oneCell' = true)
    (h63 : L.length + M.length ≤ maxLen) (hbytes : (L.length + M.length) * bytes ≤ 140737488355328) (hbase : base ≤ top) (htop : top ≤ w.heap.size) (hv : ∀ b, v.ownBlock = some b → top ≤ b)
    (h : ∀ v' w', RowE S base e v' (L ++ M) w' → w.grownBy w' v.ownBlock → (∀ b, v'.ownBlock = some b → top ≤ b) → wpList P ops Q rest (a.put o.dst v') w') : wpList P ops Q (o :: rest) a w := by
  obtain ⟨i, hi, hz0, hz1, hz2⟩ := info_parts ti.2
  rcases HM.row.2 with ⟨rfl, hz⟩ | ⟨g, cap, cur, rfl, _⟩
  · have hM : M = [] := List.length_eq_zero_iff.1 hz
    subst hM
    refine wpList_append_own_none hg s y t ho base e i S.m ti.1 hi v L.length _ hs hown.row hy ?_
    exact h v w (by simpa using hown) ⟨rfl, rfl, rfl, Nat.le_refl _, fun _ _ _ => rfl⟩ hv
  · have hrow2 : w.ownsRow top e S.m v L.length (L.flatMap (·.cells)) := ⟨hown.row.1, by
      rcases hown.row.2 with h0 | ⟨g, cap, cur, h1, h2, h3⟩
      · exact .inl h0
      · exact .inr ⟨g, cap, cur, h1, hv g (by rw [h1]; rfl), h3⟩⟩
    refine wpList_append_own _ hg s y t ho top e i z S.m bytes ti.1 hi hz0 hz1 hz2 hzs h0 v L.length _ hs hrow2 ⟨g, 0, none⟩ M.length cap (M.flatMap (·.cells)) hy (flatMap_len HM.len) ?_ ?_ h63 hbytes htop fun v' w' a b _ => h v' w' ?_ b (fun g hg => (a.lt g hg).1)
    · intro j u hj
      rw [addr_add, Nat.zero_add]
      have hlt : j < (M.flatMap (·.cells)).length := (List.getElem?_eq_some_iff.1 hj).1
      rw [flatMap_len HM.len] at hlt
      rw [HM.row.cellAt j hlt]
      exact hj
    · intro u hu
      obtain ⟨x, hx, hu⟩ := List.mem_flatMap.1 hu
      exact h1 x hx u hu
    · refine hown.appended ?_ b HM.len HM.el HM.lo HM.ty
      rw [List.length_append, List.flatMap_append]
      refine ⟨a.1, ?_⟩
      rcases a.2 with h0 | ⟨g, cap, cur, h1, h2, h3⟩
      · exact .inl h0
      · exact .inr ⟨g, cap, cur, h1, Nat.le_trans hbase h2, h3⟩

end Go.Proofs.Ytdnjpjiepnhhhaa

/- A region that draws its order, walked by what its operations leave: in whatever order they come up, each finds what those before it have left. Over any program. -/
namespace Go.Proofs.Ytdnjpjiepnhhhaa
open Go.RowKit

/-- Go on with K; nothing else may happen. -/
def Sw (K : Act → World → Prop) : Exit → Act → World → Prop
  | .normal, a, w => K a w
  | _, _, _ => False
theorem Sw.noOut {K : Act → World → Prop} : ¬ LetsOut (Sw K) := fun ⟨_, _, h⟩ => h
theorem sw_wp {P : Program} {o : Oper} {a : Act} {w : World} {K : Act → World → Prop} {Q : Exit → Act → World → Prop} (h : o.wp P a w K (Sw K)) : o.wp P a w K Q := by
  unfold Oper.wp at *
  generalize (execOp a.eval o).run P w = r at *
  cases r with
  | ok n w' =>
    cases n <;> simp only [Oper.upon] at h ⊢ <;>
      first
        | exact h
        | exact Calls.mono h (fun e w'' he => by cases e <;> first | exact he | exact absurd he id | exact absurd he Sw.noOut)
        | exact Rows.mono h (fun _ _ he => he)
  | halt x w' =>
    cases x <;> simp only [Oper.upon] at h ⊢
    exact absurd h id
theorem sw_op {P : Program} {ops : Array Oper} {i : Nat} {o : Oper} {a : Act} {w : World} {K : Act → World → Prop} {Q : Exit → Act → World → Prop} (hi : ops[i]? = some o) (h : wpList P ops (Sw K) [o] a w) : wpOp P ops Q i K a w := by
  unfold wpOp
  rw [hi]
  unfold wpList at h
  show if _ then _ else _
  split
  · rename_i hw
    rw [if_pos hw] at h
    rcases h with h | ⟨_, h⟩
    · exact .inl (sw_wp h)
    · exact absurd h Sw.noOut
  · rename_i hw
    rw [if_neg hw] at h
    exact h

/-- The slots that operations leave, filled. -/
def fill (a : Act) : List (Option Nat) → List Value → Act
  | d :: ds, x :: xs => fill (a.put d x) ds xs
  | _, _ => a
theorem put_twice (a : Act) (d : Nat) (x v : Value) : (a.put (some d) x).put (some d) v = a.put (some d) v := by
  simp [Act.put, Array.setIfInBounds_setIfInBounds]
theorem put_swap (a : Act) (d e : Option Nat) (x v : Value) (h : d ≠ e ∨ d = none) : (a.put d x).put e v = (a.put e v).put d x := by
  cases d with
  | none => rfl
  | some d =>
    cases e with
    | none => rfl
    | some e =>
      have hne : d ≠ e := by
        rcases h with h | h
        · intro hh; exact h (by rw [hh])
        · cases h
      simp only [Act.put]
      rw [Array.setIfInBounds_comm _ _ hne]
/-- No slot is left twice. -/
def apartDsts : List (Option Nat) → Bool
  | [] => true
  | d :: ds => (d == none || !ds.contains d) && apartDsts ds
theorem fill_swap (ds : List (Option Nat)) : ∀ (a : Act) (xs : List Value) (d : Option Nat) (v : Value), (d = none ∨ d ∉ ds) → (fill a ds xs).put d v = fill (a.put d v) ds xs := by
  induction ds with
  | nil => intro a xs d v _; rfl
  | cons e ds ih =>
    intro a xs d v h
    cases xs with
    | nil => rfl
    | cons x xs =>
      show (fill (a.put e x) ds xs).put d v = fill ((a.put d v).put e x) ds xs
      rw [ih _ _ _ _ (by rcases h with h | h; exact .inl h; exact .inr (fun hh => h (by simp [hh])))]
      rw [put_swap a e d x v (by rcases h with rfl | h; · cases e <;> simp
                                 · left; rintro rfl; exact h (by simp))]
theorem fill_put (ds : List (Option Nat)) (hd : apartDsts ds = true) : ∀ (a : Act) (xs : List Value) (i : Nat) (d : Option Nat) (v : Value), xs.length = ds.length → ds[i]? = some d → (fill a ds xs).put d v = fill a ds (xs.set i v) := by
  induction ds with
  | nil => intro a xs i d v _ h; simp at h
  | cons e ds ih =>
    unfold apartDsts at hd
    rw [Bool.and_eq_true, Bool.or_eq_true] at hd
    intro a xs i d v hl h
    cases xs with
    | nil => simp at hl
    | cons x xs =>
      cases i with
      | zero =>
        simp only [List.getElem?_cons_zero, Option.some.injEq] at h
        subst h
        show (fill (a.put e x) ds xs).put e v = fill (a.put e v) ds xs
        rw [fill_swap ds _ _ _ _ (by rcases hd.1 with h | h; · left; simpa using h
                                     · right; simpa using h)]
        cases e with
        | none => rfl
        | some e => rw [put_twice]
      | succ i =>
        show (fill (a.put e x) ds xs).put d v = fill (a.put e x) ds (xs.set i v)
        exact ih hd.2 _ _ _ _ _ (by simpa using hl) (by simpa using h)
theorem fill_self (ds : List (Option Nat)) : ∀ (a : Act), fill a ds (ds.map fun d => match d with | some t => a.tmps.getD t undef | none => undef) = a := by
  induction ds with
  | nil => intro a; rfl
  | cons d ds ih =>
    intro a
    have e : a.put d (match d with | some t => a.tmps.getD t undef | none => undef) = a := by
      cases d with
      | none => rfl
      | some t =>
        obtain ⟨T, D⟩ := a
        simp only [Act.put, Act.mk.injEq, and_true]
        apply Array.ext_getElem?
        intro j
        rw [Array.getElem?_setIfInBounds]
        split
        · rename_i h
          subst h
          split
          · rename_i h2; simp [Array.getD, h2]
          · rename_i h2; rw [Array.getElem?_eq_none (by omega)]
        · rfl
    show fill (a.put d _) ds _ = a
    rw [e]
    exact ih a

def regionOk (ops : Array Oper) : Bool :=
  apartDsts (ops.toList.map (·.dst)) && (List.range ops.size).all fun i => ((ops[i]?).map fun o => o.after.all fun e => decide (e.on < i)).getD false

def At (Ps : List (Value → World → Prop)) (i : Nat) (v : Value) (w : World) : Prop := ∀ p, Ps[i]? = some p → p v w
def origs (a : Act) (ds : List (Option Nat)) : List Value := ds.map fun d => match d with | some t => a.tmps.getD t undef | none => undef

/-- All other operations must have come up before this one. -/
def covers (o : Oper) (i n : Nat) : Bool := (List.range n).all fun j => j == i || o.after.any fun e => Region.binds .any e && e.on == j
/-- What an operation finds, and what it owes. -/
def StepOk (P : Program) (ops : Array Oper) (Rl : World → World → Prop) (Ps : List (Value → World → Prop)) (J : Nat → World → Prop) (a : Act) (i : Nat) (o : Oper) : Prop :=
  ∀ (xs : List Value) (w' : World) (m : Nat), xs.length = ops.size → m < ops.size → J m w' → (covers o i ops.size = true → m + 1 = ops.size) →
    (∀ e ∈ o.after, Region.binds .any e = true → ∀ v, xs[e.on]? = some v → At Ps e.on v w') →
    (∀ (j : Nat) (o' : Oper), ops[j]? = some o' → (j = i ∨ ∃ e ∈ o'.after, Region.binds .any e = true ∧ e.on = i) → xs[j]? = (origs a (ops.toList.map (·.dst)))[j]?) →
    ∀ K : Act → World → Prop, (∀ v w'', At Ps i v w'' → Rl w' w'' → J (m + 1) w'' → K ((fill a (ops.toList.map (·.dst)) xs).put o.dst v) w'') →
      wpList P ops (Sw K) [o] (fill a (ops.toList.map (·.dst)) xs) w'

def cnt (n : Nat) (L : Array Bool) : Nat := (List.range n).countP fun i => L.getD i false
theorem cnt_set {n : Nat} {L : Array Bool} {i : Nat} (hi : i < n) (hs : L.size = n) (h : L.getD i true = false) : cnt n (L.setIfInBounds i true) = cnt n L + 1 := by
  have h' : L.getD i false = false := by
    simp only [Array.getD] at h ⊢
    split at h
    · rename_i h2; rw [dif_pos h2]; exact h
    · cases h
  have key : ∀ l : List Nat, l.Nodup → (l.countP fun j => (L.setIfInBounds i true).getD j false) = (l.countP fun j => L.getD j false) + (if i ∈ l then 1 else 0) := by
    intro l
    induction l with
    | nil => intro _; simp
    | cons x l ih =>
      intro hn
      rw [List.nodup_cons] at hn
      rw [List.countP_cons, List.countP_cons, ih hn.2]
      by_cases e : x = i
      · subst e
        have h1 : (L.setIfInBounds x true).getD x false = true := by simp [Array.getD, hs, hi]
        rw [if_neg hn.1, h1, h', if_pos (by simp)]; simp
      · have h1 : (L.setIfInBounds i true).getD x false = L.getD x false := by
          have e' : ¬ i = x := fun h => e h.symm
          simp only [Array.getD, Array.size_setIfInBounds]
          split
          · rename_i hx
            show (L.setIfInBounds i true)[x]'_ = L[x]'_
            rw [Array.getElem_setIfInBounds (by simpa using hx), if_neg e']
          · rfl
        rw [h1]
        have h2 : (i ∈ x :: l) ↔ i ∈ l := by simp [Ne.symm e]
        simp only [h2]; omega
  unfold cnt
  rw [key _ List.nodup_range, if_pos (by simpa using hi)]
theorem cnt_full {n : Nat} {L : Array Bool} (h : ∀ i, i < n → L.getD i false = true) : cnt n L = n := by
  unfold cnt
  rw [List.countP_eq_length.2 (by intro i hi; exact h i (by simpa using hi)), List.length_range]
theorem cnt_lt {n : Nat} {L : Array Bool} {i : Nat} (hi : i < n) (h : L.getD i false = false) : cnt n L < n := by
  unfold cnt
  have h1 := List.countP_le_length (p := fun i => L.getD i false) (l := List.range n)
  have h2 : ¬ (List.range n).countP (fun i => L.getD i false) = (List.range n).length := fun e => by
    have := List.countP_eq_length.1 e i (by simpa using hi)
    simp [h] at this
  rw [List.length_range] at h1 h2
  omega

theorem regionOk_after {ops : Array Oper} (h : regionOk ops = true) {i : Nat} {o : Oper} (hi : ops[i]? = some o) : ∀ e ∈ o.after, e.on < i := by
  unfold regionOk at h
  rw [Bool.and_eq_true, List.all_eq_true] at h
  have hlt := (Array.getElem?_eq_some_iff.1 hi).1
  have := h.2 i (by simpa using hlt)
  rw [hi] at this
  simp only [Option.map_some, Option.getD_some, Array.all_eq_true'] at this
  intro e he
  simpa using this e he

structure RInv (ops : Array Oper) (Rl : World → World → Prop) (Ps : List (Value → World → Prop)) (J : Nat → World → Prop) (a : Act) (L : Array Bool) (b : Act) (w : World) (xs : List Value) : Prop where
  size : L.size = ops.size
  len : xs.length = ops.size
  act : b = fill a (ops.toList.map (·.dst)) xs
  j : J (cnt ops.size L) w
  facts : ∀ i v, L.getD i false = true → xs[i]? = some v → At Ps i v w
  old : ∀ i, i < ops.size → L.getD i false = false → xs[i]? = (origs a (ops.toList.map (·.dst)))[i]?
  closed : ∀ i o, ops[i]? = some o → L.getD i false = true → ∀ e ∈ o.after, Region.binds .any e = true → L.getD e.on false = true

theorem getD_ft {L : Array Bool} {i : Nat} (h : L.getD i true = false) : L.getD i false = false := by
  simp only [Array.getD] at h ⊢
  split at h
  · rename_i h2; rw [dif_pos h2]; exact h
  · cases h
theorem getD_tf {L : Array Bool} {i : Nat} (hi : i < L.size) (h : L.getD i false = false) : L.getD i true = false := by
  simp only [Array.getD] at h ⊢
  rw [dif_pos hi] at h ⊢; exact h
theorem getD_put {L : Array Bool} {i j : Nat} (hi : i < L.size) : (L.setIfInBounds i true).getD j false = (decide (j = i) || L.getD j false) := by
  simp only [Array.getD, Array.size_setIfInBounds]
  by_cases e : j = i
  · subst e; rw [dif_pos hi]; simp
  · have e' : ¬ i = j := fun h => e h.symm
    split
    · rename_i hx
      show (L.setIfInBounds i true)[j]'_ = _
      rw [Array.getElem_setIfInBounds (by simpa using hx), if_neg e']
      simp [e]
    · simp [e]

theorem wp_region_types {P : Program} {ops : Array Oper} {Q : Exit → Act → World → Prop} {id : Nat} {a : Act} {w : World} (hm : P.follows .mixedOrders = true) (hok : regionOk ops = true)
    (Rl : World → World → Prop) (Ps : List (Value → World → Prop)) (hst : ∀ p ∈ Ps, ∀ v w w', Rl w w' → p v w → p v w') (J : Nat → World → Prop)
    (hJ : J 0 { w with drawn := w.drawn + 1 })
    (step : ∀ i o, ops[i]? = some o → StepOk P ops Rl Ps J a i o)
    (done : ∀ (xs : List Value) (w' : World), xs.length = ops.size → (∀ i v, xs[i]? = some v → At Ps i v w') → J ops.size w' → Q .normal (fill a (ops.toList.map (·.dst)) xs) w') :
    (Code.region id ops true).wp P Q a w := by
  refine wp_region_any hm ?_
  have hd : apartDsts (ops.toList.map (·.dst)) = true := by unfold regionOk at hok; rw [Bool.and_eq_true] at hok; exact hok.1
  have hlist : ∀ (L : Array Bool), L.size = ops.size → Region.ready .any ops L = [] → ∀ i, i < ops.size → L.getD i false = true := by
    intro L hL hr i
    induction i using Nat.strongRecOn with
    | ind i ih =>
      intro hi
      cases hb : L.getD i false with
      | true => rfl
      | false =>
        exfalso
        have hm : i ∈ Region.ready .any ops L := by
          rw [mem_ready]
          exact ⟨getD_tf (by omega) hb, ops[i], Array.getElem?_eq_getElem hi, fun e he _ => by
            have hlt := regionOk_after hok (Array.getElem?_eq_getElem hi) e he
            exact ih e.on hlt (by omega)⟩
        rw [hr] at hm
        cases hm
  have main : ∀ (fuel : Nat) (L : Array Bool) (b : Act) (w' : World) (xs : List Value), fuel + cnt ops.size L = ops.size → RInv ops Rl Ps J a L b w' xs → wpAny P .any ops Q fuel L b w' := by
    intro fuel
    induction fuel with
    | zero =>
      intro L b w' xs hf I
      have hall : ∀ i, i < ops.size → L.getD i false = true := fun i hi => by
        cases hb : L.getD i false with
        | true => rfl
        | false => have := cnt_lt hi hb; omega
      refine ⟨?_, ?_⟩
      · cases hr : Region.ready .any ops L with
        | nil => rfl
        | cons i r =>
          have hi : i ∈ Region.ready .any ops L := by rw [hr]; simp
          rw [mem_ready] at hi
          obtain ⟨h0, o, ho, _⟩ := hi
          have := hall i (Array.getElem?_eq_some_iff.1 ho).1
          rw [getD_ft h0] at this
          cases this
      · rw [I.act]
        refine done xs w' I.len (fun i v hv => I.facts i v (hall i ?_) hv) (by have := I.j; rwa [cnt_full hall] at this)
        have := (List.getElem?_eq_some_iff.1 hv).1
        rw [I.len] at this; exact this
    | succ fuel ih =>
      intro L b w' xs hf I
      refine ⟨fun hr => ?_, fun i hi => ?_⟩
      · have hall := hlist L I.size hr
        rw [I.act]
        refine done xs w' I.len (fun i v hv => I.facts i v (hall i ?_) hv) (by have := I.j; rwa [cnt_full hall] at this)
        have := (List.getElem?_eq_some_iff.1 hv).1
        rw [I.len] at this; exact this
      · obtain ⟨h0, o, ho, hafter⟩ := mem_ready.1 hi
        have hlt := (Array.getElem?_eq_some_iff.1 ho).1
        refine sw_op ho ?_
        rw [I.act]
        refine step i o ho xs w' (cnt ops.size L) I.len (by have := cnt_lt hlt (getD_ft h0); exact this) I.j (fun hcov => ?_) (fun e he hb v hv => I.facts e.on v (hafter e he hb) hv) (fun j o' ho' hj => ?_) _ (fun v w'' h1 h2 h3 => ?_)
        · rw [← cnt_set hlt I.size h0]
          refine cnt_full fun j hj => ?_
          rw [getD_put (by rw [I.size]; exact hlt)]
          unfold covers at hcov
          rw [List.all_eq_true] at hcov
          have := hcov j (by simpa using hj)
          rw [Bool.or_eq_true, beq_iff_eq] at this
          rcases this with e | e
          · subst e; simp
          · rw [Array.any_eq_true'] at e
            obtain ⟨d, hd1, hd2⟩ := e
            rw [Bool.and_eq_true, beq_iff_eq] at hd2
            rw [← hd2.2, hafter d hd1 hd2.1, Bool.or_true]
        · refine I.old j (Array.getElem?_eq_some_iff.1 ho').1 ?_
          rcases hj with rfl | ⟨e, he, hb, hon⟩
          · exact getD_ft h0
          · cases hL : L.getD j false with
            | false => rfl
            | true =>
              have := I.closed j o' ho' hL e he hb
              rw [hon, getD_ft h0] at this
              cases this
        · have hds : (ops.toList.map (·.dst))[i]? = some o.dst := by simp [ho]
          rw [fill_put _ hd _ _ i _ _ (by simpa using I.len) hds]
          have hset : cnt ops.size (L.setIfInBounds i true) = cnt ops.size L + 1 := cnt_set hlt I.size h0
          refine ih _ _ _ (xs.set i v) (by omega) ⟨by simpa using I.size, by simpa using I.len, rfl, by rw [hset]; exact h3, ?_, ?_, ?_⟩
          · intro j u hj hu
            rw [getD_put (by rw [I.size]; exact hlt)] at hj
            rw [List.getElem?_set] at hu
            by_cases e : i = j
            · subst e
              rw [if_pos rfl, if_pos (by rw [I.len]; exact hlt)] at hu
              cases hu
              exact h1
            · rw [if_neg e] at hu
              have hj' : L.getD j false = true := by
                rw [Bool.or_eq_true, decide_eq_true_eq] at hj
                exact hj.resolve_left fun h => e h.symm
              intro p hp
              exact hst p (List.mem_of_getElem? hp) _ _ _ h2 (I.facts j u hj' hu p hp)
          · intro j hj hL
            rw [getD_put (by rw [I.size]; exact hlt), Bool.or_eq_false_iff, decide_eq_false_iff_not] at hL
            rw [List.getElem?_set, if_neg (fun h => hL.1 h.symm)]
            exact I.old j hj hL.2
          · intro j o' ho' hL e he hb
            rw [getD_put (by rw [I.size]; exact hlt), Bool.or_eq_true] at hL ⊢
            rcases hL with hL | hL
            · have : j = i := by simpa using hL
              subst this
              rw [ho] at ho'
              cases ho'
              exact .inr (hafter e he hb)
            · exact .inr (I.closed j o' ho' hL e he hb)
  refine main ops.size _ _ _ (origs a (ops.toList.map (·.dst))) ?_ ⟨by simp, by simp [origs], (fill_self _ a).symm, ?_, ?_, fun i _ _ => rfl, ?_⟩
  all_goals
    have hz : ∀ i, (Array.replicate ops.size false).getD i false = false := by intro i; simp [Array.getD]
    have hc : cnt ops.size (Array.replicate ops.size false) = 0 := by
      unfold cnt
      rw [List.countP_eq_zero]
      intro i _; simp only [hz i]; simp
  · rw [hc]; omega
  · rw [hc]; exact hJ
  · intro i v h; rw [hz i] at h; cases h
  · intro i o _ h; rw [hz i] at h; cases h

end Go.Proofs.Ytdnjpjiepnhhhaa
