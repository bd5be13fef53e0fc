/- Macro: its shape, and the law's own helpers. (Made by rec.py.) -/
import Derived.Test.YtigbaeokccknaaaTokS
import Derived.Test.YtigbaeokccknaaaRecK
import Derived.Test.YtigbaeokccknaaaLive
import Derived.Test.YtigbaeokccknaaaOpen
import Derived.Test.YtigbaeokccknaaaFill
import Derived.Test.YtigbaeokccknaaaRec0
import Derived.Test.YtigbaeokccknaaaTokB
import Derived.Test.YtigbaeokccknaaaMac0
import Derived.Deep.RegionHeld3
import Derived.Deep.QuietTactic
import Derived.BigQuiet
import Derived.Outline
import Derived.StillTailTactics
import Derived.Deep.Fields
import Derived.ChangeSame
namespace Go.Proofs.Ytigbaeokccknaaa
open Go.RowKit Go.ChangeShapes Go.WideShapes Go.Deep

def sMacro : Shape DMacro where
  m := 4
  R w cs d fp := ∃ (h2 : Value) (h3 : Value) (fp2 : List Nat) (fp3 : List Nat), cs = [.string d.name, .bool d.function, h2, h3] ∧ okStr d.name ∧ (sSlice sStr).R w [h2] d.params fp2 ∧ (sSlice sTok).R w [h3] d.body fp3 ∧ fp = fp2 ++ fp3
  frame := by
    rintro w w' cs d fp hf ⟨h2, h3, fp2, fp3, rfl, k0, K2, K3, rfl⟩
    exact ⟨h2, h3, fp2, fp3, rfl, k0, (sSlice sStr).frame (fun b hb => hf b (by simp [hb])) K2, (sSlice sTok).frame (fun b hb => hf b (by simp [hb])) K3, rfl⟩
  lt := by
    rintro w cs d fp ⟨h2, h3, fp2, fp3, rfl, k0, K2, K3, rfl⟩ b hb
    rcases List.mem_append.1 hb with hb | hb
    · exact (sSlice sStr).lt K2 b hb
    · exact (sSlice sTok).lt K3 b hb
def mkMacro (k : Int) (x : DMacro) : DMacro := ⟨mtext (k), (k + 1) % 3 == 0, marks mtext (k + 1 + 1) x.params.length, mkTokenS (k + 1 + 1 + (x.params.length : Int)) x.body⟩
def cntMacro (x : DMacro) : Nat := 2 + x.params.length + cntTokenS x.body
def mkMacroS (k : Int) (l : List DMacro) : List DMacro := mkAll mkMacro cntMacro k l
def cntMacroS (l : List DMacro) : Nat := cntAll cntMacro l
def wtMacro (x : DMacro) : Nat := x.name.size + wtStringS x.params + wtTokenS x.body
def wtMacroS (l : List DMacro) : Nat := l.length + (l.map wtMacro).sum

section
variable {H : Type} {enc : TypeId × Value → H} {P : Program} {w : World} {base : Nat} {spare : Nat → Bool} {held : Bool}
theorem opensP_Macro {t : TypeId} {f0 f1 f2 f3 : Field} (hs : P.underlying t = some (.struct #[f0, f1, f2, f3])) (hone : oneCellFields P #[f0, f1, f2, f3] = true) (hC : P.cellsOf t = 4) (h0 : Opens enc P w base spare held f0.type sStr) (h1 : Opens enc P w base spare held f1.type sBool) (h2 : Opens enc P w base spare held f2.type (sSlice sStr)) (h3 : Opens enc P w base spare held f3.type (sSlice sTok)) : Opens enc P w base spare held t sMacro := by
  intro fuel cs x h
  obtain ⟨xs, n, _, hx, hcl, hlen, hg⟩ := DataW.trod_struct hs h
  rw [hC] at hcl
  match cs, hcl with
  | [c0, c1, c2, c3], _ =>
    obtain ⟨o0, k0⟩ := hone_of hone 0 f0 rfl
    have g0 := hg 0 f0 rfl
    rw [o0, k0] at g0
    obtain ⟨o1, k1⟩ := hone_of hone 1 f1 rfl
    have g1 := hg 1 f1 rfl
    rw [o1, k1] at g1
    obtain ⟨o2, k2⟩ := hone_of hone 2 f2 rfl
    have g2 := hg 2 f2 rfl
    rw [o2, k2] at g2
    obtain ⟨o3, k3⟩ := hone_of hone 3 f3 rfl
    have g3 := hg 3 f3 rfl
    rw [o3, k3] at g3
    match xs, hlen with
    | [y0, y1, y2, y3], _ =>
      obtain ⟨d0, p0, hc0, hok0, rfl⟩ := h0 n _ _ g0
      obtain ⟨d1, p1, hc1, hok1, rfl⟩ := h1 n _ _ g1
      obtain ⟨d2, p2, hc2⟩ := h2 n _ _ g2
      obtain ⟨d3, p3, hc3⟩ := h3 n _ _ g3
      simp at hc0 hc1 hc2 hc3
      subst hc0
      subst hc1
      exact ⟨⟨d0, d1, d2, d3⟩, p2 ++ p3, c2, c3, p2, p3, rfl, hok0, hc2, hc3, rfl⟩
end
section
variable {H : Type} {enc : TypeId × Value → H} {w : World} {base : Nat} {spare : Nat → Bool} {held : Bool}
theorem opens_Macro : Opens enc Try.prog w base spare held 43 sMacro :=
  opensP_Macro Try.underlying43 (by kernel_rfl) (by kernel_rfl) (opens_str Try.underlying9) (opens_bool Try.underlying4) (opens_slice Try.underlying23 (by kernel_rfl) (by decide) (opens_str Try.underlying9)) (opens_slice Try.underlying41 (by kernel_rfl) (by decide) opens_Token)
end
abbrev zero_Macro : Value := .agg #[.string ByteArray.empty, .bool false, .slice none 0 0, .slice none 0 0]

set_option maxHeartbeats 8000000 in
set_option maxRecDepth 100000 in
theorem eqMacro_same (cs1 cs2 : List Value) (x : DMacro) (fp1 fp2 : List Nat) (w : World) (H1 : sMacro.R w cs1 x fp1) (H2 : sMacro.R w cs2 x fp2) :
    Calls Try.prog 25 #[.agg cs1.toArray, .agg cs2.toArray] w fun e w' => e = .returned (.bool true) ∧ Below w.heap.size w w' := by
  obtain ⟨h2, h3, fpa2, fpa3, rfl, -, K2, K3, rfl⟩ := H1
  obtain ⟨g2, g3, fpb2, fpb3, rfl, -, L2, L3, rfl⟩ := H2
  have b0 := alloc_below' w (.cells #[.string x.name, .bool x.function, h2, h3] 26)
  have b1 := b0.trans ((alloc_below' (w.alloc (.cells #[.string x.name, .bool x.function, h2, h3] 26)) (.cells #[.string x.name, .bool x.function, g2, g3] 26)).mono b0.size)
  have HC2 : Hid (∀ W, Below w.heap.size w W → Calls Try.prog 59 #[h2, g2] W fun e w' => e = .returned (.bool true) ∧ Below W.heap.size W w') := fun W hb => eqStringS_same h2 g2 x.params _ _ W ((sSlice sStr).below K2 hb) ((sSlice sStr).below L2 hb)
  have HC3 : Hid (∀ W, Below w.heap.size w W → Calls Try.prog 28 #[h3, g3] W fun e w' => e = .returned (.bool true) ∧ Below W.heap.size W w') := fun W hb => eqTokenS_same h3 g3 x.body _ _ W ((sSlice sTok).below K3 hb) ((sSlice sTok).below L3 hb)
  have HX := Lib.hid (alloc2_blk w #[.string x.name, .bool x.function, h2, h3] #[.string x.name, .bool x.function, g2, g3] 26 26)
  have e0 := bytes_beq (rfl : x.name = x.name)
  have e1 : (x.function != x.function) = false := by simp
  go_enter Try.func25, Try.ntmps25
  go_wp2_with fail
  refine (HC2.out _ b1).mono ?_
  rintro e w2 ⟨rfl, c2⟩
  have d2 := b1.trans (c2.mono b1.size)
  replace HX := Lib.hid (And.intro ((c2.block _ (Array.getElem?_eq_some_iff.1 HX.out.1).1).trans HX.out.1) ((c2.block _ (Array.getElem?_eq_some_iff.1 HX.out.2).1).trans HX.out.2))
  have qa3 : w2.cell? ⟨w.heap.size, 3, none⟩ = some (h3) := cell_of_row _ _ 3 _ _ _ HX.out.1
  have qb3 : w2.cell? ⟨w.heap.size + 1, 3, none⟩ = some (g3) := cell_of_row _ _ 3 _ _ _ HX.out.2
  clear c2
  go_wp2_with fail
  refine (HC3.out _ d2).mono ?_
  rintro e w3 ⟨rfl, c3⟩
  have d3 := d2.trans (c3.mono d2.size)
  go_wp2
  go_ret
  exact ⟨rfl, d3⟩

set_option maxHeartbeats 8000000 in
set_option maxRecDepth 100000 in
theorem szMacro (cs : List Value) (x : DMacro) (fp : List Nat) (w : World) (B : Int) (h0 : 0 ≤ B) (h1 : B ≤ 1048576) (H : sMacro.R w cs x fp) :
    Calls Try.prog 23 #[.agg cs.toArray, .int .i64 B] w fun e w' => ∃ r : Int, e = .returned (.int .i64 r) ∧ SzR B r (wtMacro x) ∧ Below w.heap.size w w' := by
  obtain ⟨v2, v3, fp2, fp3, rfl, k0, K2, K3, rfl⟩ := H
  unfold okStr maxLen at k0
  have b0 := alloc_below' w (.cells #[.string x.name, .bool x.function, v2, v3] 43)
  have HC2 : Hid (∀ W r, Below w.heap.size w W → 0 ≤ r → r ≤ 1048576 → Calls Try.prog 57 #[v2, .int .i64 r] W fun e w' => ∃ r' : Int, e = .returned (.int .i64 r') ∧ SzR r r' (wtStringS x.params) ∧ Below W.heap.size W w') := fun W r hb hr0 hr1 => (szStringS v2 x.params _ W r hr0 hr1 ((sSlice sStr).below K2 hb)).mono fun e w' ⟨r, a, b, c⟩ => ⟨r, a, b, c ▸ Below.refl _ _⟩
  have HC3 : Hid (∀ W r, Below w.heap.size w W → 0 ≤ r → r ≤ 1048576 → Calls Try.prog 26 #[v3, .int .i64 r] W fun e w' => ∃ r' : Int, e = .returned (.int .i64 r') ∧ SzR r r' (wtTokenS x.body) ∧ Below W.heap.size W w') := fun W r hb hr0 hr1 => (szTokenS v3 x.body _ W r hr0 hr1 ((sSlice sTok).below K3 hb)).mono fun e w' ⟨r, a, b, c⟩ => ⟨r, a, b, c⟩
  have HX := Lib.hid (heap_alloc_new w (.cells #[.string x.name, .bool x.function, v2, v3] 43))
  clear K2
  clear K3
  go_enter Try.func23, Try.ntmps23
  by_cases ht0 : B < x.name.size
  · have HN : Hid (SzR B (-1) (wtMacro x)) := SzR.no (by unfold wtMacro; omega)
    go_wp2
    go_ret
    exact ⟨-1, rfl, HN.out, b0⟩
  go_wp2_with fail
  refine (HC2.out _ _ b0 (by omega) (by omega)).mono ?_
  rintro e u2 ⟨r2, rfl, hr2, c2⟩
  have e2 := b0.trans (c2.mono b0.size)
  replace HX := Lib.hid ((c2.block _ (Array.getElem?_eq_some_iff.1 HX.out).1).trans HX.out)
  have q2_3 : u2.cell? ⟨w.heap.size, 3, none⟩ = some v3 := cell_of_row _ _ 3 _ _ _ HX.out
  clear c2
  by_cases hn2 : r2 < 0
  · have HN : Hid (SzR B (-1) (wtMacro x)) := by
      refine SzR.no ?_
      unfold SzR at hr2; unfold wtMacro; split at hr2 <;> omega
    go_wp2
    go_ret
    exact ⟨-1, rfl, HN.out, e2⟩
  have hg2 := hr2.good hn2
  have hl2 := hr2.le (by omega)
  clear hr2
  go_wp2_with fail
  refine (HC3.out _ _ e2 (by omega) (by omega)).mono ?_
  rintro e u3 ⟨r3, rfl, hr3, c3⟩
  have e3 := e2.trans (c3.mono e2.size)
  clear c3
  by_cases hn3 : r3 < 0
  · have HN : Hid (SzR B (-1) (wtMacro x)) := by
      refine SzR.no ?_
      unfold SzR at hr3; unfold wtMacro; split at hr3 <;> omega
    go_wp2
    go_ret
    exact ⟨-1, rfl, HN.out, e3⟩
  have hg3 := hr3.good hn3
  have hl3 := hr3.le (by omega)
  clear hr3
  have HN : Hid (SzR B r3 (wtMacro x)) := SzR.yes (by unfold wtMacro; omega) (by unfold wtMacro; omega)
  clear hg2 hg3
  go_wp2
  go_ret
  exact ⟨r3, rfl, HN.out, e3⟩

set_option maxHeartbeats 8000000 in
set_option maxRecDepth 100000 in
theorem toMacro (cs : List Value) (x : DMacro) (fp : List Nat) (w : World) (hW : wtMacro x ≤ 1048576) (H : sMacro.R w cs x fp) :
    Calls Try.prog 24 #[.agg cs.toArray] w (MadeC sMacro x w) := by
  obtain ⟨v2, v3, fp2, fp3, rfl, k0, K2, K3, rfl⟩ := H
  have HC2 : Hid (∀ W, Below w.heap.size w W → Calls Try.prog 58 #[v2] W (Made (sSlice sStr) x.params W)) := fun W hb => toStringS v2 x.params _ W (by unfold wtMacro at hW; omega) ((sSlice sStr).below K2 hb)
  have HC3 : Hid (∀ W, Below w.heap.size w W → Calls Try.prog 27 #[v3] W (Made (sSlice sTok) x.body W)) := fun W hb => toTokenS v3 x.body _ W (by unfold wtMacro at hW; omega) ((sSlice sTok).below K3 hb)
  clear K2
  clear K3
  go_enter Try.func24, Try.ntmps24
  have b3 := below3 w #[.string x.name, .bool x.function, v2, v3] #[.string ⟨#[]⟩, .bool false, .slice none 0 0, .slice none 0 0] #[.string x.name, .bool x.function, .slice none 0 0, .slice none 0 0] 43 26 26
  have HA := Lib.hid (alloc3_blk0 w #[.string x.name, .bool x.function, v2, v3] #[.string ⟨#[]⟩, .bool false, .slice none 0 0, .slice none 0 0] #[.string x.name, .bool x.function, .slice none 0 0, .slice none 0 0] 43 26 26)
  obtain ⟨g1_, g2_, g3_⟩ := alloc3_blk w #[.string x.name, .bool x.function, v2, v3] #[.string ⟨#[]⟩, .bool false, .slice none 0 0, .slice none 0 0] #[.string x.name, .bool x.function, .slice none 0 0, .slice none 0 0] 43 26 26
  have HG := Lib.hid (And.intro g1_ g2_)
  have HS := Lib.hid g3_
  clear g1_ g2_ g3_
  go_wp2_with fail
  refine (HC2.out _ b3).mono ?_
  rintro e u2 ⟨h2, fp2, rfl, R2, O2, c2⟩
  have lo2 : ∀ b ∈ fp2, w.heap.size + 3 ≤ b := fun b hb => by have := (O2.2 b hb).1; rw [HS.out] at this; omega
  replace HA := Lib.hid ((c2.block _ (Array.getElem?_eq_some_iff.1 HA.out).1).trans HA.out)
  replace HG := Lib.hid (And.intro ((c2.block _ (Array.getElem?_eq_some_iff.1 HG.out.1).1).trans HG.out.1) ((c2.block _ (Array.getElem?_eq_some_iff.1 HG.out.2).1).trans HG.out.2))
  have e2 := b3.trans (c2.mono b3.size)
  clear c2
  obtain ⟨a2, cap2, rfl, -⟩ := open_rows R2
  have hn1_2 : w.heap.size + 1 ∉ fp2 := fun hx => by have := lo2 _ hx; omega
  have hn2_2 : w.heap.size + 1 + 1 ∉ fp2 := fun hx => by have := lo2 _ hx; omega
  have d2 : u2.cell? ⟨w.heap.size + 1 + 1, 2, none⟩ = some (.slice none 0 0) := cell_of_row _ _ 2 _ _ _ HG.out.2
  have f2 : u2.frozen? ⟨w.heap.size + 1 + 1, 2, none⟩ = false := frozen_of_row _ _ 2 _ _ HG.out.2
  replace HA := Lib.hid (blk_other HA.out (by omega : w.heap.size ≠ w.heap.size + 1 + 1) 2 (.slice a2 x.params.length cap2))
  replace HG := Lib.hid (And.intro (blk_other HG.out.1 (by omega : w.heap.size + 1 ≠ w.heap.size + 1 + 1) 2 (.slice a2 x.params.length cap2)) (blk_set HG.out.2 2 (.slice a2 x.params.length cap2)))
  replace R2 := Lib.hid ((sSlice sStr).setB R2 hn2_2 2 (.slice a2 x.params.length cap2))
  replace O2 := Lib.hid (O2.setCell ⟨w.heap.size + 1 + 1, 2, none⟩ (.slice a2 x.params.length cap2))
  replace e2 := e2.setCell (p := ⟨w.heap.size + 1 + 1, 2, none⟩) (by simp; omega) (.slice a2 x.params.length cap2)
  have U2 : Hid (∀ b ∈ fp2, b < (u2.setCell ⟨w.heap.size + 1 + 1, 2, none⟩ (.slice a2 x.params.length cap2)).heap.size) := fun b hb => (O2.out.lt b hb)
  have Z2 : Hid (w.heap.size + 1 + 1 < (u2.setCell ⟨w.heap.size + 1 + 1, 2, none⟩ (.slice a2 x.params.length cap2)).heap.size) := (Array.getElem?_eq_some_iff.1 HG.out.2).1
  have p3 : (u2.setCell ⟨w.heap.size + 1 + 1, 2, none⟩ (.slice a2 x.params.length cap2)).cell? ⟨w.heap.size, 3, none⟩ = some v3 := cell_of_row _ _ 3 _ _ _ HA.out
  go_wp2_with fail
  refine (HC3.out _ e2).mono ?_
  rintro e u3 ⟨h3, fp3, rfl, R3, O3, c3⟩
  have lo3 := Lib.hid (show ∀ b ∈ fp3, _ ≤ b from fun b hb => (O3.2 b hb).1)
  replace HA := Lib.hid ((c3.block _ (Array.getElem?_eq_some_iff.1 HA.out).1).trans HA.out)
  replace HG := Lib.hid (And.intro ((c3.block _ (Array.getElem?_eq_some_iff.1 HG.out.1).1).trans HG.out.1) ((c3.block _ (Array.getElem?_eq_some_iff.1 HG.out.2).1).trans HG.out.2))
  have e3 := e2.trans (c3.mono e2.size)
  replace R2 := Lib.hid ((sSlice sStr).below R2.out c3)
  replace O2 := Lib.hid (O2.out.grow c3)
  have ap3 : Hid (∀ b ∈ fp2, b ∉ fp3) := fun b h1 h2 => by have := lo3.out b h2; have := U2.out b h1; omega
  clear c3
  obtain ⟨a3, cap3, rfl, -⟩ := open_rows R3
  have hn1_3 : w.heap.size + 1 ∉ fp3 := fun hx => by have := lo3.out _ hx; have := Z2.out; omega
  have hn2_3 : w.heap.size + 1 + 1 ∉ fp3 := fun hx => by have := lo3.out _ hx; have := Z2.out; omega
  have d3 : u3.cell? ⟨w.heap.size + 1 + 1, 3, none⟩ = some (.slice none 0 0) := cell_of_row _ _ 3 _ _ _ HG.out.2
  have f3 : u3.frozen? ⟨w.heap.size + 1 + 1, 3, none⟩ = false := frozen_of_row _ _ 3 _ _ HG.out.2
  replace HA := Lib.hid (blk_other HA.out (by omega : w.heap.size ≠ w.heap.size + 1 + 1) 3 (.slice a3 x.body.length cap3))
  replace HG := Lib.hid (And.intro (blk_other HG.out.1 (by omega : w.heap.size + 1 ≠ w.heap.size + 1 + 1) 3 (.slice a3 x.body.length cap3)) (blk_set HG.out.2 3 (.slice a3 x.body.length cap3)))
  replace R3 := Lib.hid ((sSlice sTok).setB R3 hn2_3 3 (.slice a3 x.body.length cap3))
  replace O3 := Lib.hid (O3.setCell ⟨w.heap.size + 1 + 1, 3, none⟩ (.slice a3 x.body.length cap3))
  replace R2 := Lib.hid ((sSlice sStr).setB R2.out hn2_2 3 (.slice a3 x.body.length cap3))
  replace O2 := Lib.hid (O2.out.setCell ⟨w.heap.size + 1 + 1, 3, none⟩ (.slice a3 x.body.length cap3))
  replace e3 := e3.setCell (p := ⟨w.heap.size + 1 + 1, 3, none⟩) (by simp; omega) (.slice a3 x.body.length cap3)
  have U3 : Hid (∀ b ∈ fp3, b < (u3.setCell ⟨w.heap.size + 1 + 1, 3, none⟩ (.slice a3 x.body.length cap3)).heap.size) := fun b hb => (O3.out.lt b hb)
  have Z3 : Hid (w.heap.size + 1 + 1 < (u3.setCell ⟨w.heap.size + 1 + 1, 3, none⟩ (.slice a3 x.body.length cap3)).heap.size) := (Array.getElem?_eq_some_iff.1 HG.out.2).1
  -- the copy

  have y0 : (u3.setCell ⟨w.heap.size + 1 + 1, 3, none⟩ (.slice a3 x.body.length cap3)).cell? ⟨w.heap.size + 1, 0, none⟩ = some (.string ⟨#[]⟩) := cell_of_row _ _ 0 _ _ _ HG.out.1
  have z0 : (u3.setCell ⟨w.heap.size + 1 + 1, 3, none⟩ (.slice a3 x.body.length cap3)).cell? ⟨w.heap.size + 1 + 1, 0, none⟩ = some (.string x.name) := cell_of_row _ _ 0 _ _ _ HG.out.2
  have w0 : (u3.setCell ⟨w.heap.size + 1 + 1, 3, none⟩ (.slice a3 x.body.length cap3)).frozen? ⟨w.heap.size + 1, 0, none⟩ = false := frozen_of_row _ _ 0 _ _ HG.out.1
  have y1 : (u3.setCell ⟨w.heap.size + 1 + 1, 3, none⟩ (.slice a3 x.body.length cap3)).cell? ⟨w.heap.size + 1, 1, none⟩ = some (.bool false) := cell_of_row _ _ 1 _ _ _ HG.out.1
  have z1 : (u3.setCell ⟨w.heap.size + 1 + 1, 3, none⟩ (.slice a3 x.body.length cap3)).cell? ⟨w.heap.size + 1 + 1, 1, none⟩ = some (.bool x.function) := cell_of_row _ _ 1 _ _ _ HG.out.2
  have w1 : (u3.setCell ⟨w.heap.size + 1 + 1, 3, none⟩ (.slice a3 x.body.length cap3)).frozen? ⟨w.heap.size + 1, 1, none⟩ = false := frozen_of_row _ _ 1 _ _ HG.out.1
  have y2 : (u3.setCell ⟨w.heap.size + 1 + 1, 3, none⟩ (.slice a3 x.body.length cap3)).cell? ⟨w.heap.size + 1, 2, none⟩ = some (.slice none 0 0) := cell_of_row _ _ 2 _ _ _ HG.out.1
  have z2 : (u3.setCell ⟨w.heap.size + 1 + 1, 3, none⟩ (.slice a3 x.body.length cap3)).cell? ⟨w.heap.size + 1 + 1, 2, none⟩ = some (.slice a2 x.params.length cap2) := cell_of_row _ _ 2 _ _ _ HG.out.2
  have w2 : (u3.setCell ⟨w.heap.size + 1 + 1, 3, none⟩ (.slice a3 x.body.length cap3)).frozen? ⟨w.heap.size + 1, 2, none⟩ = false := frozen_of_row _ _ 2 _ _ HG.out.1
  have y3 : (u3.setCell ⟨w.heap.size + 1 + 1, 3, none⟩ (.slice a3 x.body.length cap3)).cell? ⟨w.heap.size + 1, 3, none⟩ = some (.slice none 0 0) := cell_of_row _ _ 3 _ _ _ HG.out.1
  have z3 : (u3.setCell ⟨w.heap.size + 1 + 1, 3, none⟩ (.slice a3 x.body.length cap3)).cell? ⟨w.heap.size + 1 + 1, 3, none⟩ = some (.slice a3 x.body.length cap3) := cell_of_row _ _ 3 _ _ _ HG.out.2
  have w3 : (u3.setCell ⟨w.heap.size + 1 + 1, 3, none⟩ (.slice a3 x.body.length cap3)).frozen? ⟨w.heap.size + 1, 3, none⟩ = false := frozen_of_row _ _ 3 _ _ HG.out.1
  have RF2 := Lib.hid ((sSlice sStr).setB ((sSlice sStr).setB ((sSlice sStr).setB ((sSlice sStr).setB (R2.out) hn1_2 0 (.string x.name)) hn1_2 1 (.bool x.function)) hn1_2 2 (.slice a2 x.params.length cap2)) hn1_2 3 (.slice a3 x.body.length cap3))
  have OF2 := Lib.hid (((((O2.out).setCell ⟨w.heap.size + 1, 0, none⟩ (.string x.name)).setCell ⟨w.heap.size + 1, 1, none⟩ (.bool x.function)).setCell ⟨w.heap.size + 1, 2, none⟩ (.slice a2 x.params.length cap2)).setCell ⟨w.heap.size + 1, 3, none⟩ (.slice a3 x.body.length cap3))
  have RF3 := Lib.hid ((sSlice sTok).setB ((sSlice sTok).setB ((sSlice sTok).setB ((sSlice sTok).setB (R3.out) hn1_3 0 (.string x.name)) hn1_3 1 (.bool x.function)) hn1_3 2 (.slice a2 x.params.length cap2)) hn1_3 3 (.slice a3 x.body.length cap3))
  have OF3 := Lib.hid (((((O3.out).setCell ⟨w.heap.size + 1, 0, none⟩ (.string x.name)).setCell ⟨w.heap.size + 1, 1, none⟩ (.bool x.function)).setCell ⟨w.heap.size + 1, 2, none⟩ (.slice a2 x.params.length cap2)).setCell ⟨w.heap.size + 1, 3, none⟩ (.slice a3 x.body.length cap3))
  have BF := Lib.hid (((((e3).setCell (p := ⟨w.heap.size + 1, 0, none⟩) (by simp) (.string x.name)).setCell (p := ⟨w.heap.size + 1, 1, none⟩) (by simp) (.bool x.function)).setCell (p := ⟨w.heap.size + 1, 2, none⟩) (by simp) (.slice a2 x.params.length cap2)).setCell (p := ⟨w.heap.size + 1, 3, none⟩) (by simp) (.slice a3 x.body.length cap3))
  have HF := Lib.hid (blk_set (blk_set (blk_set (blk_set (HG.out.1) 0 (.string x.name)) 1 (.bool x.function)) 2 (.slice a2 x.params.length cap2)) 3 (.slice a3 x.body.length cap3))
  clear HG HA
  go_wp2
  refine bodyPost_ret (results_cell_row rfl _ _ (w.heap.size + 1) _ _ _ _ rfl HF.out Try.underlying26 rfl (by kernel_rfl)) rfl ?_
  exact ⟨[.string x.name, .bool x.function, .slice a2 x.params.length cap2, .slice a3 x.body.length cap3], fp2 ++ fp3, rfl, ⟨_, _, fp2, fp3, rfl, k0, RF2.out, RF3.out, rfl⟩, Own.app (OF2.out.lower (by rw [HS.out]; omega)) (OF3.out.lower (by have := Z2.out; omega)) ap3.out, BF.out⟩

def cntVMacro (x : DMacro) : Nat := x.params.length + cntTokenS x.body
def mkVMacro (k : Int) (x : DMacro) : DMacro := ⟨x.name, x.function, (marks mtext (k) x.params.length), (mkTokenS (k + (x.params.length : Int)) x.body)⟩
end Go.Proofs.Ytigbaeokccknaaa
