/- Texts that the proof of U stands on, in one file. -/
import Derived.Test.YtflbdanlcpojbaaZU3
import Derived.Test.YtflbdanlcpojbaaZU2
import Derived.Test.YtflbdanlcpojbaaZU4
import Derived.Test.YtflbdanlcpojbaaZU5
import Derived.Deep.RegionHeld3
import Derived.Deep.QuietTactic
import Derived.BigQuiet
import Derived.Outline
import Derived.StillTailTactics
import Derived.Deep.Fields
import Derived.ChangeSame
set_option linter.unusedVariables false
set_option linter.unusedSimpArgs false
/- What the made texts of structs lean on. -/
namespace Go.Proofs.Ytflbdanlcpojbaa
open Go.RowKit

/-- A struct that is made: its cells. -/
def MadeC {α : Type} (S : Shape α) (d : α) (w : World) (e : Ending) (w' : World) : Prop :=
  ∃ cs fp, e = .returned (.agg cs.toArray) ∧ S.R w' cs d fp ∧ Own w' w.heap.size fp ∧ Below w.heap.size w w'
/-- Marks in what a struct by value leads to. -/
def MarkedC {α : Type} (S : Shape α) (cs : List Value) (d : α) (fp : List Nat) (lo : Nat) (r : Int) (w : World) (e : Ending) (w' : World) : Prop :=
  e = .returned (.int .i64 r) ∧ S.R w' cs d fp ∧ Own w' lo fp ∧ Kept fp w w'
theorem alloc3_blk0 (w : World) (c0 c1 c2 : Array Value) (t0 t1 t2 : TypeId) :
    (((w.alloc (.cells c0 t0)).alloc (.cells c1 t1)).alloc (.cells c2 t2)).heap[w.heap.size]? = some (.cells c0 t0 (0, 0)) := by
  show (((w.heap.push _).push _).push _)[_]? = _
  rw [Array.getElem?_push, if_neg (by simp; omega), Array.getElem?_push, if_neg (by simp), Array.getElem?_push, if_pos rfl]
theorem size_setCell (w : World) (p : Addr) (v : Value) : (w.setCell p v).heap.size = w.heap.size := by simp [World.setCell]

end Go.Proofs.Ytflbdanlcpojbaa

/- Tokens as arguments of a law: their size, their copy. -/
namespace Go.Proofs.Ytflbdanlcpojbaa
open Go.RowKit

def wtToken (x : Tok) : Nat := x.text.size + wtStringS x.hidden

set_option maxHeartbeats 1000000 in
theorem szToken (cs : List Value) (x : Tok) (fp : List Nat) (w : World) (B : Int) (h0 : 0 ≤ B) (h1 : B ≤ 1048576) (H : sTok.R w cs x fp) :
    Calls Try.prog 67 #[.agg cs.toArray, .int .i64 B] w fun e w' => ∃ r : Int, e = .returned (.int .i64 r) ∧ SzR B r (wtToken x) ∧ Below w.heap.size w w' := by
  obtain ⟨h, rfl, _, hok, K⟩ := H
  unfold okStr maxLen at hok
  have b0 := alloc_below' w (.cells #[.int .i64 x.kind, .string x.text, .bool x.spaced, h] 94)
  by_cases ht : B < x.text.size
  · have HN : Hid (SzR B (-1) (wtToken x)) := SzR.no (by unfold wtToken; omega)
    go_enter Try.func67, Try.ntmps67
    go_wp2
    go_ret
    exact ⟨-1, rfl, HN.out, b0⟩
  · have HC : Hid (∀ W, Below w.heap.size w W → Calls Try.prog 37 #[h, .int .i64 (B - x.text.size)] W fun e w' => ∃ r : Int, e = .returned (.int .i64 r) ∧ SzR (B - x.text.size) r (wtStringS x.hidden) ∧ W = w') := fun W hb => szStringS h x.hidden fp W (B - x.text.size) (by omega) (by omega) ((sSlice sStr).below K hb)
    go_enter Try.func67, Try.ntmps67
    go_wp2_with fail
    refine (HC.out _ b0).mono ?_
    rintro e w1 ⟨r, rfl, hr, rfl⟩
    by_cases hn : r < 0
    · have HN : Hid (SzR B (-1) (wtToken x)) := by
        refine SzR.no ?_
        unfold SzR at hr; unfold wtToken; split at hr <;> omega
      go_wp2
      go_ret
      exact ⟨-1, rfl, HN.out, b0⟩
    · have hg := hr.good hn
      have hl := hr.le (by omega)
      have HN : Hid (SzR B r (wtToken x)) := SzR.yes (by unfold wtToken; omega) (by unfold wtToken; omega)
      clear hg hr
      go_wp2
      go_ret
      exact ⟨r, rfl, HN.out, b0⟩

set_option maxHeartbeats 2000000 in
theorem toToken (cs : List Value) (x : Tok) (fp : List Nat) (w : World) (hW : wtToken x ≤ 1048576) (H : sTok.R w cs x fp) :
    Calls Try.prog 68 #[.agg cs.toArray] w (MadeC sTok x w) := by
  obtain ⟨h, rfl, hk, hok, K⟩ := H
  have hW' : wtStringS x.hidden ≤ 1048576 := by unfold wtToken at hW; omega
  have HC : Hid (∀ W, Below w.heap.size w W → Calls Try.prog 39 #[h] W (Made (sSlice sStr) x.hidden W)) := fun W hb => toStringS h x.hidden fp W hW' ((sSlice sStr).below K hb)
  go_enter Try.func68, Try.ntmps68
  have b3 := below3 w #[.int .i64 x.kind, .string x.text, .bool x.spaced, h] #[.int .i64 0, .string ⟨#[]⟩, .bool false, .slice none 0 0] #[.int .i64 x.kind, .string x.text, .bool x.spaced, .slice none 0 0] 94 35 35
  obtain ⟨g1, g2, g3⟩ := alloc3_blk w #[.int .i64 x.kind, .string x.text, .bool x.spaced, h] #[.int .i64 0, .string ⟨#[]⟩, .bool false, .slice none 0 0] #[.int .i64 x.kind, .string x.text, .bool x.spaced, .slice none 0 0] 94 35 35
  have HG := Lib.hid (And.intro g1 (And.intro g2 g3))
  clear g1 g2 g3
  go_wp2_with fail
  refine (HC.out _ b3).mono ?_
  rintro e w1 ⟨h1, fp1, rfl, R1, O1, hb1⟩
  have HG1 : Hid (w1.heap[w.heap.size + 1]? = some (.cells #[.int .i64 0, .string ⟨#[]⟩, .bool false, .slice none 0 0] 35 (0, 0)) ∧ w1.heap[w.heap.size + 1 + 1]? = some (.cells #[.int .i64 x.kind, .string x.text, .bool x.spaced, .slice none 0 0] 35 (0, 0))) :=
    ⟨(hb1.block _ (by rw [HG.out.2.2]; omega)).trans HG.out.1, (hb1.block _ (by rw [HG.out.2.2]; omega)).trans HG.out.2.1⟩
  have hb := b3.trans (hb1.mono b3.size)
  have hlo : ∀ b ∈ fp1, w.heap.size + 3 ≤ b := fun b hb => by have := (O1.2 b hb).1; rw [HG.out.2.2] at this; omega
  rw [HG.out.2.2] at O1
  clear HG hb1 b3 HC
  obtain ⟨a1, cap1, rfl, hq⟩ := open_rows R1
  clear hq
  have c10 : w1.cell? ⟨w.heap.size + 1, 0, none⟩ = some (.int .i64 0) := cell_of_row w1 (w.heap.size + 1) 0 _ _ _ HG1.out.1
  have c11 : w1.cell? ⟨w.heap.size + 1, 1, none⟩ = some (.string ⟨#[]⟩) := cell_of_row w1 (w.heap.size + 1) 1 _ _ _ HG1.out.1
  have c12 : w1.cell? ⟨w.heap.size + 1, 2, none⟩ = some (.bool false) := cell_of_row w1 (w.heap.size + 1) 2 _ _ _ HG1.out.1
  have c13 : w1.cell? ⟨w.heap.size + 1, 3, none⟩ = some (.slice none 0 0) := cell_of_row w1 (w.heap.size + 1) 3 _ _ _ HG1.out.1
  have c20 : w1.cell? ⟨w.heap.size + 1 + 1, 0, none⟩ = some (.int .i64 x.kind) := cell_of_row w1 (w.heap.size + 1 + 1) 0 _ _ _ HG1.out.2
  have c21 : w1.cell? ⟨w.heap.size + 1 + 1, 1, none⟩ = some (.string x.text) := cell_of_row w1 (w.heap.size + 1 + 1) 1 _ _ _ HG1.out.2
  have c22 : w1.cell? ⟨w.heap.size + 1 + 1, 2, none⟩ = some (.bool x.spaced) := cell_of_row w1 (w.heap.size + 1 + 1) 2 _ _ _ HG1.out.2
  have c23 : w1.cell? ⟨w.heap.size + 1 + 1, 3, none⟩ = some (.slice none 0 0) := cell_of_row w1 (w.heap.size + 1 + 1) 3 _ _ _ HG1.out.2
  have f10 : w1.frozen? ⟨w.heap.size + 1, 0, none⟩ = false := frozen_of_row w1 (w.heap.size + 1) 0 _ _ HG1.out.1
  have f11 : w1.frozen? ⟨w.heap.size + 1, 1, none⟩ = false := frozen_of_row w1 (w.heap.size + 1) 1 _ _ HG1.out.1
  have f12 : w1.frozen? ⟨w.heap.size + 1, 2, none⟩ = false := frozen_of_row w1 (w.heap.size + 1) 2 _ _ HG1.out.1
  have f13 : w1.frozen? ⟨w.heap.size + 1, 3, none⟩ = false := frozen_of_row w1 (w.heap.size + 1) 3 _ _ HG1.out.1
  have f23 : w1.frozen? ⟨w.heap.size + 1 + 1, 3, none⟩ = false := frozen_of_row w1 (w.heap.size + 1 + 1) 3 _ _ HG1.out.2
  have hn1 : w.heap.size + 1 ∉ fp1 := fun hx => by have := hlo _ hx; omega
  have hn2 : w.heap.size + 1 + 1 ∉ fp1 := fun hx => by have := hlo _ hx; omega
  have HR := Lib.hid ((sSlice sStr).setB ((sSlice sStr).setB ((sSlice sStr).setB ((sSlice sStr).setB ((sSlice sStr).setB R1 hn2 3 (.slice a1 x.hidden.length cap1)) hn1 0 (.int .i64 x.kind)) hn1 1 (.string x.text)) hn1 2 (.bool x.spaced)) hn1 3 (.slice a1 x.hidden.length cap1))
  have HO := Lib.hid ((((((O1.lower (by omega : w.heap.size ≤ w.heap.size + 1 + 1 + 1)).setCell ⟨w.heap.size + 1 + 1, 3, none⟩ (.slice a1 x.hidden.length cap1)).setCell ⟨w.heap.size + 1, 0, none⟩ (.int .i64 x.kind)).setCell ⟨w.heap.size + 1, 1, none⟩ (.string x.text)).setCell ⟨w.heap.size + 1, 2, none⟩ (.bool x.spaced)).setCell ⟨w.heap.size + 1, 3, none⟩ (.slice a1 x.hidden.length cap1))
  have HB := Lib.hid (((((hb.setCell (p := ⟨w.heap.size + 1 + 1, 3, none⟩) (by simp; omega) (.slice a1 x.hidden.length cap1)).setCell (p := ⟨w.heap.size + 1, 0, none⟩) (by simp) (.int .i64 x.kind)).setCell (p := ⟨w.heap.size + 1, 1, none⟩) (by simp) (.string x.text)).setCell (p := ⟨w.heap.size + 1, 2, none⟩) (by simp) (.bool x.spaced)).setCell (p := ⟨w.heap.size + 1, 3, none⟩) (by simp) (.slice a1 x.hidden.length cap1))
  have HS := Lib.hid (blk_set (blk_set (blk_set (blk_set (blk_other HG1.out.1 (by omega : w.heap.size + 1 ≠ w.heap.size + 1 + 1) 3 (.slice a1 x.hidden.length cap1)) 0 (.int .i64 x.kind)) 1 (.string x.text)) 2 (.bool x.spaced)) 3 (.slice a1 x.hidden.length cap1))
  clear HG1
  go_wp2
  refine bodyPost_ret (results_cell_row rfl _ _ (w.heap.size + 1) _ _ _ _ rfl HS.out Try.underlying35 rfl (by kernel_rfl)) rfl ?_
  exact ⟨[.int .i64 x.kind, .string x.text, .bool x.spaced, .slice a1 x.hidden.length cap1], fp1, rfl, ⟨_, rfl, hk, hok, HR.out⟩, HO.out, HB.out⟩

section
variable {H : Type} {enc : TypeId × Value → H} {w : World} {base : Nat} {spare : Nat → Bool} {held : Bool}
theorem opens_Token : Opens enc Try.prog w base spare held 94 sTok :=
  opens_tok Try.underlying94 (by kernel_rfl) (by kernel_rfl) (opens_int Try.underlying3) (opens_str Try.underlying9) (opens_bool Try.underlying4) (opens_slice Try.underlying23 (by kernel_rfl) (by decide) (opens_str Try.underlying9))
end
end Go.Proofs.Ytflbdanlcpojbaa

/- Slices of tokens as arguments of a law: their size, their copy. -/
namespace Go.Proofs.Ytflbdanlcpojbaa
open Go.RowKit

def wtTokenS (l : List Tok) : Nat := l.length + (l.map wtToken).sum

set_option maxHeartbeats 2000000 in
set_option maxRecDepth 100000 in
theorem szTokenS (v : Value) (l : List Tok) (fp : List Nat) (w : World) (B : Int) (h0 : 0 ≤ B) (h1 : B ≤ 1048576) (H : (sSlice sTok).R w [v] l fp) :
    Calls Try.prog 38 #[v, .int .i64 B] w fun e w' => ∃ r : Int, e = .returned (.int .i64 r) ∧ SzR B r (wtTokenS l) ∧ Below w.heap.size w w' := by
  obtain ⟨a, cap, rfl, hc, hm, hrow⟩ := open_rows H
  unfold maxLen at hm
  clear H
  by_cases hl : B < l.length
  · have HN : Hid (SzR B (-1) (wtTokenS l)) := SzR.no (by unfold wtTokenS; omega)
    go_enter Try.func38, Try.ntmps38
    go_wp2
    go_ret
    exact ⟨-1, rfl, HN.out, Below.refl _ _⟩
  · go_enter Try.func38, Try.ntmps38
    go_wp2
    go_loopw [1, 5] (fun t i wr => ∃ (k : Nat) (r : Int), k ≤ l.length ∧ i = .int .i64 k ∧ t = .int .i64 r ∧ 0 ≤ r ∧ r ≤ B ∧ Hid (r = B - l.length - (((l.take k).map wtToken).sum : Nat)) ∧ Below w.heap.size w wr) (fun _ i _ => l.length - (intOf i).toNat)
    case atStart => exact ⟨0, _, by omega, rfl, rfl, by omega, by omega, by show _ = _; simp, Below.refl _ _⟩
    case round =>
      obtain ⟨k, r, hk, rfl, rfl, hr0, hr1, HA, hb⟩ := hrel
      by_cases hlt : k < l.length
      · obtain ⟨b1, off1, fps1, rfl, hb1, -, he1⟩ := hrow (by omega)
        obtain ⟨es1, hE1, hR1⟩ := he1 k hlt
        clear hrow he1
        have hR2 := sTok.below hR1 hb
        obtain ⟨h1', rfl, _, _, _⟩ := hR1
        have HC := Lib.hid (szToken _ _ _ wr r hr0 (by omega) hR2)
        clear hR2
        replace hE1 := hE1.frame (hb.block b1 hb1)
        have c10 : wr.cell? ⟨b1, off1 + k * 4, none⟩ = some _ := elem_cell0 hE1 (by decide) rfl
        have c11 : wr.cell? ⟨b1, off1 + k * 4 + 1, none⟩ = some _ := elem_cell (j := 1) hE1 (by decide) rfl
        have c12 : wr.cell? ⟨b1, off1 + k * 4 + 2, none⟩ = some _ := elem_cell (j := 2) hE1 (by decide) rfl
        have c13 : wr.cell? ⟨b1, off1 + k * 4 + 3, none⟩ = some _ := elem_cell (j := 3) hE1 (by decide) rfl
        clear hE1
        have HT := Lib.hid (wsum_succ wtToken l k hlt)
        have HT2 := Lib.hid (wsum_le wtToken l (k + 1))
        go_wp2_with fail
        refine (HC.out).mono ?_
        rintro e w1 ⟨r', rfl, hr', hb2⟩
        clear c10 c11 c12 c13
        by_cases hn : r' < 0
        · have HN : Hid (SzR B (-1) (wtTokenS l)) := SzR.no (by
            have hx : r < wtToken l[k] := by unfold SzR at hr'; split at hr' <;> omega
            have := HT2.out; have := HT.out; have := HA.out; unfold wtTokenS; omega)
          go_wp2
          go_ret
          exact ⟨-1, rfl, HN.out, hb.trans (hb2.mono hb.size)⟩
        · have hg := hr'.good hn
          have hle := hr'.le hr0
          have HA' : Hid (r' = B - l.length - (((l.take (k + 1)).map wtToken).sum : Nat)) := by
            show _ = _
            have := HT.out; have := HA.out
            omega
          clear hr' hg
          go_wp2
          go_roundw
          case rel => exact ⟨k + 1, _, by omega, by go_num, rfl, by omega, by omega, HA'.out, hb.trans (hb2.mono hb.size)⟩
          case measure => simp [intOf]; omega
      · have HN : Hid (SzR B r (wtTokenS l)) := by
          have h := HA.out
          rw [List.take_of_length_le (by omega)] at h
          exact SzR.yes (by unfold wtTokenS; omega) (by unfold wtTokenS; omega)
        go_wp2
        go_ret
        exact ⟨r, rfl, HN.out, hb⟩

set_option maxHeartbeats 4000000 in
set_option maxRecDepth 100000 in
theorem toTokenS (v : Value) (l : List Tok) (fp : List Nat) (w : World) (hW : wtTokenS l ≤ 1048576) (H : (sSlice sTok).R w [v] l fp) :
    Calls Try.prog 40 #[v] w (Made (sSlice sTok) l w) := by
  have hB : l.length ≤ 1048576 := by unfold wtTokenS at hW; omega
  have HW : Hid (∀ k, (hk : k < l.length) → wtToken l[k] ≤ 1048576) := fun k hk => by have := wsum_at wtToken l k hk; unfold wtTokenS at hW; omega
  obtain ⟨a, cap, rfl, hc, hm, hrow⟩ := open_rows H
  unfold maxLen at hm
  clear H hW
  go_enter Try.func40, Try.ntmps40
  go_wp2_with (at_make; refine wp_make_full ti_tok _ rfl _ _ rfl w.heap.size l.length rfl rfl (by omega) (by unfold maxLen; omega) (Nat.le_refl _) ?_; intro w1 hown hgrow)
  have hbel := (Below.refl w.heap.size w).grown hgrow (Nat.le_refl _) (by simp)
  have HF0 := Filling.start (S := sTok) (l := l) hown
  clear hgrow hown
  go_loopw [4] (fun i wr => ∃ (k : Nat) (L : List (Elem Tok)) (R : List Value), k ≤ l.length ∧ i = .int .i64 k ∧ Hid (Filling sTok w.heap.size 35 l k wr L R) ∧ Below w.heap.size w wr) (fun i _ => l.length - (intOf i).toNat)
  case atStart => exact ⟨0, _, _, by omega, rfl, HF0, hbel⟩
  case round =>
    obtain ⟨k, L, R, hk, rfl, HF, hb⟩ := hrel
    clear HF0 hbel
    by_cases hlt : k < l.length
    · obtain ⟨b1, off1, fps1, rfl, hb1, -, he1⟩ := hrow (by omega)
      obtain ⟨es1, hE1, hR1⟩ := he1 k hlt
      clear hrow he1
      have hR2 := sTok.below hR1 hb
      obtain ⟨h1', rfl, _, _, _⟩ := hR1
      have HC := Lib.hid (toToken _ _ _ wr (HW.out k hlt) hR2)
      clear hR2
      replace hE1 := hE1.frame (hb.block b1 hb1)
      have c10 : wr.cell? ⟨b1, off1 + k * 4, none⟩ = some _ := elem_cell0 hE1 (by decide) rfl
      have c11 : wr.cell? ⟨b1, off1 + k * 4 + 1, none⟩ = some _ := elem_cell (j := 1) hE1 (by decide) rfl
      have c12 : wr.cell? ⟨b1, off1 + k * 4 + 2, none⟩ = some _ := elem_cell (j := 2) hE1 (by decide) rfl
      have c13 : wr.cell? ⟨b1, off1 + k * 4 + 3, none⟩ = some _ := elem_cell (j := 3) hE1 (by decide) rfl
      clear hE1
      go_wp2_with fail
      refine (HC.out).mono ?_
      rintro e w2 ⟨cs, fp2, rfl, hR2, hO2, hb2⟩
      have HN := Lib.hid (HF.out.next (cs := cs) hlt hb2 (by obtain ⟨_, rfl, _⟩ := hR2; rfl) hR2 hO2)
      obtain ⟨h2, rfl, _, _, K2⟩ := hR2
      obtain ⟨ah, caph, rfl, -⟩ := open_rows K2
      have HF2 := Lib.hid (HF.out.below hb2)
      obtain ⟨u0, d0⟩ : ∃ u, w2.cell? ⟨w.heap.size, k * 4, none⟩ = some u := HF2.out.cell hlt (j := 0) (by decide)
      obtain ⟨u1, d1⟩ : ∃ u, w2.cell? ⟨w.heap.size, k * 4 + 1, none⟩ = some u := HF2.out.cell hlt (j := 1) (by decide)
      obtain ⟨u2, d2⟩ : ∃ u, w2.cell? ⟨w.heap.size, k * 4 + 2, none⟩ = some u := HF2.out.cell hlt (j := 2) (by decide)
      obtain ⟨u3, d3⟩ : ∃ u, w2.cell? ⟨w.heap.size, k * 4 + 3, none⟩ = some u := HF2.out.cell hlt (j := 3) (by decide)
      have f0 := HF2.out.frozen (k * 4)
      have f1 := HF2.out.frozen (k * 4 + 1)
      have f2 := HF2.out.frozen (k * 4 + 2)
      have f3 := HF2.out.frozen (k * 4 + 3)
      clear c10 c11 c12 c13 K2 hO2
      go_wp2
      obtain ⟨R', HN⟩ := HN.out
      go_roundw
      case rel => exact ⟨k + 1, _, R', by omega, by go_num, HN, putAll_below (Nat.le_refl _) [_, _, _, _] _ (k * 4) (hb.trans (hb2.mono hb.size))⟩
      case measure => simp [intOf]; omega
    · obtain ⟨fp', h1, h2⟩ := HF.out.done (by omega)
      go_wp2
      go_ret
      exact ⟨_, fp', rfl, h1, h2, hb⟩

end Go.Proofs.Ytflbdanlcpojbaa

/- Macro: its shape, and the law's own helpers. (Made by rec.py.) -/
namespace Go.Proofs.Ytflbdanlcpojbaa
open Go.RowKit Go.ChangeShapes Go.WideShapes Go.Deep

def sMacro : Shape DMacro where
  m := 4
  R w cs d fp := ∃ (h2 : Value) (h3 : Value) (fp2 : List Nat) (fp3 : List Nat), cs = [.string d.name, .bool d.function, h2, h3] ∧ okStr d.name ∧ (sSlice sStr).R w [h2] d.params fp2 ∧ (sSlice sTok).R w [h3] d.body fp3 ∧ fp = fp2 ++ fp3
  frame := by
    rintro w w' cs d fp hf ⟨h2, h3, fp2, fp3, rfl, k0, K2, K3, rfl⟩
    exact ⟨h2, h3, fp2, fp3, rfl, k0, (sSlice sStr).frame (fun b hb => hf b (by simp [hb])) K2, (sSlice sTok).frame (fun b hb => hf b (by simp [hb])) K3, rfl⟩
  lt := by
    rintro w cs d fp ⟨h2, h3, fp2, fp3, rfl, k0, K2, K3, rfl⟩ b hb
    rcases List.mem_append.1 hb with hb | hb
    · exact (sSlice sStr).lt K2 b hb
    · exact (sSlice sTok).lt K3 b hb
def wtMacro (x : DMacro) : Nat := x.name.size + wtStringS x.params + wtTokenS x.body
section
variable {H : Type} {enc : TypeId × Value → H} {P : Program} {w : World} {base : Nat} {spare : Nat → Bool} {held : Bool}
theorem opensP_Macro {t : TypeId} {f0 f1 f2 f3 : Field} (hs : P.underlying t = some (.struct #[f0, f1, f2, f3])) (hone : oneCellFields P #[f0, f1, f2, f3] = true) (hC : P.cellsOf t = 4) (h0 : Opens enc P w base spare held f0.type sStr) (h1 : Opens enc P w base spare held f1.type sBool) (h2 : Opens enc P w base spare held f2.type (sSlice sStr)) (h3 : Opens enc P w base spare held f3.type (sSlice sTok)) : Opens enc P w base spare held t sMacro := by
  intro fuel cs x h
  obtain ⟨xs, n, _, hx, hcl, hlen, hg⟩ := DataW.trod_struct hs h
  rw [hC] at hcl
  match cs, hcl with
  | [c0, c1, c2, c3], _ =>
    obtain ⟨o0, k0⟩ := hone_of hone 0 f0 rfl
    have g0 := hg 0 f0 rfl
    rw [o0, k0] at g0
    obtain ⟨o1, k1⟩ := hone_of hone 1 f1 rfl
    have g1 := hg 1 f1 rfl
    rw [o1, k1] at g1
    obtain ⟨o2, k2⟩ := hone_of hone 2 f2 rfl
    have g2 := hg 2 f2 rfl
    rw [o2, k2] at g2
    obtain ⟨o3, k3⟩ := hone_of hone 3 f3 rfl
    have g3 := hg 3 f3 rfl
    rw [o3, k3] at g3
    match xs, hlen with
    | [y0, y1, y2, y3], _ =>
      obtain ⟨d0, p0, hc0, hok0, rfl⟩ := h0 n _ _ g0
      obtain ⟨d1, p1, hc1, hok1, rfl⟩ := h1 n _ _ g1
      obtain ⟨d2, p2, hc2⟩ := h2 n _ _ g2
      obtain ⟨d3, p3, hc3⟩ := h3 n _ _ g3
      simp at hc0 hc1 hc2 hc3
      subst hc0
      subst hc1
      exact ⟨⟨d0, d1, d2, d3⟩, p2 ++ p3, c2, c3, p2, p3, rfl, hok0, hc2, hc3, rfl⟩
end
section
variable {H : Type} {enc : TypeId × Value → H} {w : World} {base : Nat} {spare : Nat → Bool} {held : Bool}
theorem opens_Macro : Opens enc Try.prog w base spare held 39 sMacro :=
  opensP_Macro Try.underlying39 (by kernel_rfl) (by kernel_rfl) (opens_str Try.underlying9) (opens_bool Try.underlying4) (opens_slice Try.underlying23 (by kernel_rfl) (by decide) (opens_str Try.underlying9)) (opens_slice Try.underlying37 (by kernel_rfl) (by decide) opens_Token)
end
abbrev zero_Macro : Value := .agg #[.string ByteArray.empty, .bool false, .slice none 0 0, .slice none 0 0]

set_option maxHeartbeats 8000000 in
set_option maxRecDepth 100000 in
theorem eqMacro_same (cs1 cs2 : List Value) (x : DMacro) (fp1 fp2 : List Nat) (w : World) (H1 : sMacro.R w cs1 x fp1) (H2 : sMacro.R w cs2 x fp2) :
    Calls Try.prog 15 #[.agg cs1.toArray, .agg cs2.toArray] w fun e w' => e = .returned (.bool true) ∧ Below w.heap.size w w' := by
  obtain ⟨h2, h3, fpa2, fpa3, rfl, -, K2, K3, rfl⟩ := H1
  obtain ⟨g2, g3, fpb2, fpb3, rfl, -, L2, L3, rfl⟩ := H2
  have b0 := alloc_below' w (.cells #[.string x.name, .bool x.function, h2, h3] 26)
  have b1 := b0.trans ((alloc_below' (w.alloc (.cells #[.string x.name, .bool x.function, h2, h3] 26)) (.cells #[.string x.name, .bool x.function, g2, g3] 26)).mono b0.size)
  have HC2 : Hid (∀ W, Below w.heap.size w W → Calls Try.prog 42 #[h2, g2] W fun e w' => e = .returned (.bool true) ∧ Below W.heap.size W w') := fun W hb => eqStringS_same h2 g2 x.params _ _ W ((sSlice sStr).below K2 hb) ((sSlice sStr).below L2 hb)
  have HC3 : Hid (∀ W, Below w.heap.size w W → Calls Try.prog 14 #[h3, g3] W fun e w' => e = .returned (.bool true) ∧ Below W.heap.size W w') := fun W hb => eqTokenS_same h3 g3 x.body _ _ W ((sSlice sTok).below K3 hb) ((sSlice sTok).below L3 hb)
  have HX := Lib.hid (alloc2_blk w #[.string x.name, .bool x.function, h2, h3] #[.string x.name, .bool x.function, g2, g3] 26 26)
  have e0 := bytes_beq (rfl : x.name = x.name)
  have e1 : (x.function != x.function) = false := by simp
  go_enter Try.func15, Try.ntmps15
  go_wp2_with fail
  refine (HC2.out _ b1).mono ?_
  rintro e w2 ⟨rfl, c2⟩
  have d2 := b1.trans (c2.mono b1.size)
  replace HX := Lib.hid (And.intro ((c2.block _ (Array.getElem?_eq_some_iff.1 HX.out.1).1).trans HX.out.1) ((c2.block _ (Array.getElem?_eq_some_iff.1 HX.out.2).1).trans HX.out.2))
  have qa3 : w2.cell? ⟨w.heap.size, 3, none⟩ = some (h3) := cell_of_row _ _ 3 _ _ _ HX.out.1
  have qb3 : w2.cell? ⟨w.heap.size + 1, 3, none⟩ = some (g3) := cell_of_row _ _ 3 _ _ _ HX.out.2
  clear c2
  go_wp2_with fail
  refine (HC3.out _ d2).mono ?_
  rintro e w3 ⟨rfl, c3⟩
  have d3 := d2.trans (c3.mono d2.size)
  go_wp2
  go_ret
  exact ⟨rfl, d3⟩

set_option maxHeartbeats 8000000 in
set_option maxRecDepth 100000 in
theorem szMacro (cs : List Value) (x : DMacro) (fp : List Nat) (w : World) (B : Int) (h0 : 0 ≤ B) (h1 : B ≤ 1048576) (H : sMacro.R w cs x fp) :
    Calls Try.prog 10 #[.agg cs.toArray, .int .i64 B] w fun e w' => ∃ r : Int, e = .returned (.int .i64 r) ∧ SzR B r (wtMacro x) ∧ Below w.heap.size w w' := by
  obtain ⟨v2, v3, fp2, fp3, rfl, k0, K2, K3, rfl⟩ := H
  unfold okStr maxLen at k0
  have b0 := alloc_below' w (.cells #[.string x.name, .bool x.function, v2, v3] 39)
  have HC2 : Hid (∀ W r, Below w.heap.size w W → 0 ≤ r → r ≤ 1048576 → Calls Try.prog 37 #[v2, .int .i64 r] W fun e w' => ∃ r' : Int, e = .returned (.int .i64 r') ∧ SzR r r' (wtStringS x.params) ∧ Below W.heap.size W w') := fun W r hb hr0 hr1 => (szStringS v2 x.params _ W r hr0 hr1 ((sSlice sStr).below K2 hb)).mono fun e w' ⟨r, a, b, c⟩ => ⟨r, a, b, c ▸ Below.refl _ _⟩
  have HC3 : Hid (∀ W r, Below w.heap.size w W → 0 ≤ r → r ≤ 1048576 → Calls Try.prog 38 #[v3, .int .i64 r] W fun e w' => ∃ r' : Int, e = .returned (.int .i64 r') ∧ SzR r r' (wtTokenS x.body) ∧ Below W.heap.size W w') := fun W r hb hr0 hr1 => (szTokenS v3 x.body _ W r hr0 hr1 ((sSlice sTok).below K3 hb)).mono fun e w' ⟨r, a, b, c⟩ => ⟨r, a, b, c⟩
  have HX := Lib.hid (heap_alloc_new w (.cells #[.string x.name, .bool x.function, v2, v3] 39))
  clear K2
  clear K3
  go_enter Try.func10, Try.ntmps10
  by_cases ht0 : B < x.name.size
  · have HN : Hid (SzR B (-1) (wtMacro x)) := SzR.no (by unfold wtMacro; omega)
    go_wp2
    go_ret
    exact ⟨-1, rfl, HN.out, b0⟩
  go_wp2_with fail
  refine (HC2.out _ _ b0 (by omega) (by omega)).mono ?_
  rintro e u2 ⟨r2, rfl, hr2, c2⟩
  have e2 := b0.trans (c2.mono b0.size)
  replace HX := Lib.hid ((c2.block _ (Array.getElem?_eq_some_iff.1 HX.out).1).trans HX.out)
  have q2_3 : u2.cell? ⟨w.heap.size, 3, none⟩ = some v3 := cell_of_row _ _ 3 _ _ _ HX.out
  clear c2
  by_cases hn2 : r2 < 0
  · have HN : Hid (SzR B (-1) (wtMacro x)) := by
      refine SzR.no ?_
      unfold SzR at hr2; unfold wtMacro; split at hr2 <;> omega
    go_wp2
    go_ret
    exact ⟨-1, rfl, HN.out, e2⟩
  have hg2 := hr2.good hn2
  have hl2 := hr2.le (by omega)
  clear hr2
  go_wp2_with fail
  refine (HC3.out _ _ e2 (by omega) (by omega)).mono ?_
  rintro e u3 ⟨r3, rfl, hr3, c3⟩
  have e3 := e2.trans (c3.mono e2.size)
  clear c3
  by_cases hn3 : r3 < 0
  · have HN : Hid (SzR B (-1) (wtMacro x)) := by
      refine SzR.no ?_
      unfold SzR at hr3; unfold wtMacro; split at hr3 <;> omega
    go_wp2
    go_ret
    exact ⟨-1, rfl, HN.out, e3⟩
  have hg3 := hr3.good hn3
  have hl3 := hr3.le (by omega)
  clear hr3
  have HN : Hid (SzR B r3 (wtMacro x)) := SzR.yes (by unfold wtMacro; omega) (by unfold wtMacro; omega)
  clear hg2 hg3
  go_wp2
  go_ret
  exact ⟨r3, rfl, HN.out, e3⟩

set_option maxHeartbeats 8000000 in
set_option maxRecDepth 100000 in
theorem toMacro (cs : List Value) (x : DMacro) (fp : List Nat) (w : World) (hW : wtMacro x ≤ 1048576) (H : sMacro.R w cs x fp) :
    Calls Try.prog 12 #[.agg cs.toArray] w (MadeC sMacro x w) := by
  obtain ⟨v2, v3, fp2, fp3, rfl, k0, K2, K3, rfl⟩ := H
  have HC2 : Hid (∀ W, Below w.heap.size w W → Calls Try.prog 39 #[v2] W (Made (sSlice sStr) x.params W)) := fun W hb => toStringS v2 x.params _ W (by unfold wtMacro at hW; omega) ((sSlice sStr).below K2 hb)
  have HC3 : Hid (∀ W, Below w.heap.size w W → Calls Try.prog 40 #[v3] W (Made (sSlice sTok) x.body W)) := fun W hb => toTokenS v3 x.body _ W (by unfold wtMacro at hW; omega) ((sSlice sTok).below K3 hb)
  clear K2
  clear K3
  go_enter Try.func12, Try.ntmps12
  have b3 := below3 w #[.string x.name, .bool x.function, v2, v3] #[.string ⟨#[]⟩, .bool false, .slice none 0 0, .slice none 0 0] #[.string x.name, .bool x.function, .slice none 0 0, .slice none 0 0] 39 26 26
  have HA := Lib.hid (alloc3_blk0 w #[.string x.name, .bool x.function, v2, v3] #[.string ⟨#[]⟩, .bool false, .slice none 0 0, .slice none 0 0] #[.string x.name, .bool x.function, .slice none 0 0, .slice none 0 0] 39 26 26)
  obtain ⟨g1_, g2_, g3_⟩ := alloc3_blk w #[.string x.name, .bool x.function, v2, v3] #[.string ⟨#[]⟩, .bool false, .slice none 0 0, .slice none 0 0] #[.string x.name, .bool x.function, .slice none 0 0, .slice none 0 0] 39 26 26
  have HG := Lib.hid (And.intro g1_ g2_)
  have HS := Lib.hid g3_
  clear g1_ g2_ g3_
  go_wp2_with fail
  refine (HC2.out _ b3).mono ?_
  rintro e u2 ⟨h2, fp2, rfl, R2, O2, c2⟩
  have lo2 : ∀ b ∈ fp2, w.heap.size + 3 ≤ b := fun b hb => by have := (O2.2 b hb).1; rw [HS.out] at this; omega
  replace HA := Lib.hid ((c2.block _ (Array.getElem?_eq_some_iff.1 HA.out).1).trans HA.out)
  replace HG := Lib.hid (And.intro ((c2.block _ (Array.getElem?_eq_some_iff.1 HG.out.1).1).trans HG.out.1) ((c2.block _ (Array.getElem?_eq_some_iff.1 HG.out.2).1).trans HG.out.2))
  have e2 := b3.trans (c2.mono b3.size)
  clear c2
  obtain ⟨a2, cap2, rfl, -⟩ := open_rows R2
  have hn1_2 : w.heap.size + 1 ∉ fp2 := fun hx => by have := lo2 _ hx; omega
  have hn2_2 : w.heap.size + 1 + 1 ∉ fp2 := fun hx => by have := lo2 _ hx; omega
  have d2 : u2.cell? ⟨w.heap.size + 1 + 1, 2, none⟩ = some (.slice none 0 0) := cell_of_row _ _ 2 _ _ _ HG.out.2
  have f2 : u2.frozen? ⟨w.heap.size + 1 + 1, 2, none⟩ = false := frozen_of_row _ _ 2 _ _ HG.out.2
  replace HA := Lib.hid (blk_other HA.out (by omega : w.heap.size ≠ w.heap.size + 1 + 1) 2 (.slice a2 x.params.length cap2))
  replace HG := Lib.hid (And.intro (blk_other HG.out.1 (by omega : w.heap.size + 1 ≠ w.heap.size + 1 + 1) 2 (.slice a2 x.params.length cap2)) (blk_set HG.out.2 2 (.slice a2 x.params.length cap2)))
  replace R2 := Lib.hid ((sSlice sStr).setB R2 hn2_2 2 (.slice a2 x.params.length cap2))
  replace O2 := Lib.hid (O2.setCell ⟨w.heap.size + 1 + 1, 2, none⟩ (.slice a2 x.params.length cap2))
  replace e2 := e2.setCell (p := ⟨w.heap.size + 1 + 1, 2, none⟩) (by simp; omega) (.slice a2 x.params.length cap2)
  have U2 : Hid (∀ b ∈ fp2, b < (u2.setCell ⟨w.heap.size + 1 + 1, 2, none⟩ (.slice a2 x.params.length cap2)).heap.size) := fun b hb => (O2.out.lt b hb)
  have Z2 : Hid (w.heap.size + 1 + 1 < (u2.setCell ⟨w.heap.size + 1 + 1, 2, none⟩ (.slice a2 x.params.length cap2)).heap.size) := (Array.getElem?_eq_some_iff.1 HG.out.2).1
  have p3 : (u2.setCell ⟨w.heap.size + 1 + 1, 2, none⟩ (.slice a2 x.params.length cap2)).cell? ⟨w.heap.size, 3, none⟩ = some v3 := cell_of_row _ _ 3 _ _ _ HA.out
  go_wp2_with fail
  refine (HC3.out _ e2).mono ?_
  rintro e u3 ⟨h3, fp3, rfl, R3, O3, c3⟩
  have lo3 := Lib.hid (show ∀ b ∈ fp3, _ ≤ b from fun b hb => (O3.2 b hb).1)
  replace HA := Lib.hid ((c3.block _ (Array.getElem?_eq_some_iff.1 HA.out).1).trans HA.out)
  replace HG := Lib.hid (And.intro ((c3.block _ (Array.getElem?_eq_some_iff.1 HG.out.1).1).trans HG.out.1) ((c3.block _ (Array.getElem?_eq_some_iff.1 HG.out.2).1).trans HG.out.2))
  have e3 := e2.trans (c3.mono e2.size)
  replace R2 := Lib.hid ((sSlice sStr).below R2.out c3)
  replace O2 := Lib.hid (O2.out.grow c3)
  have ap3 : Hid (∀ b ∈ fp2, b ∉ fp3) := fun b h1 h2 => by have := lo3.out b h2; have := U2.out b h1; omega
  clear c3
  obtain ⟨a3, cap3, rfl, -⟩ := open_rows R3
  have hn1_3 : w.heap.size + 1 ∉ fp3 := fun hx => by have := lo3.out _ hx; have := Z2.out; omega
  have hn2_3 : w.heap.size + 1 + 1 ∉ fp3 := fun hx => by have := lo3.out _ hx; have := Z2.out; omega
  have d3 : u3.cell? ⟨w.heap.size + 1 + 1, 3, none⟩ = some (.slice none 0 0) := cell_of_row _ _ 3 _ _ _ HG.out.2
  have f3 : u3.frozen? ⟨w.heap.size + 1 + 1, 3, none⟩ = false := frozen_of_row _ _ 3 _ _ HG.out.2
  replace HA := Lib.hid (blk_other HA.out (by omega : w.heap.size ≠ w.heap.size + 1 + 1) 3 (.slice a3 x.body.length cap3))
  replace HG := Lib.hid (And.intro (blk_other HG.out.1 (by omega : w.heap.size + 1 ≠ w.heap.size + 1 + 1) 3 (.slice a3 x.body.length cap3)) (blk_set HG.out.2 3 (.slice a3 x.body.length cap3)))
  replace R3 := Lib.hid ((sSlice sTok).setB R3 hn2_3 3 (.slice a3 x.body.length cap3))
  replace O3 := Lib.hid (O3.setCell ⟨w.heap.size + 1 + 1, 3, none⟩ (.slice a3 x.body.length cap3))
  replace R2 := Lib.hid ((sSlice sStr).setB R2.out hn2_2 3 (.slice a3 x.body.length cap3))
  replace O2 := Lib.hid (O2.out.setCell ⟨w.heap.size + 1 + 1, 3, none⟩ (.slice a3 x.body.length cap3))
  replace e3 := e3.setCell (p := ⟨w.heap.size + 1 + 1, 3, none⟩) (by simp; omega) (.slice a3 x.body.length cap3)
  have U3 : Hid (∀ b ∈ fp3, b < (u3.setCell ⟨w.heap.size + 1 + 1, 3, none⟩ (.slice a3 x.body.length cap3)).heap.size) := fun b hb => (O3.out.lt b hb)
  have Z3 : Hid (w.heap.size + 1 + 1 < (u3.setCell ⟨w.heap.size + 1 + 1, 3, none⟩ (.slice a3 x.body.length cap3)).heap.size) := (Array.getElem?_eq_some_iff.1 HG.out.2).1
  -- the copy

  have y0 : (u3.setCell ⟨w.heap.size + 1 + 1, 3, none⟩ (.slice a3 x.body.length cap3)).cell? ⟨w.heap.size + 1, 0, none⟩ = some (.string ⟨#[]⟩) := cell_of_row _ _ 0 _ _ _ HG.out.1
  have z0 : (u3.setCell ⟨w.heap.size + 1 + 1, 3, none⟩ (.slice a3 x.body.length cap3)).cell? ⟨w.heap.size + 1 + 1, 0, none⟩ = some (.string x.name) := cell_of_row _ _ 0 _ _ _ HG.out.2
  have w0 : (u3.setCell ⟨w.heap.size + 1 + 1, 3, none⟩ (.slice a3 x.body.length cap3)).frozen? ⟨w.heap.size + 1, 0, none⟩ = false := frozen_of_row _ _ 0 _ _ HG.out.1
  have y1 : (u3.setCell ⟨w.heap.size + 1 + 1, 3, none⟩ (.slice a3 x.body.length cap3)).cell? ⟨w.heap.size + 1, 1, none⟩ = some (.bool false) := cell_of_row _ _ 1 _ _ _ HG.out.1
  have z1 : (u3.setCell ⟨w.heap.size + 1 + 1, 3, none⟩ (.slice a3 x.body.length cap3)).cell? ⟨w.heap.size + 1 + 1, 1, none⟩ = some (.bool x.function) := cell_of_row _ _ 1 _ _ _ HG.out.2
  have w1 : (u3.setCell ⟨w.heap.size + 1 + 1, 3, none⟩ (.slice a3 x.body.length cap3)).frozen? ⟨w.heap.size + 1, 1, none⟩ = false := frozen_of_row _ _ 1 _ _ HG.out.1
  have y2 : (u3.setCell ⟨w.heap.size + 1 + 1, 3, none⟩ (.slice a3 x.body.length cap3)).cell? ⟨w.heap.size + 1, 2, none⟩ = some (.slice none 0 0) := cell_of_row _ _ 2 _ _ _ HG.out.1
  have z2 : (u3.setCell ⟨w.heap.size + 1 + 1, 3, none⟩ (.slice a3 x.body.length cap3)).cell? ⟨w.heap.size + 1 + 1, 2, none⟩ = some (.slice a2 x.params.length cap2) := cell_of_row _ _ 2 _ _ _ HG.out.2
  have w2 : (u3.setCell ⟨w.heap.size + 1 + 1, 3, none⟩ (.slice a3 x.body.length cap3)).frozen? ⟨w.heap.size + 1, 2, none⟩ = false := frozen_of_row _ _ 2 _ _ HG.out.1
  have y3 : (u3.setCell ⟨w.heap.size + 1 + 1, 3, none⟩ (.slice a3 x.body.length cap3)).cell? ⟨w.heap.size + 1, 3, none⟩ = some (.slice none 0 0) := cell_of_row _ _ 3 _ _ _ HG.out.1
  have z3 : (u3.setCell ⟨w.heap.size + 1 + 1, 3, none⟩ (.slice a3 x.body.length cap3)).cell? ⟨w.heap.size + 1 + 1, 3, none⟩ = some (.slice a3 x.body.length cap3) := cell_of_row _ _ 3 _ _ _ HG.out.2
  have w3 : (u3.setCell ⟨w.heap.size + 1 + 1, 3, none⟩ (.slice a3 x.body.length cap3)).frozen? ⟨w.heap.size + 1, 3, none⟩ = false := frozen_of_row _ _ 3 _ _ HG.out.1
  have RF2 := Lib.hid ((sSlice sStr).setB ((sSlice sStr).setB ((sSlice sStr).setB ((sSlice sStr).setB (R2.out) hn1_2 0 (.string x.name)) hn1_2 1 (.bool x.function)) hn1_2 2 (.slice a2 x.params.length cap2)) hn1_2 3 (.slice a3 x.body.length cap3))
  have OF2 := Lib.hid (((((O2.out).setCell ⟨w.heap.size + 1, 0, none⟩ (.string x.name)).setCell ⟨w.heap.size + 1, 1, none⟩ (.bool x.function)).setCell ⟨w.heap.size + 1, 2, none⟩ (.slice a2 x.params.length cap2)).setCell ⟨w.heap.size + 1, 3, none⟩ (.slice a3 x.body.length cap3))
  have RF3 := Lib.hid ((sSlice sTok).setB ((sSlice sTok).setB ((sSlice sTok).setB ((sSlice sTok).setB (R3.out) hn1_3 0 (.string x.name)) hn1_3 1 (.bool x.function)) hn1_3 2 (.slice a2 x.params.length cap2)) hn1_3 3 (.slice a3 x.body.length cap3))
  have OF3 := Lib.hid (((((O3.out).setCell ⟨w.heap.size + 1, 0, none⟩ (.string x.name)).setCell ⟨w.heap.size + 1, 1, none⟩ (.bool x.function)).setCell ⟨w.heap.size + 1, 2, none⟩ (.slice a2 x.params.length cap2)).setCell ⟨w.heap.size + 1, 3, none⟩ (.slice a3 x.body.length cap3))
  have BF := Lib.hid (((((e3).setCell (p := ⟨w.heap.size + 1, 0, none⟩) (by simp) (.string x.name)).setCell (p := ⟨w.heap.size + 1, 1, none⟩) (by simp) (.bool x.function)).setCell (p := ⟨w.heap.size + 1, 2, none⟩) (by simp) (.slice a2 x.params.length cap2)).setCell (p := ⟨w.heap.size + 1, 3, none⟩) (by simp) (.slice a3 x.body.length cap3))
  have HF := Lib.hid (blk_set (blk_set (blk_set (blk_set (HG.out.1) 0 (.string x.name)) 1 (.bool x.function)) 2 (.slice a2 x.params.length cap2)) 3 (.slice a3 x.body.length cap3))
  clear HG HA
  go_wp2
  refine bodyPost_ret (results_cell_row rfl _ _ (w.heap.size + 1) _ _ _ _ rfl HF.out Try.underlying26 rfl (by kernel_rfl)) rfl ?_
  exact ⟨[.string x.name, .bool x.function, .slice a2 x.params.length cap2, .slice a3 x.body.length cap3], fp2 ++ fp3, rfl, ⟨_, _, fp2, fp3, rfl, k0, RF2.out, RF3.out, rfl⟩, Own.app (OF2.out.lower (by rw [HS.out]; omega)) (OF3.out.lower (by have := Z2.out; omega)) ap3.out, BF.out⟩

def cntVMacro (x : DMacro) : Nat := x.params.length + cntTokenS x.body
def mkVMacro (k : Int) (x : DMacro) : DMacro := ⟨x.name, x.function, (marks mtext (k) x.params.length), (mkTokenS (k + (x.params.length : Int)) x.body)⟩
end Go.Proofs.Ytflbdanlcpojbaa

/- Whether two tokens need a space between them: the program and its model. -/
namespace Go.Proofs.Ytflbdanlcpojbaa
open Go.RowKit

def begins (x y : UInt8) : Bool := decide (x.toNat = 47) && (decide (y.toNat = 47) || decide (y.toNat = 42))
end Go.Proofs.Ytflbdanlcpojbaa

/- Whether two texts are read otherwise together: the model. -/
namespace Go.Proofs.Ytflbdanlcpojbaa
open Go.RowKit
end Go.Proofs.Ytflbdanlcpojbaa

/- PrintTokens: the model. -/
namespace Go.Proofs.Ytflbdanlcpojbaa
open Go.RowKit
end Go.Proofs.Ytflbdanlcpojbaa

/- Macros: the model's own helpers; what both sides walk over. -/
namespace Go.Proofs.Ytflbdanlcpojbaa
open Go.RowKit

set_option maxHeartbeats 1000000 in
theorem spec_l5Name (x : ByteArray) (w : World) (hs : x.size ≤ maxLen) :
    Calls Try.prog 60 #[.string x] w (Says (oneTok x 1) w) := by
  have HT : Hid (∀ W, Calls Try.prog 46 #[.string x] W (TokMade (tokRes x) W)) := fun W => spec_TokensOf x W hs
  go_enter Try.func60, Try.ntmps60
  rcases one_ways x 1 with ⟨hr, HF⟩ | ⟨l, hr, hl, HF⟩ | ⟨t, hr, hk, HF⟩ | ⟨t, hr, hk, hx, HF⟩ | ⟨t, hr, hk, hx, _, HF⟩
  · rw [hr] at HT
    clear hr
    go_wp2_with (go_at_call 46; refine (HT.out _).mono ?_; rintro e w' ⟨v, fp, rfl, hR, hO, hB⟩)
    go_ret
    exact ⟨ret_bool HF.out.symm, hB⟩
  · rw [hr] at HT
    have hl' : ((l.length : Int) == 1) = false := by simp; omega
    clear hr hl
    go_wp2_with (go_at_call 46; refine (HT.out _).mono ?_; rintro e w' ⟨v, fp, rfl, hR, hO, hB⟩; obtain ⟨a, cap, rfl, _, _, _⟩ := open_rows hR)
    go_ret
    exact ⟨ret_bool HF.out.symm, hB⟩
  · rw [hr] at HT
    have hk' : (t.kind == 1) = false := by simp [hk]
    clear hr hk
    go_wp2_with (go_at_call 46; refine (HT.out _).mono ?_; rintro e w' ⟨v, fp, rfl, hR, hO, hB⟩; obtain ⟨b, off, cap, h, rfl, hc1, hc2, hb, h0, h1, h2, h3, _, _⟩ := open_one hR)
    go_ret
    exact ⟨ret_bool HF.out.symm, hB⟩
  · rw [hr] at HT
    have hk' : (t.kind == 1) = true := by simp [hk]
    have hx' : (t.text.toList == x.toList) = false := bytes_bne hx
    clear hr hk hx
    go_wp2_with (go_at_call 46; refine (HT.out _).mono ?_; rintro e w' ⟨v, fp, rfl, hR, hO, hB⟩; obtain ⟨b, off, cap, h, rfl, hc1, hc2, hb, h0, h1, h2, h3, _, _⟩ := open_one hR)
    go_ret
    exact ⟨ret_bool HF.out.symm, hB⟩
  · rw [hr] at HT
    have hk' : (t.kind == 1) = true := by simp [hk]
    have hx' : (t.text.toList == x.toList) = true := bytes_beq hx
    clear hr hk hx
    go_wp2_with (go_at_call 46; refine (HT.out _).mono ?_; rintro e w' ⟨v, fp, rfl, hR, hO, hB⟩; obtain ⟨b, off, cap, h, rfl, hc1, hc2, hb, h0, h1, h2, h3, _, _⟩ := open_one hR)
    go_ret
    exact ⟨ret_bool HF.out.symm, hB⟩

theorem par_end {ps : List ByteArray} {t : Tok} {k : Nat} (h : ps.length ≤ k) : parFrom ps t k = -1 := by rw [parFrom, dif_neg (by omega)]
theorem par_hit {ps : List ByteArray} {t : Tok} {k : Nat} (h : k < ps.length) (h1 : t.kind = 1) (h2 : ps[k] = t.text) : parFrom ps t k = k := by rw [parFrom, dif_pos h, if_pos ⟨h1, h2⟩]
theorem par_miss {ps : List ByteArray} {t : Tok} {k : Nat} (h : k < ps.length) (h1 : ¬ (t.kind = 1 ∧ ps[k] = t.text)) : parFrom ps t k = parFrom ps t (k + 1) := by rw [parFrom, dif_pos h, if_neg h1]

set_option maxHeartbeats 4000000 in
set_option maxRecDepth 100000 in
theorem spec_l5Param (csM csT : List Value) (m : DMacro) (t : Tok) (fpM fpT : List Nat) (w : World) (HM : sMacro.R w csM m fpM) (HT : sTok.R w csT t fpT) :
    Calls Try.prog 62 #[.agg csM.toArray, .agg csT.toArray] w fun e w' => e = .returned (.int .i64 (parOf m.params t)) ∧ Below w.heap.size w w' := by
  obtain ⟨h2, h3, fp2, fp3, rfl, -, K2, K3, rfl⟩ := HM
  obtain ⟨hh, rfl, -, -, -⟩ := HT
  obtain ⟨a, cap, rfl, hc, hm, hcell, hsz⟩ := open_strs K2
  unfold maxLen at hm
  clear K2 K3
  have b0 := alloc_below' w (.cells #[.string m.name, .bool m.function, .slice a m.params.length cap, h3] 26)
  have b1 := b0.trans ((alloc_below' (w.alloc (.cells #[.string m.name, .bool m.function, .slice a m.params.length cap, h3] 26)) (.cells #[.int .i64 t.kind, .string t.text, .bool t.spaced, hh] 35)).mono b0.size)
  have HX := Lib.hid (alloc2_blk w #[.string m.name, .bool m.function, .slice a m.params.length cap, h3] #[.int .i64 t.kind, .string t.text, .bool t.spaced, hh] 26 35)
  go_enter Try.func62, Try.ntmps62
  go_wp2
  generalize (w.alloc (.cells #[.string m.name, .bool m.function, .slice a m.params.length cap, h3] 26)).alloc (.cells #[.int .i64 t.kind, .string t.text, .bool t.spaced, hh] 35) = W at *
  clear b0
  go_loopw [5] (fun i wr => ∃ k : Nat, k ≤ m.params.length ∧ i = .int .i64 k ∧ Hid (parOf m.params t = parFrom m.params t k) ∧ Below W.heap.size W wr) (fun i _ => m.params.length - (intOf i).toNat)
  case atStart => exact ⟨0, by omega, rfl, rfl, Below.refl _ _⟩
  case round =>
    obtain ⟨k, hk, rfl, HP, hb⟩ := hrel
    have HX1 := Lib.hid (And.intro ((hb.block _ (Array.getElem?_eq_some_iff.1 HX.out.1).1).trans HX.out.1) ((hb.block _ (Array.getElem?_eq_some_iff.1 HX.out.2).1).trans HX.out.2))
    have q2 : wr.cell? ⟨w.heap.size, 2, none⟩ = some (.slice a m.params.length cap) := cell_of_row _ _ 2 _ _ _ HX1.out.1
    have p0 : wr.cell? ⟨w.heap.size + 1, 0, none⟩ = some (.int .i64 t.kind) := cell_of_row _ _ 0 _ _ _ HX1.out.2
    have p1 : wr.cell? ⟨w.heap.size + 1, 1, none⟩ = some (.string t.text) := cell_of_row _ _ 1 _ _ _ HX1.out.2
    by_cases hlt : k < m.params.length
    · obtain ⟨b, off, rfl, hbl, _, hc2⟩ := hcell (by omega)
      have hck := ((b1.trans (hb.mono b1.size)).cell (p := ⟨b, off + k, none⟩) hbl).trans (hc2 k hlt)
      clear hcell hc2
      by_cases e1 : t.kind = 1
      · have g1 : (t.kind == 1) = true := by simp [e1]
        by_cases e2 : m.params[k] = t.text
        · have g2 := bytes_beq e2
          have HF := Lib.hid (par_hit hlt e1 e2)
          clear e1 e2
          go_wp2
          go_quiet (fail)
          go_wp2
          go_ret
          exact ⟨ret_int (by rw [HP.out, HF.out]), b1.trans ((belowN hb _).mono b1.size)⟩
        · have g2 : (m.params[k].toList == t.text.toList) = false := bytes_bne e2
          have HF := Lib.hid (par_miss hlt (fun h => e2 h.2))
          clear e1 e2
          go_wp2
          go_quiet (fail)
          go_wp2
          go_roundw
          case rel => exact ⟨k + 1, by omega, by go_num, by show _ = _; rw [HP.out, HF.out], belowN hb _⟩
          case measure => simp [intOf]; omega
      · have g1 : (t.kind == 1) = false := by simp [e1]
        have HF := Lib.hid (par_miss hlt (fun h => e1 h.1))
        clear e1
        go_wp2
        go_quiet (fail)
        go_wp2
        go_roundw
        case rel => exact ⟨k + 1, by omega, by go_num, by show _ = _; rw [HP.out, HF.out], belowN hb _⟩
        case measure => simp [intOf]; omega
    · have HF := Lib.hid (par_end (t := t) (by omega : m.params.length ≤ k))
      go_wp2
      go_ret
      exact ⟨ret_int (by rw [HP.out, HF.out]), b1.trans (hb.mono b1.size)⟩

end Go.Proofs.Ytflbdanlcpojbaa
