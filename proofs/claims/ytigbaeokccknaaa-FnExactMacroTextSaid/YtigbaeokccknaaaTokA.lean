/- Tokens as arguments of a law: their size, their copy. -/
import Derived.Test.YtigbaeokccknaaaTokL
import Derived.Test.YtigbaeokccknaaaOpen
import Derived.Test.YtigbaeokccknaaaRec0
namespace Go.Proofs.Ytigbaeokccknaaa
open Go.RowKit

def wtToken (x : Tok) : Nat := x.text.size + wtStringS x.hidden

set_option maxHeartbeats 1000000 in
theorem szToken (cs : List Value) (x : Tok) (fp : List Nat) (w : World) (B : Int) (h0 : 0 ≤ B) (h1 : B ≤ 1048576) (H : sTok.R w cs x fp) :
    Calls Try.prog 60 #[.agg cs.toArray, .int .i64 B] w fun e w' => ∃ r : Int, e = .returned (.int .i64 r) ∧ SzR B r (wtToken x) ∧ Below w.heap.size w w' := by
  obtain ⟨h, rfl, _, hok, K⟩ := H
  unfold okStr maxLen at hok
  have b0 := alloc_below' w (.cells #[.int .i64 x.kind, .string x.text, .bool x.spaced, h] 76)
  by_cases ht : B < x.text.size
  · have HN : Hid (SzR B (-1) (wtToken x)) := SzR.no (by unfold wtToken; omega)
    go_enter Try.func60, Try.ntmps60
    go_wp2
    go_ret
    exact ⟨-1, rfl, HN.out, b0⟩
  · have HC : Hid (∀ W, Below w.heap.size w W → Calls Try.prog 57 #[h, .int .i64 (B - x.text.size)] W fun e w' => ∃ r : Int, e = .returned (.int .i64 r) ∧ SzR (B - x.text.size) r (wtStringS x.hidden) ∧ W = w') := fun W hb => szStringS h x.hidden fp W (B - x.text.size) (by omega) (by omega) ((sSlice sStr).below K hb)
    go_enter Try.func60, Try.ntmps60
    go_wp2_with fail
    refine (HC.out _ b0).mono ?_
    rintro e w1 ⟨r, rfl, hr, rfl⟩
    by_cases hn : r < 0
    · have HN : Hid (SzR B (-1) (wtToken x)) := by
        refine SzR.no ?_
        unfold SzR at hr; unfold wtToken; split at hr <;> omega
      go_wp2
      go_ret
      exact ⟨-1, rfl, HN.out, b0⟩
    · have hg := hr.good hn
      have hl := hr.le (by omega)
      have HN : Hid (SzR B r (wtToken x)) := SzR.yes (by unfold wtToken; omega) (by unfold wtToken; omega)
      clear hg hr
      go_wp2
      go_ret
      exact ⟨r, rfl, HN.out, b0⟩

set_option maxHeartbeats 2000000 in
theorem toToken (cs : List Value) (x : Tok) (fp : List Nat) (w : World) (hW : wtToken x ≤ 1048576) (H : sTok.R w cs x fp) :
    Calls Try.prog 61 #[.agg cs.toArray] w (MadeC sTok x w) := by
  obtain ⟨h, rfl, hk, hok, K⟩ := H
  have hW' : wtStringS x.hidden ≤ 1048576 := by unfold wtToken at hW; omega
  have HC : Hid (∀ W, Below w.heap.size w W → Calls Try.prog 58 #[h] W (Made (sSlice sStr) x.hidden W)) := fun W hb => toStringS h x.hidden fp W hW' ((sSlice sStr).below K hb)
  go_enter Try.func61, Try.ntmps61
  have b3 := below3 w #[.int .i64 x.kind, .string x.text, .bool x.spaced, h] #[.int .i64 0, .string ⟨#[]⟩, .bool false, .slice none 0 0] #[.int .i64 x.kind, .string x.text, .bool x.spaced, .slice none 0 0] 76 60 60
  obtain ⟨g1, g2, g3⟩ := alloc3_blk w #[.int .i64 x.kind, .string x.text, .bool x.spaced, h] #[.int .i64 0, .string ⟨#[]⟩, .bool false, .slice none 0 0] #[.int .i64 x.kind, .string x.text, .bool x.spaced, .slice none 0 0] 76 60 60
  have HG := Lib.hid (And.intro g1 (And.intro g2 g3))
  clear g1 g2 g3
  go_wp2_with fail
  refine (HC.out _ b3).mono ?_
  rintro e w1 ⟨h1, fp1, rfl, R1, O1, hb1⟩
  have HG1 : Hid (w1.heap[w.heap.size + 1]? = some (.cells #[.int .i64 0, .string ⟨#[]⟩, .bool false, .slice none 0 0] 60 (0, 0)) ∧ w1.heap[w.heap.size + 1 + 1]? = some (.cells #[.int .i64 x.kind, .string x.text, .bool x.spaced, .slice none 0 0] 60 (0, 0))) :=
    ⟨(hb1.block _ (by rw [HG.out.2.2]; omega)).trans HG.out.1, (hb1.block _ (by rw [HG.out.2.2]; omega)).trans HG.out.2.1⟩
  have hb := b3.trans (hb1.mono b3.size)
  have hlo : ∀ b ∈ fp1, w.heap.size + 3 ≤ b := fun b hb => by have := (O1.2 b hb).1; rw [HG.out.2.2] at this; omega
  rw [HG.out.2.2] at O1
  clear HG hb1 b3 HC
  obtain ⟨a1, cap1, rfl, hq⟩ := open_rows R1
  clear hq
  have c10 : w1.cell? ⟨w.heap.size + 1, 0, none⟩ = some (.int .i64 0) := cell_of_row w1 (w.heap.size + 1) 0 _ _ _ HG1.out.1
  have c11 : w1.cell? ⟨w.heap.size + 1, 1, none⟩ = some (.string ⟨#[]⟩) := cell_of_row w1 (w.heap.size + 1) 1 _ _ _ HG1.out.1
  have c12 : w1.cell? ⟨w.heap.size + 1, 2, none⟩ = some (.bool false) := cell_of_row w1 (w.heap.size + 1) 2 _ _ _ HG1.out.1
  have c13 : w1.cell? ⟨w.heap.size + 1, 3, none⟩ = some (.slice none 0 0) := cell_of_row w1 (w.heap.size + 1) 3 _ _ _ HG1.out.1
  have c20 : w1.cell? ⟨w.heap.size + 1 + 1, 0, none⟩ = some (.int .i64 x.kind) := cell_of_row w1 (w.heap.size + 1 + 1) 0 _ _ _ HG1.out.2
  have c21 : w1.cell? ⟨w.heap.size + 1 + 1, 1, none⟩ = some (.string x.text) := cell_of_row w1 (w.heap.size + 1 + 1) 1 _ _ _ HG1.out.2
  have c22 : w1.cell? ⟨w.heap.size + 1 + 1, 2, none⟩ = some (.bool x.spaced) := cell_of_row w1 (w.heap.size + 1 + 1) 2 _ _ _ HG1.out.2
  have c23 : w1.cell? ⟨w.heap.size + 1 + 1, 3, none⟩ = some (.slice none 0 0) := cell_of_row w1 (w.heap.size + 1 + 1) 3 _ _ _ HG1.out.2
  have f10 : w1.frozen? ⟨w.heap.size + 1, 0, none⟩ = false := frozen_of_row w1 (w.heap.size + 1) 0 _ _ HG1.out.1
  have f11 : w1.frozen? ⟨w.heap.size + 1, 1, none⟩ = false := frozen_of_row w1 (w.heap.size + 1) 1 _ _ HG1.out.1
  have f12 : w1.frozen? ⟨w.heap.size + 1, 2, none⟩ = false := frozen_of_row w1 (w.heap.size + 1) 2 _ _ HG1.out.1
  have f13 : w1.frozen? ⟨w.heap.size + 1, 3, none⟩ = false := frozen_of_row w1 (w.heap.size + 1) 3 _ _ HG1.out.1
  have f23 : w1.frozen? ⟨w.heap.size + 1 + 1, 3, none⟩ = false := frozen_of_row w1 (w.heap.size + 1 + 1) 3 _ _ HG1.out.2
  have hn1 : w.heap.size + 1 ∉ fp1 := fun hx => by have := hlo _ hx; omega
  have hn2 : w.heap.size + 1 + 1 ∉ fp1 := fun hx => by have := hlo _ hx; omega
  have HR := Lib.hid ((sSlice sStr).setB ((sSlice sStr).setB ((sSlice sStr).setB ((sSlice sStr).setB ((sSlice sStr).setB R1 hn2 3 (.slice a1 x.hidden.length cap1)) hn1 0 (.int .i64 x.kind)) hn1 1 (.string x.text)) hn1 2 (.bool x.spaced)) hn1 3 (.slice a1 x.hidden.length cap1))
  have HO := Lib.hid ((((((O1.lower (by omega : w.heap.size ≤ w.heap.size + 1 + 1 + 1)).setCell ⟨w.heap.size + 1 + 1, 3, none⟩ (.slice a1 x.hidden.length cap1)).setCell ⟨w.heap.size + 1, 0, none⟩ (.int .i64 x.kind)).setCell ⟨w.heap.size + 1, 1, none⟩ (.string x.text)).setCell ⟨w.heap.size + 1, 2, none⟩ (.bool x.spaced)).setCell ⟨w.heap.size + 1, 3, none⟩ (.slice a1 x.hidden.length cap1))
  have HB := Lib.hid (((((hb.setCell (p := ⟨w.heap.size + 1 + 1, 3, none⟩) (by simp; omega) (.slice a1 x.hidden.length cap1)).setCell (p := ⟨w.heap.size + 1, 0, none⟩) (by simp) (.int .i64 x.kind)).setCell (p := ⟨w.heap.size + 1, 1, none⟩) (by simp) (.string x.text)).setCell (p := ⟨w.heap.size + 1, 2, none⟩) (by simp) (.bool x.spaced)).setCell (p := ⟨w.heap.size + 1, 3, none⟩) (by simp) (.slice a1 x.hidden.length cap1))
  have HS := Lib.hid (blk_set (blk_set (blk_set (blk_set (blk_other HG1.out.1 (by omega : w.heap.size + 1 ≠ w.heap.size + 1 + 1) 3 (.slice a1 x.hidden.length cap1)) 0 (.int .i64 x.kind)) 1 (.string x.text)) 2 (.bool x.spaced)) 3 (.slice a1 x.hidden.length cap1))
  clear HG1
  go_wp2
  refine bodyPost_ret (results_cell_row rfl _ _ (w.heap.size + 1) _ _ _ _ rfl HS.out Try.underlying60 rfl (by kernel_rfl)) rfl ?_
  exact ⟨[.int .i64 x.kind, .string x.text, .bool x.spaced, .slice a1 x.hidden.length cap1], fp1, rfl, ⟨_, rfl, hk, hok, HR.out⟩, HO.out, HB.out⟩

section
variable {H : Type} {enc : TypeId × Value → H} {w : World} {base : Nat} {spare : Nat → Bool} {held : Bool}
theorem opens_Token : Opens enc Try.prog w base spare held 76 sTok :=
  opens_tok Try.underlying76 (by kernel_rfl) (by kernel_rfl) (opens_int Try.underlying3) (opens_str Try.underlying9) (opens_bool Try.underlying4) (opens_slice Try.underlying23 (by kernel_rfl) (by decide) (opens_str Try.underlying9))
end
abbrev zero_Token : Value := .agg #[.int .i64 0, .string ByteArray.empty, .bool false, .slice none 0 0]

end Go.Proofs.Ytigbaeokccknaaa
