/- Texts that the proof of U stands on, in one file. -/
import Derived.Test.YtiaiggjfepoahabZU5
import Derived.Test.YtiaiggjfepoahabZU6
import Derived.Test.YtiaiggjfepoahabZU2
import Derived.Test.YtiaiggjfepoahabZU4
import Derived.Test.YtiaiggjfepoahabZU1
import Derived.Laws.ResultCell
import Derived.Test.YtiaiggjfepoahabZU7
import Derived.Deep.Cut
import Derived.Deep.CutRange
set_option linter.unusedVariables false
set_option linter.unusedSimpArgs false
/- MacroValid of the model. (Made by gen_mac3.py.) -/
namespace Go.Proofs.Ytiaiggjfepoahab
open Go.RowKit
end Go.Proofs.Ytiaiggjfepoahab

/- MacroValid of the program, from its parts. (Made by gen_mac5.py.) -/
namespace Go.Proofs.Ytiaiggjfepoahab
open Go.RowKit
/-! ### Number signs -/
end Go.Proofs.Ytiaiggjfepoahab

/- Lists of texts and of numbers are compared by the laws. -/
namespace Go.Proofs.Ytiaiggjfepoahab
open Go.RowKit

set_option maxHeartbeats 400000 in
theorem sameTexts (v1 v2 : Value) (l1 l2 : List ByteArray) (fp1 fp2 : List Nat) (w : World) (H1 : (sSlice sStr).R w [v1] l1 fp1) (H2 : (sSlice sStr).R w [v2] l2 fp2) :
    Calls Try.prog 72 #[v1, v2] w fun e w' => e = .returned (.bool (decide (l1 = l2))) ∧ ∃ n, w' = w.drewN n := by
  obtain ⟨a1, cap1, rfl, hc1, hm1, hcell1, hsz1⟩ := open_strs H1
  obtain ⟨a2, cap2, rfl, hc2, hm2, hcell2, hsz2⟩ := open_strs H2
  unfold maxLen at hm1 hm2
  by_cases hl : l1.length = l2.length
  · have hnb : ((l1.length : Int) != (l2.length : Int)) = false := by simp [hl]
    have HL := Lib.hid hl; clear hl
    go_enter Try.func72, Try.ntmps72
    go_wp2
    go_loopw [5] (fun i wr => ∃ k : Nat, k ≤ l1.length ∧ i = .int .i64 k ∧ (∃ n, wr = w.drewN n) ∧ EqUpto l1 l2 k) (fun i _ => l1.length - (intOf i).toNat)
    case atStart => exact ⟨0, by omega, rfl, ⟨0, rfl⟩, by intro j h h' hj; omega⟩
    case round =>
      obtain ⟨k, hk, rfl, ⟨n, rfl⟩, hall⟩ := hrel
      by_cases hlt : k < l1.length
      · have hlt2 : k < l2.length := by have := HL.out; omega
        obtain ⟨b1, off1, rfl, hb1, _, hd1⟩ := hcell1 (by omega)
        obtain ⟨b2, off2, rfl, hb2, _, hd2⟩ := hcell2 (by omega)
        have hck1 := hd1 k hlt
        have hck2 := hd2 k hlt2
        clear hd1 hd2
        by_cases heq : l1[k] = l2[k]
        · have hne := bytes_beq heq
          have hn := hall.succ hlt hlt2 heq
          clear heq
          go_wp2
          go_quiet (fail)
          go_wp2
          go_roundw
          case rel => exact ⟨k + 1, by omega, by go_num, ⟨_, rfl⟩, hn⟩
          case measure => simp [intOf]; omega
        · have hne := bytes_bne heq
          have HF := Lib.hid (eq_no hlt hlt2 heq)
          clear heq
          go_wp2
          go_quiet (fail)
          go_wp2
          go_ret
          exact ⟨ret_bool HF.out.symm, _, World.drewN_drewN _ _ _⟩
      · have HF := Lib.hid (hall.eq HL.out (by omega))
        go_wp2
        go_ret
        exact ⟨ret_bool HF.out.symm, _, rfl⟩
  · have hnb : ((l1.length : Int) != (l2.length : Int)) = true := by simp; omega
    have HF : Hid (decide (l1 = l2) = false) := decide_eq_false (by rintro rfl; exact hl rfl)
    clear hl
    go_enter Try.func72, Try.ntmps72
    go_wp2
    go_ret
    exact ⟨ret_bool HF.out.symm, 0, rfl⟩


end Go.Proofs.Ytiaiggjfepoahab

/- Lists of tokens are compared by the laws. -/
namespace Go.Proofs.Ytiaiggjfepoahab
open Go.RowKit

set_option maxHeartbeats 8000000 in
set_option maxRecDepth 100000 in
theorem sameTokens_same (v1 v2 : Value) (l : List Tok) (fp1 fp2 : List Nat) (w : World) (H1 : (sSlice sTok).R w [v1] l fp1) (H2 : (sSlice sTok).R w [v2] l fp2) :
    Calls Try.prog 53 #[v1, v2] w fun e w' => e = .returned (.bool true) ∧ Below w.heap.size w w' := by
  obtain ⟨a1, cap1, rfl, hc1, hm1, hrow1⟩ := open_rows H1
  obtain ⟨a2, cap2, rfl, hc2, hm2, hrow2⟩ := open_rows H2
  unfold maxLen at hm1 hm2
  clear H1 H2
  have hnb : ((l.length : Int) != (l.length : Int)) = false := by simp
  go_enter Try.func53, Try.ntmps53
  go_wp2
  go_loopw [5] (fun i wr => ∃ k : Nat, k ≤ l.length ∧ i = .int .i64 k ∧ Below w.heap.size w wr) (fun i _ => l.length - (intOf i).toNat)
  case atStart => exact ⟨0, by omega, rfl, Below.refl _ _⟩
  case round =>
    obtain ⟨k, hk, rfl, hb⟩ := hrel
    by_cases hlt : k < l.length
    · obtain ⟨b1, off1, fps1, rfl, hb1, -, he1⟩ := hrow1 (by omega)
      obtain ⟨b2, off2, fps2, rfl, hb2, -, he2⟩ := hrow2 (by omega)
      obtain ⟨es1, hE1, hR1⟩ := he1 k hlt
      obtain ⟨es2, hE2, hR2⟩ := he2 k hlt
      clear hrow1 hrow2 he1 he2
      obtain ⟨h1, rfl, -, -, K1⟩ := hR1
      obtain ⟨h2, rfl, -, -, K2⟩ := hR2
      replace hE1 := hE1.frame (hb.block b1 hb1)
      replace hE2 := hE2.frame (hb.block b2 hb2)
      have HC : Hid (∀ n, Calls Try.prog 72 #[h1, h2] (wr.drewN n) fun e w' => e = .returned (.bool true) ∧ ∃ m, w' = (wr.drewN n).drewN m) := fun n =>
        (sameTexts h1 h2 _ _ _ _ (wr.drewN n) ((sSlice sStr).frame (w := wr) (fun _ _ => rfl) ((sSlice sStr).below K1 hb)) ((sSlice sStr).frame (w := wr) (fun _ _ => rfl) ((sSlice sStr).below K2 hb))).mono
          fun e w' ⟨a, m, c⟩ => ⟨by rw [a, decide_eq_true rfl], m, c⟩
      have c10 : wr.cell? ⟨b1, off1 + k * 4, none⟩ = some _ := elem_cell0 hE1 (by decide) rfl
      have c11 : wr.cell? ⟨b1, off1 + k * 4 + 1, none⟩ = some _ := elem_cell (j := 1) hE1 (by decide) rfl
      have c12 : wr.cell? ⟨b1, off1 + k * 4 + 2, none⟩ = some _ := elem_cell (j := 2) hE1 (by decide) rfl
      have c13 : wr.cell? ⟨b1, off1 + k * 4 + 3, none⟩ = some _ := elem_cell (j := 3) hE1 (by decide) rfl
      have c20 : wr.cell? ⟨b2, off2 + k * 4, none⟩ = some _ := elem_cell0 hE2 (by decide) rfl
      have c21 : wr.cell? ⟨b2, off2 + k * 4 + 1, none⟩ = some _ := elem_cell (j := 1) hE2 (by decide) rfl
      have c22 : wr.cell? ⟨b2, off2 + k * 4 + 2, none⟩ = some _ := elem_cell (j := 2) hE2 (by decide) rfl
      have c23 : wr.cell? ⟨b2, off2 + k * 4 + 3, none⟩ = some _ := elem_cell (j := 3) hE2 (by decide) rfl
      clear hE1 hE2 K1 K2
      have q1 : (l[k].kind != l[k].kind) = false := by simp
      have q2 := bytes_beq (rfl : l[k].text = l[k].text)
      have q3 : (l[k].spaced != l[k].spaced) = false := by simp
      go_wp2
      go_quiet (first | (go_at_call 72; refine Calls.quiet_of (HC.out _)))
      go_wp2
      go_roundw
      case rel => exact ⟨k + 1, by omega, by go_num, belowN hb _⟩
      case measure => simp [intOf]; omega
    · go_wp2
      go_ret
      exact ⟨rfl, hb⟩

end Go.Proofs.Ytiaiggjfepoahab

/- MacroValid of both; the laws' helpers over macros by value. -/
namespace Go.Proofs.Ytiaiggjfepoahab
open Go.RowKit
end Go.Proofs.Ytiaiggjfepoahab

/- A region that draws its order, walked by an invariant over what is done; and one in which all only reads but a literal, an append of it, and the store of the result. Over any program. -/
namespace Go.Proofs.Ytiaiggjfepoahab
open Go.RowKit
end Go.Proofs.Ytiaiggjfepoahab

/- What a function with a struct and another result hands back; boxes. Over any program. -/
namespace Go.Proofs.Ytiaiggjfepoahab
open Go.RowKit
theorem mbox {w : World} {g : Nat} {arr : Array Value} {ty : TypeId} (h : w.heap[g]? = some (.cells arr ty (0, 0))) {w' : World} (hb : Below w.heap.size w w') : w'.heap[g]? = some (.cells arr ty (0, 0)) :=
  (hb.block g (Array.getElem?_eq_some_iff.1 h).1).trans h
theorem mlt {w : World} {g : Nat} {o : Obj} (h : w.heap[g]? = some o) : g < w.heap.size := (Array.getElem?_eq_some_iff.1 h).1

end Go.Proofs.Ytiaiggjfepoahab

/- MacroOf of the model. (Made by gen_mac10.py.) -/
namespace Go.Proofs.Ytiaiggjfepoahab
open Go.RowKit

/-! ### The model's theorem, way by way -/
end Go.Proofs.Ytiaiggjfepoahab
