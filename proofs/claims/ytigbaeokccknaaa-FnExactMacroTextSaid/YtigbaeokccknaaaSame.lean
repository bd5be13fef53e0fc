/- Lists of texts and of numbers are compared by the laws. -/
import Derived.Test.YtigbaeokccknaaaLive
namespace Go.Proofs.Ytigbaeokccknaaa
open Go.RowKit

set_option maxHeartbeats 400000 in
theorem sameTexts (v1 v2 : Value) (l1 l2 : List ByteArray) (fp1 fp2 : List Nat) (w : World) (H1 : (sSlice sStr).R w [v1] l1 fp1) (H2 : (sSlice sStr).R w [v2] l2 fp2) :
    Calls Try.prog 18 #[v1, v2] w fun e w' => e = .returned (.bool (decide (l1 = l2))) ∧ ∃ n, w' = w.drewN n := by
  obtain ⟨a1, cap1, rfl, hc1, hm1, hcell1, hsz1⟩ := open_strs H1
  obtain ⟨a2, cap2, rfl, hc2, hm2, hcell2, hsz2⟩ := open_strs H2
  unfold maxLen at hm1 hm2
  by_cases hl : l1.length = l2.length
  · have hnb : ((l1.length : Int) != (l2.length : Int)) = false := by simp [hl]
    have HL := Lib.hid hl; clear hl
    go_enter Try.func18, Try.ntmps18
    go_wp2
    go_loopw [5] (fun i wr => ∃ k : Nat, k ≤ l1.length ∧ i = .int .i64 k ∧ (∃ n, wr = w.drewN n) ∧ EqUpto l1 l2 k) (fun i _ => l1.length - (intOf i).toNat)
    case atStart => exact ⟨0, by omega, rfl, ⟨0, rfl⟩, by intro j h h' hj; omega⟩
    case round =>
      obtain ⟨k, hk, rfl, ⟨n, rfl⟩, hall⟩ := hrel
      by_cases hlt : k < l1.length
      · have hlt2 : k < l2.length := by have := HL.out; omega
        obtain ⟨b1, off1, rfl, hb1, _, hd1⟩ := hcell1 (by omega)
        obtain ⟨b2, off2, rfl, hb2, _, hd2⟩ := hcell2 (by omega)
        have hck1 := hd1 k hlt
        have hck2 := hd2 k hlt2
        clear hd1 hd2
        by_cases heq : l1[k] = l2[k]
        · have hne := bytes_beq heq
          have hn := hall.succ hlt hlt2 heq
          clear heq
          go_wp2
          go_quiet (fail)
          go_wp2
          go_roundw
          case rel => exact ⟨k + 1, by omega, by go_num, ⟨_, rfl⟩, hn⟩
          case measure => simp [intOf]; omega
        · have hne := bytes_bne heq
          have HF := Lib.hid (eq_no hlt hlt2 heq)
          clear heq
          go_wp2
          go_quiet (fail)
          go_wp2
          go_ret
          exact ⟨ret_bool HF.out.symm, _, World.drewN_drewN _ _ _⟩
      · have HF := Lib.hid (hall.eq HL.out (by omega))
        go_wp2
        go_ret
        exact ⟨ret_bool HF.out.symm, _, rfl⟩
  · have hnb : ((l1.length : Int) != (l2.length : Int)) = true := by simp; omega
    have HF : Hid (decide (l1 = l2) = false) := decide_eq_false (by rintro rfl; exact hl rfl)
    clear hl
    go_enter Try.func18, Try.ntmps18
    go_wp2
    go_ret
    exact ⟨ret_bool HF.out.symm, 0, rfl⟩


end Go.Proofs.Ytigbaeokccknaaa
