/- Texts that the proof of U stands on, in one file. -/
import Derived.Test.YtghikfggcnabeaaZU1
import Derived.Test.YtghikfggcnabeaaZU3
import Derived.Deep.QuietTactic
import Derived.BigQuiet
set_option linter.unusedVariables false
set_option linter.unusedSimpArgs false
/- The law's fixed answer. -/
namespace Go.Proofs.Ytghikfggcnabeaa
open Go.RowKit

theorem small_ok {s : ByteArray} (h : s.size ≤ 1000000) : s.size ≤ maxLen := by unfold maxLen; omega
theorem line_ab (w : World) : Calls Try.prog 22 #[.string ⟨#[97, 32, 98]⟩] w fun e w' => e = .returned (.bool true) ∧ w = w' := by
 have := impl_LineValid ⟨#[97, 32, 98]⟩ w (small_ok (by decide))
 rwa [show lineOk ⟨#[97, 32, 98]⟩ = true from by decide] at this
theorem line_nl (w : World) : Calls Try.prog 22 #[.string ⟨#[10]⟩] w fun e w' => e = .returned (.bool false) ∧ w = w' := by
 have := impl_LineValid ⟨#[10]⟩ w (small_ok (by decide))
 rwa [show lineOk ⟨#[10]⟩ = false from by decide] at this
theorem alive (w : World) : Calls Try.prog 10 #[] w fun e w' => e = .returned (.bool true) ∧ w = w' := by
 go_enter Try.func10, Try.ntmps10
 go_wp2_with fail
 refine (line_ab _).mono ?_
 rintro e w' ⟨rfl, rfl⟩
 go_wp2_with fail
 refine (line_nl _).mono ?_
 rintro e w' ⟨rfl, rfl⟩
 go_wp2
 go_ret
 exact ⟨rfl, rfl⟩

end Go.Proofs.Ytghikfggcnabeaa

/- The law's own helper: two equal lists of levels are the same. -/
namespace Go.Proofs.Ytghikfggcnabeaa
open Go.RowKit

set_option maxHeartbeats 8000000 in
set_option maxRecDepth 100000 in
theorem sameLevels_same (v1 v2 : Value) (l : List DLevel) (fp1 fp2 : List Nat) (w : World) (H1 : (sSlice sLevel).R w [v1] l fp1) (H2 : (sSlice sLevel).R w [v2] l fp2) :
  Calls Try.prog 14 #[v1, v2] w fun e w' => e = .returned (.bool true) ∧ Below w.heap.size w w' := by
 have HH1 := Lib.hid H1
 have HH2 := Lib.hid H2
 obtain ⟨a1, cap1, rfl, hc1, hm1, hrow1⟩ := open_rows H1
 obtain ⟨a2, cap2, rfl, hc2, hm2, hrow2⟩ := open_rows H2
 unfold maxLen at hm1 hm2
 have HR1 : Hid (0 < l.length → ∃ bb ob, a1 = some ⟨bb, ob, none⟩) := fun h => by obtain ⟨b, o, -, e, -⟩ := hrow1 h; exact ⟨b, o, e⟩
 have HR2 : Hid (0 < l.length → ∃ bb ob, a2 = some ⟨bb, ob, none⟩) := fun h => by obtain ⟨b, o, -, e, -⟩ := hrow2 h; exact ⟨b, o, e⟩
 clear H1 H2 hrow1 hrow2
 have hnb : ((l.length : Int) != (l.length : Int)) = false := by simp
 go_enter Try.func14, Try.ntmps14
 go_wp2
 go_loopw [5] (fun i wr => ∃ k : Nat, k ≤ l.length ∧ i = .int .i64 k ∧ Below w.heap.size w wr) (fun i _ => l.length - (intOf i).toNat)
 case atStart => exact ⟨0, by omega, rfl, Below.refl _ _⟩
 case round =>
  obtain ⟨k, hk, rfl, hb⟩ := hrel
  by_cases hlt : k < l.length
  ·obtain ⟨b1, o1, rfl⟩ := HR1.out (by omega)
   obtain ⟨b2, o2, rfl⟩ := HR2.out (by omega)
   obtain ⟨c10, c11, c12, -⟩ := lev_at ((sSlice sLevel).below HH1.out hb) hlt
   obtain ⟨c20, c21, c22, -⟩ := lev_at ((sSlice sLevel).below HH2.out hb) hlt
   have q1 : ((l[k].taken == l[k].taken) = true) := by simp
   have q2 : ((l[k].done_ == l[k].done_) = true) := by simp
   have q3 : ((l[k].other == l[k].other) = true) := by simp
   go_wp2
   go_quiet (fail)
   go_wp2
   go_roundw
   case rel => exact ⟨k + 1, by omega, by go_num, belowN hb _⟩
   case measure => simp [intOf]; omega
  ·go_wp2
   go_ret
   exact ⟨rfl, hb⟩

end Go.Proofs.Ytghikfggcnabeaa
