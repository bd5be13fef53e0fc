/- MacroValid of the program. -/
import Derived.Test.YtigbaeokccknaaaMac2
import Derived.Test.YtigbaeokccknaaaMac2a
import Derived.Test.YtigbaeokccknaaaDraw2
namespace Go.Proofs.Ytigbaeokccknaaa
open Go.RowKit

/-- The place of a text among others, from k on, or -1. -/
def idxTx (ps : List ByteArray) (x : ByteArray) (k : Nat) : Int := if h : k < ps.length then (if x = ps[k] then (k : Int) else idxTx ps x (k + 1)) else -1
termination_by ps.length - k
theorem idx_end {ps : List ByteArray} {x : ByteArray} {k : Nat} (h : ps.length ≤ k) : idxTx ps x k = -1 := by rw [idxTx, dif_neg (by omega)]
theorem idx_hit {ps : List ByteArray} {x : ByteArray} {k : Nat} (h : k < ps.length) (h1 : x = ps[k]) : idxTx ps x k = k := by rw [idxTx, dif_pos h, if_pos h1]
theorem idx_miss {ps : List ByteArray} {x : ByteArray} {k : Nat} (h : k < ps.length) (h1 : x ≠ ps[k]) : idxTx ps x k = idxTx ps x (k + 1) := by rw [idxTx, dif_pos h, if_neg h1]
theorem idx_has (ps : List ByteArray) (x : ByteArray) (k : Nat) : decide (0 ≤ idxTx ps x k) = hasTx (ps.drop k) x := by
  induction k using idxTx.induct (ps := ps) (x := x) with
  | case1 k h hc =>
    rw [idx_hit h hc, List.drop_eq_getElem_cons h]
    unfold hasTx
    rw [List.any_cons, decide_eq_true hc.symm, Bool.true_or, decide_eq_true (by omega)]
  | case2 k h hc ih =>
    have hc' : ¬ ps[k] = x := fun e => hc e.symm
    rw [idx_miss h hc, ih, List.drop_eq_getElem_cons h]
    unfold hasTx
    rw [List.any_cons, decide_eq_false hc', Bool.false_or]
  | case3 k h => rw [idx_end (by omega), List.drop_eq_nil_iff.2 (by omega)]; rfl
theorem idx_has0 (ps : List ByteArray) (x : ByteArray) : decide (0 ≤ idxTx ps x 0) = hasTx ps x := idx_has ps x 0

set_option maxHeartbeats 2000000 in
theorem lib_Index (v : Value) (l : List ByteArray) (fp : List Nat) (x : ByteArray) (w : World) (H : (sSlice sStr).R w [v] l fp) :
    Calls Try.prog 87 #[v, .string x] w fun e w' => e = .returned (.int .i64 (idxTx l x 0)) ∧ w' = w := by
  obtain ⟨a, cap, rfl, hc, hm, hcell, hsz⟩ := open_strs H
  unfold maxLen at hm
  clear H
  go_enter Try.func87, Try.ntmps87
  go_wp2
  go_loopw [8] (fun i wr => ∃ k : Nat, k ≤ l.length ∧ i = .int .i64 k ∧ Hid (idxTx l x 0 = idxTx l x k) ∧ wr = w) (fun i _ => l.length - (intOf i).toNat)
  case atStart => exact ⟨0, by omega, rfl, rfl, rfl⟩
  case round =>
    obtain ⟨k, hk, rfl, HP, rfl⟩ := hrel
    by_cases hlt : k < l.length
    · obtain ⟨b, off, rfl, hbl, _, hc2⟩ := hcell (by omega)
      have hck := hc2 k hlt
      clear hcell hc2
      by_cases e : x = l[k]
      · have g := bytes_beq e
        have HF := Lib.hid (idx_hit hlt e)
        clear e
        go_wp2
        go_ret
        exact ⟨ret_int (by rw [HP.out, HF.out]), by first | rfl | trivial⟩
      · have g : (x.toList == l[k].toList) = false := bytes_bne e
        have HF := Lib.hid (idx_miss hlt e)
        clear e
        go_wp2
        go_roundw
        case rel => exact ⟨k + 1, by omega, by go_num, by show _ = _; rw [HP.out, HF.out], by first | rfl | trivial⟩
        case measure => simp [intOf]; omega
    · have HF := Lib.hid (idx_end (x := x) (by omega : l.length ≤ k))
      go_wp2
      go_ret
      exact ⟨ret_int (by rw [HP.out, HF.out]), by first | rfl | trivial⟩
theorem lib_Contains (v : Value) (l : List ByteArray) (fp : List Nat) (x : ByteArray) (w : World) (H : (sSlice sStr).R w [v] l fp) :
    Calls Try.prog 67 #[v, .string x] w fun e w' => e = .returned (.bool (hasTx l x)) ∧ w' = w := by
  have HC := Lib.hid (lib_Index v l fp x w H)
  have HF := Lib.hid (idx_has0 l x)
  clear H
  go_enter Try.func67, Try.ntmps67
  go_wp2_with (go_at_call 87; refine HC.out.mono ?_; rintro e w' ⟨rfl, rfl⟩)
  go_ret
  exact ⟨ret_bool HF.out, by first | rfl | trivial⟩

theorem par_take {ps : List ByteArray} {k : Nat} (hk : k < ps.length) : parOk ps k = (oneTok ps[k] 1 && !hasTx (ps.take k) ps[k]) := by
  unfold parOk
  rw [dif_pos hk]
  congr 1
  cases h : hasTx (ps.take k) ps[k]
  · rw [Bool.not_false, List.all_eq_true]
    intro j hj
    have hj' : j < k := by simpa using hj
    rw [List.getElem?_eq_getElem (by omega), Bool.not_eq_true', decide_eq_false_iff_not]
    intro e
    have : hasTx (ps.take k) ps[k] = true := hasTx_iff.2 (by rw [← Option.some.inj e]; exact List.mem_take_iff_getElem.2 ⟨j, by omega, rfl⟩)
    rw [h] at this
    exact absurd this (by simp)
  · rw [Bool.not_true, List.all_eq_false]
    obtain ⟨j, hj, he⟩ := List.mem_take_iff_getElem.1 (hasTx_iff.1 h)
    exact ⟨j, by simp; omega, by rw [List.getElem?_eq_getElem (by omega), he]; simp⟩
theorem parsOk_long {ps : List ByteArray} (h : 4 < ps.length) : parsOk ps = false := by unfold parsOk; rw [decide_eq_false (by omega)]; rfl
theorem parsOk_no {ps : List ByteArray} {k : Nat} (hk : k < ps.length) (h : parOk ps k = false) : parsOk ps = false := by unfold parsOk; rw [range_no hk h, Bool.and_false]
theorem parsOk_yes {ps : List ByteArray} (hl : ps.length ≤ 4) (h : ParUpto ps ps.length) : parsOk ps = true := by unfold parsOk; rw [range_yes h, decide_eq_true hl]; rfl

set_option maxHeartbeats 4000000 in
set_option maxRecDepth 100000 in
theorem impl_paramsValid (v : Value) (l : List ByteArray) (fp : List Nat) (w : World) (H : (sSlice sStr).R w [v] l fp) :
    Calls Try.prog 36 #[v] w (Says (parsOk l) w) := by
  have H' := H
  obtain ⟨a, cap, rfl, hc, hm, hcell, hsz⟩ := open_strs H
  unfold maxLen at hm
  clear H
  by_cases hl : 4 < l.length
  · have HF := Lib.hid (parsOk_long hl)
    go_enter Try.func36, Try.ntmps36
    go_wp2
    go_ret
    exact ⟨ret_bool HF.out.symm, Below.refl _ _⟩
  go_enter Try.func36, Try.ntmps36
  go_wp2
  go_loopw [10] (fun i wr => ∃ k : Nat, k ≤ l.length ∧ i = .int .i64 k ∧ ParUpto l k ∧ Below w.heap.size w wr) (fun i _ => l.length - (intOf i).toNat)
  case atStart => exact ⟨0, by omega, rfl, ParUpto.zero _, Below.refl _ _⟩
  case round =>
    obtain ⟨k, hk, rfl, hall, hb⟩ := hrel
    by_cases hlt : k < l.length
    · obtain ⟨b, off, rfl, hbl, _, hc2⟩ := hcell (by omega)
      have hck := (hb.cell (p := ⟨b, off + k, none⟩) hbl).trans (hc2 k hlt)
      have HC := Lib.hid (fun W => impl_isOneToken l[k] 1 W (hsz k hlt))
      obtain ⟨fpt, HT, -⟩ := slice_take k hk H'
      have HD := Lib.hid (fun W (hW : Below wr.heap.size wr W) => lib_Contains _ _ _ l[k] W ((sSlice sStr).below ((sSlice sStr).below HT hb) hW))
      have hpk := par_take hlt
      clear hcell hc2 HT H'
      cases h1 : oneTok l[k] 1
      · rw [h1] at HC hpk
        have HF := Lib.hid (parsOk_no hlt (hpk.trans rfl))
        clear h1 hpk hall HD
        go_wp2_with (go_at_call 34; refine (HC.out _).mono ?_; rintro e w1 ⟨rfl, hb1⟩)
        go_ret
        exact ⟨ret_bool HF.out.symm, hb.trans (hb1.mono hb.size)⟩
      · rw [h1] at HC hpk
        clear h1
        go_wp2_with fail
        refine (HC.out _).mono ?_
        rintro e w1 ⟨rfl, hb1⟩
        go_wp2_with fail
        refine (HD.out _ hb1).mono ?_
        rintro e w2 ⟨rfl, rfl⟩
        have hbq := hb.trans (hb1.mono hb.size)
        cases h2 : hasTx (l.take k) l[k]
        · rw [h2] at hpk
          have HN := Lib.hid (hall.succ (hpk.trans rfl))
          clear h2 hpk hall hck HD HC hb1
          go_wp2
          go_roundw
          case rel => exact ⟨k + 1, by omega, by go_num, HN.out, hbq⟩
          case measure => simp [intOf]; omega
        · rw [h2] at hpk
          have HF := Lib.hid (parsOk_no hlt (hpk.trans rfl))
          clear h2 hpk hall hck HD HC hb1
          go_wp2
          go_ret
          exact ⟨ret_bool HF.out.symm, hbq⟩
    · have HF := Lib.hid (parsOk_yes (by omega) (fun j hj => hall j (by omega)))
      clear hall
      go_wp2
      go_ret
      exact ⟨ret_bool HF.out.symm, hb⟩

end Go.Proofs.Ytigbaeokccknaaa
