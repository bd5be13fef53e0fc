/- Texts that the proof of U stands on, in one file. -/
import Derived.Test.YtipfpppcbmpjiaaZU6
import Derived.Test.YtipfpppcbmpjiaaZU3
import Derived.IntWalk
import Derived.Test.YtipfpppcbmpjiaaZU1
import Derived.Lib.Bytealg
import Derived.Test.YtipfpppcbmpjiaaZU4
import Derived.Laws.AppendOwnNone
import Derived.Orders
set_option linter.unusedVariables false
set_option linter.unusedSimpArgs false
/- Validity of tables, of both. (Made by gen_tab2.py.) -/
namespace Go.Proofs.Ytipfpppcbmpjiaa
open Go.RowKit

section
variable {P : Program} {ops : Array Oper} {Q : Exit → Act → World → Prop} {md : Region.Mode} {S : World → Prop}
/-- An operation of a drawn region is taken first; its slot is written out. -/
theorem takeH (i d : Nat) {oi : Oper} {v : Value} {fuel : Nat} {listed : Array Bool} {a : Act} {w : World} (hi : ops[i]? = some oi) (hd : oi.dst = some d)
    (hs : Region.noSelect ops = true) (hf : Region.free md ops listed i = true) (hr : (Region.ready md ops listed).contains i = true)
    (hQ : ∀ c a w, Q (.panic c) (a.put (some d) v) w → Q (.panic c) a w) (hw : Region.wanted oi (yielded ops a.tmps) = true) (hS : S w)
    (hy : ∀ w, S w → (execOp a.eval oi).run P w = .ok (.value v) w)
    (h : wpAnyH P md ops Q S fuel (listed.setIfInBounds i true) (a.put (some d) v) w) : wpAnyH P md ops Q S (fuel + 1) listed a w :=
  wpAnyH_take hi hs hf hr (by rw [hd]; exact hQ) (.inl ⟨hw, hy⟩) hS (by rw [hd]; exact h)
/-- One whose guard is struck. -/
theorem skipH (i d : Nat) {oi : Oper} {fuel : Nat} {listed : Array Bool} {a : Act} {w : World} (hi : ops[i]? = some oi) (hd : oi.dst = some d)
    (hs : Region.noSelect ops = true) (hf : Region.free md ops listed i = true) (hr : (Region.ready md ops listed).contains i = true)
    (hQ : ∀ c a w, Q (.panic c) (a.put (some d) undef) w → Q (.panic c) a w) (hw : Region.wanted oi (yielded ops a.tmps) = false) (hS : S w)
    (h : wpAnyH P md ops Q S fuel (listed.setIfInBounds i true) (a.put (some d) undef) w) : wpAnyH P md ops Q S (fuel + 1) listed a w :=
  wpAnyH_take hi hs hf hr (by rw [hd]; exact hQ) (.inr ⟨hw, rfl⟩) hS (by rw [hd]; exact h)
end

def tabAt (l : List DMacro) (k : Nat) : Bool := if h : k < l.length then macOk l[k] && (decide (k = 0) || sLess (l[k - 1]'(by omega)).name l[k].name) else true
def tabOk (l : List DMacro) : Bool := decide (l.length ≤ 10) && (List.range l.length).all (tabAt l)
def TabUpto (l : List DMacro) (k : Nat) : Prop := ∀ j, j < k → tabAt l j = true
theorem TabUpto.zero (l : List DMacro) : TabUpto l 0 := fun j h => absurd h (by omega)
theorem TabUpto.succ {l : List DMacro} {k : Nat} (h : TabUpto l k) (hk : tabAt l k = true) : TabUpto l (k + 1) := fun j hj => by
  by_cases e : j = k
  · subst e; exact hk
  · exact h j (by omega)
theorem tabOk_long {l : List DMacro} (h : 10 < l.length) : tabOk l = false := by unfold tabOk; rw [decide_eq_false (by omega)]; rfl
theorem tabOk_no {l : List DMacro} {k : Nat} (hk : k < l.length) (h : tabAt l k = false) : tabOk l = false := by
  unfold tabOk
  rw [Bool.and_eq_false_iff]
  exact .inr (List.all_eq_false.2 ⟨k, List.mem_range.2 hk, by simp [h]⟩)
theorem tabOk_yes {l : List DMacro} (h : TabUpto l l.length) (hl : l.length ≤ 10) : tabOk l = true := by
  unfold tabOk
  rw [decide_eq_true hl, Bool.true_and, List.all_eq_true]
  exact fun k hk => h k (List.mem_range.1 hk)
theorem tabOk_upto {l : List DMacro} (h : TabUpto l l.length) : tabOk l = decide (l.length ≤ 10) := by
  unfold tabOk
  rw [show (List.range l.length).all (tabAt l) = true from List.all_eq_true.2 fun k hk => h k (List.mem_range.1 hk), Bool.and_true]
theorem tabOk_at {l : List DMacro} (h : tabOk l = true) : l.length ≤ 10 ∧ ∀ k, k < l.length → tabAt l k = true := by
  unfold tabOk at h
  rw [Bool.and_eq_true, decide_eq_true_eq, List.all_eq_true] at h
  exact ⟨h.1, fun k hk => h.2 k (List.mem_range.2 hk)⟩
theorem tabAt_bad {l : List DMacro} {k : Nat} (hk : k < l.length) (h : macOk l[k] = false) : tabAt l k = false := by unfold tabAt; rw [dif_pos hk, h]; rfl
theorem tabAt_first {l : List DMacro} (hk : 0 < l.length) (h : macOk l[0] = true) : tabAt l 0 = true := by unfold tabAt; rw [dif_pos hk, h]; rfl
theorem tabAt_less {l : List DMacro} {k : Nat} (hk : k < l.length) (h0 : 0 < k) (h : sLess (l[k - 1]'(by omega)).name l[k].name = false) : tabAt l k = false := by
  unfold tabAt; rw [dif_pos hk, h, decide_eq_false (by omega), Bool.or_false, Bool.and_false]
theorem tabAt_later {l : List DMacro} {k : Nat} (hk : k < l.length) (h : macOk l[k] = true) (h2 : sLess (l[k - 1]'(by omega)).name l[k].name = true) : tabAt l k = true := by
  unfold tabAt; rw [dif_pos hk, h, h2, Bool.or_true]; rfl

set_option maxHeartbeats 8000000 in
set_option maxRecDepth 100000 in
theorem impl_TableValid (v : Value) (l : List DMacro) (fp : List Nat) (w : World) (H : (sSlice sMacro).R w [v] l fp) :
    Calls Try.prog 24 #[v] w (Says (tabOk l) w) := by
  obtain ⟨a, cap, rfl, hc, hm, hrow⟩ := open_rows H
  unfold maxLen at hm
  clear H
  by_cases hl : 10 < l.length
  · have HF := Lib.hid (tabOk_long hl)
    have hl' : (10 : Int) < (l.length : Int) := by omega
    go_enter Try.func24, Try.ntmps24
    go_wp2
    go_ret
    exact ⟨ret_bool HF.out.symm, Below.refl _ _⟩
  · have hl' : ¬ (10 : Int) < (l.length : Int) := by omega
    go_enter Try.func24, Try.ntmps24
    go_wp2
    go_loopw [10] (fun i wr => ∃ k : Nat, k ≤ l.length ∧ i = .int .i64 k ∧ Hid (TabUpto l k) ∧ Below w.heap.size w wr) (fun i _ => l.length - (intOf i).toNat)
    case atStart => exact ⟨0, by omega, rfl, TabUpto.zero _, Below.refl _ _⟩
    case round =>
      obtain ⟨k, hk, rfl, hall, hb⟩ := hrel
      by_cases hlt : k < l.length
      · obtain ⟨b1, off1, fps1, rfl, hb1, -, he1⟩ := hrow (by omega)
        obtain ⟨es, hE, hR⟩ := he1 k hlt
        have hR' := hR
        obtain ⟨h2, h3, p2, p3, rfl, -, K2, K3, -⟩ := hR
        obtain ⟨a2, ca2, rfl, -⟩ := open_strs K2
        obtain ⟨a3, ca3, rfl, -⟩ := open_rows K3
        clear K2 K3
        replace hE := hE.frame (hb.block b1 hb1)
        have hbr : b1 < wr.heap.size := Nat.lt_of_lt_of_le hb1 hb.size
        have c10 : wr.cell? ⟨b1, off1 + k * 4, none⟩ = some _ := elem_cell0 hE (by decide) rfl
        have c11 : wr.cell? ⟨b1, off1 + k * 4 + 1, none⟩ = some _ := elem_cell (j := 1) hE (by decide) rfl
        have c12 : wr.cell? ⟨b1, off1 + k * 4 + 2, none⟩ = some _ := elem_cell (j := 2) hE (by decide) rfl
        have c13 : wr.cell? ⟨b1, off1 + k * 4 + 3, none⟩ = some _ := elem_cell (j := 3) hE (by decide) rfl
        have hx1 := alloc_below' wr (.cells #[.string l[k].name, .bool l[k].function, .slice a2 l[k].params.length ca2, .slice a3 l[k].body.length ca3] 70)
        have HX := Lib.hid (heap_alloc_new wr (.cells #[.string l[k].name, .bool l[k].function, .slice a2 l[k].params.length ca2, .slice a3 l[k].body.length ca3] 70))
        have HC := Lib.hid (impl_MacroValid _ l[k] _ (wr.alloc (.cells #[.string l[k].name, .bool l[k].function, .slice a2 l[k].params.length ca2, .slice a3 l[k].body.length ca3] 70)) (sMacro.below (sMacro.below hR' hb) hx1))
        have hbw := hb.trans (hx1.mono hb.size)
        have hsz : (wr.alloc (.cells #[.string l[k].name, .bool l[k].function, .slice a2 l[k].params.length ca2, .slice a3 l[k].body.length ca3] 70)).heap.size = wr.heap.size + 1 := Array.size_push _
        have HS := Lib.hid hsz
        clear hR' hE hsz
        cases hv : macOk l[k]
        · rw [hv] at HC
          have HF := Lib.hid (tabOk_no hlt (tabAt_bad hlt hv))
          clear hv hall he1 hrow hx1
          go_wp2_with (go_at_call 52; refine HC.out.mono ?_; rintro e w1 ⟨rfl, hb2⟩)
          go_ret
          exact ⟨ret_bool HF.out.symm, hbw.trans (hb2.mono hbw.size)⟩
        rw [hv] at HC
        by_cases h0 : k = 0
        · have h0' : decide ((0 : Int) < (k : Int)) = false := by simp; omega
          have HN : Hid (TabUpto l (k + 1)) := by
            show TabUpto l (k + 1)
            subst h0
            exact hall.out.succ (tabAt_first hlt hv)
          have h00 : ¬ (0 : Int) < (k : Int) := by omega
          have h01 : decide (0 < k) = false := by simp; omega
          clear h0 hv hall he1 hrow hx1
          go_wp2_with (go_at_call 52; refine HC.out.mono ?_; rintro e w1 ⟨rfl, hb2⟩; have hbx := hbw.trans (hb2.mono hbw.size))
          go_quiet (fail)
          go_wp2
          go_roundw
          case rel => exact ⟨k + 1, by omega, by go_num, HN, belowN hbx _⟩
          case measure => simp [intOf]; omega
        · obtain ⟨esp, hEp, hRp⟩ := he1 (k - 1) (by omega)
          obtain ⟨g2, g3, r2, r3, rfl, -, -, -, -⟩ := hRp
          replace hEp := hEp.frame (hb.block b1 hb1)
          have cp0 : wr.cell? ⟨b1, off1 + (k - 1) * 4, none⟩ = some (.string (l[k - 1]'(by omega)).name) := elem_cell0 hEp (by decide) rfl
          have h6 : ((k : Int) - 1).toNat = k - 1 := by omega
          have hwm : IntKind.i64.wrap ((k : Int) - 1) = (k : Int) - 1 := IntWalk.i64_in _ (by omega)
          have h0' : (0 : Int) < (k : Int) := by omega
          have h0'' : decide ((0 : Int) < (k : Int)) = true := by simpa using h0'
          have h0n : decide (0 < k) = true := by simp; omega
          have hi1 : (0 : Int) ≤ (k : Int) - 1 := by omega
          have hi2 : (k : Int) - 1 < (l.length : Int) := by omega
          have hi3 : (1 : Int) ≤ (k : Int) := by omega
          clear hEp
          have hcp : (wr.alloc (.cells #[.string l[k].name, .bool l[k].function, .slice a2 l[k].params.length ca2, .slice a3 l[k].body.length ca3] 70)).cell? ⟨b1, off1 + (k - 1) * 4, none⟩ = some (.string (l[k - 1]'(by omega)).name) := (hx1.cell (p := ⟨b1, off1 + (k - 1) * 4, none⟩) hbr).trans cp0
          have hbr2 : b1 < (wr.alloc (.cells #[.string l[k].name, .bool l[k].function, .slice a2 l[k].params.length ca2, .slice a3 l[k].body.length ca3] 70)).heap.size := by rw [HS.out]; omega
          have hxx : wr.heap.size < (wr.alloc (.cells #[.string l[k].name, .bool l[k].function, .slice a2 l[k].params.length ca2, .slice a3 l[k].body.length ca3] 70)).heap.size := by rw [HS.out]; omega
          cases hs : sLess (l[k - 1]'(by omega)).name l[k].name
          · have HF := Lib.hid (tabOk_no hlt (tabAt_less hlt (by omega) hs))
            have h2' : Op.bytesLess (l[k - 1]'(by omega)).name.toList l[k].name.toList = false := hs
            clear h0 hv hs hall he1 hrow hx1 cp0
            go_wp2_with (go_at_call 52; refine HC.out.mono ?_; rintro e w1 ⟨rfl, hb2⟩; have hbx := hbw.trans (hb2.mono hbw.size); have hq := (hb2.cell (p := ⟨b1, off1 + (k - 1) * 4, none⟩) hbr2).trans hcp; have hp0 : w1.cell? ⟨wr.heap.size, 0, none⟩ = some (.string l[k].name) := cell_of_row _ _ 0 _ _ _ ((hb2.block _ hxx).trans HX.out))
            go_quiet (fail)
            go_wp2
            go_ret
            exact ⟨ret_bool HF.out.symm, belowN hbx _⟩
          · have HN : Hid (TabUpto l (k + 1)) := hall.out.succ (tabAt_later hlt hv hs)
            have h2' : Op.bytesLess (l[k - 1]'(by omega)).name.toList l[k].name.toList = true := hs
            clear h0 hv hs hall he1 hrow hx1 cp0
            go_wp2_with (go_at_call 52; refine HC.out.mono ?_; rintro e w1 ⟨rfl, hb2⟩; have hbx := hbw.trans (hb2.mono hbw.size); have hq := (hb2.cell (p := ⟨b1, off1 + (k - 1) * 4, none⟩) hbr2).trans hcp; have hp0 : w1.cell? ⟨wr.heap.size, 0, none⟩ = some (.string l[k].name) := cell_of_row _ _ 0 _ _ _ ((hb2.block _ hxx).trans HX.out))
            go_quiet (fail)
            go_wp2
            go_roundw
            case rel => exact ⟨k + 1, by omega, by go_num, HN, belowN hbx _⟩
            case measure => simp [intOf]; omega
      · have HF := Lib.hid (tabOk_yes (l := l) (by have : k = l.length := by omega
                                                   subst this; exact hall.out) (by omega))
        go_wp2
        go_ret
        exact ⟨ret_bool HF.out.symm, hb⟩

set_option maxHeartbeats 16000000 in
set_option maxRecDepth 100000 in
theorem spec_TableValid (v : Value) (l : List DMacro) (fp : List Nat) (w : World) (H : (sSlice sMacro).R w [v] l fp) :
    Calls Try.prog 31 #[v] w (Says (tabOk l) w) := by
  obtain ⟨a, cap, rfl, hc, hm, hrow⟩ := open_rows H
  unfold maxLen at hm
  clear H
  go_enter Try.func31, Try.ntmps31
  go_wp2
  go_loopw [3] (fun i wr => ∃ k : Nat, k ≤ l.length ∧ i = .int .i64 k ∧ Hid (TabUpto l k) ∧ Below w.heap.size w wr) (fun i _ => l.length - (intOf i).toNat)
  case atStart => exact ⟨0, by omega, rfl, TabUpto.zero _, Below.refl _ _⟩
  case round =>
    obtain ⟨k, hk, rfl, hall, hb⟩ := hrel
    by_cases hlt : k < l.length
    · obtain ⟨b1, off1, fps1, rfl, hb1, -, he1⟩ := hrow (by omega)
      obtain ⟨es, hE, hR⟩ := he1 k hlt
      have hR' := hR
      obtain ⟨h2, h3, p2, p3, rfl, -, K2, K3, -⟩ := hR
      obtain ⟨a2, ca2, rfl, -⟩ := open_strs K2
      obtain ⟨a3, ca3, rfl, -⟩ := open_rows K3
      clear K2 K3
      replace hE := hE.frame (hb.block b1 hb1)
      have hbr : b1 < wr.heap.size := Nat.lt_of_lt_of_le hb1 hb.size
      have c10 : wr.cell? ⟨b1, off1 + k * 4, none⟩ = some _ := elem_cell0 hE (by decide) rfl
      have c11 : wr.cell? ⟨b1, off1 + k * 4 + 1, none⟩ = some _ := elem_cell (j := 1) hE (by decide) rfl
      have c12 : wr.cell? ⟨b1, off1 + k * 4 + 2, none⟩ = some _ := elem_cell (j := 2) hE (by decide) rfl
      have c13 : wr.cell? ⟨b1, off1 + k * 4 + 3, none⟩ = some _ := elem_cell (j := 3) hE (by decide) rfl
      have HC := Lib.hid (fun W (hW : Below wr.heap.size wr W) => spec_MacroValid [.string l[k].name, .bool l[k].function, .slice a2 l[k].params.length ca2, .slice a3 l[k].body.length ca3] l[k] _ W (sMacro.below (sMacro.below hR' hb) hW))
      clear hR' hE
      cases hv : macOk l[k]
      · rw [hv] at HC
        have HF := Lib.hid (tabOk_no hlt (tabAt_bad hlt hv))
        clear hv hall he1 hrow
        go_wp2_with fail
        refine wp_region_noPanic ?_
        refine wp_region_held_drew (S := (fun w' => w'.cell? ⟨b1, off1 + k * 4, none⟩ = some (.string l[k].name) ∧ w'.cell? ⟨b1, off1 + k * 4 + 1, none⟩ = some (.bool l[k].function) ∧ w'.cell? ⟨b1, off1 + k * 4 + 2, none⟩ = some (.slice a2 l[k].params.length ca2) ∧ w'.cell? ⟨b1, off1 + k * 4 + 3, none⟩ = some (.slice a3 l[k].body.length ca3))) (by kernel_rfl) (by exact ⟨c10, c11, c12, c13⟩) (fun hHeld => ?_)
        refine takeH 0 10 (v := ?_) rfl rfl (by kernel_rfl) (by kernel_rfl) (by kernel_rfl) (fun _ _ _ h => h) (by rfl) (by assumption) ?_ ?_
        rotate_left
        · intro w hSw; (try dsimp only at hSw); go_simp; (first | done | with_reducible rfl)
        try simp only [Act.put, List.setIfInBounds_toArray, List.set_cons_zero, List.set_cons_succ]
        refine takeH 1 11 (v := ?_) rfl rfl (by kernel_rfl) (by kernel_rfl) (by kernel_rfl) (fun _ _ _ h => h) (by rfl) (by assumption) ?_ ?_
        rotate_left
        · intro w hSw; (try dsimp only at hSw); go_simp; (first | done | with_reducible rfl)
        try simp only [Act.put, List.setIfInBounds_toArray, List.set_cons_zero, List.set_cons_succ]
        refine takeH 2 12 (v := ?_) rfl rfl (by kernel_rfl) (by kernel_rfl) (by kernel_rfl) (fun _ _ _ h => h) (by rfl) (by assumption) ?_ ?_
        rotate_left
        · intro w hSw; (try dsimp only at hSw); go_simp; (first | done | with_reducible rfl)
        try simp only [Act.put, List.setIfInBounds_toArray, List.set_cons_zero, List.set_cons_succ]
        refine takeH 3 13 (v := ?_) rfl rfl (by kernel_rfl) (by kernel_rfl) (by kernel_rfl) (fun _ _ _ h => h) (by rfl) (by assumption) ?_ ?_
        rotate_left
        · intro w hSw; (try dsimp only at hSw); go_simp; (first | done | with_reducible rfl)
        try simp only [Act.put, List.setIfInBounds_toArray, List.set_cons_zero, List.set_cons_succ]
        refine wpAnyH_ready (rs := [4]) (by kernel_rfl) (by simp) ?_
        refine AllReadyH.cons rfl (fun K hK => ?_) AllReadyH.nil
        go_simp
        refine (HC.out _ (belowN (Below.refl _ _) 1)).mono ?_
        rintro e w2 ⟨rfl, b30⟩
        refine hK.out _ _ (by exact ⟨(b30.cell (by simp; omega)).trans c10, (b30.cell (by simp; omega)).trans c11, (b30.cell (by simp; omega)).trans c12, (b30.cell (by simp; omega)).trans c13⟩) (fun hHeld => ?_)
        clear hK K
        try simp only [Act.put, List.setIfInBounds_toArray, List.set_cons_zero, List.set_cons_succ]
        refine takeH 5 15 (v := ?_) rfl rfl (by kernel_rfl) (by kernel_rfl) (by kernel_rfl) (fun _ _ _ h => h) (by rfl) (by assumption) ?_ ?_
        rotate_left
        · intro w hSw; (try dsimp only at hSw); go_simp; (first | done | with_reducible rfl)
        try simp only [Act.put, List.setIfInBounds_toArray, List.set_cons_zero, List.set_cons_succ]
        refine takeH 6 16 (v := ?_) rfl rfl (by kernel_rfl) (by kernel_rfl) (by kernel_rfl) (fun _ _ _ h => h) (by rfl) (by assumption) ?_ ?_
        rotate_left
        · intro w hSw; (try dsimp only at hSw); go_simp; (first | done | with_reducible rfl)
        try simp only [Act.put, List.setIfInBounds_toArray, List.set_cons_zero, List.set_cons_succ]
        refine skipH 7 17 rfl rfl (by kernel_rfl) (by kernel_rfl) (by kernel_rfl) (fun _ _ _ h => h) (by rfl) (by assumption) ?_
        try simp only [Act.put, List.setIfInBounds_toArray, List.set_cons_zero, List.set_cons_succ]
        refine skipH 8 18 rfl rfl (by kernel_rfl) (by kernel_rfl) (by kernel_rfl) (fun _ _ _ h => h) (by rfl) (by assumption) ?_
        try simp only [Act.put, List.setIfInBounds_toArray, List.set_cons_zero, List.set_cons_succ]
        refine skipH 9 19 rfl rfl (by kernel_rfl) (by kernel_rfl) (by kernel_rfl) (fun _ _ _ h => h) (by rfl) (by assumption) ?_
        try simp only [Act.put, List.setIfInBounds_toArray, List.set_cons_zero, List.set_cons_succ]
        refine skipH 10 20 rfl rfl (by kernel_rfl) (by kernel_rfl) (by kernel_rfl) (fun _ _ _ h => h) (by rfl) (by assumption) ?_
        try simp only [Act.put, List.setIfInBounds_toArray, List.set_cons_zero, List.set_cons_succ]
        refine skipH 11 21 rfl rfl (by kernel_rfl) (by kernel_rfl) (by kernel_rfl) (fun _ _ _ h => h) (by rfl) (by assumption) ?_
        try simp only [Act.put, List.setIfInBounds_toArray, List.set_cons_zero, List.set_cons_succ]
        refine skipH 12 22 rfl rfl (by kernel_rfl) (by kernel_rfl) (by kernel_rfl) (fun _ _ _ h => h) (by rfl) (by assumption) ?_
        try simp only [Act.put, List.setIfInBounds_toArray, List.set_cons_zero, List.set_cons_succ]
        refine skipH 13 23 rfl rfl (by kernel_rfl) (by kernel_rfl) (by kernel_rfl) (fun _ _ _ h => h) (by rfl) (by assumption) ?_
        try simp only [Act.put, List.setIfInBounds_toArray, List.set_cons_zero, List.set_cons_succ]
        refine skipH 14 24 rfl rfl (by kernel_rfl) (by kernel_rfl) (by kernel_rfl) (fun _ _ _ h => h) (by rfl) (by assumption) ?_
        try simp only [Act.put, List.setIfInBounds_toArray, List.set_cons_zero, List.set_cons_succ]
        refine skipH 15 25 rfl rfl (by kernel_rfl) (by kernel_rfl) (by kernel_rfl) (fun _ _ _ h => h) (by rfl) (by assumption) ?_
        try simp only [Act.put, List.setIfInBounds_toArray, List.set_cons_zero, List.set_cons_succ]
        refine skipH 16 26 rfl rfl (by kernel_rfl) (by kernel_rfl) (by kernel_rfl) (fun _ _ _ h => h) (by rfl) (by assumption) ?_
        try simp only [Act.put, List.setIfInBounds_toArray, List.set_cons_zero, List.set_cons_succ]
        refine skipH 17 27 rfl rfl (by kernel_rfl) (by kernel_rfl) (by kernel_rfl) (fun _ _ _ h => h) (by rfl) (by assumption) ?_
        try simp only [Act.put, List.setIfInBounds_toArray, List.set_cons_zero, List.set_cons_succ]
        refine skipH 18 28 rfl rfl (by kernel_rfl) (by kernel_rfl) (by kernel_rfl) (fun _ _ _ h => h) (by rfl) (by assumption) ?_
        try simp only [Act.put, List.setIfInBounds_toArray, List.set_cons_zero, List.set_cons_succ]
        refine skipH 19 29 rfl rfl (by kernel_rfl) (by kernel_rfl) (by kernel_rfl) (fun _ _ _ h => h) (by rfl) (by assumption) ?_
        try simp only [Act.put, List.setIfInBounds_toArray, List.set_cons_zero, List.set_cons_succ]
        refine skipH 20 30 rfl rfl (by kernel_rfl) (by kernel_rfl) (by kernel_rfl) (fun _ _ _ h => h) (by rfl) (by assumption) ?_
        try simp only [Act.put, List.setIfInBounds_toArray, List.set_cons_zero, List.set_cons_succ]
        refine skipH 21 31 rfl rfl (by kernel_rfl) (by kernel_rfl) (by kernel_rfl) (fun _ _ _ h => h) (by rfl) (by assumption) ?_
        try simp only [Act.put, List.setIfInBounds_toArray, List.set_cons_zero, List.set_cons_succ]
        refine skipH 22 32 rfl rfl (by kernel_rfl) (by kernel_rfl) (by kernel_rfl) (fun _ _ _ h => h) (by rfl) (by assumption) ?_
        try simp only [Act.put, List.setIfInBounds_toArray, List.set_cons_zero, List.set_cons_succ]
        refine takeH 23 33 (v := ?_) rfl rfl (by kernel_rfl) (by kernel_rfl) (by kernel_rfl) (fun _ _ _ h => h) (by rfl) (by assumption) ?_ ?_
        rotate_left
        · intro w hSw; (try dsimp only at hSw); go_simp; (first | done | with_reducible rfl)
        try simp only [Act.put, List.setIfInBounds_toArray, List.set_cons_zero, List.set_cons_succ]
        refine wpAnyH_done (by kernel_rfl) ?_ _
        refine NoPanic.normal ?_
        have hbx := hb.drew.trans (b30.mono hb.size)
        go_wp2
        go_ret
        exact ⟨ret_bool HF.out.symm, hbx⟩
      rw [hv] at HC
      by_cases h0 : k = 0
      · have h0' : decide ((0 : Int) < (k : Int)) = false := by simp; omega
        have HN : Hid (TabUpto l (k + 1)) := by
          show TabUpto l (k + 1)
          subst h0
          exact hall.out.succ (tabAt_first hlt hv)
        have h00 : ¬ (0 : Int) < (k : Int) := by omega
        have h01 : decide (0 < k) = false := by simp; omega
        clear h0 hv hall he1 hrow
        go_wp2_with fail
        refine wp_region_noPanic ?_
        refine wp_region_held_drew (S := (fun w' => w'.cell? ⟨b1, off1 + k * 4, none⟩ = some (.string l[k].name) ∧ w'.cell? ⟨b1, off1 + k * 4 + 1, none⟩ = some (.bool l[k].function) ∧ w'.cell? ⟨b1, off1 + k * 4 + 2, none⟩ = some (.slice a2 l[k].params.length ca2) ∧ w'.cell? ⟨b1, off1 + k * 4 + 3, none⟩ = some (.slice a3 l[k].body.length ca3))) (by kernel_rfl) (by exact ⟨c10, c11, c12, c13⟩) (fun hHeld => ?_)
        refine takeH 0 10 (v := ?_) rfl rfl (by kernel_rfl) (by kernel_rfl) (by kernel_rfl) (fun _ _ _ h => h) (by rfl) (by assumption) ?_ ?_
        rotate_left
        · intro w hSw; (try dsimp only at hSw); go_simp; (first | done | with_reducible rfl)
        try simp only [Act.put, List.setIfInBounds_toArray, List.set_cons_zero, List.set_cons_succ]
        refine takeH 1 11 (v := ?_) rfl rfl (by kernel_rfl) (by kernel_rfl) (by kernel_rfl) (fun _ _ _ h => h) (by rfl) (by assumption) ?_ ?_
        rotate_left
        · intro w hSw; (try dsimp only at hSw); go_simp; (first | done | with_reducible rfl)
        try simp only [Act.put, List.setIfInBounds_toArray, List.set_cons_zero, List.set_cons_succ]
        refine takeH 2 12 (v := ?_) rfl rfl (by kernel_rfl) (by kernel_rfl) (by kernel_rfl) (fun _ _ _ h => h) (by rfl) (by assumption) ?_ ?_
        rotate_left
        · intro w hSw; (try dsimp only at hSw); go_simp; (first | done | with_reducible rfl)
        try simp only [Act.put, List.setIfInBounds_toArray, List.set_cons_zero, List.set_cons_succ]
        refine takeH 3 13 (v := ?_) rfl rfl (by kernel_rfl) (by kernel_rfl) (by kernel_rfl) (fun _ _ _ h => h) (by rfl) (by assumption) ?_ ?_
        rotate_left
        · intro w hSw; (try dsimp only at hSw); go_simp; (first | done | with_reducible rfl)
        try simp only [Act.put, List.setIfInBounds_toArray, List.set_cons_zero, List.set_cons_succ]
        refine wpAnyH_ready (rs := [4]) (by kernel_rfl) (by simp) ?_
        refine AllReadyH.cons rfl (fun K hK => ?_) AllReadyH.nil
        go_simp
        refine (HC.out _ (belowN (Below.refl _ _) 1)).mono ?_
        rintro e w2 ⟨rfl, b30⟩
        refine hK.out _ _ (by exact ⟨(b30.cell (by simp; omega)).trans c10, (b30.cell (by simp; omega)).trans c11, (b30.cell (by simp; omega)).trans c12, (b30.cell (by simp; omega)).trans c13⟩) (fun hHeld => ?_)
        clear hK K
        try simp only [Act.put, List.setIfInBounds_toArray, List.set_cons_zero, List.set_cons_succ]
        refine takeH 5 15 (v := ?_) rfl rfl (by kernel_rfl) (by kernel_rfl) (by kernel_rfl) (fun _ _ _ h => h) (by rfl) (by assumption) ?_ ?_
        rotate_left
        · intro w hSw; (try dsimp only at hSw); go_simp; (first | done | with_reducible rfl)
        try simp only [Act.put, List.setIfInBounds_toArray, List.set_cons_zero, List.set_cons_succ]
        refine takeH 6 16 (v := ?_) rfl rfl (by kernel_rfl) (by kernel_rfl) (by kernel_rfl) (fun _ _ _ h => h) (by rfl) (by assumption) ?_ ?_
        rotate_left
        · intro w hSw; (try dsimp only at hSw); go_simp; (first | done | with_reducible rfl)
        try simp only [Act.put, List.setIfInBounds_toArray, List.set_cons_zero, List.set_cons_succ]
        refine takeH 7 17 (v := ?_) rfl rfl (by kernel_rfl) (by kernel_rfl) (by kernel_rfl) (fun _ _ _ h => h) (by rfl) (by assumption) ?_ ?_
        rotate_left
        · intro w hSw; (try dsimp only at hSw); go_simp; (first | done | with_reducible rfl)
        try simp only [Act.put, List.setIfInBounds_toArray, List.set_cons_zero, List.set_cons_succ]
        refine takeH 8 18 (v := ?_) rfl rfl (by kernel_rfl) (by kernel_rfl) (by kernel_rfl) (fun _ _ _ h => h) (by rfl) (by assumption) ?_ ?_
        rotate_left
        · intro w hSw; (try dsimp only at hSw); go_simp; (first | done | with_reducible rfl)
        try simp only [Act.put, List.setIfInBounds_toArray, List.set_cons_zero, List.set_cons_succ]
        refine takeH 9 19 (v := ?_) rfl rfl (by kernel_rfl) (by kernel_rfl) (by kernel_rfl) (fun _ _ _ h => h) (by rfl) (by assumption) ?_ ?_
        rotate_left
        · intro w hSw; (try dsimp only at hSw); go_simp; (first | done | with_reducible rfl)
        try simp only [Act.put, List.setIfInBounds_toArray, List.set_cons_zero, List.set_cons_succ]
        refine skipH 10 20 rfl rfl (by kernel_rfl) (by kernel_rfl) (by kernel_rfl) (fun _ _ _ h => h) (by rfl) (by assumption) ?_
        try simp only [Act.put, List.setIfInBounds_toArray, List.set_cons_zero, List.set_cons_succ]
        refine skipH 11 21 rfl rfl (by kernel_rfl) (by kernel_rfl) (by kernel_rfl) (fun _ _ _ h => h) (by rfl) (by assumption) ?_
        try simp only [Act.put, List.setIfInBounds_toArray, List.set_cons_zero, List.set_cons_succ]
        refine skipH 12 22 rfl rfl (by kernel_rfl) (by kernel_rfl) (by kernel_rfl) (fun _ _ _ h => h) (by rfl) (by assumption) ?_
        try simp only [Act.put, List.setIfInBounds_toArray, List.set_cons_zero, List.set_cons_succ]
        refine skipH 13 23 rfl rfl (by kernel_rfl) (by kernel_rfl) (by kernel_rfl) (fun _ _ _ h => h) (by rfl) (by assumption) ?_
        try simp only [Act.put, List.setIfInBounds_toArray, List.set_cons_zero, List.set_cons_succ]
        refine skipH 14 24 rfl rfl (by kernel_rfl) (by kernel_rfl) (by kernel_rfl) (fun _ _ _ h => h) (by rfl) (by assumption) ?_
        try simp only [Act.put, List.setIfInBounds_toArray, List.set_cons_zero, List.set_cons_succ]
        refine skipH 15 25 rfl rfl (by kernel_rfl) (by kernel_rfl) (by kernel_rfl) (fun _ _ _ h => h) (by rfl) (by assumption) ?_
        try simp only [Act.put, List.setIfInBounds_toArray, List.set_cons_zero, List.set_cons_succ]
        refine skipH 16 26 rfl rfl (by kernel_rfl) (by kernel_rfl) (by kernel_rfl) (fun _ _ _ h => h) (by rfl) (by assumption) ?_
        try simp only [Act.put, List.setIfInBounds_toArray, List.set_cons_zero, List.set_cons_succ]
        refine skipH 17 27 rfl rfl (by kernel_rfl) (by kernel_rfl) (by kernel_rfl) (fun _ _ _ h => h) (by rfl) (by assumption) ?_
        try simp only [Act.put, List.setIfInBounds_toArray, List.set_cons_zero, List.set_cons_succ]
        refine skipH 18 28 rfl rfl (by kernel_rfl) (by kernel_rfl) (by kernel_rfl) (fun _ _ _ h => h) (by rfl) (by assumption) ?_
        try simp only [Act.put, List.setIfInBounds_toArray, List.set_cons_zero, List.set_cons_succ]
        refine skipH 19 29 rfl rfl (by kernel_rfl) (by kernel_rfl) (by kernel_rfl) (fun _ _ _ h => h) (by rfl) (by assumption) ?_
        try simp only [Act.put, List.setIfInBounds_toArray, List.set_cons_zero, List.set_cons_succ]
        refine skipH 20 30 rfl rfl (by kernel_rfl) (by kernel_rfl) (by kernel_rfl) (fun _ _ _ h => h) (by rfl) (by assumption) ?_
        try simp only [Act.put, List.setIfInBounds_toArray, List.set_cons_zero, List.set_cons_succ]
        refine skipH 21 31 rfl rfl (by kernel_rfl) (by kernel_rfl) (by kernel_rfl) (fun _ _ _ h => h) (by rfl) (by assumption) ?_
        try simp only [Act.put, List.setIfInBounds_toArray, List.set_cons_zero, List.set_cons_succ]
        refine takeH 22 32 (v := ?_) rfl rfl (by kernel_rfl) (by kernel_rfl) (by kernel_rfl) (fun _ _ _ h => h) (by rfl) (by assumption) ?_ ?_
        rotate_left
        · intro w hSw; (try dsimp only at hSw); go_simp; (first | done | with_reducible rfl)
        try simp only [Act.put, List.setIfInBounds_toArray, List.set_cons_zero, List.set_cons_succ]
        refine takeH 23 33 (v := ?_) rfl rfl (by kernel_rfl) (by kernel_rfl) (by kernel_rfl) (fun _ _ _ h => h) (by rfl) (by assumption) ?_ ?_
        rotate_left
        · intro w hSw; (try dsimp only at hSw); go_simp; (first | done | with_reducible rfl)
        try simp only [Act.put, List.setIfInBounds_toArray, List.set_cons_zero, List.set_cons_succ]
        refine wpAnyH_done (by kernel_rfl) ?_ _
        refine NoPanic.normal ?_
        have hbx := hb.drew.trans (b30.mono hb.size)
        go_wp2
        go_roundw
        case rel => exact ⟨k + 1, by omega, by go_num, HN, hbx⟩
        case measure => simp [intOf]; omega
      · obtain ⟨esp, hEp, hRp⟩ := he1 (k - 1) (by omega)
        obtain ⟨g2, g3, r2, r3, rfl, -, -, -, -⟩ := hRp
        replace hEp := hEp.frame (hb.block b1 hb1)
        have cp0 : wr.cell? ⟨b1, off1 + (k - 1) * 4, none⟩ = some (.string (l[k - 1]'(by omega)).name) := elem_cell0 hEp (by decide) rfl
        have h6 : ((k : Int) - 1).toNat = k - 1 := by omega
        have hwm : IntKind.i64.wrap ((k : Int) - 1) = (k : Int) - 1 := IntWalk.i64_in _ (by omega)
        have h0' : (0 : Int) < (k : Int) := by omega
        have h0'' : decide ((0 : Int) < (k : Int)) = true := by simpa using h0'
        have h0n : decide (0 < k) = true := by simp; omega
        have hi1 : (0 : Int) ≤ (k : Int) - 1 := by omega
        have hi2 : (k : Int) - 1 < (l.length : Int) := by omega
        have hi3 : (1 : Int) ≤ (k : Int) := by omega
        clear hEp
        rcases sLess_ways (a := (l[k - 1]'(by omega)).name) (b := l[k].name) with ⟨hw, hw1, hw2⟩ | ⟨hw, hw1⟩ | ⟨hw, hw1, hw2⟩
        · have HN : Hid (TabUpto l (k + 1)) := hall.out.succ (tabAt_later hlt hv hw)
          clear h0 hv hw hall he1 hrow
          go_wp2_with fail
          refine wp_region_noPanic ?_
          refine wp_region_held_drew (S := (fun w' => w'.cell? ⟨b1, off1 + k * 4, none⟩ = some (.string l[k].name) ∧ w'.cell? ⟨b1, off1 + k * 4 + 1, none⟩ = some (.bool l[k].function) ∧ w'.cell? ⟨b1, off1 + k * 4 + 2, none⟩ = some (.slice a2 l[k].params.length ca2) ∧ w'.cell? ⟨b1, off1 + k * 4 + 3, none⟩ = some (.slice a3 l[k].body.length ca3) ∧ w'.cell? ⟨b1, off1 + (k - 1) * 4, none⟩ = some (.string (l[k - 1]'(by omega)).name))) (by kernel_rfl) (by exact ⟨c10, c11, c12, c13, cp0⟩) (fun hHeld => ?_)
          refine takeH 0 10 (v := ?_) rfl rfl (by kernel_rfl) (by kernel_rfl) (by kernel_rfl) (fun _ _ _ h => h) (by rfl) (by assumption) ?_ ?_
          rotate_left
          · intro w hSw; (try dsimp only at hSw); go_simp; (first | done | with_reducible rfl)
          try simp only [Act.put, List.setIfInBounds_toArray, List.set_cons_zero, List.set_cons_succ]
          refine takeH 1 11 (v := ?_) rfl rfl (by kernel_rfl) (by kernel_rfl) (by kernel_rfl) (fun _ _ _ h => h) (by rfl) (by assumption) ?_ ?_
          rotate_left
          · intro w hSw; (try dsimp only at hSw); go_simp; (first | done | with_reducible rfl)
          try simp only [Act.put, List.setIfInBounds_toArray, List.set_cons_zero, List.set_cons_succ]
          refine takeH 2 12 (v := ?_) rfl rfl (by kernel_rfl) (by kernel_rfl) (by kernel_rfl) (fun _ _ _ h => h) (by rfl) (by assumption) ?_ ?_
          rotate_left
          · intro w hSw; (try dsimp only at hSw); go_simp; (first | done | with_reducible rfl)
          try simp only [Act.put, List.setIfInBounds_toArray, List.set_cons_zero, List.set_cons_succ]
          refine takeH 3 13 (v := ?_) rfl rfl (by kernel_rfl) (by kernel_rfl) (by kernel_rfl) (fun _ _ _ h => h) (by rfl) (by assumption) ?_ ?_
          rotate_left
          · intro w hSw; (try dsimp only at hSw); go_simp; (first | done | with_reducible rfl)
          try simp only [Act.put, List.setIfInBounds_toArray, List.set_cons_zero, List.set_cons_succ]
          refine wpAnyH_ready (rs := [4]) (by kernel_rfl) (by simp) ?_
          refine AllReadyH.cons rfl (fun K hK => ?_) AllReadyH.nil
          go_simp
          refine (HC.out _ (belowN (Below.refl _ _) 1)).mono ?_
          rintro e w2 ⟨rfl, b30⟩
          refine hK.out _ _ (by exact ⟨(b30.cell (by simp; omega)).trans c10, (b30.cell (by simp; omega)).trans c11, (b30.cell (by simp; omega)).trans c12, (b30.cell (by simp; omega)).trans c13, (b30.cell (by simp; omega)).trans cp0⟩) (fun hHeld => ?_)
          clear hK K
          try simp only [Act.put, List.setIfInBounds_toArray, List.set_cons_zero, List.set_cons_succ]
          refine takeH 5 15 (v := ?_) rfl rfl (by kernel_rfl) (by kernel_rfl) (by kernel_rfl) (fun _ _ _ h => h) (by rfl) (by assumption) ?_ ?_
          rotate_left
          · intro w hSw; (try dsimp only at hSw); go_simp; (first | done | with_reducible rfl)
          try simp only [Act.put, List.setIfInBounds_toArray, List.set_cons_zero, List.set_cons_succ]
          refine takeH 6 16 (v := ?_) rfl rfl (by kernel_rfl) (by kernel_rfl) (by kernel_rfl) (fun _ _ _ h => h) (by rfl) (by assumption) ?_ ?_
          rotate_left
          · intro w hSw; (try dsimp only at hSw); go_simp; (first | done | with_reducible rfl)
          try simp only [Act.put, List.setIfInBounds_toArray, List.set_cons_zero, List.set_cons_succ]
          refine takeH 7 17 (v := ?_) rfl rfl (by kernel_rfl) (by kernel_rfl) (by kernel_rfl) (fun _ _ _ h => h) (by rfl) (by assumption) ?_ ?_
          rotate_left
          · intro w hSw; (try dsimp only at hSw); go_simp; (first | done | with_reducible rfl)
          try simp only [Act.put, List.setIfInBounds_toArray, List.set_cons_zero, List.set_cons_succ]
          refine takeH 8 18 (v := ?_) rfl rfl (by kernel_rfl) (by kernel_rfl) (by kernel_rfl) (fun _ _ _ h => h) (by rfl) (by assumption) ?_ ?_
          rotate_left
          · intro w hSw; (try dsimp only at hSw); go_simp; (first | done | with_reducible rfl)
          try simp only [Act.put, List.setIfInBounds_toArray, List.set_cons_zero, List.set_cons_succ]
          refine takeH 9 19 (v := ?_) rfl rfl (by kernel_rfl) (by kernel_rfl) (by kernel_rfl) (fun _ _ _ h => h) (by rfl) (by assumption) ?_ ?_
          rotate_left
          · intro w hSw; (try dsimp only at hSw); go_simp; (first | done | with_reducible rfl)
          try simp only [Act.put, List.setIfInBounds_toArray, List.set_cons_zero, List.set_cons_succ]
          refine takeH 10 20 (v := ?_) rfl rfl (by kernel_rfl) (by kernel_rfl) (by kernel_rfl) (fun _ _ _ h => h) (by rfl) (by assumption) ?_ ?_
          rotate_left
          · intro w hSw; (try dsimp only at hSw); go_simp; (first | done | with_reducible rfl)
          try simp only [Act.put, List.setIfInBounds_toArray, List.set_cons_zero, List.set_cons_succ]
          refine takeH 11 21 (v := ?_) rfl rfl (by kernel_rfl) (by kernel_rfl) (by kernel_rfl) (fun _ _ _ h => h) (by rfl) (by assumption) ?_ ?_
          rotate_left
          · intro w hSw; (try dsimp only at hSw); go_simp; (first | done | with_reducible rfl)
          try simp only [Act.put, List.setIfInBounds_toArray, List.set_cons_zero, List.set_cons_succ]
          refine takeH 12 22 (v := ?_) rfl rfl (by kernel_rfl) (by kernel_rfl) (by kernel_rfl) (fun _ _ _ h => h) (by rfl) (by assumption) ?_ ?_
          rotate_left
          · intro w hSw; (try dsimp only at hSw); go_simp; (first | done | with_reducible rfl)
          try simp only [Act.put, List.setIfInBounds_toArray, List.set_cons_zero, List.set_cons_succ]
          refine takeH 13 23 (v := ?_) rfl rfl (by kernel_rfl) (by kernel_rfl) (by kernel_rfl) (fun _ _ _ h => h) (by rfl) (by assumption) ?_ ?_
          rotate_left
          · intro w hSw; (try dsimp only at hSw); go_simp; (first | done | with_reducible rfl)
          try simp only [Act.put, List.setIfInBounds_toArray, List.set_cons_zero, List.set_cons_succ]
          refine takeH 14 24 (v := ?_) rfl rfl (by kernel_rfl) (by kernel_rfl) (by kernel_rfl) (fun _ _ _ h => h) (by rfl) (by assumption) ?_ ?_
          rotate_left
          · intro w hSw; (try dsimp only at hSw); go_simp; (first | done | with_reducible rfl)
          try simp only [Act.put, List.setIfInBounds_toArray, List.set_cons_zero, List.set_cons_succ]
          refine takeH 15 25 (v := ?_) rfl rfl (by kernel_rfl) (by kernel_rfl) (by kernel_rfl) (fun _ _ _ h => h) (by rfl) (by assumption) ?_ ?_
          rotate_left
          · intro w hSw; (try dsimp only at hSw); go_simp; (first | done | with_reducible rfl)
          try simp only [Act.put, List.setIfInBounds_toArray, List.set_cons_zero, List.set_cons_succ]
          refine takeH 16 26 (v := ?_) rfl rfl (by kernel_rfl) (by kernel_rfl) (by kernel_rfl) (fun _ _ _ h => h) (by rfl) (by assumption) ?_ ?_
          rotate_left
          · intro w hSw; (try dsimp only at hSw); go_simp; (first | done | with_reducible rfl)
          try simp only [Act.put, List.setIfInBounds_toArray, List.set_cons_zero, List.set_cons_succ]
          refine takeH 17 27 (v := ?_) rfl rfl (by kernel_rfl) (by kernel_rfl) (by kernel_rfl) (fun _ _ _ h => h) (by rfl) (by assumption) ?_ ?_
          rotate_left
          · intro w hSw; (try dsimp only at hSw); go_simp; (first | done | with_reducible rfl)
          try simp only [Act.put, List.setIfInBounds_toArray, List.set_cons_zero, List.set_cons_succ]
          refine takeH 18 28 (v := ?_) rfl rfl (by kernel_rfl) (by kernel_rfl) (by kernel_rfl) (fun _ _ _ h => h) (by rfl) (by assumption) ?_ ?_
          rotate_left
          · intro w hSw; (try dsimp only at hSw); go_simp; (first | done | with_reducible rfl)
          try simp only [Act.put, List.setIfInBounds_toArray, List.set_cons_zero, List.set_cons_succ]
          refine takeH 19 29 (v := ?_) rfl rfl (by kernel_rfl) (by kernel_rfl) (by kernel_rfl) (fun _ _ _ h => h) (by rfl) (by assumption) ?_ ?_
          rotate_left
          · intro w hSw; (try dsimp only at hSw); go_simp; (first | done | with_reducible rfl)
          try simp only [Act.put, List.setIfInBounds_toArray, List.set_cons_zero, List.set_cons_succ]
          refine takeH 20 30 (v := ?_) rfl rfl (by kernel_rfl) (by kernel_rfl) (by kernel_rfl) (fun _ _ _ h => h) (by rfl) (by assumption) ?_ ?_
          rotate_left
          · intro w hSw; (try dsimp only at hSw); go_simp; (first | done | with_reducible rfl)
          try simp only [Act.put, List.setIfInBounds_toArray, List.set_cons_zero, List.set_cons_succ]
          refine takeH 21 31 (v := ?_) rfl rfl (by kernel_rfl) (by kernel_rfl) (by kernel_rfl) (fun _ _ _ h => h) (by rfl) (by assumption) ?_ ?_
          rotate_left
          · intro w hSw; (try dsimp only at hSw); go_simp; (first | done | with_reducible rfl)
          try simp only [Act.put, List.setIfInBounds_toArray, List.set_cons_zero, List.set_cons_succ]
          refine takeH 22 32 (v := ?_) rfl rfl (by kernel_rfl) (by kernel_rfl) (by kernel_rfl) (fun _ _ _ h => h) (by rfl) (by assumption) ?_ ?_
          rotate_left
          · intro w hSw; (try dsimp only at hSw); go_simp; (first | done | with_reducible rfl)
          try simp only [Act.put, List.setIfInBounds_toArray, List.set_cons_zero, List.set_cons_succ]
          refine takeH 23 33 (v := ?_) rfl rfl (by kernel_rfl) (by kernel_rfl) (by kernel_rfl) (fun _ _ _ h => h) (by rfl) (by assumption) ?_ ?_
          rotate_left
          · intro w hSw; (try dsimp only at hSw); go_simp; (first | done | with_reducible rfl)
          try simp only [Act.put, List.setIfInBounds_toArray, List.set_cons_zero, List.set_cons_succ]
          refine wpAnyH_done (by kernel_rfl) ?_ _
          refine NoPanic.normal ?_
          have hbx := hb.drew.trans (b30.mono hb.size)
          go_wp2
          go_roundw
          case rel => exact ⟨k + 1, by omega, by go_num, HN, hbx⟩
          case measure => simp [intOf]; omega
        all_goals
          have HF := Lib.hid (tabOk_no hlt (tabAt_less hlt (by omega) hw))
          clear h0 hv hw hall he1 hrow
          go_wp2_with fail
          refine wp_region_noPanic ?_
          refine wp_region_held_drew (S := (fun w' => w'.cell? ⟨b1, off1 + k * 4, none⟩ = some (.string l[k].name) ∧ w'.cell? ⟨b1, off1 + k * 4 + 1, none⟩ = some (.bool l[k].function) ∧ w'.cell? ⟨b1, off1 + k * 4 + 2, none⟩ = some (.slice a2 l[k].params.length ca2) ∧ w'.cell? ⟨b1, off1 + k * 4 + 3, none⟩ = some (.slice a3 l[k].body.length ca3) ∧ w'.cell? ⟨b1, off1 + (k - 1) * 4, none⟩ = some (.string (l[k - 1]'(by omega)).name))) (by kernel_rfl) (by exact ⟨c10, c11, c12, c13, cp0⟩) (fun hHeld => ?_)
          refine takeH 0 10 (v := ?_) rfl rfl (by kernel_rfl) (by kernel_rfl) (by kernel_rfl) (fun _ _ _ h => h) (by rfl) (by assumption) ?_ ?_
          rotate_left
          · intro w hSw; (try dsimp only at hSw); go_simp; (first | done | with_reducible rfl)
          try simp only [Act.put, List.setIfInBounds_toArray, List.set_cons_zero, List.set_cons_succ]
          refine takeH 1 11 (v := ?_) rfl rfl (by kernel_rfl) (by kernel_rfl) (by kernel_rfl) (fun _ _ _ h => h) (by rfl) (by assumption) ?_ ?_
          rotate_left
          · intro w hSw; (try dsimp only at hSw); go_simp; (first | done | with_reducible rfl)
          try simp only [Act.put, List.setIfInBounds_toArray, List.set_cons_zero, List.set_cons_succ]
          refine takeH 2 12 (v := ?_) rfl rfl (by kernel_rfl) (by kernel_rfl) (by kernel_rfl) (fun _ _ _ h => h) (by rfl) (by assumption) ?_ ?_
          rotate_left
          · intro w hSw; (try dsimp only at hSw); go_simp; (first | done | with_reducible rfl)
          try simp only [Act.put, List.setIfInBounds_toArray, List.set_cons_zero, List.set_cons_succ]
          refine takeH 3 13 (v := ?_) rfl rfl (by kernel_rfl) (by kernel_rfl) (by kernel_rfl) (fun _ _ _ h => h) (by rfl) (by assumption) ?_ ?_
          rotate_left
          · intro w hSw; (try dsimp only at hSw); go_simp; (first | done | with_reducible rfl)
          try simp only [Act.put, List.setIfInBounds_toArray, List.set_cons_zero, List.set_cons_succ]
          refine wpAnyH_ready (rs := [4]) (by kernel_rfl) (by simp) ?_
          refine AllReadyH.cons rfl (fun K hK => ?_) AllReadyH.nil
          go_simp
          refine (HC.out _ (belowN (Below.refl _ _) 1)).mono ?_
          rintro e w2 ⟨rfl, b30⟩
          refine hK.out _ _ (by exact ⟨(b30.cell (by simp; omega)).trans c10, (b30.cell (by simp; omega)).trans c11, (b30.cell (by simp; omega)).trans c12, (b30.cell (by simp; omega)).trans c13, (b30.cell (by simp; omega)).trans cp0⟩) (fun hHeld => ?_)
          clear hK K
          try simp only [Act.put, List.setIfInBounds_toArray, List.set_cons_zero, List.set_cons_succ]
          refine takeH 5 15 (v := ?_) rfl rfl (by kernel_rfl) (by kernel_rfl) (by kernel_rfl) (fun _ _ _ h => h) (by rfl) (by assumption) ?_ ?_
          rotate_left
          · intro w hSw; (try dsimp only at hSw); go_simp; (first | done | with_reducible rfl)
          try simp only [Act.put, List.setIfInBounds_toArray, List.set_cons_zero, List.set_cons_succ]
          refine takeH 6 16 (v := ?_) rfl rfl (by kernel_rfl) (by kernel_rfl) (by kernel_rfl) (fun _ _ _ h => h) (by rfl) (by assumption) ?_ ?_
          rotate_left
          · intro w hSw; (try dsimp only at hSw); go_simp; (first | done | with_reducible rfl)
          try simp only [Act.put, List.setIfInBounds_toArray, List.set_cons_zero, List.set_cons_succ]
          refine takeH 7 17 (v := ?_) rfl rfl (by kernel_rfl) (by kernel_rfl) (by kernel_rfl) (fun _ _ _ h => h) (by rfl) (by assumption) ?_ ?_
          rotate_left
          · intro w hSw; (try dsimp only at hSw); go_simp; (first | done | with_reducible rfl)
          try simp only [Act.put, List.setIfInBounds_toArray, List.set_cons_zero, List.set_cons_succ]
          refine takeH 8 18 (v := ?_) rfl rfl (by kernel_rfl) (by kernel_rfl) (by kernel_rfl) (fun _ _ _ h => h) (by rfl) (by assumption) ?_ ?_
          rotate_left
          · intro w hSw; (try dsimp only at hSw); go_simp; (first | done | with_reducible rfl)
          try simp only [Act.put, List.setIfInBounds_toArray, List.set_cons_zero, List.set_cons_succ]
          refine takeH 9 19 (v := ?_) rfl rfl (by kernel_rfl) (by kernel_rfl) (by kernel_rfl) (fun _ _ _ h => h) (by rfl) (by assumption) ?_ ?_
          rotate_left
          · intro w hSw; (try dsimp only at hSw); go_simp; (first | done | with_reducible rfl)
          try simp only [Act.put, List.setIfInBounds_toArray, List.set_cons_zero, List.set_cons_succ]
          refine takeH 10 20 (v := ?_) rfl rfl (by kernel_rfl) (by kernel_rfl) (by kernel_rfl) (fun _ _ _ h => h) (by rfl) (by assumption) ?_ ?_
          rotate_left
          · intro w hSw; (try dsimp only at hSw); go_simp; (first | done | with_reducible rfl)
          try simp only [Act.put, List.setIfInBounds_toArray, List.set_cons_zero, List.set_cons_succ]
          refine takeH 11 21 (v := ?_) rfl rfl (by kernel_rfl) (by kernel_rfl) (by kernel_rfl) (fun _ _ _ h => h) (by rfl) (by assumption) ?_ ?_
          rotate_left
          · intro w hSw; (try dsimp only at hSw); go_simp; (first | done | with_reducible rfl)
          try simp only [Act.put, List.setIfInBounds_toArray, List.set_cons_zero, List.set_cons_succ]
          refine takeH 12 22 (v := ?_) rfl rfl (by kernel_rfl) (by kernel_rfl) (by kernel_rfl) (fun _ _ _ h => h) (by rfl) (by assumption) ?_ ?_
          rotate_left
          · intro w hSw; (try dsimp only at hSw); go_simp; (first | done | with_reducible rfl)
          try simp only [Act.put, List.setIfInBounds_toArray, List.set_cons_zero, List.set_cons_succ]
          refine takeH 13 23 (v := ?_) rfl rfl (by kernel_rfl) (by kernel_rfl) (by kernel_rfl) (fun _ _ _ h => h) (by rfl) (by assumption) ?_ ?_
          rotate_left
          · intro w hSw; (try dsimp only at hSw); go_simp; (first | done | with_reducible rfl)
          try simp only [Act.put, List.setIfInBounds_toArray, List.set_cons_zero, List.set_cons_succ]
          refine takeH 14 24 (v := ?_) rfl rfl (by kernel_rfl) (by kernel_rfl) (by kernel_rfl) (fun _ _ _ h => h) (by rfl) (by assumption) ?_ ?_
          rotate_left
          · intro w hSw; (try dsimp only at hSw); go_simp; (first | done | with_reducible rfl)
          try simp only [Act.put, List.setIfInBounds_toArray, List.set_cons_zero, List.set_cons_succ]
          refine takeH 15 25 (v := ?_) rfl rfl (by kernel_rfl) (by kernel_rfl) (by kernel_rfl) (fun _ _ _ h => h) (by rfl) (by assumption) ?_ ?_
          rotate_left
          · intro w hSw; (try dsimp only at hSw); go_simp; (first | done | with_reducible rfl)
          try simp only [Act.put, List.setIfInBounds_toArray, List.set_cons_zero, List.set_cons_succ]
          refine takeH 16 26 (v := ?_) rfl rfl (by kernel_rfl) (by kernel_rfl) (by kernel_rfl) (fun _ _ _ h => h) (by rfl) (by assumption) ?_ ?_
          rotate_left
          · intro w hSw; (try dsimp only at hSw); go_simp; (first | done | with_reducible rfl)
          try simp only [Act.put, List.setIfInBounds_toArray, List.set_cons_zero, List.set_cons_succ]
          refine takeH 17 27 (v := ?_) rfl rfl (by kernel_rfl) (by kernel_rfl) (by kernel_rfl) (fun _ _ _ h => h) (by rfl) (by assumption) ?_ ?_
          rotate_left
          · intro w hSw; (try dsimp only at hSw); go_simp; (first | done | with_reducible rfl)
          try simp only [Act.put, List.setIfInBounds_toArray, List.set_cons_zero, List.set_cons_succ]
          refine takeH 18 28 (v := ?_) rfl rfl (by kernel_rfl) (by kernel_rfl) (by kernel_rfl) (fun _ _ _ h => h) (by rfl) (by assumption) ?_ ?_
          rotate_left
          · intro w hSw; (try dsimp only at hSw); go_simp; (first | done | with_reducible rfl)
          try simp only [Act.put, List.setIfInBounds_toArray, List.set_cons_zero, List.set_cons_succ]
          refine takeH 19 29 (v := ?_) rfl rfl (by kernel_rfl) (by kernel_rfl) (by kernel_rfl) (fun _ _ _ h => h) (by rfl) (by assumption) ?_ ?_
          rotate_left
          · intro w hSw; (try dsimp only at hSw); go_simp; (first | done | with_reducible rfl)
          try simp only [Act.put, List.setIfInBounds_toArray, List.set_cons_zero, List.set_cons_succ]
          refine takeH 20 30 (v := ?_) rfl rfl (by kernel_rfl) (by kernel_rfl) (by kernel_rfl) (fun _ _ _ h => h) (by rfl) (by assumption) ?_ ?_
          rotate_left
          · intro w hSw; (try dsimp only at hSw); go_simp; (first | done | with_reducible rfl)
          try simp only [Act.put, List.setIfInBounds_toArray, List.set_cons_zero, List.set_cons_succ]
          refine takeH 21 31 (v := ?_) rfl rfl (by kernel_rfl) (by kernel_rfl) (by kernel_rfl) (fun _ _ _ h => h) (by rfl) (by assumption) ?_ ?_
          rotate_left
          · intro w hSw; (try dsimp only at hSw); go_simp; (first | done | with_reducible rfl)
          try simp only [Act.put, List.setIfInBounds_toArray, List.set_cons_zero, List.set_cons_succ]
          refine takeH 22 32 (v := ?_) rfl rfl (by kernel_rfl) (by kernel_rfl) (by kernel_rfl) (fun _ _ _ h => h) (by rfl) (by assumption) ?_ ?_
          rotate_left
          · intro w hSw; (try dsimp only at hSw); go_simp; (first | done | with_reducible rfl)
          try simp only [Act.put, List.setIfInBounds_toArray, List.set_cons_zero, List.set_cons_succ]
          refine takeH 23 33 (v := ?_) rfl rfl (by kernel_rfl) (by kernel_rfl) (by kernel_rfl) (fun _ _ _ h => h) (by rfl) (by assumption) ?_ ?_
          rotate_left
          · intro w hSw; (try dsimp only at hSw); go_simp; (first | done | with_reducible rfl)
          try simp only [Act.put, List.setIfInBounds_toArray, List.set_cons_zero, List.set_cons_succ]
          refine wpAnyH_done (by kernel_rfl) ?_ _
          refine NoPanic.normal ?_
          have hbx := hb.drew.trans (b30.mono hb.size)
          go_wp2
          go_ret
          exact ⟨ret_bool HF.out.symm, hbx⟩
    · have HF := Lib.hid (tabOk_upto (l := l) (by have : k = l.length := by omega
                                                  subst this; exact hall.out))
      by_cases hl : l.length ≤ 10
      · rw [decide_eq_true hl] at HF
        have hl' : (l.length : Int) ≤ 10 := by omega
        go_wp2
        go_ret
        exact ⟨ret_bool HF.out.symm, hb⟩
      · rw [decide_eq_false hl] at HF
        have hl' : ¬ (l.length : Int) ≤ 10 := by omega
        go_wp2
        go_ret
        exact ⟨ret_bool HF.out.symm, hb⟩

end Go.Proofs.Ytipfpppcbmpjiaa

/- Names in order: bytes alone. -/
namespace Go.Proofs.Ytipfpppcbmpjiaa
open Go.RowKit

theorem bytesLess_trans : ∀ x y z : List UInt8, Op.bytesLess x y = true → Op.bytesLess y z = true → Op.bytesLess x z = true
  | _, [], _, h, _ => by simp [Op.bytesLess] at h
  | _, _ :: _, [], _, h => by simp [Op.bytesLess] at h
  | [], _ :: _, _ :: _, _, _ => by simp [Op.bytesLess]
  | a :: x, b :: y, c :: z, h1, h2 => by
    have ih := bytesLess_trans x y z
    simp only [Op.bytesLess, Bool.or_eq_true, decide_eq_true_eq, Bool.and_eq_true, beq_iff_eq] at h1 h2 ⊢
    rcases h1 with h1 | ⟨rfl, h1⟩
    · rcases h2 with h2 | ⟨rfl, h2⟩
      · exact .inl (UInt8.lt_trans h1 h2)
      · exact .inl h1
    · rcases h2 with h2 | ⟨rfl, h2⟩
      · exact .inl h2
      · exact .inr ⟨rfl, ih h1 h2⟩
theorem sLess_trans {a b c : ByteArray} (h1 : sLess a b = true) (h2 : sLess b c = true) : sLess a c = true := bytesLess_trans _ _ _ h1 h2
theorem bytesLess_irrefl : ∀ x : List UInt8, Op.bytesLess x x = false
  | [] => rfl
  | a :: x => by simp [Op.bytesLess, bytesLess_irrefl x, UInt8.lt_irrefl]
theorem sLess_irrefl (a : ByteArray) : sLess a a = false := bytesLess_irrefl _

theorem bytes_same {a b : ByteArray} (h : (a.toList == b.toList) = true) : a = b := by
  by_cases e : a = b
  · exact e
  · exact absurd h (by rw [bytes_bne e]; simp)

end Go.Proofs.Ytipfpppcbmpjiaa

/- Names of tables are in order: no program. -/
namespace Go.Proofs.Ytipfpppcbmpjiaa
open Go.RowKit

theorem cmp_less : ∀ x y : List UInt8, decide (Lib.compareBytes x y < 0) = Op.bytesLess x y
  | [], [] => by simp [Lib.compareBytes, Op.bytesLess]
  | [], _ :: _ => by simp [Lib.compareBytes, Op.bytesLess]
  | _ :: _, [] => by simp [Lib.compareBytes, Op.bytesLess]
  | a :: x, b :: y => by
    have ih := cmp_less x y
    unfold Lib.compareBytes Op.bytesLess
    by_cases h1 : a < b
    · simp [h1]
    · by_cases h2 : b < a
      · have h3 : (a == b) = false := by
          simp only [beq_eq_false_iff_ne, ne_eq]
          intro e; subst e; exact absurd h2 h1
        simp [h1, h2, h3]
      · have h3 : a = b := UInt8.le_antisymm (UInt8.not_lt.1 h2) (UInt8.not_lt.1 h1)
        subst h3
        simp [h1, ih]
theorem cmp_same : ∀ x y : List UInt8, decide (Lib.compareBytes x y = 0) = (x == y)
  | [], [] => by simp [Lib.compareBytes]
  | [], _ :: _ => by simp [Lib.compareBytes]
  | _ :: _, [] => by simp [Lib.compareBytes]
  | a :: x, b :: y => by
    have ih := cmp_same x y
    unfold Lib.compareBytes
    by_cases h1 : a < b
    · have h3 : ¬ a = b := by intro e; subst e; exact absurd h1 (UInt8.lt_irrefl _)
      simp [h1, h3]
    · by_cases h2 : b < a
      · have h3 : ¬ a = b := by intro e; subst e; exact absurd h2 h1
        simp [h1, h2, h3]
      · have h3 : a = b := UInt8.le_antisymm (UInt8.not_lt.1 h2) (UInt8.not_lt.1 h1)
        subst h3
        simp [h1, ih]
/-- The names of a valid table ascend. -/
theorem tab_asc {l : List DMacro} (h : tabOk l = true) : ∀ d i : Nat, (hj : i + d + 1 < l.length) → sLess (l[i]'(by omega)).name (l[i + d + 1]'hj).name = true
  | 0, i, hj => by
    have := (tabOk_at h).2 (i + 1) (by omega)
    unfold tabAt at this
    rw [dif_pos (by omega)] at this
    simpa using (Bool.and_eq_true_iff.1 this).2
  | d + 1, i, hj => by
    have h1 := tab_asc h d i (by omega)
    have h2 := tab_asc h 0 (i + d + 1) (by omega)
    exact sLess_trans h1 (by simpa [Nat.add_assoc] using h2)
theorem tab_lt {l : List DMacro} (h : tabOk l = true) {i j : Nat} (hij : i < j) (hj : j < l.length) : sLess (l[i]'(by omega)).name l[j].name = true := by
  have := tab_asc h (j - i - 1) i (by omega)
  simpa [show i + (j - i - 1) + 1 = j by omega] using this
/-- How many names are less. -/
def lowFrom (l : List DMacro) (nm : ByteArray) (k : Nat) : Nat := if h : k < l.length then (if sLess l[k].name nm = true then lowFrom l nm (k + 1) else k) else k
termination_by l.length - k
def lowAt (l : List DMacro) (nm : ByteArray) : Nat := lowFrom l nm 0
theorem low_go {l : List DMacro} {nm : ByteArray} {k : Nat} (h : k < l.length) (h1 : sLess l[k].name nm = true) : lowFrom l nm k = lowFrom l nm (k + 1) := by rw [lowFrom, dif_pos h, if_pos h1]
theorem low_stop {l : List DMacro} {nm : ByteArray} {k : Nat} (h : k < l.length) (h1 : sLess l[k].name nm = false) : lowFrom l nm k = k := by rw [lowFrom, dif_pos h, if_neg (by simp [h1])]
theorem low_end {l : List DMacro} {nm : ByteArray} {k : Nat} (h : l.length ≤ k) : lowFrom l nm k = k := by rw [lowFrom, dif_neg (by omega)]
theorem lowFrom_le (l : List DMacro) (nm : ByteArray) (k : Nat) (hk : k ≤ l.length) : lowFrom l nm k ≤ l.length := by
  induction k using lowFrom.induct (l := l) (nm := nm) with
  | case1 k h h1 ih => rw [low_go h h1]; exact ih (by omega)
  | case2 k h h1 => rw [low_stop h (by simpa using h1)]; omega
  | case3 k h => rw [low_end (by omega)]; omega
theorem low_le (l : List DMacro) (nm : ByteArray) : lowAt l nm ≤ l.length := lowFrom_le l nm 0 (by omega)
theorem lowFrom_in (l : List DMacro) (nm : ByteArray) (k : Nat) : ∀ j, (hj : j < l.length) → k ≤ j → j < lowFrom l nm k → sLess l[j].name nm = true := by
  induction k using lowFrom.induct (l := l) (nm := nm) with
  | case1 k h h1 ih =>
    intro j hj hk hl
    rw [low_go h h1] at hl
    by_cases e : j = k
    · subst e; exact h1
    · exact ih j hj (by omega) hl
  | case2 k h h1 => intro j hj hk hl; rw [low_stop h (by simpa using h1)] at hl; omega
  | case3 k h => intro j hj hk hl; omega
theorem lowFrom_at (l : List DMacro) (nm : ByteArray) (k : Nat) : ∀ h : lowFrom l nm k < l.length, sLess l[lowFrom l nm k].name nm = false := by
  induction k using lowFrom.induct (l := l) (nm := nm) with
  | case1 k h h1 ih => rw [low_go h h1]; exact ih
  | case2 k h h1 => rw [low_stop h (by simpa using h1)]; intro _; simpa using h1
  | case3 k h => rw [low_end (by omega)]; intro h2; omega
/-- In a valid table a name is less exactly before that place. -/
theorem low_iff {l : List DMacro} (h : tabOk l = true) (nm : ByteArray) {j : Nat} (hj : j < l.length) : sLess l[j].name nm = decide (j < lowAt l nm) := by
  by_cases hl : j < lowAt l nm
  · rw [decide_eq_true hl]
    exact lowFrom_in l nm 0 j hj (by omega) hl
  · rw [decide_eq_false hl]
    have hlow : lowAt l nm < l.length := by omega
    have h1 := lowFrom_at l nm 0 hlow
    by_cases e : lowAt l nm = j
    · subst e; exact h1
    · have h2 := tab_lt h (show lowAt l nm < j by omega) hj
      cases h3 : sLess l[j].name nm
      · rfl
      · exact absurd (sLess_trans h2 h3) (by rw [show sLess (l[lowAt l nm]'hlow).name nm = false from h1]; simp)
/-- The place of a name, or -1. -/
def plFrom (l : List DMacro) (nm : ByteArray) (k : Nat) : Int := if h : k < l.length then (if (l[k].name.toList == nm.toList) = true then (k : Int) else plFrom l nm (k + 1)) else -1
termination_by l.length - k
def place (l : List DMacro) (nm : ByteArray) : Int := plFrom l nm 0
theorem pl_end {l : List DMacro} {nm : ByteArray} {k : Nat} (h : l.length ≤ k) : plFrom l nm k = -1 := by rw [plFrom, dif_neg (by omega)]
theorem pl_hit {l : List DMacro} {nm : ByteArray} {k : Nat} (h : k < l.length) (h1 : (l[k].name.toList == nm.toList) = true) : plFrom l nm k = k := by rw [plFrom, dif_pos h, if_pos h1]
theorem pl_miss {l : List DMacro} {nm : ByteArray} {k : Nat} (h : k < l.length) (h1 : (l[k].name.toList == nm.toList) = false) : plFrom l nm k = plFrom l nm (k + 1) := by rw [plFrom, dif_pos h, if_neg (by simp [h1])]
/-- In a valid table the place of a name is where the names cease to be less, if it is there. -/
theorem pl_low {l : List DMacro} (h : tabOk l = true) (nm : ByteArray) (k : Nat) (hk : k ≤ lowAt l nm) :
    plFrom l nm k = if hl : lowAt l nm < l.length then (if (l[lowAt l nm].name.toList == nm.toList) = true then (lowAt l nm : Int) else -1) else -1 := by
  induction k using plFrom.induct (l := l) (nm := nm) with
  | case1 k hkl h1 =>
    have hs : sLess l[k].name nm = false := by rw [bytes_same h1]; exact sLess_irrefl _
    rw [low_iff h nm hkl, decide_eq_false_iff_not] at hs
    obtain rfl : k = lowAt l nm := by omega
    rw [pl_hit hkl h1, dif_pos hkl, if_pos h1]
  | case2 k hkl h1 ih =>
    rw [pl_miss hkl (by simpa using h1)]
    by_cases e : k = lowAt l nm
    · subst e
      rw [dif_pos hkl, if_neg h1]
      -- behind it all names are greater
      have : ∀ k', lowAt l nm < k' → plFrom l nm k' = -1 := by
        intro k' hk'
        induction k' using plFrom.induct (l := l) (nm := nm) with
        | case1 k' hkl' h1' =>
          have h2 := tab_lt h hk' hkl'
          rw [bytes_same h1', low_iff h nm hkl, decide_eq_true_eq] at h2
          omega
        | case2 k' hkl' h1' ih' => rw [pl_miss hkl' (by simpa using h1')]; exact ih' (by omega)
        | case3 k' hkl' => rw [pl_end (by omega)]
      exact this _ (by omega)
    · exact ih (by omega)
  | case3 k hkl =>
    rw [pl_end (by omega)]
    rw [dif_neg (by have := low_le l nm; omega)]
/-- A name is in a table. -/
def isIn (l : List DMacro) (nm : ByteArray) : Bool := if h : lowAt l nm < l.length then l[lowAt l nm].name.toList == nm.toList else false
theorem place_in {l : List DMacro} (h : tabOk l = true) (nm : ByteArray) : place l nm = if isIn l nm = true then (lowAt l nm : Int) else -1 := by
  unfold place isIn
  rw [pl_low h nm 0 (by omega)]
  by_cases hl : lowAt l nm < l.length
  · rw [dif_pos hl, dif_pos hl]
  · rw [dif_neg hl, dif_neg hl]; rfl
end Go.Proofs.Ytipfpppcbmpjiaa

/- Conditions: no program. -/
namespace Go.Proofs.Ytipfpppcbmpjiaa
open Go.RowKit

def isDfn (t : Tok) : Bool := decide (t.kind = 1) && (t.text.toList == [100, 101, 102, 105, 110, 101, 100])
def nmAt (l : List Tok) (k : Nat) : Bool := if h : k < l.length then decide (l[k].kind = 1) else false
def txAt (l : List Tok) (k : Nat) : ByteArray := if h : k < l.length then l[k].text else ⟨#[]⟩
def numTk (b sp : Bool) : Tok := ⟨2, if b = true then ⟨#[49]⟩ else ⟨#[48]⟩, sp, []⟩
/-- Is there a macro with this name? -/
def hasT (T : List DMacro) (nm : ByteArray) : Bool := decide (0 ≤ place T nm)
/-- Tokens from a place on, with 'defined' replaced. -/
def repG (T : List DMacro) (l : List Tok) (k : Nat) (acc : List Tok) : List Tok × Bool :=
  if h : k < l.length then
    (if isDfn l[k] = true then
      (if mkAt l (k + 1) [40] = true then
        (if mkAt l (k + 3) [41] = true ∧ nmAt l (k + 2) = true then repG T l (k + 4) (acc ++ [numTk (hasT T (txAt l (k + 2))) l[k].spaced]) else ([], false))
       else if nmAt l (k + 1) = true then repG T l (k + 2) (acc ++ [numTk (hasT T (txAt l (k + 1))) l[k].spaced]) else ([], false))
     else repG T l (k + 1) (acc ++ [l[k]]))
  else (acc, true)
termination_by l.length - k
/-- What ReplaceDefined answers. -/
def repRes (T : List DMacro) (l : List Tok) : List Tok × Bool := if tabOk T = true ∧ toksOk l = true then repG T l 0 [] else ([], false)
theorem repRes_bad {T : List DMacro} {l : List Tok} (h : ¬ (tabOk T = true ∧ toksOk l = true)) : repRes T l = ([], false) := by unfold repRes; rw [if_neg h]

section
variable {T : List DMacro} {l acc : List Tok} {k : Nat}
theorem rep_end (h : l.length ≤ k) : repG T l k acc = (acc, true) := by rw [repG, dif_neg (by omega)]
theorem rep_else (h : k < l.length) (hd : isDfn l[k] = false) : repG T l k acc = repG T l (k + 1) (acc ++ [l[k]]) := by rw [repG, dif_pos h, if_neg (by rw [hd]; simp)]
theorem rep_plain (h : k < l.length) (hd : isDfn l[k] = true) (ho : mkAt l (k + 1) [40] = false) (hn : nmAt l (k + 1) = true) : repG T l k acc = repG T l (k + 2) (acc ++ [numTk (hasT T (txAt l (k + 1))) l[k].spaced]) := by
  rw [repG, dif_pos h, if_pos hd, if_neg (by rw [ho]; simp), if_pos hn]
theorem rep_none (h : k < l.length) (hd : isDfn l[k] = true) (ho : mkAt l (k + 1) [40] = false) (hn : nmAt l (k + 1) = false) : repG T l k acc = ([], false) := by
  rw [repG, dif_pos h, if_pos hd, if_neg (by rw [ho]; simp), if_neg (by rw [hn]; simp)]
theorem rep_in (h : k < l.length) (hd : isDfn l[k] = true) (ho : mkAt l (k + 1) [40] = true) (hc : mkAt l (k + 3) [41] = true) (hn : nmAt l (k + 2) = true) : repG T l k acc = repG T l (k + 4) (acc ++ [numTk (hasT T (txAt l (k + 2))) l[k].spaced]) := by
  rw [repG, dif_pos h, if_pos hd, if_pos ho, if_pos ⟨hc, hn⟩]
theorem rep_open (h : k < l.length) (hd : isDfn l[k] = true) (ho : mkAt l (k + 1) [40] = true) (hc : ¬ (mkAt l (k + 3) [41] = true ∧ nmAt l (k + 2) = true)) : repG T l k acc = ([], false) := by
  rw [repG, dif_pos h, if_pos hd, if_pos ho, if_neg hc]
theorem mkAt_no {s : List UInt8} (h : l.length ≤ k) : mkAt l k s = false := by unfold mkAt; rw [dif_neg (by omega)]
theorem mkAt_at {s : List UInt8} (h : k < l.length) : mkAt l k s = isMk l[k] s := by unfold mkAt; rw [dif_pos h]
theorem nmAt_no (h : l.length ≤ k) : nmAt l k = false := by unfold nmAt; rw [dif_neg (by omega)]
theorem nmAt_at (h : k < l.length) : nmAt l k = decide (l[k].kind = 1) := by unfold nmAt; rw [dif_pos h]
theorem txAt_at (h : k < l.length) : txAt l k = l[k].text := by unfold txAt; rw [dif_pos h]
/-- How long it is: no longer than what is read. -/
theorem rep_len : (repG T l k acc).1.length ≤ acc.length + (l.length - k) := by
  induction hn : l.length - k using Nat.strongRecOn generalizing k acc with
  | _ n ih =>
    subst hn
    by_cases h : k < l.length
    · rw [repG, dif_pos h]
      split
      · split
        · split
          · have := ih (l.length - (k + 4)) (by omega) (k := k + 4) (acc := acc ++ [numTk (hasT T (txAt l (k + 2))) l[k].spaced]) rfl
            simp only [List.length_append, List.length_cons, List.length_nil] at this
            rename_i h1 h2 h3
            have : k + 3 < l.length := by
              by_cases h4 : k + 3 < l.length
              · exact h4
              · rw [mkAt_no (by omega)] at h3; exact absurd h3.1 (by simp)
            omega
          · simp
        · split
          · have := ih (l.length - (k + 2)) (by omega) (k := k + 2) (acc := acc ++ [numTk (hasT T (txAt l (k + 1))) l[k].spaced]) rfl
            simp only [List.length_append, List.length_cons, List.length_nil] at this
            omega
          · simp
      · have := ih (l.length - (k + 1)) (by omega) (k := k + 1) (acc := acc ++ [l[k]]) rfl
        simp only [List.length_append, List.length_cons, List.length_nil] at this
        omega
    · rw [rep_end (by omega)]; exact Nat.le_add_right _ _
/-- What it is made of. -/
theorem rep_all {P : Tok → Prop} (h0 : ∀ t ∈ l, isDfn t = false → P t) (h1 : ∀ b sp, P (numTk b sp)) (ha : ∀ t ∈ acc, P t) : ∀ t ∈ (repG T l k acc).1, P t := by
  have put : ∀ {x : Tok}, P x → ∀ t ∈ acc ++ [x], P t := fun hx t ht => by
    rcases List.mem_append.1 ht with h | h
    · exact ha t h
    · obtain rfl := List.mem_singleton.1 h; exact hx
  induction hn : l.length - k using Nat.strongRecOn generalizing k acc with
  | _ n ih =>
    subst hn
    by_cases h : k < l.length
    · have again : ∀ j x, k < j → P x → ∀ t ∈ (repG T l j (acc ++ [x])).1, P t := fun j x hj hx =>
        ih (l.length - j) (by omega) (k := j) (acc := acc ++ [x]) (put hx) (fun hy t ht => by
          rcases List.mem_append.1 ht with h | h
          · exact put hx t h
          · obtain rfl := List.mem_singleton.1 h; exact hy) rfl
      rw [repG, dif_pos h]
      split
      · split
        · split
          · exact again _ _ (by omega) (h1 _ _)
          · simp
        · split
          · exact again _ _ (by omega) (h1 _ _)
          · simp
      · rename_i hd
        exact again _ _ (by omega) (h0 _ (List.getElem_mem h) (by simpa using hd))
    · rw [rep_end (by omega)]; exact ha
/-- Where there is none, nothing is replaced. -/
theorem rep_same (hd : ∀ t ∈ l, isDfn t = false) : repG T l k acc = (acc ++ l.drop k, true) := by
  induction hn : l.length - k using Nat.strongRecOn generalizing k acc with
  | _ n ih =>
    subst hn
    by_cases h : k < l.length
    · rw [rep_else h (hd _ (List.getElem_mem h)), ih _ (by omega) rfl, List.append_assoc, List.drop_eq_getElem_cons h]; rfl
    · rw [rep_end (by omega), List.drop_of_length_le (by omega), List.append_nil]
end
theorem dfn_num (b sp : Bool) : isDfn (numTk b sp) = false := by
  have : (numTk b sp).kind ≠ 1 := by decide +revert
  unfold isDfn; rw [decide_eq_false this]; rfl
theorem rep_free {T : List DMacro} {l : List Tok} : ∀ t ∈ (repG T l 0 []).1, isDfn t = false := rep_all (P := fun t => isDfn t = false) (fun _ _ h => h) dfn_num (by simp)
theorem tok_num (b sp : Bool) : tokOk (numTk b sp) = true := by
  have : ∀ b sp, tokOk (numTk b sp) = true := by decide +kernel
  exact this b sp
theorem rep_valid {T : List DMacro} {l : List Tok} (hl : toksOk l = true) : toksOk (repG T l 0 []).1 = true := by
  have h := toksOk_facts hl
  unfold toksOk
  rw [Bool.and_eq_true, decide_eq_true_eq, List.all_eq_true]
  refine ⟨?_, rep_all (P := fun t => tokOk t = true) (fun t ht _ => ?_) tok_num (by simp)⟩
  · have := rep_len (T := T) (l := l) (k := 0) (acc := [])
    simp only [List.length_nil] at this
    omega
  · obtain ⟨k, hk, rfl⟩ := List.getElem_of_mem ht
    exact h.2 k hk
/-- What is asked of ReplaceDefined beyond its contract. -/
theorem repRes_fact {T : List DMacro} {l x : List Tok} (h : repRes T l = (x, true)) : (∀ t ∈ x, isDfn t = false) ∧ repRes T x = (x, true) ∧ x.length ≤ l.length ∧ toksOk x = true := by
  unfold repRes at h
  by_cases hg : tabOk T = true ∧ toksOk l = true
  · rw [if_pos hg] at h
    have h1 := rep_free (T := T) (l := l)
    have h2 := rep_valid (T := T) hg.2
    have h3 := rep_len (T := T) (l := l) (k := 0) (acc := [])
    rw [h] at h1 h2 h3
    refine ⟨h1, ?_, by simpa using h3, h2⟩
    unfold repRes
    rw [if_pos ⟨hg.1, h2⟩, rep_same h1]
    simp
  · rw [if_neg hg] at h; cases h
theorem repRes_no {T : List DMacro} {l x : List Tok} (h : repRes T l = (x, false)) : x = [] := by
  unfold repRes at h
  by_cases hg : tabOk T = true ∧ toksOk l = true
  · rw [if_pos hg] at h
    have : ∀ k acc, (repG T l k acc).2 = false → (repG T l k acc).1 = [] := by
      intro k acc
      induction hn : l.length - k using Nat.strongRecOn generalizing k acc with
      | _ n ih =>
        subst hn
        by_cases hk : k < l.length
        · rw [repG, dif_pos hk]
          split
          · split
            · split
              · exact ih _ (by omega) _ _ rfl
              · simp
            · split
              · exact ih _ (by omega) _ _ rfl
              · simp
          · exact ih _ (by omega) _ _ rfl
        · rw [rep_end (by omega)]; simp
    have := this 0 [] (by rw [h])
    rw [h] at this
    exact this
  · rw [if_neg hg] at h; cases h; rfl

end Go.Proofs.Ytipfpppcbmpjiaa

/- Values: what comes out lies within bounds; there is always an answer. No program. -/
namespace Go.Proofs.Ytipfpppcbmpjiaa
open Go.RowKit
end Go.Proofs.Ytipfpppcbmpjiaa

/- Rows of the call's own whose elements have memory behind them. Over any program. -/
namespace Go.Proofs.Ytipfpppcbmpjiaa
open Go.RowKit

structure RowE {α : Type} (S : Shape α) (base : Nat) (e : TypeId) (v : Value) (L : List (Elem α)) (w : World) : Prop where
  row : w.ownsRow base e S.m v L.length (L.flatMap (·.cells))
  len : ∀ x ∈ L, x.cells.length = S.m
  el : ∀ x ∈ L, S.R w x.cells x.d x.fp
  lo : ∀ x ∈ L, ∀ b ∈ x.fp, base ≤ b
  ty : ∀ x ∈ L, ∀ b ∈ x.fp, ∃ cur t fr, w.heap[b]? = some (.cells cur t fr) ∧ t ≠ e

section
variable {α : Type} {S : Shape α} {base : Nat} {e : TypeId} {v v' : Value} {L : List (Elem α)} {w w' : World}
theorem ownsRow_same {n : Nat} {xs : List Value} {m : Nat} (h : w.ownsRow base e m v n xs) (hb : ∀ g, v.ownBlock = some g → w'.heap[g]? = w.heap[g]?) : w'.ownsRow base e m v n xs := by
  refine ⟨h.1, ?_⟩
  rcases h.2 with h0 | ⟨g, cap, cur, h1, h2, h3, h4⟩
  · exact .inl h0
  · exact .inr ⟨g, cap, cur, h1, h2, (hb g (by rw [h1]; rfl)).trans h3, h4⟩
theorem RowE.same (h : RowE S base e v L w) (hb : ∀ b, b < w.heap.size → base ≤ b → w'.heap[b]? = w.heap[b]?) : RowE S base e v L w' where
  row := ownsRow_same h.row fun g hg => by
    have := h.row.lt g hg
    exact hb g this.2 this.1
  len := h.len
  el := fun x hx => S.frame (fun b hb' => hb b (S.lt (h.el x hx) b hb') (h.lo x hx b hb')) (h.el x hx)
  lo := h.lo
  ty := fun x hx b hb' => by
    obtain ⟨cur, t, fr, h1, h2⟩ := h.ty x hx b hb'
    exact ⟨cur, t, fr, (hb b (S.lt (h.el x hx) b hb') (h.lo x hx b hb')).trans h1, h2⟩
theorem RowE.below (h : RowE S base e v L w) (hb : Below w.heap.size w w') : RowE S base e v L w' := h.same fun b hb' _ => hb.block b hb'
theorem RowE.keptR {rb : Nat} (h : RowE S base e v L w) (hk : Kept [rb] w w') (hr : rb < base) : RowE S base e v L w' := h.same fun b hb hl => hk.block b hb (by simp; omega)
theorem RowE.lower {base' : Nat} (h : RowE S base e v L w) (hl : base' ≤ base) : RowE S base' e v L w where
  row := ⟨h.row.1, by
    rcases h.row.2 with h0 | ⟨g, cap, cur, h1, h2, h3⟩
    · exact .inl h0
    · exact .inr ⟨g, cap, cur, h1, Nat.le_trans hl h2, h3⟩⟩
  len := h.len
  el := h.el
  lo := fun x hx b hb => Nat.le_trans hl (h.lo x hx b hb)
  ty := h.ty
theorem RowE.nil (S : Shape α) (base : Nat) (e : TypeId) (w : World) : RowE S base e (.slice none 0 0) [] w := ⟨World.ownsRow_nil _ _ _ _, by simp, by simp, by simp, by simp⟩
theorem RowE.val (h : RowE S base e v L w) : ∃ a cap, v = .slice a L.length cap ∧ L.length ≤ cap ∧ cap ≤ maxLen ∧ (0 < L.length → ∃ g, a = some ⟨g, 0, none⟩ ∧ base ≤ g ∧ g < w.heap.size) := by
  rcases h.row.2 with ⟨rfl, h0⟩ | ⟨g, cap, cur, rfl, hb, hg, hn, hc, _⟩
  · exact ⟨none, 0, by rw [h0], by omega, by simp, fun h => by omega⟩
  · exact ⟨_, cap, rfl, hn, hc, fun _ => ⟨g, rfl, hb, (Array.getElem?_eq_some_iff.1 hg).1⟩⟩
theorem RowE.mine (h : RowE S base e v L w) : ∀ b, v.ownBlock = some b → base ≤ b := fun b hb => (h.row.lt b hb).1
theorem RowE.slice (h : RowE S base e v L w) : ∃ fp, (sSlice S).R w [v] (L.map (·.d)) fp := by
  obtain ⟨fp, h1, _⟩ := slice_of_row h.row fun x hx => ⟨h.len x hx, h.el x hx⟩
  exact ⟨fp, h1⟩
/-- The blocks behind an element are not the row's. -/
theorem RowE.ap (h : RowE S base e v L w) {x : Elem α} (hx : x ∈ L) {b : Nat} (hb : b ∈ x.fp) : v.ownBlock ≠ some b := by
  intro hv
  obtain ⟨cur, t, fr, h1, h2⟩ := h.ty x hx b hb
  rcases h.row.2 with ⟨rfl, _⟩ | ⟨g, cap, cur', rfl, _, hg, _⟩
  · simp [Value.ownBlock] at hv
  · simp only [Value.ownBlock, Option.some.injEq] at hv
    subst hv
    rw [h1] at hg
    simp only [Option.some.injEq, Obj.cells.injEq] at hg
    exact h2 hg.2.1
theorem RowE.frozen {g n cap : Nat} (h : RowE S base e (.slice (some ⟨g, 0, none⟩) n cap) L w) (o : Nat) : w.frozen? ⟨g, o, none⟩ = false := by
  rcases h.row.2 with ⟨h', _⟩ | ⟨g', cap', cur, h', _, hg, _⟩
  · cases h'
  · simp only [Value.slice.injEq, Option.some.injEq, Addr.mk.injEq, and_true] at h'
    obtain ⟨rfl, _⟩ := h'
    exact frozen_of_row w g o cur e hg
/-- An element's cells. -/
theorem RowE.cellAt {g n cap : Nat} (h : RowE S base e (.slice (some ⟨g, 0, none⟩) n cap) L w) {k : Nat} (hk : k < L.length) {j : Nat} (hj : j < S.m) {u : Value} (hu : L[k].cells[j]? = some u) : w.cell? ⟨g, k * S.m + j, none⟩ = some u := by
  have hn : L.length = n := by
    rcases h.row.2 with ⟨h', _⟩ | ⟨g', cap', cur, h', _⟩
    · cases h'
    · simp only [Value.slice.injEq] at h'; exact h'.2.1.symm
  subst hn
  rw [h.row.cellAt (k * S.m + j) (by have : (k + 1) * S.m ≤ L.length * S.m := Nat.mul_le_mul_right _ hk; rw [Nat.succ_mul] at this; omega)]
  exact (flatMap_at (f := Elem.cells) h.len hk hj).trans hu
theorem flatMap_set {f : Elem α → List Value} {m : Nat} : ∀ {L : List (Elem α)} (_ : ∀ x ∈ L, (f x).length = m) {k : Nat} (hk : k < L.length) {j : Nat} (_ : j < m) (u : Value) (x' : Elem α) (_ : f x' = (f L[k]).set j u), (L.flatMap f).set (k * m + j) u = (L.set k x').flatMap f
  | [], _, k, hk, _, _, _, _, _ => by simp at hk
  | x :: L, hL, 0, _, j, hj, u, x', hx => by
    simp only [List.flatMap_cons, List.set_cons_zero, Nat.zero_mul, Nat.zero_add]
    rw [List.set_append_left _ _ (by rw [hL x (by simp)]; exact hj), hx]; rfl
  | x :: L, hL, k + 1, hk, j, hj, u, x', hx => by
    have hl := hL x (by simp)
    have e : (k + 1) * m + j = m + (k * m + j) := by rw [Nat.succ_mul]; omega
    simp only [List.flatMap_cons, List.set_cons_succ]
    rw [List.set_append_right _ _ (by rw [hl, e]; omega), hl, e, Nat.add_sub_cancel_left]
    rw [flatMap_set (fun y hy => hL y (by simp [hy])) (by simpa using hk) hj u x' (by simpa using hx)]
/-- A store into an element. -/
theorem RowE.set {g n cap : Nat} (h : RowE S base e (.slice (some ⟨g, 0, none⟩) n cap) L w) {k : Nat} (hk : k < L.length) {j : Nat} (hj : j < S.m) (u : Value) (x' : Elem α) (hx : x'.cells = L[k].cells.set j u)
    (hR : S.R w x'.cells x'.d x'.fp) (hlo : ∀ b ∈ x'.fp, base ≤ b) (hty : ∀ b ∈ x'.fp, ∃ cur t fr, w.heap[b]? = some (.cells cur t fr) ∧ t ≠ e) :
    RowE S base e (.slice (some ⟨g, 0, none⟩) n cap) (L.set k x') (w.setCell ⟨g, k * S.m + j, none⟩ u) := by
  have hne : ∀ b : Nat, (∃ cur t fr, w.heap[b]? = some (.cells cur t fr) ∧ t ≠ e) → b ≠ g := by
    rintro b ⟨cur, t, fr, h1, h2⟩ rfl
    rcases h.row.2 with ⟨h', _⟩ | ⟨g', cap', cur', h', _, hg, _⟩
    · cases h'
    · simp only [Value.slice.injEq, Option.some.injEq, Addr.mk.injEq, and_true] at h'
      obtain ⟨rfl, _⟩ := h'
      rw [h1] at hg
      simp only [Option.some.injEq, Obj.cells.injEq] at hg
      exact h2 hg.2.1
  have hblk : ∀ b : Nat, b ≠ g → (w.setCell ⟨g, k * S.m + j, none⟩ u).heap[b]? = w.heap[b]? := fun b hb => Below.heap_setCell _ _ _ _ hb
  have hmem : ∀ x ∈ L.set k x', x = x' ∨ x ∈ L := fun x hx => by
    rcases List.mem_or_eq_of_mem_set hx with h | h
    · exact .inr h
    · exact .inl h
  refine ⟨?_, fun x hx' => ?_, fun x hx' => ?_, fun x hx' => ?_, fun x hx' => ?_⟩
  · have hn : L.length = n := by
      rcases h.row.2 with ⟨h', _⟩ | ⟨g', cap', cur, h', _⟩
      · cases h'
      · simp only [Value.slice.injEq] at h'; exact h'.2.1.symm
    have hrow := h.row
    rw [hn] at hrow
    have := (hrow.stored (k * S.m + j) u).1
    rw [flatMap_set h.len hk hj u x' hx] at this
    rw [List.length_set, hn]
    exact this
  · rcases hmem x hx' with rfl | hx'
    · rw [hx, List.length_set]; exact h.len _ (List.getElem_mem hk)
    · exact h.len x hx'
  · rcases hmem x hx' with rfl | hx'
    · exact S.frame (fun b hb => hblk b (hne b (hty b hb))) hR
    · exact S.frame (fun b hb => hblk b (hne b (h.ty x hx' b hb))) (h.el x hx')
  · rcases hmem x hx' with rfl | hx'
    · exact hlo
    · exact h.lo x hx'
  · intro b hb
    rcases hmem x hx' with rfl | hx'
    · obtain ⟨cur, t, fr, h1, h2⟩ := hty b hb
      exact ⟨cur, t, fr, (hblk b (hne b ⟨cur, t, fr, h1, h2⟩)).trans h1, h2⟩
    · obtain ⟨cur, t, fr, h1, h2⟩ := h.ty x hx' b hb
      exact ⟨cur, t, fr, (hblk b (hne b ⟨cur, t, fr, h1, h2⟩)).trans h1, h2⟩
/-- Elements appended. -/
theorem RowE.appended (h : RowE S base e v L w) {X : List (Elem α)} (hrow : w'.ownsRow base e S.m v' (L ++ X).length ((L ++ X).flatMap (·.cells))) (hg : w.grownBy w' v.ownBlock)
    (hlen : ∀ x ∈ X, x.cells.length = S.m) (hR : ∀ x ∈ X, S.R w x.cells x.d x.fp) (hlo : ∀ x ∈ X, ∀ b ∈ x.fp, base ≤ b) (hty : ∀ x ∈ X, ∀ b ∈ x.fp, ∃ cur t fr, w.heap[b]? = some (.cells cur t fr) ∧ t ≠ e) :
    RowE S base e v' (L ++ X) w' := by
  have hne : ∀ b : Nat, (∃ cur t fr, w.heap[b]? = some (.cells cur t fr) ∧ t ≠ e) → w'.heap[b]? = w.heap[b]? := by
    rintro b ⟨cur, t, fr, h1, h2⟩
    refine hg.block b (Array.getElem?_eq_some_iff.1 h1).1 fun hv => ?_
    rcases h.row.2 with ⟨rfl, _⟩ | ⟨g', cap', cur', rfl, _, hg', _⟩
    · simp [Value.ownBlock] at hv
    · simp only [Value.ownBlock, Option.some.injEq] at hv
      subst hv
      rw [h1] at hg'
      simp only [Option.some.injEq, Obj.cells.injEq] at hg'
      exact h2 hg'.2.1
  refine ⟨hrow, fun x hx => ?_, fun x hx => ?_, fun x hx => ?_, fun x hx b hb => ?_⟩ <;> rcases List.mem_append.1 hx with hx | hx
  · exact h.len x hx
  · exact hlen x hx
  · exact S.frame (fun b hb => hne b (h.ty x hx b hb)) (h.el x hx)
  · exact S.frame (fun b hb => hne b (hty x hx b hb)) (hR x hx)
  · exact h.lo x hx
  · exact hlo x hx
  · obtain ⟨cur, t, fr, h1, h2⟩ := h.ty x hx b hb
    exact ⟨cur, t, fr, (hne b ⟨cur, t, fr, h1, h2⟩).trans h1, h2⟩
  · obtain ⟨cur, t, fr, h1, h2⟩ := hty x hx b hb
    exact ⟨cur, t, fr, (hne b ⟨cur, t, fr, h1, h2⟩).trans h1, h2⟩
end

/-- append of elements out of a literal's own block, or of any row that can be read. -/
theorem wp_append_rowE {α : Type} {S : Shape α} {P : Program} {t e : TypeId} {z : Value} {bytes : Nat} (ti : TI P t e z S.m bytes) (hzs : z.cells.size = S.m) (h0 : 0 < S.m) (w : World) {L X : List (Elem α)} {ops : Array Oper} {rest : List Oper} {o : Oper} {a : Act} {Q : Exit → Act → World → Prop}
    (hg : o.guard = none) (s y : Operand) (ho : o.op = .call { callee := .builtin .append, args := #[s, y], argTypes := #[t, t] })
    (base : Nat) (v : Value) (hs : a.eval s = v) (hown : RowE S base e v L w) (g m c : Nat) (hy : a.eval y = .slice (some ⟨g, 0, none⟩) m c) (hm : X.length = m)
    (hlen : ∀ x ∈ X, x.cells.length = S.m) (h1 : ∀ x ∈ X, ∀ u ∈ x.cells, u.oneCell' = true) (hcell : ∀ j u, (X.flatMap (·.cells))[j]? = some u → w.cell? ⟨g, j, none⟩ = some u)
    (hR : ∀ x ∈ X, S.R w x.cells x.d x.fp) (hlo : ∀ x ∈ X, ∀ b ∈ x.fp, base ≤ b) (hty : ∀ x ∈ X, ∀ b ∈ x.fp, ∃ cur t fr, w.heap[b]? = some (.cells cur t fr) ∧ t ≠ e)
    (h63 : L.length + m ≤ maxLen) (hbytes : (L.length + m) * bytes ≤ 140737488355328) (hbase : base ≤ w.heap.size)
    (h : ∀ v' w', RowE S base e v' (L ++ X) w' → w.grownBy w' v.ownBlock → wpList P ops Q rest (a.put o.dst v') w') : wpList P ops Q (o :: rest) a w := by
  obtain ⟨i, hi, hz0, hz1, hz2⟩ := info_parts ti.2
  subst hm
  refine wpList_append_own _ hg s y t ho base e i z S.m bytes ti.1 hi hz0 hz1 hz2 hzs h0 v L.length _ hs hown.row ⟨g, 0, none⟩ X.length c (X.flatMap (·.cells)) hy (flatMap_len hlen) ?_ ?_ h63 hbytes hbase fun v' w' a b _ => h v' w' ?_ b
  · intro j u hj
    rw [addr_add, Nat.zero_add]
    exact hcell j u hj
  · intro u hu
    obtain ⟨x, hx, hu⟩ := List.mem_flatMap.1 hu
    exact h1 x hx u hu
  · refine hown.appended ?_ b hlen hR hlo hty
    rw [List.length_append, List.flatMap_append]
    exact a

end Go.Proofs.Ytipfpppcbmpjiaa

/- Rows of the call's own: literals, whole elements stored, rows behind rows. Over any program. -/
namespace Go.Proofs.Ytipfpppcbmpjiaa
open Go.RowKit

section
variable {α : Type} {S : Shape α} {base : Nat} {e : TypeId} {v v' : Value} {L : List (Elem α)} {w w' : World}
/-- A literal's row. -/
theorem RowE.lit (X : List (Elem α)) (hlen : ∀ x ∈ X, x.cells.length = S.m) (hR : ∀ x ∈ X, S.R w x.cells x.d x.fp) (hlo : ∀ x ∈ X, ∀ b ∈ x.fp, base ≤ b) (hty : ∀ x ∈ X, ∀ b ∈ x.fp, ∃ cur t fr, w.heap[b]? = some (.cells cur t fr) ∧ t ≠ e)
    (hb : base ≤ w.heap.size) (hn : X.length ≤ 1000000) : RowE S base e (.slice (some ⟨w.heap.size, 0, none⟩) X.length X.length) X (w.alloc (.cells (X.flatMap (·.cells)).toArray e)) where
  row := World.ownsRow_lit (base := base) (e := e) (size := S.m) w (X.flatMap (·.cells)).toArray X.length hb (by unfold maxLen; omega) (by simpa using flatMap_len hlen)
  len := hlen
  el := fun x hx => S.below (hR x hx) (alloc_below' _ _)
  lo := hlo
  ty := fun x hx b hb' => by
    obtain ⟨cur, t, fr, h1, h2⟩ := hty x hx b hb'
    exact ⟨cur, t, fr, ((alloc_below' w _).block b (Array.getElem?_eq_some_iff.1 h1).1).trans h1, h2⟩
/-- What a row's slice reads, and in which blocks. -/
theorem RowE.read (h : RowE S base e v L w) : ∃ fp, (sSlice S).R w [v] (L.map (·.d)) fp ∧ ∀ b ∈ fp, base ≤ b := by
  obtain ⟨fp, h1, h2, _⟩ := slice_of_row h.row fun x hx => ⟨h.len x hx, h.el x hx⟩
  refine ⟨fp, h1, fun b hb => ?_⟩
  rcases h2 b hb with h3 | h3
  · exact h.mine b h3
  · obtain ⟨x, hx, hb'⟩ := List.mem_flatMap.1 h3
    exact h.lo x hx b hb'
end
/-- An operation whose guard holds is walked as one without. -/
theorem wpList_guarded {P : Program} {ops : Array Oper} {rest : List Oper} {a : Act} {w : World} {Q : Exit → Act → World → Prop} {d : Option Tmp} {op : Op} {ty : TypeId} {pos : String} {after : Array Edge} {g : Option (Nat × Bool)}
    (hw : Region.wanted (Oper.mk d op ty pos after g) (yielded ops a.tmps) = true) (h : wpList P ops Q (Oper.mk d op ty pos after none :: rest) a w) : wpList P ops Q (Oper.mk d op ty pos after g :: rest) a w := by
  unfold wpList at h ⊢
  rw [if_pos hw]
  rw [if_pos (show Region.wanted (Oper.mk d op ty pos after none) (yielded ops a.tmps) = true from rfl)] at h
  exact h

end Go.Proofs.Ytipfpppcbmpjiaa

/- A region that draws its order, walked by what its operations leave: in whatever order they come up, each finds what those before it have left. Over any program. -/
namespace Go.Proofs.Ytipfpppcbmpjiaa
open Go.RowKit

/-- Go on with K; nothing else may happen. -/
def Sw (K : Act → World → Prop) : Exit → Act → World → Prop
  | .normal, a, w => K a w
  | _, _, _ => False
theorem Sw.noOut {K : Act → World → Prop} : ¬ LetsOut (Sw K) := fun ⟨_, _, h⟩ => h
theorem sw_wp {P : Program} {o : Oper} {a : Act} {w : World} {K : Act → World → Prop} {Q : Exit → Act → World → Prop} (h : o.wp P a w K (Sw K)) : o.wp P a w K Q := by
  unfold Oper.wp at *
  generalize (execOp a.eval o).run P w = r at *
  cases r with
  | ok n w' =>
    cases n <;> simp only [Oper.upon] at h ⊢ <;>
      first
        | exact h
        | exact Calls.mono h (fun e w'' he => by cases e <;> first | exact he | exact absurd he id | exact absurd he Sw.noOut)
        | exact Rows.mono h (fun _ _ he => he)
  | halt x w' =>
    cases x <;> simp only [Oper.upon] at h ⊢
    exact absurd h id
theorem sw_op {P : Program} {ops : Array Oper} {i : Nat} {o : Oper} {a : Act} {w : World} {K : Act → World → Prop} {Q : Exit → Act → World → Prop} (hi : ops[i]? = some o) (h : wpList P ops (Sw K) [o] a w) : wpOp P ops Q i K a w := by
  unfold wpOp
  rw [hi]
  unfold wpList at h
  show if _ then _ else _
  split
  · rename_i hw
    rw [if_pos hw] at h
    rcases h with h | ⟨_, h⟩
    · exact .inl (sw_wp h)
    · exact absurd h Sw.noOut
  · rename_i hw
    rw [if_neg hw] at h
    exact h

/-- The slots that operations leave, filled. -/
def fill (a : Act) : List (Option Nat) → List Value → Act
  | d :: ds, x :: xs => fill (a.put d x) ds xs
  | _, _ => a
theorem put_twice (a : Act) (d : Nat) (x v : Value) : (a.put (some d) x).put (some d) v = a.put (some d) v := by
  simp [Act.put, Array.setIfInBounds_setIfInBounds]
theorem put_swap (a : Act) (d e : Option Nat) (x v : Value) (h : d ≠ e ∨ d = none) : (a.put d x).put e v = (a.put e v).put d x := by
  cases d with
  | none => rfl
  | some d =>
    cases e with
    | none => rfl
    | some e =>
      have hne : d ≠ e := by
        rcases h with h | h
        · intro hh; exact h (by rw [hh])
        · cases h
      simp only [Act.put]
      rw [Array.setIfInBounds_comm _ _ hne]
/-- No slot is left twice. -/
def apartDsts : List (Option Nat) → Bool
  | [] => true
  | d :: ds => (d == none || !ds.contains d) && apartDsts ds
theorem fill_swap (ds : List (Option Nat)) : ∀ (a : Act) (xs : List Value) (d : Option Nat) (v : Value), (d = none ∨ d ∉ ds) → (fill a ds xs).put d v = fill (a.put d v) ds xs := by
  induction ds with
  | nil => intro a xs d v _; rfl
  | cons e ds ih =>
    intro a xs d v h
    cases xs with
    | nil => rfl
    | cons x xs =>
      show (fill (a.put e x) ds xs).put d v = fill ((a.put d v).put e x) ds xs
      rw [ih _ _ _ _ (by rcases h with h | h; exact .inl h; exact .inr (fun hh => h (by simp [hh])))]
      rw [put_swap a e d x v (by rcases h with rfl | h; · cases e <;> simp
                                 · left; rintro rfl; exact h (by simp))]
theorem fill_put (ds : List (Option Nat)) (hd : apartDsts ds = true) : ∀ (a : Act) (xs : List Value) (i : Nat) (d : Option Nat) (v : Value), xs.length = ds.length → ds[i]? = some d → (fill a ds xs).put d v = fill a ds (xs.set i v) := by
  induction ds with
  | nil => intro a xs i d v _ h; simp at h
  | cons e ds ih =>
    unfold apartDsts at hd
    rw [Bool.and_eq_true, Bool.or_eq_true] at hd
    intro a xs i d v hl h
    cases xs with
    | nil => simp at hl
    | cons x xs =>
      cases i with
      | zero =>
        simp only [List.getElem?_cons_zero, Option.some.injEq] at h
        subst h
        show (fill (a.put e x) ds xs).put e v = fill (a.put e v) ds xs
        rw [fill_swap ds _ _ _ _ (by rcases hd.1 with h | h; · left; simpa using h
                                     · right; simpa using h)]
        cases e with
        | none => rfl
        | some e => rw [put_twice]
      | succ i =>
        show (fill (a.put e x) ds xs).put d v = fill (a.put e x) ds (xs.set i v)
        exact ih hd.2 _ _ _ _ _ (by simpa using hl) (by simpa using h)
theorem fill_self (ds : List (Option Nat)) : ∀ (a : Act), fill a ds (ds.map fun d => match d with | some t => a.tmps.getD t undef | none => undef) = a := by
  induction ds with
  | nil => intro a; rfl
  | cons d ds ih =>
    intro a
    have e : a.put d (match d with | some t => a.tmps.getD t undef | none => undef) = a := by
      cases d with
      | none => rfl
      | some t =>
        obtain ⟨T, D⟩ := a
        simp only [Act.put, Act.mk.injEq, and_true]
        apply Array.ext_getElem?
        intro j
        rw [Array.getElem?_setIfInBounds]
        split
        · rename_i h
          subst h
          split
          · rename_i h2; simp [Array.getD, h2]
          · rename_i h2; rw [Array.getElem?_eq_none (by omega)]
        · rfl
    show fill (a.put d _) ds _ = a
    rw [e]
    exact ih a

def regionOk (ops : Array Oper) : Bool :=
  apartDsts (ops.toList.map (·.dst)) && (List.range ops.size).all fun i => ((ops[i]?).map fun o => o.after.all fun e => decide (e.on < i)).getD false

def At (Ps : List (Value → World → Prop)) (i : Nat) (v : Value) (w : World) : Prop := ∀ p, Ps[i]? = some p → p v w
def origs (a : Act) (ds : List (Option Nat)) : List Value := ds.map fun d => match d with | some t => a.tmps.getD t undef | none => undef

/-- All other operations must have come up before this one. -/
def covers (o : Oper) (i n : Nat) : Bool := (List.range n).all fun j => j == i || o.after.any fun e => Region.binds .any e && e.on == j
/-- What an operation finds, and what it owes. -/
def StepOk (P : Program) (ops : Array Oper) (Rl : World → World → Prop) (Ps : List (Value → World → Prop)) (J : Nat → World → Prop) (a : Act) (i : Nat) (o : Oper) : Prop :=
  ∀ (xs : List Value) (w' : World) (m : Nat), xs.length = ops.size → m < ops.size → J m w' → (covers o i ops.size = true → m + 1 = ops.size) →
    (∀ e ∈ o.after, Region.binds .any e = true → ∀ v, xs[e.on]? = some v → At Ps e.on v w') →
    (∀ (j : Nat) (o' : Oper), ops[j]? = some o' → (j = i ∨ ∃ e ∈ o'.after, Region.binds .any e = true ∧ e.on = i) → xs[j]? = (origs a (ops.toList.map (·.dst)))[j]?) →
    ∀ K : Act → World → Prop, (∀ v w'', At Ps i v w'' → Rl w' w'' → J (m + 1) w'' → K ((fill a (ops.toList.map (·.dst)) xs).put o.dst v) w'') →
      wpList P ops (Sw K) [o] (fill a (ops.toList.map (·.dst)) xs) w'

def cnt (n : Nat) (L : Array Bool) : Nat := (List.range n).countP fun i => L.getD i false
theorem cnt_set {n : Nat} {L : Array Bool} {i : Nat} (hi : i < n) (hs : L.size = n) (h : L.getD i true = false) : cnt n (L.setIfInBounds i true) = cnt n L + 1 := by
  have h' : L.getD i false = false := by
    simp only [Array.getD] at h ⊢
    split at h
    · rename_i h2; rw [dif_pos h2]; exact h
    · cases h
  have key : ∀ l : List Nat, l.Nodup → (l.countP fun j => (L.setIfInBounds i true).getD j false) = (l.countP fun j => L.getD j false) + (if i ∈ l then 1 else 0) := by
    intro l
    induction l with
    | nil => intro _; simp
    | cons x l ih =>
      intro hn
      rw [List.nodup_cons] at hn
      rw [List.countP_cons, List.countP_cons, ih hn.2]
      by_cases e : x = i
      · subst e
        have h1 : (L.setIfInBounds x true).getD x false = true := by simp [Array.getD, hs, hi]
        rw [if_neg hn.1, h1, h', if_pos (by simp)]; simp
      · have h1 : (L.setIfInBounds i true).getD x false = L.getD x false := by
          have e' : ¬ i = x := fun h => e h.symm
          simp only [Array.getD, Array.size_setIfInBounds]
          split
          · rename_i hx
            show (L.setIfInBounds i true)[x]'_ = L[x]'_
            rw [Array.getElem_setIfInBounds (by simpa using hx), if_neg e']
          · rfl
        rw [h1]
        have h2 : (i ∈ x :: l) ↔ i ∈ l := by simp [Ne.symm e]
        simp only [h2]; omega
  unfold cnt
  rw [key _ List.nodup_range, if_pos (by simpa using hi)]
theorem cnt_full {n : Nat} {L : Array Bool} (h : ∀ i, i < n → L.getD i false = true) : cnt n L = n := by
  unfold cnt
  rw [List.countP_eq_length.2 (by intro i hi; exact h i (by simpa using hi)), List.length_range]
theorem cnt_lt {n : Nat} {L : Array Bool} {i : Nat} (hi : i < n) (h : L.getD i false = false) : cnt n L < n := by
  unfold cnt
  have h1 := List.countP_le_length (p := fun i => L.getD i false) (l := List.range n)
  have h2 : ¬ (List.range n).countP (fun i => L.getD i false) = (List.range n).length := fun e => by
    have := List.countP_eq_length.1 e i (by simpa using hi)
    simp [h] at this
  rw [List.length_range] at h1 h2
  omega

theorem regionOk_after {ops : Array Oper} (h : regionOk ops = true) {i : Nat} {o : Oper} (hi : ops[i]? = some o) : ∀ e ∈ o.after, e.on < i := by
  unfold regionOk at h
  rw [Bool.and_eq_true, List.all_eq_true] at h
  have hlt := (Array.getElem?_eq_some_iff.1 hi).1
  have := h.2 i (by simpa using hlt)
  rw [hi] at this
  simp only [Option.map_some, Option.getD_some, Array.all_eq_true'] at this
  intro e he
  simpa using this e he

structure RInv (ops : Array Oper) (Rl : World → World → Prop) (Ps : List (Value → World → Prop)) (J : Nat → World → Prop) (a : Act) (L : Array Bool) (b : Act) (w : World) (xs : List Value) : Prop where
  size : L.size = ops.size
  len : xs.length = ops.size
  act : b = fill a (ops.toList.map (·.dst)) xs
  j : J (cnt ops.size L) w
  facts : ∀ i v, L.getD i false = true → xs[i]? = some v → At Ps i v w
  old : ∀ i, i < ops.size → L.getD i false = false → xs[i]? = (origs a (ops.toList.map (·.dst)))[i]?
  closed : ∀ i o, ops[i]? = some o → L.getD i false = true → ∀ e ∈ o.after, Region.binds .any e = true → L.getD e.on false = true

theorem getD_ft {L : Array Bool} {i : Nat} (h : L.getD i true = false) : L.getD i false = false := by
  simp only [Array.getD] at h ⊢
  split at h
  · rename_i h2; rw [dif_pos h2]; exact h
  · cases h
theorem getD_tf {L : Array Bool} {i : Nat} (hi : i < L.size) (h : L.getD i false = false) : L.getD i true = false := by
  simp only [Array.getD] at h ⊢
  rw [dif_pos hi] at h ⊢; exact h
theorem getD_put {L : Array Bool} {i j : Nat} (hi : i < L.size) : (L.setIfInBounds i true).getD j false = (decide (j = i) || L.getD j false) := by
  simp only [Array.getD, Array.size_setIfInBounds]
  by_cases e : j = i
  · subst e; rw [dif_pos hi]; simp
  · have e' : ¬ i = j := fun h => e h.symm
    split
    · rename_i hx
      show (L.setIfInBounds i true)[j]'_ = _
      rw [Array.getElem_setIfInBounds (by simpa using hx), if_neg e']
      simp [e]
    · simp [e]

theorem wp_region_types {P : Program} {ops : Array Oper} {Q : Exit → Act → World → Prop} {id : Nat} {a : Act} {w : World} (hm : P.follows .mixedOrders = true) (hok : regionOk ops = true)
    (Rl : World → World → Prop) (Ps : List (Value → World → Prop)) (hst : ∀ p ∈ Ps, ∀ v w w', Rl w w' → p v w → p v w') (J : Nat → World → Prop)
    (hJ : J 0 { w with drawn := w.drawn + 1 })
    (step : ∀ i o, ops[i]? = some o → StepOk P ops Rl Ps J a i o)
    (done : ∀ (xs : List Value) (w' : World), xs.length = ops.size → (∀ i v, xs[i]? = some v → At Ps i v w') → J ops.size w' → Q .normal (fill a (ops.toList.map (·.dst)) xs) w') :
    (Code.region id ops true).wp P Q a w := by
  refine wp_region_any hm ?_
  have hd : apartDsts (ops.toList.map (·.dst)) = true := by unfold regionOk at hok; rw [Bool.and_eq_true] at hok; exact hok.1
  have hlist : ∀ (L : Array Bool), L.size = ops.size → Region.ready .any ops L = [] → ∀ i, i < ops.size → L.getD i false = true := by
    intro L hL hr i
    induction i using Nat.strongRecOn with
    | ind i ih =>
      intro hi
      cases hb : L.getD i false with
      | true => rfl
      | false =>
        exfalso
        have hm : i ∈ Region.ready .any ops L := by
          rw [mem_ready]
          exact ⟨getD_tf (by omega) hb, ops[i], Array.getElem?_eq_getElem hi, fun e he _ => by
            have hlt := regionOk_after hok (Array.getElem?_eq_getElem hi) e he
            exact ih e.on hlt (by omega)⟩
        rw [hr] at hm
        cases hm
  have main : ∀ (fuel : Nat) (L : Array Bool) (b : Act) (w' : World) (xs : List Value), fuel + cnt ops.size L = ops.size → RInv ops Rl Ps J a L b w' xs → wpAny P .any ops Q fuel L b w' := by
    intro fuel
    induction fuel with
    | zero =>
      intro L b w' xs hf I
      have hall : ∀ i, i < ops.size → L.getD i false = true := fun i hi => by
        cases hb : L.getD i false with
        | true => rfl
        | false => have := cnt_lt hi hb; omega
      refine ⟨?_, ?_⟩
      · cases hr : Region.ready .any ops L with
        | nil => rfl
        | cons i r =>
          have hi : i ∈ Region.ready .any ops L := by rw [hr]; simp
          rw [mem_ready] at hi
          obtain ⟨h0, o, ho, _⟩ := hi
          have := hall i (Array.getElem?_eq_some_iff.1 ho).1
          rw [getD_ft h0] at this
          cases this
      · rw [I.act]
        refine done xs w' I.len (fun i v hv => I.facts i v (hall i ?_) hv) (by have := I.j; rwa [cnt_full hall] at this)
        have := (List.getElem?_eq_some_iff.1 hv).1
        rw [I.len] at this; exact this
    | succ fuel ih =>
      intro L b w' xs hf I
      refine ⟨fun hr => ?_, fun i hi => ?_⟩
      · have hall := hlist L I.size hr
        rw [I.act]
        refine done xs w' I.len (fun i v hv => I.facts i v (hall i ?_) hv) (by have := I.j; rwa [cnt_full hall] at this)
        have := (List.getElem?_eq_some_iff.1 hv).1
        rw [I.len] at this; exact this
      · obtain ⟨h0, o, ho, hafter⟩ := mem_ready.1 hi
        have hlt := (Array.getElem?_eq_some_iff.1 ho).1
        refine sw_op ho ?_
        rw [I.act]
        refine step i o ho xs w' (cnt ops.size L) I.len (by have := cnt_lt hlt (getD_ft h0); exact this) I.j (fun hcov => ?_) (fun e he hb v hv => I.facts e.on v (hafter e he hb) hv) (fun j o' ho' hj => ?_) _ (fun v w'' h1 h2 h3 => ?_)
        · rw [← cnt_set hlt I.size h0]
          refine cnt_full fun j hj => ?_
          rw [getD_put (by rw [I.size]; exact hlt)]
          unfold covers at hcov
          rw [List.all_eq_true] at hcov
          have := hcov j (by simpa using hj)
          rw [Bool.or_eq_true, beq_iff_eq] at this
          rcases this with e | e
          · subst e; simp
          · rw [Array.any_eq_true'] at e
            obtain ⟨d, hd1, hd2⟩ := e
            rw [Bool.and_eq_true, beq_iff_eq] at hd2
            rw [← hd2.2, hafter d hd1 hd2.1, Bool.or_true]
        · refine I.old j (Array.getElem?_eq_some_iff.1 ho').1 ?_
          rcases hj with rfl | ⟨e, he, hb, hon⟩
          · exact getD_ft h0
          · cases hL : L.getD j false with
            | false => rfl
            | true =>
              have := I.closed j o' ho' hL e he hb
              rw [hon, getD_ft h0] at this
              cases this
        · have hds : (ops.toList.map (·.dst))[i]? = some o.dst := by simp [ho]
          rw [fill_put _ hd _ _ i _ _ (by simpa using I.len) hds]
          have hset : cnt ops.size (L.setIfInBounds i true) = cnt ops.size L + 1 := cnt_set hlt I.size h0
          refine ih _ _ _ (xs.set i v) (by omega) ⟨by simpa using I.size, by simpa using I.len, rfl, by rw [hset]; exact h3, ?_, ?_, ?_⟩
          · intro j u hj hu
            rw [getD_put (by rw [I.size]; exact hlt)] at hj
            rw [List.getElem?_set] at hu
            by_cases e : i = j
            · subst e
              rw [if_pos rfl, if_pos (by rw [I.len]; exact hlt)] at hu
              cases hu
              exact h1
            · rw [if_neg e] at hu
              have hj' : L.getD j false = true := by
                rw [Bool.or_eq_true, decide_eq_true_eq] at hj
                exact hj.resolve_left fun h => e h.symm
              intro p hp
              exact hst p (List.mem_of_getElem? hp) _ _ _ h2 (I.facts j u hj' hu p hp)
          · intro j hj hL
            rw [getD_put (by rw [I.size]; exact hlt), Bool.or_eq_false_iff, decide_eq_false_iff_not] at hL
            rw [List.getElem?_set, if_neg (fun h => hL.1 h.symm)]
            exact I.old j hj hL.2
          · intro j o' ho' hL e he hb
            rw [getD_put (by rw [I.size]; exact hlt), Bool.or_eq_true] at hL ⊢
            rcases hL with hL | hL
            · have : j = i := by simpa using hL
              subst this
              rw [ho] at ho'
              cases ho'
              exact .inr (hafter e he hb)
            · exact .inr (I.closed j o' ho' hL e he hb)
  refine main ops.size _ _ _ (origs a (ops.toList.map (·.dst))) ?_ ⟨by simp, by simp [origs], (fill_self _ a).symm, ?_, ?_, fun i _ _ => rfl, ?_⟩
  all_goals
    have hz : ∀ i, (Array.replicate ops.size false).getD i false = false := by intro i; simp [Array.getD]
    have hc : cnt ops.size (Array.replicate ops.size false) = 0 := by
      unfold cnt
      rw [List.countP_eq_zero]
      intro i _; simp only [hz i]; simp
  · rw [hc]; omega
  · rw [hc]; exact hJ
  · intro i v h; rw [hz i] at h; cases h
  · intro i o _ h; rw [hz i] at h; cases h

end Go.Proofs.Ytipfpppcbmpjiaa
