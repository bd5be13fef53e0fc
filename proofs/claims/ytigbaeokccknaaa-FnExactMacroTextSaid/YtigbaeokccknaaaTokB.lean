/- Slices of tokens as arguments of a law: their size, their copy. -/
import Derived.Test.YtigbaeokccknaaaTokA
import Derived.Test.YtigbaeokccknaaaFill
namespace Go.Proofs.Ytigbaeokccknaaa
open Go.RowKit

def wtTokenS (l : List Tok) : Nat := l.length + (l.map wtToken).sum

set_option maxHeartbeats 2000000 in
set_option maxRecDepth 100000 in
theorem szTokenS (v : Value) (l : List Tok) (fp : List Nat) (w : World) (B : Int) (h0 : 0 ≤ B) (h1 : B ≤ 1048576) (H : (sSlice sTok).R w [v] l fp) :
    Calls Try.prog 26 #[v, .int .i64 B] w fun e w' => ∃ r : Int, e = .returned (.int .i64 r) ∧ SzR B r (wtTokenS l) ∧ Below w.heap.size w w' := by
  obtain ⟨a, cap, rfl, hc, hm, hrow⟩ := open_rows H
  unfold maxLen at hm
  clear H
  by_cases hl : B < l.length
  · have HN : Hid (SzR B (-1) (wtTokenS l)) := SzR.no (by unfold wtTokenS; omega)
    go_enter Try.func26, Try.ntmps26
    go_wp2
    go_ret
    exact ⟨-1, rfl, HN.out, Below.refl _ _⟩
  · go_enter Try.func26, Try.ntmps26
    go_wp2
    go_loopw [1, 5] (fun t i wr => ∃ (k : Nat) (r : Int), k ≤ l.length ∧ i = .int .i64 k ∧ t = .int .i64 r ∧ 0 ≤ r ∧ r ≤ B ∧ Hid (r = B - l.length - (((l.take k).map wtToken).sum : Nat)) ∧ Below w.heap.size w wr) (fun _ i _ => l.length - (intOf i).toNat)
    case atStart => exact ⟨0, _, by omega, rfl, rfl, by omega, by omega, by show _ = _; simp, Below.refl _ _⟩
    case round =>
      obtain ⟨k, r, hk, rfl, rfl, hr0, hr1, HA, hb⟩ := hrel
      by_cases hlt : k < l.length
      · obtain ⟨b1, off1, fps1, rfl, hb1, -, he1⟩ := hrow (by omega)
        obtain ⟨es1, hE1, hR1⟩ := he1 k hlt
        clear hrow he1
        have hR2 := sTok.below hR1 hb
        obtain ⟨h1', rfl, _, _, _⟩ := hR1
        have HC := Lib.hid (szToken _ _ _ wr r hr0 (by omega) hR2)
        clear hR2
        replace hE1 := hE1.frame (hb.block b1 hb1)
        have c10 : wr.cell? ⟨b1, off1 + k * 4, none⟩ = some _ := elem_cell0 hE1 (by decide) rfl
        have c11 : wr.cell? ⟨b1, off1 + k * 4 + 1, none⟩ = some _ := elem_cell (j := 1) hE1 (by decide) rfl
        have c12 : wr.cell? ⟨b1, off1 + k * 4 + 2, none⟩ = some _ := elem_cell (j := 2) hE1 (by decide) rfl
        have c13 : wr.cell? ⟨b1, off1 + k * 4 + 3, none⟩ = some _ := elem_cell (j := 3) hE1 (by decide) rfl
        clear hE1
        have HT := Lib.hid (wsum_succ wtToken l k hlt)
        have HT2 := Lib.hid (wsum_le wtToken l (k + 1))
        go_wp2_with fail
        refine (HC.out).mono ?_
        rintro e w1 ⟨r', rfl, hr', hb2⟩
        clear c10 c11 c12 c13
        by_cases hn : r' < 0
        · have HN : Hid (SzR B (-1) (wtTokenS l)) := SzR.no (by
            have hx : r < wtToken l[k] := by unfold SzR at hr'; split at hr' <;> omega
            have := HT2.out; have := HT.out; have := HA.out; unfold wtTokenS; omega)
          go_wp2
          go_ret
          exact ⟨-1, rfl, HN.out, hb.trans (hb2.mono hb.size)⟩
        · have hg := hr'.good hn
          have hle := hr'.le hr0
          have HA' : Hid (r' = B - l.length - (((l.take (k + 1)).map wtToken).sum : Nat)) := by
            show _ = _
            have := HT.out; have := HA.out
            omega
          clear hr' hg
          go_wp2
          go_roundw
          case rel => exact ⟨k + 1, _, by omega, by go_num, rfl, by omega, by omega, HA'.out, hb.trans (hb2.mono hb.size)⟩
          case measure => simp [intOf]; omega
      · have HN : Hid (SzR B r (wtTokenS l)) := by
          have h := HA.out
          rw [List.take_of_length_le (by omega)] at h
          exact SzR.yes (by unfold wtTokenS; omega) (by unfold wtTokenS; omega)
        go_wp2
        go_ret
        exact ⟨r, rfl, HN.out, hb⟩

set_option maxHeartbeats 4000000 in
set_option maxRecDepth 100000 in
theorem toTokenS (v : Value) (l : List Tok) (fp : List Nat) (w : World) (hW : wtTokenS l ≤ 1048576) (H : (sSlice sTok).R w [v] l fp) :
    Calls Try.prog 27 #[v] w (Made (sSlice sTok) l w) := by
  have hB : l.length ≤ 1048576 := by unfold wtTokenS at hW; omega
  have HW : Hid (∀ k, (hk : k < l.length) → wtToken l[k] ≤ 1048576) := fun k hk => by have := wsum_at wtToken l k hk; unfold wtTokenS at hW; omega
  obtain ⟨a, cap, rfl, hc, hm, hrow⟩ := open_rows H
  unfold maxLen at hm
  clear H hW
  go_enter Try.func27, Try.ntmps27
  go_wp2_with (at_make; refine wp_make_full ti_tok _ rfl _ _ rfl w.heap.size l.length rfl rfl (by omega) (by unfold maxLen; omega) (Nat.le_refl _) ?_; intro w1 hown hgrow)
  have hbel := (Below.refl w.heap.size w).grown hgrow (Nat.le_refl _) (by simp)
  have HF0 := Filling.start (S := sTok) (l := l) hown
  clear hgrow hown
  go_loopw [4] (fun i wr => ∃ (k : Nat) (L : List (Elem Tok)) (R : List Value), k ≤ l.length ∧ i = .int .i64 k ∧ Hid (Filling sTok w.heap.size 60 l k wr L R) ∧ Below w.heap.size w wr) (fun i _ => l.length - (intOf i).toNat)
  case atStart => exact ⟨0, _, _, by omega, rfl, HF0, hbel⟩
  case round =>
    obtain ⟨k, L, R, hk, rfl, HF, hb⟩ := hrel
    clear HF0 hbel
    by_cases hlt : k < l.length
    · obtain ⟨b1, off1, fps1, rfl, hb1, -, he1⟩ := hrow (by omega)
      obtain ⟨es1, hE1, hR1⟩ := he1 k hlt
      clear hrow he1
      have hR2 := sTok.below hR1 hb
      obtain ⟨h1', rfl, _, _, _⟩ := hR1
      have HC := Lib.hid (toToken _ _ _ wr (HW.out k hlt) hR2)
      clear hR2
      replace hE1 := hE1.frame (hb.block b1 hb1)
      have c10 : wr.cell? ⟨b1, off1 + k * 4, none⟩ = some _ := elem_cell0 hE1 (by decide) rfl
      have c11 : wr.cell? ⟨b1, off1 + k * 4 + 1, none⟩ = some _ := elem_cell (j := 1) hE1 (by decide) rfl
      have c12 : wr.cell? ⟨b1, off1 + k * 4 + 2, none⟩ = some _ := elem_cell (j := 2) hE1 (by decide) rfl
      have c13 : wr.cell? ⟨b1, off1 + k * 4 + 3, none⟩ = some _ := elem_cell (j := 3) hE1 (by decide) rfl
      clear hE1
      go_wp2_with fail
      refine (HC.out).mono ?_
      rintro e w2 ⟨cs, fp2, rfl, hR2, hO2, hb2⟩
      have HN := Lib.hid (HF.out.next (cs := cs) hlt hb2 (by obtain ⟨_, rfl, _⟩ := hR2; rfl) hR2 hO2)
      obtain ⟨h2, rfl, _, _, K2⟩ := hR2
      obtain ⟨ah, caph, rfl, -⟩ := open_rows K2
      have HF2 := Lib.hid (HF.out.below hb2)
      obtain ⟨u0, d0⟩ : ∃ u, w2.cell? ⟨w.heap.size, k * 4, none⟩ = some u := HF2.out.cell hlt (j := 0) (by decide)
      obtain ⟨u1, d1⟩ : ∃ u, w2.cell? ⟨w.heap.size, k * 4 + 1, none⟩ = some u := HF2.out.cell hlt (j := 1) (by decide)
      obtain ⟨u2, d2⟩ : ∃ u, w2.cell? ⟨w.heap.size, k * 4 + 2, none⟩ = some u := HF2.out.cell hlt (j := 2) (by decide)
      obtain ⟨u3, d3⟩ : ∃ u, w2.cell? ⟨w.heap.size, k * 4 + 3, none⟩ = some u := HF2.out.cell hlt (j := 3) (by decide)
      have f0 := HF2.out.frozen (k * 4)
      have f1 := HF2.out.frozen (k * 4 + 1)
      have f2 := HF2.out.frozen (k * 4 + 2)
      have f3 := HF2.out.frozen (k * 4 + 3)
      clear c10 c11 c12 c13 K2 hO2
      go_wp2
      obtain ⟨R', HN⟩ := HN.out
      go_roundw
      case rel => exact ⟨k + 1, _, R', by omega, by go_num, HN, putAll_below (Nat.le_refl _) [_, _, _, _] _ (k * 4) (hb.trans (hb2.mono hb.size))⟩
      case measure => simp [intOf]; omega
    · obtain ⟨fp', h1, h2⟩ := HF.out.done (by omega)
      go_wp2
      go_ret
      exact ⟨_, fp', rfl, h1, h2, hb⟩

end Go.Proofs.Ytigbaeokccknaaa
