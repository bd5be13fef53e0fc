/- Macros: the model's own helpers; what both sides walk over. -/
import Derived.Test.YtigbaeokccknaaaRecMacro
import Derived.Test.YtigbaeokccknaaaPr4
namespace Go.Proofs.Ytigbaeokccknaaa
open Go.RowKit

set_option maxHeartbeats 1000000 in
theorem spec_l5Name (x : ByteArray) (w : World) (hs : x.size ≤ maxLen) :
    Calls Try.prog 38 #[.string x] w (Says (oneTok x 1) w) := by
  have HT : Hid (∀ W, Calls Try.prog 50 #[.string x] W (TokMade (tokRes x) W)) := fun W => spec_TokensOf x W hs
  go_enter Try.func38, Try.ntmps38
  rcases one_ways x 1 with ⟨hr, HF⟩ | ⟨l, hr, hl, HF⟩ | ⟨t, hr, hk, HF⟩ | ⟨t, hr, hk, hx, HF⟩ | ⟨t, hr, hk, hx, _, HF⟩
  · rw [hr] at HT
    clear hr
    go_wp2_with (go_at_call 50; refine (HT.out _).mono ?_; rintro e w' ⟨v, fp, rfl, hR, hO, hB⟩)
    go_ret
    exact ⟨ret_bool HF.out.symm, hB⟩
  · rw [hr] at HT
    have hl' : ((l.length : Int) == 1) = false := by simp; omega
    clear hr hl
    go_wp2_with (go_at_call 50; refine (HT.out _).mono ?_; rintro e w' ⟨v, fp, rfl, hR, hO, hB⟩; obtain ⟨a, cap, rfl, _, _, _⟩ := open_rows hR)
    go_ret
    exact ⟨ret_bool HF.out.symm, hB⟩
  · rw [hr] at HT
    have hk' : (t.kind == 1) = false := by simp [hk]
    clear hr hk
    go_wp2_with (go_at_call 50; refine (HT.out _).mono ?_; rintro e w' ⟨v, fp, rfl, hR, hO, hB⟩; obtain ⟨b, off, cap, h, rfl, hc1, hc2, hb, h0, h1, h2, h3, _, _⟩ := open_one hR)
    go_ret
    exact ⟨ret_bool HF.out.symm, hB⟩
  · rw [hr] at HT
    have hk' : (t.kind == 1) = true := by simp [hk]
    have hx' : (t.text.toList == x.toList) = false := bytes_bne hx
    clear hr hk hx
    go_wp2_with (go_at_call 50; refine (HT.out _).mono ?_; rintro e w' ⟨v, fp, rfl, hR, hO, hB⟩; obtain ⟨b, off, cap, h, rfl, hc1, hc2, hb, h0, h1, h2, h3, _, _⟩ := open_one hR)
    go_ret
    exact ⟨ret_bool HF.out.symm, hB⟩
  · rw [hr] at HT
    have hk' : (t.kind == 1) = true := by simp [hk]
    have hx' : (t.text.toList == x.toList) = true := bytes_beq hx
    clear hr hk hx
    go_wp2_with (go_at_call 50; refine (HT.out _).mono ?_; rintro e w' ⟨v, fp, rfl, hR, hO, hB⟩; obtain ⟨b, off, cap, h, rfl, hc1, hc2, hb, h0, h1, h2, h3, _, _⟩ := open_one hR)
    go_ret
    exact ⟨ret_bool HF.out.symm, hB⟩

theorem par_end {ps : List ByteArray} {t : Tok} {k : Nat} (h : ps.length ≤ k) : parFrom ps t k = -1 := by rw [parFrom, dif_neg (by omega)]
theorem par_hit {ps : List ByteArray} {t : Tok} {k : Nat} (h : k < ps.length) (h1 : t.kind = 1) (h2 : ps[k] = t.text) : parFrom ps t k = k := by rw [parFrom, dif_pos h, if_pos ⟨h1, h2⟩]
theorem par_miss {ps : List ByteArray} {t : Tok} {k : Nat} (h : k < ps.length) (h1 : ¬ (t.kind = 1 ∧ ps[k] = t.text)) : parFrom ps t k = parFrom ps t (k + 1) := by rw [parFrom, dif_pos h, if_neg h1]

set_option maxHeartbeats 4000000 in
set_option maxRecDepth 100000 in
theorem spec_l5Param (csM csT : List Value) (m : DMacro) (t : Tok) (fpM fpT : List Nat) (w : World) (HM : sMacro.R w csM m fpM) (HT : sTok.R w csT t fpT) :
    Calls Try.prog 40 #[.agg csM.toArray, .agg csT.toArray] w fun e w' => e = .returned (.int .i64 (parOf m.params t)) ∧ Below w.heap.size w w' := by
  obtain ⟨h2, h3, fp2, fp3, rfl, -, K2, K3, rfl⟩ := HM
  obtain ⟨hh, rfl, -, -, -⟩ := HT
  obtain ⟨a, cap, rfl, hc, hm, hcell, hsz⟩ := open_strs K2
  unfold maxLen at hm
  clear K2 K3
  have b0 := alloc_below' w (.cells #[.string m.name, .bool m.function, .slice a m.params.length cap, h3] 26)
  have b1 := b0.trans ((alloc_below' (w.alloc (.cells #[.string m.name, .bool m.function, .slice a m.params.length cap, h3] 26)) (.cells #[.int .i64 t.kind, .string t.text, .bool t.spaced, hh] 60)).mono b0.size)
  have HX := Lib.hid (alloc2_blk w #[.string m.name, .bool m.function, .slice a m.params.length cap, h3] #[.int .i64 t.kind, .string t.text, .bool t.spaced, hh] 26 60)
  go_enter Try.func40, Try.ntmps40
  go_wp2
  generalize (w.alloc (.cells #[.string m.name, .bool m.function, .slice a m.params.length cap, h3] 26)).alloc (.cells #[.int .i64 t.kind, .string t.text, .bool t.spaced, hh] 60) = W at *
  clear b0
  go_loopw [5] (fun i wr => ∃ k : Nat, k ≤ m.params.length ∧ i = .int .i64 k ∧ Hid (parOf m.params t = parFrom m.params t k) ∧ Below W.heap.size W wr) (fun i _ => m.params.length - (intOf i).toNat)
  case atStart => exact ⟨0, by omega, rfl, rfl, Below.refl _ _⟩
  case round =>
    obtain ⟨k, hk, rfl, HP, hb⟩ := hrel
    have HX1 := Lib.hid (And.intro ((hb.block _ (Array.getElem?_eq_some_iff.1 HX.out.1).1).trans HX.out.1) ((hb.block _ (Array.getElem?_eq_some_iff.1 HX.out.2).1).trans HX.out.2))
    have q2 : wr.cell? ⟨w.heap.size, 2, none⟩ = some (.slice a m.params.length cap) := cell_of_row _ _ 2 _ _ _ HX1.out.1
    have p0 : wr.cell? ⟨w.heap.size + 1, 0, none⟩ = some (.int .i64 t.kind) := cell_of_row _ _ 0 _ _ _ HX1.out.2
    have p1 : wr.cell? ⟨w.heap.size + 1, 1, none⟩ = some (.string t.text) := cell_of_row _ _ 1 _ _ _ HX1.out.2
    by_cases hlt : k < m.params.length
    · obtain ⟨b, off, rfl, hbl, _, hc2⟩ := hcell (by omega)
      have hck := ((b1.trans (hb.mono b1.size)).cell (p := ⟨b, off + k, none⟩) hbl).trans (hc2 k hlt)
      clear hcell hc2
      by_cases e1 : t.kind = 1
      · have g1 : (t.kind == 1) = true := by simp [e1]
        by_cases e2 : m.params[k] = t.text
        · have g2 := bytes_beq e2
          have HF := Lib.hid (par_hit hlt e1 e2)
          clear e1 e2
          go_wp2
          go_quiet (fail)
          go_wp2
          go_ret
          exact ⟨ret_int (by rw [HP.out, HF.out]), b1.trans ((belowN hb _).mono b1.size)⟩
        · have g2 : (m.params[k].toList == t.text.toList) = false := bytes_bne e2
          have HF := Lib.hid (par_miss hlt (fun h => e2 h.2))
          clear e1 e2
          go_wp2
          go_quiet (fail)
          go_wp2
          go_roundw
          case rel => exact ⟨k + 1, by omega, by go_num, by show _ = _; rw [HP.out, HF.out], belowN hb _⟩
          case measure => simp [intOf]; omega
      · have g1 : (t.kind == 1) = false := by simp [e1]
        have HF := Lib.hid (par_miss hlt (fun h => e1 h.1))
        clear e1
        go_wp2
        go_quiet (fail)
        go_wp2
        go_roundw
        case rel => exact ⟨k + 1, by omega, by go_num, by show _ = _; rw [HP.out, HF.out], belowN hb _⟩
        case measure => simp [intOf]; omega
    · have HF := Lib.hid (par_end (t := t) (by omega : m.params.length ≤ k))
      go_wp2
      go_ret
      exact ⟨ret_int (by rw [HP.out, HF.out]), b1.trans (hb.mono b1.size)⟩

end Go.Proofs.Ytigbaeokccknaaa
