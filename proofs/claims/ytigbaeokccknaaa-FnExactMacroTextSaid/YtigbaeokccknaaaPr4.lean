/- PrintTokens: the model. -/
import Derived.Test.YtigbaeokccknaaaPr3
import Derived.StillTailTactics
namespace Go.Proofs.Ytigbaeokccknaaa
open Go.RowKit

/-- What PrintTokens hands back. -/
def Printed (l : List Tok) (w : World) (e : Ending) (w' : World) : Prop := e = .returned (.tuple #[.string (printRes l).1, .bool (printRes l).2]) ∧ Below w.heap.size w w'
theorem printed_ret {l : List Tok} {s : ByteArray} {b : Bool} {w w' : World} (h : printRes l = (s, b)) (hb : Below w.heap.size w w') : Printed l w (.returned (.tuple #[.string s, .bool b])) w' := ⟨by rw [h], hb⟩

set_option maxHeartbeats 8000000 in
set_option maxRecDepth 100000 in
theorem spec_PrintTokens (v : Value) (l : List Tok) (fp : List Nat) (w : World) (H : (sSlice sTok).R w [v] l fp) :
    Calls Try.prog 44 #[v] w (Printed l w) := by
  have HV := Lib.hid (spec_TokensValid v l fp w H)
  obtain ⟨a, cap, rfl, hc, hm, hrow⟩ := open_rows H
  unfold maxLen at hm
  clear H
  cases hv : toksOk l
  · have HF := Lib.hid (printRes_no hv)
    rw [hv] at HV
    clear hv
    go_enter Try.func44, Try.ntmps44
    go_wp2_with (go_at_call 54; refine (HV.out).mono ?_; rintro e w1 ⟨rfl, hb1⟩)
    go_ret2
    exact printed_ret HF.out hb1
  · rw [hv] at HV
    have HOK := Lib.hid (toksOk_facts hv)
    have hlen := HOK.out.1
    have HSZ := Lib.hid (prTo_size hv)
    have HVD := Lib.hid hv
    clear hv
    go_enter Try.func44, Try.ntmps44
    go_wp2_with (go_at_call 54; refine (HV.out).mono ?_; rintro e w1 ⟨rfl, hb1⟩)
    go_loopw [4, 5] (fun o i wr => ∃ (k : Nat) (out : ByteArray), k ≤ l.length ∧ i = .int .i64 k ∧ o = .string out ∧ Hid (out = prTo l k) ∧ Below w.heap.size w wr) (fun _ i _ => l.length - (intOf i).toNat)
    case atStart => exact ⟨0, _, by omega, rfl, rfl, rfl, hb1⟩
    case round =>
      obtain ⟨k, out, hk, rfl, rfl, HO, hb⟩ := hrel
      by_cases hlt : k < l.length
      · obtain ⟨b1, off1, fps1, rfl, hb1', -, he1⟩ := hrow (by omega)
        obtain ⟨es1, hE1, hR1⟩ := he1 k hlt
        obtain ⟨h1, rfl, -, -, -⟩ := hR1
        replace hE1 := hE1.frame (hb.block b1 hb1')
        have c11 : wr.cell? ⟨b1, off1 + k * 4 + 1, none⟩ = some _ := elem_cell (j := 1) hE1 (by decide) rfl
        have c12 : wr.cell? ⟨b1, off1 + k * 4 + 2, none⟩ = some _ := elem_cell (j := 2) hE1 (by decide) rfl
        have hsz1 := (tokOk_facts (HOK.out.2 k hlt)).2
        have hso : out.size ≤ 201 * k := by rw [HO.out]; exact HSZ.out k hk
        have hadd1 := fun W => run_string_add_sum (P := Try.prog) W out (⟨#[32]⟩ : ByteArray) (by have : (⟨#[32]⟩ : ByteArray).size = 1 := rfl; omega)
        have hadd2 := fun W => run_string_add_sum (P := Try.prog) W (out ++ (⟨#[32]⟩ : ByteArray)) l[k].text (by rw [ByteArray.size_append]; have : (⟨#[32]⟩ : ByteArray).size = 1 := rfl; omega)
        have hadd3 := fun W => run_string_add_sum (P := Try.prog) W out l[k].text (by omega)
        by_cases h0 : k = 0
        · have h00 : ¬ (0 : Int) < (k : Int) := by omega
          have h01 : decide ((0 : Int) < (k : Int)) = false := by simp; omega
          have h02 : decide (0 < k) = false := by simp; omega
          have HN : Hid (out ++ l[k].text = prTo l (k + 1)) := by show _ = _; rw [prTo_no hlt (by subst h0; exact gap_zero l), HO.out]
          clear h0 he1 hrow hE1
          go_wp2
          go_quiet (fail)
          go_wp2
          go_roundw
          case rel => exact ⟨k + 1, _, by omega, by go_num, rfl, HN.out, belowN hb _⟩
          case measure => simp [intOf]; omega
        · have h00 : (0 : Int) < (k : Int) := by omega
          have h01 : decide ((0 : Int) < (k : Int)) = true := by simp; omega
          have h02 : decide (0 < k) = true := by simp; omega
          cases hsp : l[k].spaced
          · obtain ⟨es2, hE2, hR2⟩ := he1 (k - 1) (by omega)
            obtain ⟨h2, rfl, -, -, -⟩ := hR2
            replace hE2 := hE2.frame (hb.block b1 hb1')
            have c21 : wr.cell? ⟨b1, off1 + (k - 1) * 4 + 1, none⟩ = some _ := elem_cell (j := 1) hE2 (by decide) rfl
            have h6 : ((k : Int) - 1).toNat = k - 1 := by omega
            have hwl : IntKind.i64.wrap ((k : Int) - 1) = (k : Int) - 1 := IntWalk.i64_in _ (by omega)
            have hi1 : (0 : Int) ≤ (k : Int) - 1 := by omega
            have hi0 : (1 : Int) ≤ (k : Int) := by omega
            have hi2 : (k : Int) - 1 < (l.length : Int) := by omega
            have hbr : b1 < wr.heap.size := Nat.lt_of_lt_of_le hb1' hb.size
            have hsz2 := (tokOk_facts (HOK.out.2 (k - 1) (by omega))).2
            have HC : Hid (∀ W, Calls Try.prog 74 #[.string (l[k - 1]'(by omega)).text, .string l[k].text] W (Says (glued (l[k - 1]'(by omega)).text l[k].text) W)) := fun W => spec_l4Glued _ _ W (by omega) (by omega)
            have HG := gap_glued (by omega) hlt hsp
            rw [hsp] at c12
            clear hE1 hE2
            go_wp2_with fail
            go_still_tail 20, (by kernel_rfl)
            change wpList _ _ _ _ _ wr.drew
            have hd : Below wr.heap.size wr wr.drew := belowN (Below.refl _ _) 1
            generalize wr.drew = w2 at *
            cases hg : glued (l[k - 1]'(by omega)).text l[k].text
            · rw [hg] at HC HG
              have HN : Hid (out ++ l[k].text = prTo l (k + 1)) := by show _ = _; rw [prTo_no hlt HG, HO.out]
              clear hg HG
              go_wp2_with fail
              refine (HC.out _).mono ?_
              rintro e w3 ⟨rfl, hb3⟩
              have hb4 := hd.trans (hb3.mono hd.size)
              have d11 := (hb4.cell (p := ⟨b1, off1 + k * 4 + 1, none⟩) hbr).trans c11
              clear c11 c12 c21 hd hb3
              go_wp2
              go_roundw
              case rel => exact ⟨k + 1, _, by omega, by go_num, rfl, HN.out, hb.trans (hb4.mono hb.size)⟩
              case measure => simp [intOf]; omega
            · rw [hg] at HC HG
              have HN : Hid (out ++ ⟨#[32]⟩ ++ l[k].text = prTo l (k + 1)) := by show _ = _; rw [prTo_yes hlt HG, HO.out]
              clear hg HG
              go_wp2_with fail
              refine (HC.out _).mono ?_
              rintro e w3 ⟨rfl, hb3⟩
              have hb4 := hd.trans (hb3.mono hd.size)
              have d11 := (hb4.cell (p := ⟨b1, off1 + k * 4 + 1, none⟩) hbr).trans c11
              clear c11 c12 c21 hd hb3
              go_wp2
              go_roundw
              case rel => exact ⟨k + 1, _, by omega, by go_num, rfl, HN.out, hb.trans (hb4.mono hb.size)⟩
              case measure => simp [intOf]; omega
          · have HN : Hid (out ++ ⟨#[32]⟩ ++ l[k].text = prTo l (k + 1)) := by show _ = _; rw [prTo_yes hlt (gap_spaced (by omega) hlt hsp), HO.out]
            rw [hsp] at c12
            clear h0 he1 hrow hE1
            go_wp2
            go_quiet (fail)
            go_wp2
            go_roundw
            case rel => exact ⟨k + 1, _, by omega, by go_num, rfl, HN.out, belowN hb _⟩
            case measure => simp [intOf]; omega
      · have hkl : l.length = k := by omega
        by_cases hbig : 200 < out.size
        · have HF := Lib.hid (printRes_long HVD.out hkl (by rw [← HO.out]; exact hbig))
          clear hkl
          go_wp2
          go_ret2
          exact printed_ret HF.out hb
        · have HF := Lib.hid (printRes_yes HVD.out hkl (by rw [← HO.out]; exact hbig))
          rw [← HO.out] at HF
          clear hkl
          go_wp2
          go_ret2
          exact printed_ret HF.out hb

end Go.Proofs.Ytigbaeokccknaaa
