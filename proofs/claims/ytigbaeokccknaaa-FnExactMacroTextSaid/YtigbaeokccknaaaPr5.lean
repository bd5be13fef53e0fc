/- PrintTokens: the program. -/
import Derived.Test.YtigbaeokccknaaaPr4
import Derived.Test.YtigbaeokccknaaaBld
namespace Go.Proofs.Ytigbaeokccknaaa
open Go.RowKit

/-- A builder of the call's own (its block the first of them) that holds these bytes. -/
def Bld (b : Nat) (s : ByteArray) (w : World) : Prop := IsBld b b (Lib.strCells s) w
theorem BldAt.below {B b : Nat} {p : Value} {bs : List Value} {w w' : World} (h : BldAt B b p bs w) (hb : Below w.heap.size w w') : BldAt B b p bs w' := by
  have hlt := h.lt
  obtain ⟨hB, v, hbk, hown, hne⟩ := h
  refine ⟨hB, v, (hb.block b hlt).trans hbk, ⟨hown.1, ?_⟩, hne⟩
  rcases hown.2 with h0 | ⟨g, cap, cur, fz, h1, h2, h3, h4⟩
  · exact .inl h0
  · exact .inr ⟨g, cap, cur, fz, h1, h2, (hb.block g (Array.getElem?_eq_some_iff.1 h3).1).trans h3, h4⟩
theorem Bld.below {b : Nat} {s : ByteArray} {w w' : World} (h : Bld b s w) (hb : Below w.heap.size w w') : Bld b s w' := h.elim (fun h => .inl (BldAt.below h hb)) (fun h => .inr (BldAt.below h hb))
theorem Bld.fresh (w : World) : Bld w.heap.size ⟨#[]⟩ (w.alloc (.cells #[.pointer none, .slice none 0 0] 85)) :=
  .inl ⟨Nat.le_refl _, .slice none 0 0, heap_alloc_new w _, World.ownsRowF_nil _ _ _ _, by simp [Value.ownBlock]⟩
theorem Bld.lt {b : Nat} {s : ByteArray} {w : World} (h : Bld b s w) : b < w.heap.size := h.elim (fun h => h.lt) (fun h => h.lt)
theorem Bld.of {b : Nat} {bs : List Value} {s : ByteArray} {w w' : World} (h : BldTo b b bs w w') (e : bs = Lib.strCells s) : Bld b s w' := .inr (e ▸ h.1)
theorem strCells_snoc (s : ByteArray) : Lib.strCells s ++ [.int .u8 32] = Lib.strCells (s ++ ⟨#[32]⟩) := by
  unfold Lib.strCells; rw [ByteArray.data_append, Array.toList_append, List.map_append]; rfl
theorem strCells_app (s t : ByteArray) : Lib.strCells s ++ Lib.strCells t = Lib.strCells (s ++ t) := by
  unfold Lib.strCells; rw [ByteArray.data_append, Array.toList_append, List.map_append]
theorem bldByte {b : Nat} {s : ByteArray} {w : World} (h : Bld b s w) (hs : s.size ≤ 1048576) :
    Calls Try.prog 72 #[.pointer (some ⟨b, 0, none⟩), .int .u8 32] w fun e w' => e = .returned .nilIface ∧ Bld b (s ++ ⟨#[32]⟩) w' ∧ Below b w w' ∧ Lib.OthersKept 5 (some b) w w' :=
  (bld_byte b b _ 32 w h (by rw [Lib.strCells_length]; exact hs) (Nat.le_of_lt h.lt)).mono fun e w' ⟨h1, h2⟩ => ⟨h1, Bld.of h2 (strCells_snoc s), h2.2.1, h2.2.2⟩
theorem bldText {b : Nat} {s t : ByteArray} {w : World} (h : Bld b s w) (hs : s.size + t.size ≤ 1048576) :
    Calls Try.prog 69 #[.pointer (some ⟨b, 0, none⟩), .string t] w fun e w' => e = .returned (.tuple #[.int .i64 t.size, .nilIface]) ∧ Bld b (s ++ t) w' ∧ Below b w w' ∧ Lib.OthersKept 5 (some b) w w' :=
  (bld_text b b _ t w h (by rw [Lib.strCells_length]; omega) (Nat.le_of_lt h.lt)).mono fun e w' ⟨h1, h2⟩ => ⟨h1, Bld.of h2 (strCells_app s t), h2.2.1, h2.2.2⟩
theorem bldLen {b : Nat} {s : ByteArray} {w : World} (h : Bld b s w) :
    Calls Try.prog 73 #[.pointer (some ⟨b, 0, none⟩)] w fun e w' => e = .returned (.int .i64 s.size) ∧ w' = w := by
  have := Try.Builder_Len_f b b _ w h
  rw [Lib.strCells_length] at this
  exact this
theorem bldString {b : Nat} {s : ByteArray} {w : World} (h : Bld b s w) :
    Calls Try.prog 70 #[.pointer (some ⟨b, 0, none⟩)] w fun e w' => e = .returned (.string s) ∧ Below b w w' :=
  (Try.Builder_String_any_k b b s.data.toList w h (Nat.le_of_lt h.lt)).mono fun e w' ⟨h1, h2⟩ => ⟨h1, h2.2.1⟩
theorem kept_cell {b g : Nat} {arr : Array Value} {ty : TypeId} {fr : Nat × Nat} {w w' : World} (hk : Lib.OthersKept 5 (some b) w w') (h : w.heap[g]? = some (.cells arr ty fr)) (hg : g ≠ b) (hty : ty ≠ 5) : w'.heap[g]? = some (.cells arr ty fr) :=
  hk g _ h (fun e => hg (Option.some.inj e)) (fun c fz e => hty (by simp only [Obj.cells.injEq] at e; exact e.2.1))

set_option maxHeartbeats 8000000 in
set_option maxRecDepth 100000 in
theorem impl_PrintTokens (v : Value) (l : List Tok) (fp : List Nat) (w : World) (H : (sSlice sTok).R w [v] l fp) :
    Calls Try.prog 43 #[v] w (Printed l w) := by
  have HV := Lib.hid (impl_TokensValid v l fp w H)
  obtain ⟨a, cap, rfl, hc, hm, hrow⟩ := open_rows H
  unfold maxLen at hm
  clear H
  cases hv : toksOk l
  · have HF := Lib.hid (printRes_no hv)
    rw [hv] at HV
    clear hv
    go_enter Try.func43, Try.ntmps43
    go_wp2_with (go_at_call 46; refine (HV.out).mono ?_; rintro e w1 ⟨rfl, hb1⟩)
    go_ret2
    exact printed_ret HF.out hb1
  · rw [hv] at HV
    have HOK := Lib.hid (toksOk_facts hv)
    have hlen := HOK.out.1
    have HSZ := Lib.hid (prTo_size hv)
    have HVD := Lib.hid hv
    clear hv
    go_enter Try.func43, Try.ntmps43
    go_wp2_with fail
    refine (HV.out).mono ?_
    rintro e w1 ⟨rfl, hb1⟩
    have HB0 := Lib.hid (Bld.fresh w1)
    have hb2 := hb1.trans ((alloc_below' w1 (.cells #[.pointer none, .slice none 0 0] 85)).mono hb1.size)
    go_wp2_with fail
    go_loopw [12] (fun i wr => ∃ (k : Nat), k ≤ l.length ∧ i = .int .i64 k ∧ Hid (Bld w1.heap.size (prTo l k) wr) ∧ Below w.heap.size w wr) (fun i _ => l.length - (intOf i).toNat)
    case atStart => exact ⟨0, by omega, rfl, HB0, hb2⟩
    case round =>
      obtain ⟨k, hk, rfl, HB, hb⟩ := hrel
      clear HB0 hb2
      by_cases hlt : k < l.length
      · obtain ⟨b1, off1, fps1, rfl, hb1', -, he1⟩ := hrow (by omega)
        obtain ⟨es1, hE1, hR1⟩ := he1 k hlt
        have hR1' := hR1
        obtain ⟨h1, rfl, -, -, K1⟩ := hR1
        obtain ⟨ah, caph, rfl, -⟩ := open_rows K1
        replace hE1 := hE1.frame (hb.block b1 hb1')
        have c10 : wr.cell? ⟨b1, off1 + k * 4, none⟩ = some _ := elem_cell0 hE1 (by decide) rfl
        have c11 : wr.cell? ⟨b1, off1 + k * 4 + 1, none⟩ = some _ := elem_cell (j := 1) hE1 (by decide) rfl
        have c12 : wr.cell? ⟨b1, off1 + k * 4 + 2, none⟩ = some _ := elem_cell (j := 2) hE1 (by decide) rfl
        have c13 : wr.cell? ⟨b1, off1 + k * 4 + 3, none⟩ = some _ := elem_cell (j := 3) hE1 (by decide) rfl
        have hsz1 := (tokOk_facts (HOK.out.2 k hlt)).2
        have hso := HSZ.out k hk
        have hbx : Below wr.heap.size wr (wr.alloc (.cells #[.int .i64 l[k].kind, .string l[k].text, .bool l[k].spaced, .slice ah l[k].hidden.length caph] 60)) := alloc_below' _ _
        have HX := Lib.hid (heap_alloc_new wr (.cells #[.int .i64 l[k].kind, .string l[k].text, .bool l[k].spaced, .slice ah l[k].hidden.length caph] 60))
        have HB1 := Lib.hid (HB.out.below hbx)
        have hlw := HB.out.lt
        have hlo := hb1.size
        have hbr : b1 < wr.heap.size := Nat.lt_of_lt_of_le hb1' hb.size
        have HR1 := Lib.hid (sTok.below (sTok.below hR1' hb) hbx)
        clear hE1 K1 hR1'
        go_wp2
        generalize (wr.alloc (.cells #[.int .i64 l[k].kind, .string l[k].text, .bool l[k].spaced, .slice ah l[k].hidden.length caph] 60)) = W2 at *
        have p0 : W2.cell? ⟨wr.heap.size, 0, none⟩ = some (.int .i64 l[k].kind) := cell_of_row _ _ 0 _ _ _ HX.out
        have p1 : W2.cell? ⟨wr.heap.size, 1, none⟩ = some (.string l[k].text) := cell_of_row _ _ 1 _ _ _ HX.out
        have p2 : W2.cell? ⟨wr.heap.size, 2, none⟩ = some (.bool l[k].spaced) := cell_of_row _ _ 2 _ _ _ HX.out
        have p3 : W2.cell? ⟨wr.heap.size, 3, none⟩ = some (.slice ah l[k].hidden.length caph) := cell_of_row _ _ 3 _ _ _ HX.out
        have hbw := hb.trans (hbx.mono hb.size)
        have hne : wr.heap.size ≠ w1.heap.size := by omega
        clear c10 c11 c12 c13
        by_cases h0 : k = 0
        · have h00 : ¬ (0 : Int) < (k : Int) := by omega
          have h01 : decide ((0 : Int) < (k : Int)) = false := by simp; omega
          have h02 : decide (0 < k) = false := by simp; omega
          have HN := Lib.hid (prTo_no hlt (by subst h0; exact gap_zero l))
          clear h0 he1 hrow
          go_quiet (fail)
          have HBq := Lib.hid (HB1.out.below (belowN (Below.refl _ _) nq))
          have hbq := hbw.trans ((belowN (Below.refl W2.heap.size W2) nq).mono hbw.size)
          go_wp2_with fail
          refine (bldText HBq.out (by omega)).mono ?_
          rintro e w3 ⟨rfl, hB3, hb3, -⟩
          rw [← HN.out] at hB3
          go_wp2
          go_roundw
          case rel => exact ⟨k + 1, by omega, by go_num, hB3, hbq.trans (hb3.mono hlo)⟩
          case measure => simp [intOf]; omega
        · have h00 : (0 : Int) < (k : Int) := by omega
          have h01 : decide ((0 : Int) < (k : Int)) = true := by simp; omega
          have h02 : decide (0 < k) = true := by simp; omega
          cases hsp : l[k].spaced
          · obtain ⟨es2, hE2, hR2⟩ := he1 (k - 1) (by omega)
            have HR2 := Lib.hid (sTok.below (sTok.below hR2 hb) hbx)
            obtain ⟨h2, rfl, -, -, -⟩ := hR2
            replace hE2 := hE2.frame ((hbx.block b1 hbr).trans (hb.block b1 hb1'))
            have c20 : W2.cell? ⟨b1, off1 + (k - 1) * 4, none⟩ = some _ := elem_cell0 hE2 (by decide) rfl
            have c21 : W2.cell? ⟨b1, off1 + (k - 1) * 4 + 1, none⟩ = some _ := elem_cell (j := 1) hE2 (by decide) rfl
            have c22 : W2.cell? ⟨b1, off1 + (k - 1) * 4 + 2, none⟩ = some _ := elem_cell (j := 2) hE2 (by decide) rfl
            have c23 : W2.cell? ⟨b1, off1 + (k - 1) * 4 + 3, none⟩ = some _ := elem_cell (j := 3) hE2 (by decide) rfl
            have h6 : ((k : Int) - 1).toNat = k - 1 := by omega
            have hwl : IntKind.i64.wrap ((k : Int) - 1) = (k : Int) - 1 := IntWalk.i64_in _ (by omega)
            have hi1 : (0 : Int) ≤ (k : Int) - 1 := by omega
            have hi0 : (1 : Int) ≤ (k : Int) := by omega
            have hi2 : (k : Int) - 1 < (l.length : Int) := by omega
            have HC : Hid (∀ W, Below W2.heap.size W2 W → Calls Try.prog 71 #[.agg #[.int .i64 (l[k - 1]'(by omega)).kind, .string (l[k - 1]'(by omega)).text, .bool (l[k - 1]'(by omega)).spaced, h2], .agg #[.int .i64 l[k].kind, .string l[k].text, .bool l[k].spaced, .slice ah l[k].hidden.length caph]] W (Says (glued (l[k - 1]'(by omega)).text l[k].text) W)) :=
              fun W hW => impl_needSpace _ _ _ _ _ _ W (sTok.below HR2.out hW) (sTok.below HR1.out hW) (HOK.out.2 _ (by omega)) (HOK.out.2 _ hlt)
            have HG := gap_glued (by omega) hlt hsp
            rw [hsp] at p2 HC
            clear hE2 he1 hrow
            go_wp2_with fail
            go_still_tail 12, (by kernel_rfl)
            change wpList _ _ _ _ _ W2.drew
            have hd : Below W2.heap.size W2 W2.drew := belowN (Below.refl _ _) 1
            have HXd : Hid (W2.drew.heap[wr.heap.size]? = some (.cells #[.int .i64 l[k].kind, .string l[k].text, .bool l[k].spaced, .slice ah l[k].hidden.length caph] 60)) := HX
            generalize W2.drew = w2 at *
            have hgx : wr.heap.size < w2.heap.size := (Array.getElem?_eq_some_iff.1 HXd.out).1
            cases hg : glued (l[k - 1]'(by omega)).text l[k].text
            · rw [hg] at HC HG
              have HN := Lib.hid (prTo_no hlt HG)
              clear hg HG
              go_wp2_with fail
              refine (HC.out _ hd).mono ?_
              rintro e w3 ⟨rfl, hb3⟩
              have hb4 := hd.trans (hb3.mono hd.size)
              have HX3 := (hb3.block _ hgx).trans HXd.out
              have q1 : w3.cell? ⟨wr.heap.size, 1, none⟩ = some (.string l[k].text) := cell_of_row _ _ 1 _ _ _ HX3
              have HB3 := Lib.hid (HB1.out.below hb4)
              have hbq := hbw.trans (hb4.mono hbw.size)
              clear p0 p1 p2 p3 c20 c21 c22 c23 HX3 hb3 hd hb4
              go_wp2_with fail
              refine (bldText HB3.out (by omega)).mono ?_
              rintro e w4 ⟨rfl, hB4, hb5, -⟩
              rw [← HN.out] at hB4
              go_wp2
              go_roundw
              case rel => exact ⟨k + 1, by omega, by go_num, hB4, hbq.trans (hb5.mono hlo)⟩
              case measure => simp [intOf]; omega
            · rw [hg] at HC HG
              have HN := Lib.hid (prTo_yes hlt HG)
              clear hg HG
              go_wp2_with fail
              refine (HC.out _ hd).mono ?_
              rintro e w3 ⟨rfl, hb3⟩
              have hb4 := hd.trans (hb3.mono hd.size)
              have HX3 := (hb3.block _ hgx).trans HXd.out
              have HB3 := Lib.hid (HB1.out.below hb4)
              have hbq := hbw.trans (hb4.mono hbw.size)
              clear p0 p1 p2 p3 c20 c21 c22 c23 hb3 hd hb4
              go_wp2_with fail
              refine (bldByte HB3.out (by omega)).mono ?_
              rintro e w4 ⟨rfl, hB4, hb5, hk5⟩
              have hbq3 := hbq.trans (hb5.mono hlo)
              have HX4 := kept_cell hk5 HX3 hne (by decide)
              have q1 : w4.cell? ⟨wr.heap.size, 1, none⟩ = some (.string l[k].text) := cell_of_row _ _ 1 _ _ _ HX4
              clear HX3 HX4
              go_wp2_with fail
              refine (bldText hB4 (by rw [ByteArray.size_append]; have : (⟨#[32]⟩ : ByteArray).size = 1 := rfl; omega)).mono ?_
              rintro e w5 ⟨rfl, hB5, hb6, -⟩
              rw [← HN.out] at hB5
              go_wp2
              go_roundw
              case rel => exact ⟨k + 1, by omega, by go_num, hB5, hbq3.trans (hb6.mono hlo)⟩
              case measure => simp [intOf]; omega
          · have HN := Lib.hid (prTo_yes hlt (gap_spaced (by omega) hlt hsp))
            rw [hsp] at p2
            clear he1 hrow
            go_quiet (fail)
            have HBq := Lib.hid (HB1.out.below (belowN (Below.refl _ _) nq))
            have hbq := hbw.trans ((belowN (Below.refl W2.heap.size W2) nq).mono hbw.size)
            go_wp2_with fail
            refine (bldByte HBq.out (by omega)).mono ?_
            rintro e w3 ⟨rfl, hB3, hb3, hk3⟩
            have hbq3 := hbq.trans (hb3.mono hlo)
            have HX3 := kept_cell (w := W2.drewN nq) hk3 HX.out hne (by decide)
            have q1 : w3.cell? ⟨wr.heap.size, 1, none⟩ = some (.string l[k].text) := cell_of_row _ _ 1 _ _ _ HX3
            clear HX3 p0 p1 p2 p3
            go_wp2_with fail
            refine (bldText hB3 (by rw [ByteArray.size_append]; have : (⟨#[32]⟩ : ByteArray).size = 1 := rfl; omega)).mono ?_
            rintro e w4 ⟨rfl, hB4, hb4, -⟩
            rw [← HN.out] at hB4
            go_wp2
            go_roundw
            case rel => exact ⟨k + 1, by omega, by go_num, hB4, hbq3.trans (hb4.mono hlo)⟩
            case measure => simp [intOf]; omega
      · have hkl : l.length = k := by omega
        have HL := Lib.hid (bldLen HB.out)
        have HS := Lib.hid (bldString HB.out)
        have hlo := hb1.size
        by_cases hbig : 200 < (prTo l k).size
        · have HF := Lib.hid (printRes_long HVD.out hkl hbig)
          clear hkl
          go_wp2_with (go_at_call 73; refine (HL.out).mono ?_; rintro e w2 ⟨rfl, rfl⟩)
          go_ret2
          exact printed_ret HF.out hb
        · have HF := Lib.hid (printRes_yes HVD.out hkl hbig)
          clear hkl
          go_wp2_with (first
            | (go_at_call 73; refine (HL.out).mono ?_; rintro e w2 ⟨rfl, rfl⟩)
            | (go_at_call 70; refine (HS.out).mono ?_; rintro e w2 ⟨rfl, hb3⟩))
          go_ret2
          exact printed_ret HF.out (hb.trans (hb3.mono hlo))

end Go.Proofs.Ytigbaeokccknaaa
