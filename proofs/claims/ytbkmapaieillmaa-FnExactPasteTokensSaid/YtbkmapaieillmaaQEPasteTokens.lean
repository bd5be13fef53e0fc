/- PasteTokens of the program answers as its model at every argument; it writes into none; its answer owns its memory. No conditions. -/
import Derived.Test.YtbkmapaieillmaaZU12
import Derived.Test.YtbkmapaieillmaaZU2
import Derived.Test.YtbkmapaieillmaaZU10
set_option linter.unusedVariables false
set_option linter.unusedSimpArgs false
namespace Go.Proofs.Ytbkmapaieillmaa.exactPasteTokens
open Go.ChangeShapes Go.WideShapes Go.ChangeAt Go.RowKit Go.ChangeMaps

theorem boxes {w : World} {g : Nat} {arr : Array Value} {ty : TypeId} (h : w.heap[g]? = some (.cells arr ty (0, 0))) {w' : World} (hb : Below w.heap.size w w') : w'.heap[g]? = some (.cells arr ty (0, 0)) :=
  (hb.block g (Array.getElem?_eq_some_iff.1 h).1).trans h
theorem boxK {w : World} {g : Nat} {arr : Array Value} {ty : TypeId} {fp : List Nat} (h : w.heap[g]? = some (.cells arr ty (0, 0))) {w' : World} (hk : Kept fp w w') (hn : g ∉ fp) : w'.heap[g]? = some (.cells arr ty (0, 0)) :=
  (hk.block g (Array.getElem?_eq_some_iff.1 h).1 hn).trans h
theorem boxlt {w : World} {g : Nat} {arr : Array Value} {ty : TypeId} (h : w.heap[g]? = some (.cells arr ty (0, 0))) : g < w.heap.size := (Array.getElem?_eq_some_iff.1 h).1
theorem box_new (w : World) (arr : Array Value) (ty : TypeId) : (w.alloc (.cells arr ty)).heap[w.heap.size]? = some (.cells arr ty (0, 0)) := by
  show (w.heap.push _)[_]? = _; simp

set_option maxHeartbeats 16000000 in
set_option maxRecDepth 100000 in
theorem walk (v0 : List Value) (x0 : Tok) (fp0 : List Nat) (v1 : List Value) (x1 : Tok) (fp1 : List Nat) (w : World) (H0 : sTok.R w v0 x0 fp0) (H1 : sTok.R w v1 x1 fp1) :
    Calls Try.prog 5 #[.agg v0.toArray, .agg v1.toArray] w fun e w' => e = .returned (.bool true) ∧ Below w.heap.size w w' := by
  have HSP := Lib.hid (fun (W : World) (v0_ : List Value) (f0_ : List Nat) (v1_ : List Value) (f1_ : List Nat) (hw0_ : wtToken x0 ≤ 1048576) (hw1_ : wtToken x1 ≤ 1048576) (h0_ : sTok.R W v0_ x0 f0_) (h1_ : sTok.R W v1_ x1 f1_) => spec_PasteTokens_w v0_ x0 f0_ v1_ x1 f1_ W hw0_ hw1_ h0_ h1_)
  have HIM := Lib.hid (fun (W : World) (v0_ : List Value) (f0_ : List Nat) (v1_ : List Value) (f1_ : List Nat) (hw0_ : wtToken x0 ≤ 1048576) (hw1_ : wtToken x1 ≤ 1048576) (h0_ : sTok.R W v0_ x0 f0_) (h1_ : sTok.R W v1_ x1 f1_) => impl_PasteTokens_w v0_ x0 f0_ v1_ x1 f1_ W hw0_ hw1_ h0_ h1_)
  unfold PasteOf at HSP HIM
  have HC := Lib.hid (PasteTokens_cnt x0 x1)
  generalize pasteRes x0 x1 = M at HSP HIM HC
  obtain ⟨md, mb⟩ := M
  have hB := Below.refl w.heap.size w
  have a0 := Seen.of H0
  have a1 := Seen.of H1
  obtain ⟨h1, rfl, -, -, K2⟩ := H0
  clear K2
  obtain ⟨h4, rfl, -, -, K5⟩ := H1
  clear K5
  have b7 := alloc_below' w (.cells #[.int .i64 x0.kind, .string x0.text, .bool x0.spaced, h1] 39)
  have HB8 := Lib.hid (box_new w #[.int .i64 x0.kind, .string x0.text, .bool x0.spaced, h1] 39)
  replace a0 := a0.below b7
  replace a1 := a1.below b7
  replace hB := hB.trans (b7.mono hB.size)
  have hz1 : w.heap.size ≤ (w.alloc (.cells #[.int .i64 x0.kind, .string x0.text, .bool x0.spaced, h1] 39)).heap.size := b7.size
  clear b7
  have hy1 : w.heap.size + 1 ≤ (w.alloc (.cells #[.int .i64 x0.kind, .string x0.text, .bool x0.spaced, h1] 39)).heap.size := boxlt HB8.out
  have b9 := alloc_below' (w.alloc (.cells #[.int .i64 x0.kind, .string x0.text, .bool x0.spaced, h1] 39)) (.cells #[.int .i64 x1.kind, .string x1.text, .bool x1.spaced, h4] 39)
  have HB10 := Lib.hid (box_new (w.alloc (.cells #[.int .i64 x0.kind, .string x0.text, .bool x0.spaced, h1] 39)) #[.int .i64 x1.kind, .string x1.text, .bool x1.spaced, h4] 39)
  replace a0 := a0.below b9
  replace a1 := a1.below b9
  replace HB8 := Lib.hid (boxes HB8.out b9)
  replace hB := hB.trans (b9.mono hB.size)
  have hz2 : (w.alloc (.cells #[.int .i64 x0.kind, .string x0.text, .bool x0.spaced, h1] 39)).heap.size ≤ ((w.alloc (.cells #[.int .i64 x0.kind, .string x0.text, .bool x0.spaced, h1] 39)).alloc (.cells #[.int .i64 x1.kind, .string x1.text, .bool x1.spaced, h4] 39)).heap.size := b9.size
  clear b9
  have hy2 : (w.alloc (.cells #[.int .i64 x0.kind, .string x0.text, .bool x0.spaced, h1] 39)).heap.size + 1 ≤ ((w.alloc (.cells #[.int .i64 x0.kind, .string x0.text, .bool x0.spaced, h1] 39)).alloc (.cells #[.int .i64 x1.kind, .string x1.text, .bool x1.spaced, h4] 39)).heap.size := boxlt HB10.out
  replace HB10 : Hid (((w.alloc (.cells #[.int .i64 x0.kind, .string x0.text, .bool x0.spaced, h1] 39)).alloc (.cells #[.int .i64 x1.kind, .string x1.text, .bool x1.spaced, h4] 39)).heap[w.heap.size + 1]? = some (.cells #[.int .i64 x1.kind, .string x1.text, .bool x1.spaced, h4] 39 (0, 0))) := by have := HB10.out; rwa [show (w.alloc (.cells #[.int .i64 x0.kind, .string x0.text, .bool x0.spaced, h1] 39)).heap.size = w.heap.size + 1 from by simp] at this
  go_enter Try.func5, Try.ntmps5
  have q11 : ((w.alloc (.cells #[.int .i64 x0.kind, .string x0.text, .bool x0.spaced, h1] 39)).alloc (.cells #[.int .i64 x1.kind, .string x1.text, .bool x1.spaced, h4] 39)).cell? ⟨w.heap.size, 0, none⟩ = some (.int .i64 x0.kind) := cell_of_row _ _ 0 _ _ _ HB8.out
  have q12 : ((w.alloc (.cells #[.int .i64 x0.kind, .string x0.text, .bool x0.spaced, h1] 39)).alloc (.cells #[.int .i64 x1.kind, .string x1.text, .bool x1.spaced, h4] 39)).cell? ⟨w.heap.size, 1, none⟩ = some (.string x0.text) := cell_of_row _ _ 1 _ _ _ HB8.out
  have q13 : ((w.alloc (.cells #[.int .i64 x0.kind, .string x0.text, .bool x0.spaced, h1] 39)).alloc (.cells #[.int .i64 x1.kind, .string x1.text, .bool x1.spaced, h4] 39)).cell? ⟨w.heap.size, 2, none⟩ = some (.bool x0.spaced) := cell_of_row _ _ 2 _ _ _ HB8.out
  have q14 : ((w.alloc (.cells #[.int .i64 x0.kind, .string x0.text, .bool x0.spaced, h1] 39)).alloc (.cells #[.int .i64 x1.kind, .string x1.text, .bool x1.spaced, h4] 39)).cell? ⟨w.heap.size, 3, none⟩ = some (h1) := cell_of_row _ _ 3 _ _ _ HB8.out
  go_wp2_with fail
  refine (szToken _ _ _ _ _ (by omega) (by omega) a0.r).mono ?_
  clear q11 q12 q13 q14
  rintro e W3 ⟨r0, rfl, hr0, b15⟩
  replace a0 := a0.below b15
  replace a1 := a1.below b15
  replace HB8 := Lib.hid (boxes HB8.out b15)
  replace HB10 := Lib.hid (boxes HB10.out b15)
  replace hB := hB.trans (b15.mono hB.size)
  have hz3 : ((w.alloc (.cells #[.int .i64 x0.kind, .string x0.text, .bool x0.spaced, h1] 39)).alloc (.cells #[.int .i64 x1.kind, .string x1.text, .bool x1.spaced, h4] 39)).heap.size ≤ W3.heap.size := b15.size
  clear b15
  by_cases hneg0 : r0 < 0
  · go_wp2
    go_ret
    exact ⟨rfl, hB⟩
  have hw0 := (hr0.good hneg0).1
  have hl0 := hr0.le (by omega)
  have HW0 : Hid (wtToken x0 ≤ 1048576) := by show _ ≤ _; omega
  clear hr0 hw0
  have q16 : W3.cell? ⟨w.heap.size + 1, 0, none⟩ = some (.int .i64 x1.kind) := cell_of_row _ _ 0 _ _ _ HB10.out
  have q17 : W3.cell? ⟨w.heap.size + 1, 1, none⟩ = some (.string x1.text) := cell_of_row _ _ 1 _ _ _ HB10.out
  have q18 : W3.cell? ⟨w.heap.size + 1, 2, none⟩ = some (.bool x1.spaced) := cell_of_row _ _ 2 _ _ _ HB10.out
  have q19 : W3.cell? ⟨w.heap.size + 1, 3, none⟩ = some (h4) := cell_of_row _ _ 3 _ _ _ HB10.out
  go_wp2_with fail
  refine (szToken _ _ _ _ _ (by omega) (by omega) a1.r).mono ?_
  clear q16 q17 q18 q19
  rintro e W4 ⟨r1, rfl, hr1, b20⟩
  replace a0 := a0.below b20
  replace a1 := a1.below b20
  replace HB8 := Lib.hid (boxes HB8.out b20)
  replace HB10 := Lib.hid (boxes HB10.out b20)
  replace hB := hB.trans (b20.mono hB.size)
  have hz4 : W3.heap.size ≤ W4.heap.size := b20.size
  clear b20
  by_cases hneg1 : r1 < 0
  · go_wp2
    go_ret
    exact ⟨rfl, hB⟩
  have hw1 := (hr1.good hneg1).1
  have hl1 := hr1.le (by omega)
  have HW1 : Hid (wtToken x1 ≤ 1048576) := by show _ ≤ _; omega
  clear hr1 hw1
  have HD21 : Hid (∀ W, Below W4.heap.size W4 W → Calls Try.prog 19 #[.agg #[.int .i64 x0.kind, .string x0.text, .bool x0.spaced, h1]] W (MadeC sTok x0 W)) := fun W hW => toToken _ _ _ W HW0.out (sTok.below a0.r hW)
  have HD22 : Hid (∀ W, Below W4.heap.size W4 W → Calls Try.prog 19 #[.agg #[.int .i64 x1.kind, .string x1.text, .bool x1.spaced, h4]] W (MadeC sTok x1 W)) := fun W hW => toToken _ _ _ W HW1.out (sTok.below a1.r hW)
  have HS : Hid (∀ U : World, Below W4.heap.size W4 U → U.heap[w.heap.size]? = some (.cells #[.int .i64 x0.kind, .string x0.text, .bool x0.spaced, h1] 39 (0, 0)) ∧ U.heap[w.heap.size + 1]? = some (.cells #[.int .i64 x1.kind, .string x1.text, .bool x1.spaced, h4] 39 (0, 0))) := fun U hU => ⟨boxes HB8.out hU, boxes HB10.out hU⟩
  have hcs : Below W4.heap.size W4 W4.drew := belowN (Below.refl _ _) 1
  go_upto_region 8 with fail
  go_cut [6, 7] from 17 (fun d dB wr => ∃ (gB : Nat) (aF0 : Option Addr) (cF0 : Nat) (fpF : List Nat), d = .pointer (some ⟨gB, 0, none⟩) ∧ dB = .bool mb ∧ wr.heap[gB]? = some (.cells #[.int .i64 md.kind, .string md.text, .bool md.spaced, .slice aF0 md.hidden.length cF0] 25 (0, 0)) ∧ W4.heap.size ≤ gB ∧ gB < wr.heap.size ∧ sTok.R wr [.int .i64 md.kind, .string md.text, .bool md.spaced, .slice aF0 md.hidden.length cF0] md fpF ∧ Own wr W4.heap.size fpF ∧ Below W4.heap.size W4 wr)
  case first =>
    refine wp_region_noPanic ?_
    refine wp_region_held_drew (S := fun w' => w'.heap[w.heap.size]? = some (.cells #[.int .i64 x0.kind, .string x0.text, .bool x0.spaced, h1] 39 (0, 0)) ∧ w'.heap[w.heap.size + 1]? = some (.cells #[.int .i64 x1.kind, .string x1.text, .bool x1.spaced, h4] 39 (0, 0))) (by kernel_rfl) (by exact HS.out _ hcs) (fun hHeld => ?_)
    generalize W4.drew = wd at *
    refine takeH2 0 28 (v := ?_) rfl rfl (by kernel_rfl) (by kernel_rfl) (by kernel_rfl) (fun _ _ _ h => h) (by rfl) (by assumption) ?_ ?_
    rotate_left
    · intro w hSw; obtain ⟨sa0, sa1⟩ := hSw; have s0 := cell_of_row _ _ 0 _ _ _ sa0; have s1 := cell_of_row _ _ 1 _ _ _ sa0; have s2 := cell_of_row _ _ 2 _ _ _ sa0; have s3 := cell_of_row _ _ 3 _ _ _ sa0; go_simp; (first | done | with_reducible rfl | rfl)
    try simp only [Act.put, List.setIfInBounds_toArray, List.set_cons_zero, List.set_cons_succ]
    refine takeH2 2 30 (v := ?_) rfl rfl (by kernel_rfl) (by kernel_rfl) (by kernel_rfl) (fun _ _ _ h => h) (by rfl) (by assumption) ?_ ?_
    rotate_left
    · intro w hSw; obtain ⟨sa0, sa1⟩ := hSw; have s0 := cell_of_row _ _ 0 _ _ _ sa1; have s1 := cell_of_row _ _ 1 _ _ _ sa1; have s2 := cell_of_row _ _ 2 _ _ _ sa1; have s3 := cell_of_row _ _ 3 _ _ _ sa1; go_simp; (first | done | with_reducible rfl | rfl)
    try simp only [Act.put, List.setIfInBounds_toArray, List.set_cons_zero, List.set_cons_succ]
    refine wpAnyH_ready (rs := [1, 8]) (by kernel_rfl) (by simp) ?_
    refine AllReadyH.cons rfl (fun K hK => ?_) ?_
    · skip
      go_simp
      refine (HD21.out _ hcs).mono ?_
      rintro e wx1 ⟨cr0, fr0, rfl, rr0, -, br⟩
      have hx1 := hcs.trans (br.mono hcs.size)
      refine hK.out _ _ (HS.out _ hx1) (fun hHeld => ?_)
      clear hK K br
      try simp only [Act.put, List.setIfInBounds_toArray, List.set_cons_zero, List.set_cons_succ]
      refine wpAnyH_ready (rs := [3, 8]) (by kernel_rfl) (by simp) ?_
      refine AllReadyH.cons rfl (fun K hK => ?_) ?_
      · skip
        go_simp
        refine (HD22.out _ hx1).mono ?_
        rintro e wx2 ⟨cr1, fr1, rfl, rr1, -, br⟩
        have hx2 := hx1.trans (br.mono hx1.size)
        have rr0x2 := sTok.below rr0 br
        refine hK.out _ _ (HS.out _ hx2) (fun hHeld => ?_)
        clear hK K br
        try simp only [Act.put, List.setIfInBounds_toArray, List.set_cons_zero, List.set_cons_succ]
        refine wpAnyH_ready (rs := [4, 8]) (by kernel_rfl) (by simp) ?_
        refine AllReadyH.cons rfl (fun K hK => ?_) ?_
        · skip
          go_simp
          refine (HSP.out _ _ _ _ _ HW0.out HW1.out rr0x2 rr1).mono ?_
          rintro e wx3 ⟨vF, fF, rfl, rF, oF, br⟩
          have hx3 := hx2.trans (br.mono hx2.size)
          have rF2 := rF
          obtain ⟨hF0, rfl, -, -, KF0⟩ := rF2
          obtain ⟨aF0, cF0, rfl, -⟩ := open_rows KF0
          clear KF0
          have oF2 := oF.lower hx2.size
          refine hK.out _ _ (HS.out _ hx3) (fun hHeld => ?_)
          clear hK K br
          try simp only [Act.put, List.setIfInBounds_toArray, List.set_cons_zero, List.set_cons_succ]
          refine takeH2 5 27 (v := ?_) rfl rfl (by kernel_rfl) (by kernel_rfl) (by kernel_rfl) (fun _ _ _ h => h) (by rfl) (by assumption) ?_ ?_
          rotate_left
          · intro w hSw; go_simp; (first | done | with_reducible rfl | rfl)
          try simp only [Act.put, List.setIfInBounds_toArray, List.set_cons_zero, List.set_cons_succ]
          refine takeH2 6 33 (v := ?_) rfl rfl (by kernel_rfl) (by kernel_rfl) (by kernel_rfl) (fun _ _ _ h => h) (by rfl) (by assumption) ?_ ?_
          rotate_left
          · intro w hSw; go_simp; (first | done | with_reducible rfl | rfl)
          try simp only [Act.put, List.setIfInBounds_toArray, List.set_cons_zero, List.set_cons_succ]
          refine takeH2 7 34 (v := ?_) rfl rfl (by kernel_rfl) (by kernel_rfl) (by kernel_rfl) (fun _ _ _ h => h) (by rfl) (by assumption) ?_ ?_
          rotate_left
          · intro w hSw; go_simp; (first | done | with_reducible rfl | rfl)
          try simp only [Act.put, List.setIfInBounds_toArray, List.set_cons_zero, List.set_cons_succ]
          refine wpAnyH_ready (rs := [8]) (by kernel_rfl) (by simp) ?_
          refine AllReadyH.cons rfl (fun K hK => ?_) AllReadyH.nil
          go_simp
          have bk := alloc_below' wx3 (.cells #[.int .i64 0, .string ⟨#[]⟩, .bool false, .slice none 0 0] 25)
          have HX := Lib.hid (box_new wx3 #[.int .i64 0, .string ⟨#[]⟩, .bool false, .slice none 0 0] 25)
          have hx4 := hx3.trans (bk.mono hx3.size)
          have rFx := sTok.below rF bk
          have oFx := oF2.grow bk
          have hnx : wx3.heap.size ∉ fF := fun hx => Nat.lt_irrefl _ (oF2.lt _ hx)
          refine hK.out _ _ (HS.out _ hx4) (fun hHeld => ?_)
          clear hK K bk
          try simp only [Act.put, List.setIfInBounds_toArray, List.set_cons_zero, List.set_cons_succ]
          have hgl := mlt HX.out
          have hge := hx3.size
          generalize (wx3.alloc (.cells #[.int .i64 0, .string ⟨#[]⟩, .bool false, .slice none 0 0] 25)) = wx4 at *
          have zc0 := cell_of_row _ (wx3.heap.size) 0 _ _ _ HX.out
          have zf0 : wx4.frozen? ⟨wx3.heap.size, 0, none⟩ = false := frozen_of_row _ _ 0 _ _ HX.out
          have zc1 := cell_of_row _ (wx3.heap.size) 1 _ _ _ HX.out
          have zf1 : wx4.frozen? ⟨wx3.heap.size, 1, none⟩ = false := frozen_of_row _ _ 1 _ _ HX.out
          have zc2 := cell_of_row _ (wx3.heap.size) 2 _ _ _ HX.out
          have zf2 : wx4.frozen? ⟨wx3.heap.size, 2, none⟩ = false := frozen_of_row _ _ 2 _ _ HX.out
          have zc3 := cell_of_row _ (wx3.heap.size) 3 _ _ _ HX.out
          have zf3 : wx4.frozen? ⟨wx3.heap.size, 3, none⟩ = false := frozen_of_row _ _ 3 _ _ HX.out
          have HDN := Lib.hid (box_done HX.out hge rFx oFx hnx hx4 (.int .i64 md.kind) (.string md.text) (.bool md.spaced) (.slice aF0 md.hidden.length cF0))
          refine wpAnyH_ready (rs := [9]) (by kernel_rfl) (by simp) ?_
          refine AllReadyH.cons rfl (fun K hK => ?_) AllReadyH.nil
          go_simp
          change K _ (set4 wx4 (wx3.heap.size) (.int .i64 md.kind) (.string md.text) (.bool md.spaced) (.slice aF0 md.hidden.length cF0))
          refine hK.out _ _ (HS.out _ HDN.out.2.2.2.2.2) (fun hHeld => ?_)
          clear hK K
          try simp only [Act.put, List.setIfInBounds_toArray, List.set_cons_zero, List.set_cons_succ]
          refine takeH2 10 7 (v := ?_) rfl rfl (by kernel_rfl) (by kernel_rfl) (by kernel_rfl) (fun _ _ _ h => h) (by rfl) (by assumption) ?_ ?_
          rotate_left
          · intro w hSw; go_simp; (first | done | with_reducible rfl | rfl)
          try simp only [Act.put, List.setIfInBounds_toArray, List.set_cons_zero, List.set_cons_succ]
          refine wpAnyH_done (by kernel_rfl) ?_ _
          refine NoPanic.normal ?_
          clear hHeld
          go_wp2
          go_meet
          case rel => exact ⟨_, _, _, _, rfl, rfl, HDN.out⟩
        refine AllReadyH.cons rfl (fun K hK => ?_) AllReadyH.nil
        go_simp
        have bk := alloc_below' wx2 (.cells #[.int .i64 0, .string ⟨#[]⟩, .bool false, .slice none 0 0] 25)
        have HX := Lib.hid (box_new wx2 #[.int .i64 0, .string ⟨#[]⟩, .bool false, .slice none 0 0] 25)
        have hx5 := hx2.trans (bk.mono hx2.size)
        have rr0x2x5 := sTok.below rr0x2 bk
        have rr1x5 := sTok.below rr1 bk
        refine hK.out _ _ (HS.out _ hx5) (fun hHeld => ?_)
        clear hK K bk
        try simp only [Act.put, List.setIfInBounds_toArray, List.set_cons_zero, List.set_cons_succ]
        have hgl := mlt HX.out
        have hge := hx2.size
        generalize (wx2.alloc (.cells #[.int .i64 0, .string ⟨#[]⟩, .bool false, .slice none 0 0] 25)) = wx5 at *
        refine wpAnyH_ready (rs := [4]) (by kernel_rfl) (by simp) ?_
        refine AllReadyH.cons rfl (fun K hK => ?_) AllReadyH.nil
        go_simp
        refine (HSP.out _ _ _ _ _ HW0.out HW1.out rr0x2x5 rr1x5).mono ?_
        rintro e wx6 ⟨vF, fF, rfl, rF, oF, br⟩
        have hx6 := hx5.trans (br.mono hx5.size)
        have HX6 := Lib.hid (boxes HX.out br)
        have rF2 := rF
        obtain ⟨hF0, rfl, -, -, KF0⟩ := rF2
        obtain ⟨aF0, cF0, rfl, -⟩ := open_rows KF0
        clear KF0
        have hn6 : wx2.heap.size ∉ fF := fun hx => by have h1 := (oF.2 _ hx).1; have h2 := mlt HX.out; omega
        have oF2 := oF.lower hx5.size
        refine hK.out _ _ (HS.out _ hx6) (fun hHeld => ?_)
        clear hK K br
        try simp only [Act.put, List.setIfInBounds_toArray, List.set_cons_zero, List.set_cons_succ]
        refine takeH2 5 27 (v := ?_) rfl rfl (by kernel_rfl) (by kernel_rfl) (by kernel_rfl) (fun _ _ _ h => h) (by rfl) (by assumption) ?_ ?_
        rotate_left
        · intro w hSw; go_simp; (first | done | with_reducible rfl | rfl)
        try simp only [Act.put, List.setIfInBounds_toArray, List.set_cons_zero, List.set_cons_succ]
        refine takeH2 6 33 (v := ?_) rfl rfl (by kernel_rfl) (by kernel_rfl) (by kernel_rfl) (fun _ _ _ h => h) (by rfl) (by assumption) ?_ ?_
        rotate_left
        · intro w hSw; go_simp; (first | done | with_reducible rfl | rfl)
        try simp only [Act.put, List.setIfInBounds_toArray, List.set_cons_zero, List.set_cons_succ]
        refine takeH2 7 34 (v := ?_) rfl rfl (by kernel_rfl) (by kernel_rfl) (by kernel_rfl) (fun _ _ _ h => h) (by rfl) (by assumption) ?_ ?_
        rotate_left
        · intro w hSw; go_simp; (first | done | with_reducible rfl | rfl)
        try simp only [Act.put, List.setIfInBounds_toArray, List.set_cons_zero, List.set_cons_succ]
        have zc0 := cell_of_row _ (wx2.heap.size) 0 _ _ _ HX6.out
        have zf0 : wx6.frozen? ⟨wx2.heap.size, 0, none⟩ = false := frozen_of_row _ _ 0 _ _ HX6.out
        have zc1 := cell_of_row _ (wx2.heap.size) 1 _ _ _ HX6.out
        have zf1 : wx6.frozen? ⟨wx2.heap.size, 1, none⟩ = false := frozen_of_row _ _ 1 _ _ HX6.out
        have zc2 := cell_of_row _ (wx2.heap.size) 2 _ _ _ HX6.out
        have zf2 : wx6.frozen? ⟨wx2.heap.size, 2, none⟩ = false := frozen_of_row _ _ 2 _ _ HX6.out
        have zc3 := cell_of_row _ (wx2.heap.size) 3 _ _ _ HX6.out
        have zf3 : wx6.frozen? ⟨wx2.heap.size, 3, none⟩ = false := frozen_of_row _ _ 3 _ _ HX6.out
        have HDN := Lib.hid (box_done HX6.out hge rF oF2 hn6 hx6 (.int .i64 md.kind) (.string md.text) (.bool md.spaced) (.slice aF0 md.hidden.length cF0))
        refine wpAnyH_ready (rs := [9]) (by kernel_rfl) (by simp) ?_
        refine AllReadyH.cons rfl (fun K hK => ?_) AllReadyH.nil
        go_simp
        change K _ (set4 wx6 (wx2.heap.size) (.int .i64 md.kind) (.string md.text) (.bool md.spaced) (.slice aF0 md.hidden.length cF0))
        refine hK.out _ _ (HS.out _ HDN.out.2.2.2.2.2) (fun hHeld => ?_)
        clear hK K
        try simp only [Act.put, List.setIfInBounds_toArray, List.set_cons_zero, List.set_cons_succ]
        refine takeH2 10 7 (v := ?_) rfl rfl (by kernel_rfl) (by kernel_rfl) (by kernel_rfl) (fun _ _ _ h => h) (by rfl) (by assumption) ?_ ?_
        rotate_left
        · intro w hSw; go_simp; (first | done | with_reducible rfl | rfl)
        try simp only [Act.put, List.setIfInBounds_toArray, List.set_cons_zero, List.set_cons_succ]
        refine wpAnyH_done (by kernel_rfl) ?_ _
        refine NoPanic.normal ?_
        clear hHeld
        go_wp2
        go_meet
        case rel => exact ⟨_, _, _, _, rfl, rfl, HDN.out⟩
      refine AllReadyH.cons rfl (fun K hK => ?_) AllReadyH.nil
      go_simp
      have bk := alloc_below' wx1 (.cells #[.int .i64 0, .string ⟨#[]⟩, .bool false, .slice none 0 0] 25)
      have HX := Lib.hid (box_new wx1 #[.int .i64 0, .string ⟨#[]⟩, .bool false, .slice none 0 0] 25)
      have hx7 := hx1.trans (bk.mono hx1.size)
      have rr0x7 := sTok.below rr0 bk
      refine hK.out _ _ (HS.out _ hx7) (fun hHeld => ?_)
      clear hK K bk
      try simp only [Act.put, List.setIfInBounds_toArray, List.set_cons_zero, List.set_cons_succ]
      have hgl := mlt HX.out
      have hge := hx1.size
      generalize (wx1.alloc (.cells #[.int .i64 0, .string ⟨#[]⟩, .bool false, .slice none 0 0] 25)) = wx7 at *
      refine wpAnyH_ready (rs := [3]) (by kernel_rfl) (by simp) ?_
      refine AllReadyH.cons rfl (fun K hK => ?_) AllReadyH.nil
      go_simp
      refine (HD22.out _ hx7).mono ?_
      rintro e wx8 ⟨cr1, fr1, rfl, rr1, -, br⟩
      have hx8 := hx7.trans (br.mono hx7.size)
      have rr0x7x8 := sTok.below rr0x7 br
      have HX8 := Lib.hid (boxes HX.out br)
      refine hK.out _ _ (HS.out _ hx8) (fun hHeld => ?_)
      clear hK K br
      try simp only [Act.put, List.setIfInBounds_toArray, List.set_cons_zero, List.set_cons_succ]
      refine wpAnyH_ready (rs := [4]) (by kernel_rfl) (by simp) ?_
      refine AllReadyH.cons rfl (fun K hK => ?_) AllReadyH.nil
      go_simp
      refine (HSP.out _ _ _ _ _ HW0.out HW1.out rr0x7x8 rr1).mono ?_
      rintro e wx9 ⟨vF, fF, rfl, rF, oF, br⟩
      have hx9 := hx8.trans (br.mono hx8.size)
      have HX9 := Lib.hid (boxes HX8.out br)
      have rF2 := rF
      obtain ⟨hF0, rfl, -, -, KF0⟩ := rF2
      obtain ⟨aF0, cF0, rfl, -⟩ := open_rows KF0
      clear KF0
      have hn9 : wx1.heap.size ∉ fF := fun hx => by have h1 := (oF.2 _ hx).1; have h2 := mlt HX8.out; omega
      have oF2 := oF.lower hx8.size
      refine hK.out _ _ (HS.out _ hx9) (fun hHeld => ?_)
      clear hK K br
      try simp only [Act.put, List.setIfInBounds_toArray, List.set_cons_zero, List.set_cons_succ]
      refine takeH2 5 27 (v := ?_) rfl rfl (by kernel_rfl) (by kernel_rfl) (by kernel_rfl) (fun _ _ _ h => h) (by rfl) (by assumption) ?_ ?_
      rotate_left
      · intro w hSw; go_simp; (first | done | with_reducible rfl | rfl)
      try simp only [Act.put, List.setIfInBounds_toArray, List.set_cons_zero, List.set_cons_succ]
      refine takeH2 6 33 (v := ?_) rfl rfl (by kernel_rfl) (by kernel_rfl) (by kernel_rfl) (fun _ _ _ h => h) (by rfl) (by assumption) ?_ ?_
      rotate_left
      · intro w hSw; go_simp; (first | done | with_reducible rfl | rfl)
      try simp only [Act.put, List.setIfInBounds_toArray, List.set_cons_zero, List.set_cons_succ]
      refine takeH2 7 34 (v := ?_) rfl rfl (by kernel_rfl) (by kernel_rfl) (by kernel_rfl) (fun _ _ _ h => h) (by rfl) (by assumption) ?_ ?_
      rotate_left
      · intro w hSw; go_simp; (first | done | with_reducible rfl | rfl)
      try simp only [Act.put, List.setIfInBounds_toArray, List.set_cons_zero, List.set_cons_succ]
      have zc0 := cell_of_row _ (wx1.heap.size) 0 _ _ _ HX9.out
      have zf0 : wx9.frozen? ⟨wx1.heap.size, 0, none⟩ = false := frozen_of_row _ _ 0 _ _ HX9.out
      have zc1 := cell_of_row _ (wx1.heap.size) 1 _ _ _ HX9.out
      have zf1 : wx9.frozen? ⟨wx1.heap.size, 1, none⟩ = false := frozen_of_row _ _ 1 _ _ HX9.out
      have zc2 := cell_of_row _ (wx1.heap.size) 2 _ _ _ HX9.out
      have zf2 : wx9.frozen? ⟨wx1.heap.size, 2, none⟩ = false := frozen_of_row _ _ 2 _ _ HX9.out
      have zc3 := cell_of_row _ (wx1.heap.size) 3 _ _ _ HX9.out
      have zf3 : wx9.frozen? ⟨wx1.heap.size, 3, none⟩ = false := frozen_of_row _ _ 3 _ _ HX9.out
      have HDN := Lib.hid (box_done HX9.out hge rF oF2 hn9 hx9 (.int .i64 md.kind) (.string md.text) (.bool md.spaced) (.slice aF0 md.hidden.length cF0))
      refine wpAnyH_ready (rs := [9]) (by kernel_rfl) (by simp) ?_
      refine AllReadyH.cons rfl (fun K hK => ?_) AllReadyH.nil
      go_simp
      change K _ (set4 wx9 (wx1.heap.size) (.int .i64 md.kind) (.string md.text) (.bool md.spaced) (.slice aF0 md.hidden.length cF0))
      refine hK.out _ _ (HS.out _ HDN.out.2.2.2.2.2) (fun hHeld => ?_)
      clear hK K
      try simp only [Act.put, List.setIfInBounds_toArray, List.set_cons_zero, List.set_cons_succ]
      refine takeH2 10 7 (v := ?_) rfl rfl (by kernel_rfl) (by kernel_rfl) (by kernel_rfl) (fun _ _ _ h => h) (by rfl) (by assumption) ?_ ?_
      rotate_left
      · intro w hSw; go_simp; (first | done | with_reducible rfl | rfl)
      try simp only [Act.put, List.setIfInBounds_toArray, List.set_cons_zero, List.set_cons_succ]
      refine wpAnyH_done (by kernel_rfl) ?_ _
      refine NoPanic.normal ?_
      clear hHeld
      go_wp2
      go_meet
      case rel => exact ⟨_, _, _, _, rfl, rfl, HDN.out⟩
    refine AllReadyH.cons rfl (fun K hK => ?_) AllReadyH.nil
    go_simp
    have bk := alloc_below' wd (.cells #[.int .i64 0, .string ⟨#[]⟩, .bool false, .slice none 0 0] 25)
    have HX := Lib.hid (box_new wd #[.int .i64 0, .string ⟨#[]⟩, .bool false, .slice none 0 0] 25)
    have hx10 := hcs.trans (bk.mono hcs.size)
    refine hK.out _ _ (HS.out _ hx10) (fun hHeld => ?_)
    clear hK K bk
    try simp only [Act.put, List.setIfInBounds_toArray, List.set_cons_zero, List.set_cons_succ]
    have hgl := mlt HX.out
    have hge := hcs.size
    generalize (wd.alloc (.cells #[.int .i64 0, .string ⟨#[]⟩, .bool false, .slice none 0 0] 25)) = wx10 at *
    refine wpAnyH_ready (rs := [1]) (by kernel_rfl) (by simp) ?_
    refine AllReadyH.cons rfl (fun K hK => ?_) AllReadyH.nil
    go_simp
    refine (HD21.out _ hx10).mono ?_
    rintro e wx11 ⟨cr0, fr0, rfl, rr0, -, br⟩
    have hx11 := hx10.trans (br.mono hx10.size)
    have HX11 := Lib.hid (boxes HX.out br)
    refine hK.out _ _ (HS.out _ hx11) (fun hHeld => ?_)
    clear hK K br
    try simp only [Act.put, List.setIfInBounds_toArray, List.set_cons_zero, List.set_cons_succ]
    refine wpAnyH_ready (rs := [3]) (by kernel_rfl) (by simp) ?_
    refine AllReadyH.cons rfl (fun K hK => ?_) AllReadyH.nil
    go_simp
    refine (HD22.out _ hx11).mono ?_
    rintro e wx12 ⟨cr1, fr1, rfl, rr1, -, br⟩
    have hx12 := hx11.trans (br.mono hx11.size)
    have rr0x12 := sTok.below rr0 br
    have HX12 := Lib.hid (boxes HX11.out br)
    refine hK.out _ _ (HS.out _ hx12) (fun hHeld => ?_)
    clear hK K br
    try simp only [Act.put, List.setIfInBounds_toArray, List.set_cons_zero, List.set_cons_succ]
    refine wpAnyH_ready (rs := [4]) (by kernel_rfl) (by simp) ?_
    refine AllReadyH.cons rfl (fun K hK => ?_) AllReadyH.nil
    go_simp
    refine (HSP.out _ _ _ _ _ HW0.out HW1.out rr0x12 rr1).mono ?_
    rintro e wx13 ⟨vF, fF, rfl, rF, oF, br⟩
    have hx13 := hx12.trans (br.mono hx12.size)
    have HX13 := Lib.hid (boxes HX12.out br)
    have rF2 := rF
    obtain ⟨hF0, rfl, -, -, KF0⟩ := rF2
    obtain ⟨aF0, cF0, rfl, -⟩ := open_rows KF0
    clear KF0
    have hn13 : wd.heap.size ∉ fF := fun hx => by have h1 := (oF.2 _ hx).1; have h2 := mlt HX12.out; omega
    have oF2 := oF.lower hx12.size
    refine hK.out _ _ (HS.out _ hx13) (fun hHeld => ?_)
    clear hK K br
    try simp only [Act.put, List.setIfInBounds_toArray, List.set_cons_zero, List.set_cons_succ]
    refine takeH2 5 27 (v := ?_) rfl rfl (by kernel_rfl) (by kernel_rfl) (by kernel_rfl) (fun _ _ _ h => h) (by rfl) (by assumption) ?_ ?_
    rotate_left
    · intro w hSw; go_simp; (first | done | with_reducible rfl | rfl)
    try simp only [Act.put, List.setIfInBounds_toArray, List.set_cons_zero, List.set_cons_succ]
    refine takeH2 6 33 (v := ?_) rfl rfl (by kernel_rfl) (by kernel_rfl) (by kernel_rfl) (fun _ _ _ h => h) (by rfl) (by assumption) ?_ ?_
    rotate_left
    · intro w hSw; go_simp; (first | done | with_reducible rfl | rfl)
    try simp only [Act.put, List.setIfInBounds_toArray, List.set_cons_zero, List.set_cons_succ]
    refine takeH2 7 34 (v := ?_) rfl rfl (by kernel_rfl) (by kernel_rfl) (by kernel_rfl) (fun _ _ _ h => h) (by rfl) (by assumption) ?_ ?_
    rotate_left
    · intro w hSw; go_simp; (first | done | with_reducible rfl | rfl)
    try simp only [Act.put, List.setIfInBounds_toArray, List.set_cons_zero, List.set_cons_succ]
    have zc0 := cell_of_row _ (wd.heap.size) 0 _ _ _ HX13.out
    have zf0 : wx13.frozen? ⟨wd.heap.size, 0, none⟩ = false := frozen_of_row _ _ 0 _ _ HX13.out
    have zc1 := cell_of_row _ (wd.heap.size) 1 _ _ _ HX13.out
    have zf1 : wx13.frozen? ⟨wd.heap.size, 1, none⟩ = false := frozen_of_row _ _ 1 _ _ HX13.out
    have zc2 := cell_of_row _ (wd.heap.size) 2 _ _ _ HX13.out
    have zf2 : wx13.frozen? ⟨wd.heap.size, 2, none⟩ = false := frozen_of_row _ _ 2 _ _ HX13.out
    have zc3 := cell_of_row _ (wd.heap.size) 3 _ _ _ HX13.out
    have zf3 : wx13.frozen? ⟨wd.heap.size, 3, none⟩ = false := frozen_of_row _ _ 3 _ _ HX13.out
    have HDN := Lib.hid (box_done HX13.out hge rF oF2 hn13 hx13 (.int .i64 md.kind) (.string md.text) (.bool md.spaced) (.slice aF0 md.hidden.length cF0))
    refine wpAnyH_ready (rs := [9]) (by kernel_rfl) (by simp) ?_
    refine AllReadyH.cons rfl (fun K hK => ?_) AllReadyH.nil
    go_simp
    change K _ (set4 wx13 (wd.heap.size) (.int .i64 md.kind) (.string md.text) (.bool md.spaced) (.slice aF0 md.hidden.length cF0))
    refine hK.out _ _ (HS.out _ HDN.out.2.2.2.2.2) (fun hHeld => ?_)
    clear hK K
    try simp only [Act.put, List.setIfInBounds_toArray, List.set_cons_zero, List.set_cons_succ]
    refine takeH2 10 7 (v := ?_) rfl rfl (by kernel_rfl) (by kernel_rfl) (by kernel_rfl) (fun _ _ _ h => h) (by rfl) (by assumption) ?_ ?_
    rotate_left
    · intro w hSw; go_simp; (first | done | with_reducible rfl | rfl)
    try simp only [Act.put, List.setIfInBounds_toArray, List.set_cons_zero, List.set_cons_succ]
    refine wpAnyH_done (by kernel_rfl) ?_ _
    refine NoPanic.normal ?_
    clear hHeld
    go_wp2
    go_meet
    case rel => exact ⟨_, _, _, _, rfl, rfl, HDN.out⟩
  obtain ⟨gB29, a30, c31, f26, rfl, rfl, HB24, hgl32, hgh33, r27, o28, b23⟩ := hcut
  clear HD21 HD22 HS hcs
  generalize wc = W5 at *
  replace HB24 := Lib.hid HB24
  replace a0 := a0.below b23
  replace a1 := a1.below b23
  replace HB8 := Lib.hid (boxes HB8.out b23)
  replace HB10 := Lib.hid (boxes HB10.out b23)
  replace hB := hB.trans (b23.mono hB.size)
  have hz5 : W4.heap.size ≤ W5.heap.size := b23.size
  clear b23
  have g25 := Live.of r27 o28
  clear r27 o28
  have q39 : W5.cell? ⟨w.heap.size, 0, none⟩ = some (.int .i64 x0.kind) := cell_of_row _ _ 0 _ _ _ HB8.out
  have q40 : W5.cell? ⟨w.heap.size, 1, none⟩ = some (.string x0.text) := cell_of_row _ _ 1 _ _ _ HB8.out
  have q41 : W5.cell? ⟨w.heap.size, 2, none⟩ = some (.bool x0.spaced) := cell_of_row _ _ 2 _ _ _ HB8.out
  have q42 : W5.cell? ⟨w.heap.size, 3, none⟩ = some (h1) := cell_of_row _ _ 3 _ _ _ HB8.out
  go_wp2_with fail
  refine (toToken _ _ _ _ HW0.out a0.r).mono ?_
  clear q39 q40 q41 q42
  rintro e W6 ⟨v34, f35, rfl, r36, o37, b38⟩
  replace a0 := a0.below b38
  replace a1 := a1.below b38
  replace g25 := g25.below b38
  replace HB8 := Lib.hid (boxes HB8.out b38)
  replace HB10 := Lib.hid (boxes HB10.out b38)
  replace HB24 := Lib.hid (boxes HB24.out b38)
  replace hB := hB.trans (b38.mono hB.size)
  have hz6 : W5.heap.size ≤ W6.heap.size := b38.size
  clear b38
  have c43 := Live.of r36 o37
  obtain ⟨h44, rfl, -, -, K45⟩ := r36
  obtain ⟨a47, cap48, rfl, -⟩ := open_rows K45
  clear K45
  clear o37
  have b49 := alloc_below' W6 (.cells #[.int .i64 x0.kind, .string x0.text, .bool x0.spaced, .slice a47 x0.hidden.length cap48] 25)
  have HB50 := Lib.hid (box_new W6 #[.int .i64 x0.kind, .string x0.text, .bool x0.spaced, .slice a47 x0.hidden.length cap48] 25)
  replace a0 := a0.below b49
  replace a1 := a1.below b49
  replace g25 := g25.below b49
  replace c43 := c43.below b49
  replace HB8 := Lib.hid (boxes HB8.out b49)
  replace HB10 := Lib.hid (boxes HB10.out b49)
  replace HB24 := Lib.hid (boxes HB24.out b49)
  replace hB := hB.trans (b49.mono hB.size)
  have hz7 : W6.heap.size ≤ (W6.alloc (.cells #[.int .i64 x0.kind, .string x0.text, .bool x0.spaced, .slice a47 x0.hidden.length cap48] 25)).heap.size := b49.size
  clear b49
  have hy7 : W6.heap.size + 1 ≤ (W6.alloc (.cells #[.int .i64 x0.kind, .string x0.text, .bool x0.spaced, .slice a47 x0.hidden.length cap48] 25)).heap.size := boxlt HB50.out
  have q56 : (W6.alloc (.cells #[.int .i64 x0.kind, .string x0.text, .bool x0.spaced, .slice a47 x0.hidden.length cap48] 25)).cell? ⟨w.heap.size + 1, 0, none⟩ = some (.int .i64 x1.kind) := cell_of_row _ _ 0 _ _ _ HB10.out
  have q57 : (W6.alloc (.cells #[.int .i64 x0.kind, .string x0.text, .bool x0.spaced, .slice a47 x0.hidden.length cap48] 25)).cell? ⟨w.heap.size + 1, 1, none⟩ = some (.string x1.text) := cell_of_row _ _ 1 _ _ _ HB10.out
  have q58 : (W6.alloc (.cells #[.int .i64 x0.kind, .string x0.text, .bool x0.spaced, .slice a47 x0.hidden.length cap48] 25)).cell? ⟨w.heap.size + 1, 2, none⟩ = some (.bool x1.spaced) := cell_of_row _ _ 2 _ _ _ HB10.out
  have q59 : (W6.alloc (.cells #[.int .i64 x0.kind, .string x0.text, .bool x0.spaced, .slice a47 x0.hidden.length cap48] 25)).cell? ⟨w.heap.size + 1, 3, none⟩ = some (h4) := cell_of_row _ _ 3 _ _ _ HB10.out
  go_wp2_with fail
  refine (toToken _ _ _ _ HW1.out a1.r).mono ?_
  clear q56 q57 q58 q59
  rintro e W8 ⟨v51, f52, rfl, r53, o54, b55⟩
  replace a0 := a0.below b55
  replace a1 := a1.below b55
  replace g25 := g25.below b55
  replace c43 := c43.below b55
  replace HB8 := Lib.hid (boxes HB8.out b55)
  replace HB10 := Lib.hid (boxes HB10.out b55)
  replace HB24 := Lib.hid (boxes HB24.out b55)
  replace HB50 := Lib.hid (boxes HB50.out b55)
  replace hB := hB.trans (b55.mono hB.size)
  have hz8 : (W6.alloc (.cells #[.int .i64 x0.kind, .string x0.text, .bool x0.spaced, .slice a47 x0.hidden.length cap48] 25)).heap.size ≤ W8.heap.size := b55.size
  clear b55
  have c60 := Live.of r53 o54
  obtain ⟨h61, rfl, -, -, K62⟩ := r53
  obtain ⟨a64, cap65, rfl, -⟩ := open_rows K62
  clear K62
  clear o54
  have b66 := alloc_below' W8 (.cells #[.int .i64 x1.kind, .string x1.text, .bool x1.spaced, .slice a64 x1.hidden.length cap65] 25)
  have HB67 := Lib.hid (box_new W8 #[.int .i64 x1.kind, .string x1.text, .bool x1.spaced, .slice a64 x1.hidden.length cap65] 25)
  replace a0 := a0.below b66
  replace a1 := a1.below b66
  replace g25 := g25.below b66
  replace c43 := c43.below b66
  replace c60 := c60.below b66
  replace HB8 := Lib.hid (boxes HB8.out b66)
  replace HB10 := Lib.hid (boxes HB10.out b66)
  replace HB24 := Lib.hid (boxes HB24.out b66)
  replace HB50 := Lib.hid (boxes HB50.out b66)
  replace hB := hB.trans (b66.mono hB.size)
  have hz9 : W8.heap.size ≤ (W8.alloc (.cells #[.int .i64 x1.kind, .string x1.text, .bool x1.spaced, .slice a64 x1.hidden.length cap65] 25)).heap.size := b66.size
  clear b66
  have hy9 : W8.heap.size + 1 ≤ (W8.alloc (.cells #[.int .i64 x1.kind, .string x1.text, .bool x1.spaced, .slice a64 x1.hidden.length cap65] 25)).heap.size := boxlt HB67.out
  have q69 : (W8.alloc (.cells #[.int .i64 x1.kind, .string x1.text, .bool x1.spaced, .slice a64 x1.hidden.length cap65] 25)).cell? ⟨W6.heap.size, 0, none⟩ = some (.int .i64 x0.kind) := cell_of_row _ _ 0 _ _ _ HB50.out
  have q70 : (W8.alloc (.cells #[.int .i64 x1.kind, .string x1.text, .bool x1.spaced, .slice a64 x1.hidden.length cap65] 25)).cell? ⟨W6.heap.size, 1, none⟩ = some (.string x0.text) := cell_of_row _ _ 1 _ _ _ HB50.out
  have q71 : (W8.alloc (.cells #[.int .i64 x1.kind, .string x1.text, .bool x1.spaced, .slice a64 x1.hidden.length cap65] 25)).cell? ⟨W6.heap.size, 2, none⟩ = some (.bool x0.spaced) := cell_of_row _ _ 2 _ _ _ HB50.out
  have q72 : (W8.alloc (.cells #[.int .i64 x1.kind, .string x1.text, .bool x1.spaced, .slice a64 x1.hidden.length cap65] 25)).cell? ⟨W6.heap.size, 3, none⟩ = some (.slice a47 x0.hidden.length cap48) := cell_of_row _ _ 3 _ _ _ HB50.out
  have q73 : (W8.alloc (.cells #[.int .i64 x1.kind, .string x1.text, .bool x1.spaced, .slice a64 x1.hidden.length cap65] 25)).cell? ⟨W8.heap.size, 0, none⟩ = some (.int .i64 x1.kind) := cell_of_row _ _ 0 _ _ _ HB67.out
  have q74 : (W8.alloc (.cells #[.int .i64 x1.kind, .string x1.text, .bool x1.spaced, .slice a64 x1.hidden.length cap65] 25)).cell? ⟨W8.heap.size, 1, none⟩ = some (.string x1.text) := cell_of_row _ _ 1 _ _ _ HB67.out
  have q75 : (W8.alloc (.cells #[.int .i64 x1.kind, .string x1.text, .bool x1.spaced, .slice a64 x1.hidden.length cap65] 25)).cell? ⟨W8.heap.size, 2, none⟩ = some (.bool x1.spaced) := cell_of_row _ _ 2 _ _ _ HB67.out
  have q76 : (W8.alloc (.cells #[.int .i64 x1.kind, .string x1.text, .bool x1.spaced, .slice a64 x1.hidden.length cap65] 25)).cell? ⟨W8.heap.size, 3, none⟩ = some (.slice a64 x1.hidden.length cap65) := cell_of_row _ _ 3 _ _ _ HB67.out
  go_wp2_with fail
  refine (HIM.out _ _ _ _ _ HW0.out HW1.out c43.r c60.r).mono ?_
  clear q69 q70 q71 q72 q73 q74 q75 q76
  rintro e W10 ⟨v77, f78, rfl, r79, o80, b68⟩
  replace a0 := a0.below b68
  replace a1 := a1.below b68
  replace g25 := g25.below b68
  replace c43 := c43.below b68
  replace c60 := c60.below b68
  replace HB8 := Lib.hid (boxes HB8.out b68)
  replace HB10 := Lib.hid (boxes HB10.out b68)
  replace HB24 := Lib.hid (boxes HB24.out b68)
  replace HB50 := Lib.hid (boxes HB50.out b68)
  replace HB67 := Lib.hid (boxes HB67.out b68)
  replace hB := hB.trans (b68.mono hB.size)
  have hz10 : (W8.alloc (.cells #[.int .i64 x1.kind, .string x1.text, .bool x1.spaced, .slice a64 x1.hidden.length cap65] 25)).heap.size ≤ W10.heap.size := b68.size
  clear b68
  have g81 := Live.of r79 o80
  clear o80
  obtain ⟨h82, rfl, -, -, K83⟩ := r79
  obtain ⟨a85, cap86, rfl, -⟩ := open_rows K83
  clear K83
  have b87 := alloc_below' W10 (.cells #[.int .i64 md.kind, .string md.text, .bool md.spaced, .slice a85 md.hidden.length cap86] 25)
  have HB88 := Lib.hid (box_new W10 #[.int .i64 md.kind, .string md.text, .bool md.spaced, .slice a85 md.hidden.length cap86] 25)
  replace a0 := a0.below b87
  replace a1 := a1.below b87
  replace g25 := g25.below b87
  replace c43 := c43.below b87
  replace c60 := c60.below b87
  replace g81 := g81.below b87
  replace HB8 := Lib.hid (boxes HB8.out b87)
  replace HB10 := Lib.hid (boxes HB10.out b87)
  replace HB24 := Lib.hid (boxes HB24.out b87)
  replace HB50 := Lib.hid (boxes HB50.out b87)
  replace HB67 := Lib.hid (boxes HB67.out b87)
  replace hB := hB.trans (b87.mono hB.size)
  have hz11 : W10.heap.size ≤ (W10.alloc (.cells #[.int .i64 md.kind, .string md.text, .bool md.spaced, .slice a85 md.hidden.length cap86] 25)).heap.size := b87.size
  clear b87
  have hy11 : W10.heap.size + 1 ≤ (W10.alloc (.cells #[.int .i64 md.kind, .string md.text, .bool md.spaced, .slice a85 md.hidden.length cap86] 25)).heap.size := boxlt HB88.out
  have q90 : (W10.alloc (.cells #[.int .i64 md.kind, .string md.text, .bool md.spaced, .slice a85 md.hidden.length cap86] 25)).cell? ⟨W10.heap.size, 0, none⟩ = some (.int .i64 md.kind) := cell_of_row _ _ 0 _ _ _ HB88.out
  have q91 : (W10.alloc (.cells #[.int .i64 md.kind, .string md.text, .bool md.spaced, .slice a85 md.hidden.length cap86] 25)).cell? ⟨W10.heap.size, 1, none⟩ = some (.string md.text) := cell_of_row _ _ 1 _ _ _ HB88.out
  have q92 : (W10.alloc (.cells #[.int .i64 md.kind, .string md.text, .bool md.spaced, .slice a85 md.hidden.length cap86] 25)).cell? ⟨W10.heap.size, 2, none⟩ = some (.bool md.spaced) := cell_of_row _ _ 2 _ _ _ HB88.out
  have q93 : (W10.alloc (.cells #[.int .i64 md.kind, .string md.text, .bool md.spaced, .slice a85 md.hidden.length cap86] 25)).cell? ⟨W10.heap.size, 3, none⟩ = some (.slice a85 md.hidden.length cap86) := cell_of_row _ _ 3 _ _ _ HB88.out
  have q94 : (W10.alloc (.cells #[.int .i64 md.kind, .string md.text, .bool md.spaced, .slice a85 md.hidden.length cap86] 25)).cell? ⟨gB29, 0, none⟩ = some (.int .i64 md.kind) := cell_of_row _ _ 0 _ _ _ HB24.out
  have q95 : (W10.alloc (.cells #[.int .i64 md.kind, .string md.text, .bool md.spaced, .slice a85 md.hidden.length cap86] 25)).cell? ⟨gB29, 1, none⟩ = some (.string md.text) := cell_of_row _ _ 1 _ _ _ HB24.out
  have q96 : (W10.alloc (.cells #[.int .i64 md.kind, .string md.text, .bool md.spaced, .slice a85 md.hidden.length cap86] 25)).cell? ⟨gB29, 2, none⟩ = some (.bool md.spaced) := cell_of_row _ _ 2 _ _ _ HB24.out
  have q97 : (W10.alloc (.cells #[.int .i64 md.kind, .string md.text, .bool md.spaced, .slice a85 md.hidden.length cap86] 25)).cell? ⟨gB29, 3, none⟩ = some (.slice a30 md.hidden.length c31) := cell_of_row _ _ 3 _ _ _ HB24.out
  go_wp2_with fail
  refine (eqToken_same _ _ _ _ _ _ g81.r g25.r).mono ?_
  clear q90 q91 q92 q93 q94 q95 q96 q97
  rintro e W12 ⟨rfl, b89⟩
  replace a0 := a0.below b89
  replace a1 := a1.below b89
  replace g25 := g25.below b89
  replace c43 := c43.below b89
  replace c60 := c60.below b89
  replace g81 := g81.below b89
  replace HB8 := Lib.hid (boxes HB8.out b89)
  replace HB10 := Lib.hid (boxes HB10.out b89)
  replace HB24 := Lib.hid (boxes HB24.out b89)
  replace HB50 := Lib.hid (boxes HB50.out b89)
  replace HB67 := Lib.hid (boxes HB67.out b89)
  replace HB88 := Lib.hid (boxes HB88.out b89)
  replace hB := hB.trans (b89.mono hB.size)
  have hz12 : (W10.alloc (.cells #[.int .i64 md.kind, .string md.text, .bool md.spaced, .slice a85 md.hidden.length cap86] 25)).heap.size ≤ W12.heap.size := b89.size
  clear b89
  have hga := boxlt HB8.out
  have hgb := boxlt HB50.out
  have HD98 : Hid (∀ W, Below W12.heap.size W12 W → Calls Try.prog 19 #[.agg #[.int .i64 x0.kind, .string x0.text, .bool x0.spaced, h1]] W (MadeC sTok x0 W)) := fun W hW => toToken _ _ _ W HW0.out (sTok.below a0.r hW)
  have HE99 : Hid (∀ W cs fp, Below W12.heap.size W12 W → sTok.R W cs x0 fp → Calls Try.prog 20 #[.agg #[.int .i64 x0.kind, .string x0.text, .bool x0.spaced, .slice a47 x0.hidden.length cap48], .agg cs.toArray] W fun e w' => e = .returned (.bool true) ∧ Below W.heap.size W w') := fun W cs fp hW hr => eqToken_same _ _ _ _ _ W (sTok.below c43.r hW) hr
  go_wp2_with fail
  have q100 : W12.cell? ⟨w.heap.size, 0, none⟩ = some (.int .i64 x0.kind) := cell_of_row _ _ 0 _ _ _ HB8.out
  have q101 : W12.cell? ⟨w.heap.size, 1, none⟩ = some (.string x0.text) := cell_of_row _ _ 1 _ _ _ HB8.out
  have q102 : W12.cell? ⟨w.heap.size, 2, none⟩ = some (.bool x0.spaced) := cell_of_row _ _ 2 _ _ _ HB8.out
  have q103 : W12.cell? ⟨w.heap.size, 3, none⟩ = some (h1) := cell_of_row _ _ 3 _ _ _ HB8.out
  have q104 : W12.cell? ⟨W6.heap.size, 0, none⟩ = some (.int .i64 x0.kind) := cell_of_row _ _ 0 _ _ _ HB50.out
  have q105 : W12.cell? ⟨W6.heap.size, 1, none⟩ = some (.string x0.text) := cell_of_row _ _ 1 _ _ _ HB50.out
  have q106 : W12.cell? ⟨W6.heap.size, 2, none⟩ = some (.bool x0.spaced) := cell_of_row _ _ 2 _ _ _ HB50.out
  have q107 : W12.cell? ⟨W6.heap.size, 3, none⟩ = some (.slice a47 x0.hidden.length cap48) := cell_of_row _ _ 3 _ _ _ HB50.out
  go_region_held3 (fun w' => w'.cell? ⟨w.heap.size, 0, none⟩ = some (.int .i64 x0.kind) ∧ w'.cell? ⟨w.heap.size, 1, none⟩ = some (.string x0.text) ∧ w'.cell? ⟨w.heap.size, 2, none⟩ = some (.bool x0.spaced) ∧ w'.cell? ⟨w.heap.size, 3, none⟩ = some (h1) ∧ w'.cell? ⟨W6.heap.size, 0, none⟩ = some (.int .i64 x0.kind) ∧ w'.cell? ⟨W6.heap.size, 1, none⟩ = some (.string x0.text) ∧ w'.cell? ⟨W6.heap.size, 2, none⟩ = some (.bool x0.spaced) ∧ w'.cell? ⟨W6.heap.size, 3, none⟩ = some (.slice a47 x0.hidden.length cap48))
    (first | exact ⟨q100, q101, q102, q103, q104, q105, q106, q107⟩ | exact ⟨(b30.cell (by simp; omega)).trans q100, (b30.cell (by simp; omega)).trans q101, (b30.cell (by simp; omega)).trans q102, (b30.cell (by simp; omega)).trans q103, (b30.cell (by simp; omega)).trans q104, (b30.cell (by simp; omega)).trans q105, (b30.cell (by simp; omega)).trans q106, (b30.cell (by simp; omega)).trans q107⟩ | exact ⟨((b30.trans (b31.mono b30.size)).cell (by simp; omega)).trans q100, ((b30.trans (b31.mono b30.size)).cell (by simp; omega)).trans q101, ((b30.trans (b31.mono b30.size)).cell (by simp; omega)).trans q102, ((b30.trans (b31.mono b30.size)).cell (by simp; omega)).trans q103, ((b30.trans (b31.mono b30.size)).cell (by simp; omega)).trans q104, ((b30.trans (b31.mono b30.size)).cell (by simp; omega)).trans q105, ((b30.trans (b31.mono b30.size)).cell (by simp; omega)).trans q106, ((b30.trans (b31.mono b30.size)).cell (by simp; omega)).trans q107⟩)
    (first
      | (go_at_call 19; refine (HD98.out _ (belowN (Below.refl _ _) 1)).mono ?_; rintro e w2 ⟨cs2, fp2, rfl, r2, o2, b30⟩)
      | (go_at_call 20; refine (HE99.out _ _ _ ((belowN (Below.refl _ _) 1).trans (b30.mono (Nat.le_refl _))) r2).mono ?_; rintro e w3 ⟨rfl, b31⟩))
  have b108 := (belowN (Below.refl W12.heap.size W12) 1).trans (b30.trans (b31.mono b30.size))
  clear q100 q101 q102 q103 q104 q105 q106 q107
  clear HD98 HE99 hga hgb
  replace a0 := a0.below b108
  replace a1 := a1.below b108
  replace g25 := g25.below b108
  replace c43 := c43.below b108
  replace c60 := c60.below b108
  replace g81 := g81.below b108
  replace HB8 := Lib.hid (boxes HB8.out b108)
  replace HB10 := Lib.hid (boxes HB10.out b108)
  replace HB24 := Lib.hid (boxes HB24.out b108)
  replace HB50 := Lib.hid (boxes HB50.out b108)
  replace HB67 := Lib.hid (boxes HB67.out b108)
  replace HB88 := Lib.hid (boxes HB88.out b108)
  replace hB := hB.trans (b108.mono hB.size)
  have hz13 : W12.heap.size ≤ w3.heap.size := b108.size
  clear b108
  clear b30 b31
  generalize w3 = W14 at *
  have hga := boxlt HB10.out
  have hgb := boxlt HB67.out
  have HD109 : Hid (∀ W, Below W14.heap.size W14 W → Calls Try.prog 19 #[.agg #[.int .i64 x1.kind, .string x1.text, .bool x1.spaced, h4]] W (MadeC sTok x1 W)) := fun W hW => toToken _ _ _ W HW1.out (sTok.below a1.r hW)
  have HE110 : Hid (∀ W cs fp, Below W14.heap.size W14 W → sTok.R W cs x1 fp → Calls Try.prog 20 #[.agg #[.int .i64 x1.kind, .string x1.text, .bool x1.spaced, .slice a64 x1.hidden.length cap65], .agg cs.toArray] W fun e w' => e = .returned (.bool true) ∧ Below W.heap.size W w') := fun W cs fp hW hr => eqToken_same _ _ _ _ _ W (sTok.below c60.r hW) hr
  go_wp2_with fail
  have q111 : W14.cell? ⟨w.heap.size + 1, 0, none⟩ = some (.int .i64 x1.kind) := cell_of_row _ _ 0 _ _ _ HB10.out
  have q112 : W14.cell? ⟨w.heap.size + 1, 1, none⟩ = some (.string x1.text) := cell_of_row _ _ 1 _ _ _ HB10.out
  have q113 : W14.cell? ⟨w.heap.size + 1, 2, none⟩ = some (.bool x1.spaced) := cell_of_row _ _ 2 _ _ _ HB10.out
  have q114 : W14.cell? ⟨w.heap.size + 1, 3, none⟩ = some (h4) := cell_of_row _ _ 3 _ _ _ HB10.out
  have q115 : W14.cell? ⟨W8.heap.size, 0, none⟩ = some (.int .i64 x1.kind) := cell_of_row _ _ 0 _ _ _ HB67.out
  have q116 : W14.cell? ⟨W8.heap.size, 1, none⟩ = some (.string x1.text) := cell_of_row _ _ 1 _ _ _ HB67.out
  have q117 : W14.cell? ⟨W8.heap.size, 2, none⟩ = some (.bool x1.spaced) := cell_of_row _ _ 2 _ _ _ HB67.out
  have q118 : W14.cell? ⟨W8.heap.size, 3, none⟩ = some (.slice a64 x1.hidden.length cap65) := cell_of_row _ _ 3 _ _ _ HB67.out
  go_region_held3 (fun w' => w'.cell? ⟨w.heap.size + 1, 0, none⟩ = some (.int .i64 x1.kind) ∧ w'.cell? ⟨w.heap.size + 1, 1, none⟩ = some (.string x1.text) ∧ w'.cell? ⟨w.heap.size + 1, 2, none⟩ = some (.bool x1.spaced) ∧ w'.cell? ⟨w.heap.size + 1, 3, none⟩ = some (h4) ∧ w'.cell? ⟨W8.heap.size, 0, none⟩ = some (.int .i64 x1.kind) ∧ w'.cell? ⟨W8.heap.size, 1, none⟩ = some (.string x1.text) ∧ w'.cell? ⟨W8.heap.size, 2, none⟩ = some (.bool x1.spaced) ∧ w'.cell? ⟨W8.heap.size, 3, none⟩ = some (.slice a64 x1.hidden.length cap65))
    (first | exact ⟨q111, q112, q113, q114, q115, q116, q117, q118⟩ | exact ⟨(b30.cell (by simp; omega)).trans q111, (b30.cell (by simp; omega)).trans q112, (b30.cell (by simp; omega)).trans q113, (b30.cell (by simp; omega)).trans q114, (b30.cell (by simp; omega)).trans q115, (b30.cell (by simp; omega)).trans q116, (b30.cell (by simp; omega)).trans q117, (b30.cell (by simp; omega)).trans q118⟩ | exact ⟨((b30.trans (b31.mono b30.size)).cell (by simp; omega)).trans q111, ((b30.trans (b31.mono b30.size)).cell (by simp; omega)).trans q112, ((b30.trans (b31.mono b30.size)).cell (by simp; omega)).trans q113, ((b30.trans (b31.mono b30.size)).cell (by simp; omega)).trans q114, ((b30.trans (b31.mono b30.size)).cell (by simp; omega)).trans q115, ((b30.trans (b31.mono b30.size)).cell (by simp; omega)).trans q116, ((b30.trans (b31.mono b30.size)).cell (by simp; omega)).trans q117, ((b30.trans (b31.mono b30.size)).cell (by simp; omega)).trans q118⟩)
    (first
      | (go_at_call 19; refine (HD109.out _ (belowN (Below.refl _ _) 1)).mono ?_; rintro e w2 ⟨cs2, fp2, rfl, r2, o2, b30⟩)
      | (go_at_call 20; refine (HE110.out _ _ _ ((belowN (Below.refl _ _) 1).trans (b30.mono (Nat.le_refl _))) r2).mono ?_; rintro e w3 ⟨rfl, b31⟩))
  have b119 := (belowN (Below.refl W14.heap.size W14) 1).trans (b30.trans (b31.mono b30.size))
  clear q111 q112 q113 q114 q115 q116 q117 q118
  clear HD109 HE110 hga hgb
  replace a0 := a0.below b119
  replace a1 := a1.below b119
  replace g25 := g25.below b119
  replace c43 := c43.below b119
  replace c60 := c60.below b119
  replace g81 := g81.below b119
  replace HB8 := Lib.hid (boxes HB8.out b119)
  replace HB10 := Lib.hid (boxes HB10.out b119)
  replace HB24 := Lib.hid (boxes HB24.out b119)
  replace HB50 := Lib.hid (boxes HB50.out b119)
  replace HB67 := Lib.hid (boxes HB67.out b119)
  replace HB88 := Lib.hid (boxes HB88.out b119)
  replace hB := hB.trans (b119.mono hB.size)
  have hz14 : W14.heap.size ≤ w3.heap.size := b119.size
  clear b119
  clear b30 b31
  generalize w3 = W15 at *
  have q122 : W15.cell? ⟨W6.heap.size, 0, none⟩ = some (.int .i64 x0.kind) := cell_of_row _ _ 0 _ _ _ HB50.out
  have q123 : W15.cell? ⟨W6.heap.size, 1, none⟩ = some (.string x0.text) := cell_of_row _ _ 1 _ _ _ HB50.out
  have q124 : W15.cell? ⟨W6.heap.size, 2, none⟩ = some (.bool x0.spaced) := cell_of_row _ _ 2 _ _ _ HB50.out
  have q125 : W15.cell? ⟨W6.heap.size, 3, none⟩ = some (.slice a47 x0.hidden.length cap48) := cell_of_row _ _ 3 _ _ _ HB50.out
  go_wp2_with fail
  refine (markToken _ _ _ W5.heap.size _ _ (by first | omega | (have hc := HC.out; have hw0 := HW0.out; have hw1 := HW1.out; have hn0 := cntVToken_le x0; have hn1 := cntVToken_le x1; omega)) (by first | omega | (have hc := HC.out; have hw0 := HW0.out; have hw1 := HW1.out; have hn0 := cntVToken_le x0; have hn1 := cntVToken_le x1; omega)) c43.r c43.o).mono ?_
  clear q122 q123 q124 q125
  rintro e W16 ⟨rfl, r120, o121, hk⟩
  replace a0 := a0.kept hk c43.o (by omega)
  replace a1 := a1.kept hk c43.o (by omega)
  replace g25 := g25.kept hk c43.o (by omega)
  replace c60 := c60.kept' hk (fun b hb => Nat.lt_of_lt_of_le (c43.hi b hb) (by omega))
  replace g81 := g81.kept' hk (fun b hb => Nat.lt_of_lt_of_le (c43.hi b hb) (by omega))
  replace HB8 := Lib.hid (boxK HB8.out hk (fun hx => by have h1 := (c43.o.2 _ hx).1; have h2 := c43.hi _ hx; omega))
  replace HB10 := Lib.hid (boxK HB10.out hk (fun hx => by have h1 := (c43.o.2 _ hx).1; have h2 := c43.hi _ hx; omega))
  replace HB24 := Lib.hid (boxK HB24.out hk (fun hx => by have h1 := (c43.o.2 _ hx).1; have h2 := c43.hi _ hx; omega))
  replace HB50 := Lib.hid (boxK HB50.out hk (fun hx => by have h1 := (c43.o.2 _ hx).1; have h2 := c43.hi _ hx; omega))
  replace HB67 := Lib.hid (boxK HB67.out hk (fun hx => by have h1 := (c43.o.2 _ hx).1; have h2 := c43.hi _ hx; omega))
  replace HB88 := Lib.hid (boxK HB88.out hk (fun hx => by have h1 := (c43.o.2 _ hx).1; have h2 := c43.hi _ hx; omega))
  replace hB := hB.trans (hk.below' c43.o (by first | exact Nat.le_refl _ | omega) (by omega))
  have hz15 : W15.heap.size ≤ W16.heap.size := hk.size
  replace c43 : Live _ _ _ _ _ _ _ := ⟨r120, o121, c43.hi⟩
  clear r120 o121 hk
  have q128 : W16.cell? ⟨W8.heap.size, 0, none⟩ = some (.int .i64 x1.kind) := cell_of_row _ _ 0 _ _ _ HB67.out
  have q129 : W16.cell? ⟨W8.heap.size, 1, none⟩ = some (.string x1.text) := cell_of_row _ _ 1 _ _ _ HB67.out
  have q130 : W16.cell? ⟨W8.heap.size, 2, none⟩ = some (.bool x1.spaced) := cell_of_row _ _ 2 _ _ _ HB67.out
  have q131 : W16.cell? ⟨W8.heap.size, 3, none⟩ = some (.slice a64 x1.hidden.length cap65) := cell_of_row _ _ 3 _ _ _ HB67.out
  go_wp2_with fail
  refine (markToken _ _ _ (W6.alloc (.cells #[.int .i64 x0.kind, .string x0.text, .bool x0.spaced, .slice a47 x0.hidden.length cap48] 25)).heap.size _ _ (by first | omega | (have hc := HC.out; have hw0 := HW0.out; have hw1 := HW1.out; have hn0 := cntVToken_le x0; have hn1 := cntVToken_le x1; omega)) (by first | omega | (have hc := HC.out; have hw0 := HW0.out; have hw1 := HW1.out; have hn0 := cntVToken_le x0; have hn1 := cntVToken_le x1; omega)) c60.r c60.o).mono ?_
  clear q128 q129 q130 q131
  rintro e W17 ⟨rfl, r126, o127, hk⟩
  replace a0 := a0.kept hk c60.o (by omega)
  replace a1 := a1.kept hk c60.o (by omega)
  replace g25 := g25.kept hk c60.o (by omega)
  replace c43 := c43.kept hk c60.o (by omega)
  replace g81 := g81.kept' hk (fun b hb => Nat.lt_of_lt_of_le (c60.hi b hb) (by omega))
  replace HB8 := Lib.hid (boxK HB8.out hk (fun hx => by have h1 := (c60.o.2 _ hx).1; have h2 := c60.hi _ hx; omega))
  replace HB10 := Lib.hid (boxK HB10.out hk (fun hx => by have h1 := (c60.o.2 _ hx).1; have h2 := c60.hi _ hx; omega))
  replace HB24 := Lib.hid (boxK HB24.out hk (fun hx => by have h1 := (c60.o.2 _ hx).1; have h2 := c60.hi _ hx; omega))
  replace HB50 := Lib.hid (boxK HB50.out hk (fun hx => by have h1 := (c60.o.2 _ hx).1; have h2 := c60.hi _ hx; omega))
  replace HB67 := Lib.hid (boxK HB67.out hk (fun hx => by have h1 := (c60.o.2 _ hx).1; have h2 := c60.hi _ hx; omega))
  replace HB88 := Lib.hid (boxK HB88.out hk (fun hx => by have h1 := (c60.o.2 _ hx).1; have h2 := c60.hi _ hx; omega))
  replace hB := hB.trans (hk.below' c60.o (by first | exact Nat.le_refl _ | omega) (by omega))
  have hz16 : W16.heap.size ≤ W17.heap.size := hk.size
  replace c60 : Live _ _ _ _ _ _ _ := ⟨r126, o127, c60.hi⟩
  clear r126 o127 hk
  have q133 : W17.cell? ⟨W10.heap.size, 0, none⟩ = some (.int .i64 md.kind) := cell_of_row _ _ 0 _ _ _ HB88.out
  have q134 : W17.cell? ⟨W10.heap.size, 1, none⟩ = some (.string md.text) := cell_of_row _ _ 1 _ _ _ HB88.out
  have q135 : W17.cell? ⟨W10.heap.size, 2, none⟩ = some (.bool md.spaced) := cell_of_row _ _ 2 _ _ _ HB88.out
  have q136 : W17.cell? ⟨W10.heap.size, 3, none⟩ = some (.slice a85 md.hidden.length cap86) := cell_of_row _ _ 3 _ _ _ HB88.out
  have q137 : W17.cell? ⟨gB29, 0, none⟩ = some (.int .i64 md.kind) := cell_of_row _ _ 0 _ _ _ HB24.out
  have q138 : W17.cell? ⟨gB29, 1, none⟩ = some (.string md.text) := cell_of_row _ _ 1 _ _ _ HB24.out
  have q139 : W17.cell? ⟨gB29, 2, none⟩ = some (.bool md.spaced) := cell_of_row _ _ 2 _ _ _ HB24.out
  have q140 : W17.cell? ⟨gB29, 3, none⟩ = some (.slice a30 md.hidden.length c31) := cell_of_row _ _ 3 _ _ _ HB24.out
  go_wp2_with fail
  refine (eqToken_same _ _ _ _ _ _ g81.r g25.r).mono ?_
  clear q133 q134 q135 q136 q137 q138 q139 q140
  rintro e W18 ⟨rfl, b132⟩
  replace a0 := a0.below b132
  replace a1 := a1.below b132
  replace g25 := g25.below b132
  replace c43 := c43.below b132
  replace c60 := c60.below b132
  replace g81 := g81.below b132
  replace HB8 := Lib.hid (boxes HB8.out b132)
  replace HB10 := Lib.hid (boxes HB10.out b132)
  replace HB24 := Lib.hid (boxes HB24.out b132)
  replace HB50 := Lib.hid (boxes HB50.out b132)
  replace HB67 := Lib.hid (boxes HB67.out b132)
  replace HB88 := Lib.hid (boxes HB88.out b132)
  replace hB := hB.trans (b132.mono hB.size)
  have hz17 : W17.heap.size ≤ W18.heap.size := b132.size
  clear b132
  clear c43
  clear HB50
  clear c60
  clear HB67
  have q143 : W18.cell? ⟨W10.heap.size, 0, none⟩ = some (.int .i64 md.kind) := cell_of_row _ _ 0 _ _ _ HB88.out
  have q144 : W18.cell? ⟨W10.heap.size, 1, none⟩ = some (.string md.text) := cell_of_row _ _ 1 _ _ _ HB88.out
  have q145 : W18.cell? ⟨W10.heap.size, 2, none⟩ = some (.bool md.spaced) := cell_of_row _ _ 2 _ _ _ HB88.out
  have q146 : W18.cell? ⟨W10.heap.size, 3, none⟩ = some (.slice a85 md.hidden.length cap86) := cell_of_row _ _ 3 _ _ _ HB88.out
  go_wp2_with fail
  refine (markToken _ _ _ (W8.alloc (.cells #[.int .i64 x1.kind, .string x1.text, .bool x1.spaced, .slice a64 x1.hidden.length cap65] 25)).heap.size _ _ (by first | omega | (have hc := HC.out; have hw0 := HW0.out; have hw1 := HW1.out; have hn0 := cntVToken_le x0; have hn1 := cntVToken_le x1; omega)) (by first | omega | (have hc := HC.out; have hw0 := HW0.out; have hw1 := HW1.out; have hn0 := cntVToken_le x0; have hn1 := cntVToken_le x1; omega)) g81.r g81.o).mono ?_
  clear q143 q144 q145 q146
  rintro e W19 ⟨rfl, r141, o142, hk⟩
  replace a0 := a0.kept hk g81.o (by omega)
  replace a1 := a1.kept hk g81.o (by omega)
  replace g25 := g25.kept hk g81.o (by omega)
  replace HB8 := Lib.hid (boxK HB8.out hk (fun hx => by have h1 := (g81.o.2 _ hx).1; have h2 := g81.hi _ hx; omega))
  replace HB10 := Lib.hid (boxK HB10.out hk (fun hx => by have h1 := (g81.o.2 _ hx).1; have h2 := g81.hi _ hx; omega))
  replace HB24 := Lib.hid (boxK HB24.out hk (fun hx => by have h1 := (g81.o.2 _ hx).1; have h2 := g81.hi _ hx; omega))
  replace HB88 := Lib.hid (boxK HB88.out hk (fun hx => by have h1 := (g81.o.2 _ hx).1; have h2 := g81.hi _ hx; omega))
  replace hB := hB.trans (hk.below' g81.o (by first | exact Nat.le_refl _ | omega) (by omega))
  have hz18 : W18.heap.size ≤ W19.heap.size := hk.size
  replace g81 : Live _ _ _ _ _ _ _ := ⟨r141, o142, g81.hi⟩
  clear r141 o142 hk
  have q148 : W19.cell? ⟨W10.heap.size, 0, none⟩ = some (.int .i64 md.kind) := cell_of_row _ _ 0 _ _ _ HB88.out
  have q149 : W19.cell? ⟨W10.heap.size, 1, none⟩ = some (.string md.text) := cell_of_row _ _ 1 _ _ _ HB88.out
  have q150 : W19.cell? ⟨W10.heap.size, 2, none⟩ = some (.bool md.spaced) := cell_of_row _ _ 2 _ _ _ HB88.out
  have q151 : W19.cell? ⟨W10.heap.size, 3, none⟩ = some (.slice a85 md.hidden.length cap86) := cell_of_row _ _ 3 _ _ _ HB88.out
  go_wp2_with fail
  refine (heldToken _ _ _ _ _ (by first | omega | (have hc := HC.out; have hw0 := HW0.out; have hw1 := HW1.out; have hn0 := cntVToken_le x0; have hn1 := cntVToken_le x1; omega)) (by first | omega | (have hc := HC.out; have hw0 := HW0.out; have hw1 := HW1.out; have hn0 := cntVToken_le x0; have hn1 := cntVToken_le x1; omega)) g81.r).mono ?_
  clear q148 q149 q150 q151
  rintro e W20 ⟨rfl, b147⟩
  replace a0 := a0.below b147
  replace a1 := a1.below b147
  replace g25 := g25.below b147
  replace g81 := g81.below b147
  replace HB8 := Lib.hid (boxes HB8.out b147)
  replace HB10 := Lib.hid (boxes HB10.out b147)
  replace HB24 := Lib.hid (boxes HB24.out b147)
  replace HB88 := Lib.hid (boxes HB88.out b147)
  replace hB := hB.trans (b147.mono hB.size)
  have hz19 : W19.heap.size ≤ W20.heap.size := b147.size
  clear b147
  have HD152 : Hid (∀ W, Below W20.heap.size W20 W → Calls Try.prog 19 #[.agg #[.int .i64 x0.kind, .string x0.text, .bool x0.spaced, h1]] W (MadeC sTok x0 W)) := fun W hW => toToken _ _ _ W HW0.out (sTok.below a0.r hW)
  have HD153 : Hid (∀ W, Below W20.heap.size W20 W → Calls Try.prog 19 #[.agg #[.int .i64 x1.kind, .string x1.text, .bool x1.spaced, h4]] W (MadeC sTok x1 W)) := fun W hW => toToken _ _ _ W HW1.out (sTok.below a1.r hW)
  have HS : Hid (∀ U : World, Below W20.heap.size W20 U → U.heap[w.heap.size]? = some (.cells #[.int .i64 x0.kind, .string x0.text, .bool x0.spaced, h1] 39 (0, 0)) ∧ U.heap[w.heap.size + 1]? = some (.cells #[.int .i64 x1.kind, .string x1.text, .bool x1.spaced, h4] 39 (0, 0))) := fun U hU => ⟨boxes HB8.out hU, boxes HB10.out hU⟩
  have hcs : Below W20.heap.size W20 W20.drew := belowN (Below.refl _ _) 1
  go_upto_region 31 with fail
  go_cut [15, 16] from 17 (fun d dB wr => ∃ (gB : Nat) (aF0 : Option Addr) (cF0 : Nat) (fpF : List Nat), d = .pointer (some ⟨gB, 0, none⟩) ∧ dB = .bool mb ∧ wr.heap[gB]? = some (.cells #[.int .i64 md.kind, .string md.text, .bool md.spaced, .slice aF0 md.hidden.length cF0] 25 (0, 0)) ∧ W20.heap.size ≤ gB ∧ gB < wr.heap.size ∧ sTok.R wr [.int .i64 md.kind, .string md.text, .bool md.spaced, .slice aF0 md.hidden.length cF0] md fpF ∧ Own wr W20.heap.size fpF ∧ Below W20.heap.size W20 wr)
  case first =>
    refine wp_region_noPanic ?_
    refine wp_region_held_drew (S := fun w' => w'.heap[w.heap.size]? = some (.cells #[.int .i64 x0.kind, .string x0.text, .bool x0.spaced, h1] 39 (0, 0)) ∧ w'.heap[w.heap.size + 1]? = some (.cells #[.int .i64 x1.kind, .string x1.text, .bool x1.spaced, h4] 39 (0, 0))) (by kernel_rfl) (by exact HS.out _ hcs) (fun hHeld => ?_)
    generalize W20.drew = wd at *
    refine takeH2 0 95 (v := ?_) rfl rfl (by kernel_rfl) (by kernel_rfl) (by kernel_rfl) (fun _ _ _ h => h) (by rfl) (by assumption) ?_ ?_
    rotate_left
    · intro w hSw; obtain ⟨sa0, sa1⟩ := hSw; have s0 := cell_of_row _ _ 0 _ _ _ sa0; have s1 := cell_of_row _ _ 1 _ _ _ sa0; have s2 := cell_of_row _ _ 2 _ _ _ sa0; have s3 := cell_of_row _ _ 3 _ _ _ sa0; go_simp; (first | done | with_reducible rfl | rfl)
    try simp only [Act.put, List.setIfInBounds_toArray, List.set_cons_zero, List.set_cons_succ]
    refine takeH2 2 97 (v := ?_) rfl rfl (by kernel_rfl) (by kernel_rfl) (by kernel_rfl) (fun _ _ _ h => h) (by rfl) (by assumption) ?_ ?_
    rotate_left
    · intro w hSw; obtain ⟨sa0, sa1⟩ := hSw; have s0 := cell_of_row _ _ 0 _ _ _ sa1; have s1 := cell_of_row _ _ 1 _ _ _ sa1; have s2 := cell_of_row _ _ 2 _ _ _ sa1; have s3 := cell_of_row _ _ 3 _ _ _ sa1; go_simp; (first | done | with_reducible rfl | rfl)
    try simp only [Act.put, List.setIfInBounds_toArray, List.set_cons_zero, List.set_cons_succ]
    refine wpAnyH_ready (rs := [1, 8]) (by kernel_rfl) (by simp) ?_
    refine AllReadyH.cons rfl (fun K hK => ?_) ?_
    · skip
      go_simp
      refine (HD152.out _ hcs).mono ?_
      rintro e wx1 ⟨cr0, fr0, rfl, rr0, -, br⟩
      have hx1 := hcs.trans (br.mono hcs.size)
      refine hK.out _ _ (HS.out _ hx1) (fun hHeld => ?_)
      clear hK K br
      try simp only [Act.put, List.setIfInBounds_toArray, List.set_cons_zero, List.set_cons_succ]
      refine wpAnyH_ready (rs := [3, 8]) (by kernel_rfl) (by simp) ?_
      refine AllReadyH.cons rfl (fun K hK => ?_) ?_
      · skip
        go_simp
        refine (HD153.out _ hx1).mono ?_
        rintro e wx2 ⟨cr1, fr1, rfl, rr1, -, br⟩
        have hx2 := hx1.trans (br.mono hx1.size)
        have rr0x2 := sTok.below rr0 br
        refine hK.out _ _ (HS.out _ hx2) (fun hHeld => ?_)
        clear hK K br
        try simp only [Act.put, List.setIfInBounds_toArray, List.set_cons_zero, List.set_cons_succ]
        refine wpAnyH_ready (rs := [4, 8]) (by kernel_rfl) (by simp) ?_
        refine AllReadyH.cons rfl (fun K hK => ?_) ?_
        · skip
          go_simp
          refine (HIM.out _ _ _ _ _ HW0.out HW1.out rr0x2 rr1).mono ?_
          rintro e wx3 ⟨vF, fF, rfl, rF, oF, br⟩
          have hx3 := hx2.trans (br.mono hx2.size)
          have rF2 := rF
          obtain ⟨hF0, rfl, -, -, KF0⟩ := rF2
          obtain ⟨aF0, cF0, rfl, -⟩ := open_rows KF0
          clear KF0
          have oF2 := oF.lower hx2.size
          refine hK.out _ _ (HS.out _ hx3) (fun hHeld => ?_)
          clear hK K br
          try simp only [Act.put, List.setIfInBounds_toArray, List.set_cons_zero, List.set_cons_succ]
          refine takeH2 5 94 (v := ?_) rfl rfl (by kernel_rfl) (by kernel_rfl) (by kernel_rfl) (fun _ _ _ h => h) (by rfl) (by assumption) ?_ ?_
          rotate_left
          · intro w hSw; go_simp; (first | done | with_reducible rfl | rfl)
          try simp only [Act.put, List.setIfInBounds_toArray, List.set_cons_zero, List.set_cons_succ]
          refine takeH2 6 100 (v := ?_) rfl rfl (by kernel_rfl) (by kernel_rfl) (by kernel_rfl) (fun _ _ _ h => h) (by rfl) (by assumption) ?_ ?_
          rotate_left
          · intro w hSw; go_simp; (first | done | with_reducible rfl | rfl)
          try simp only [Act.put, List.setIfInBounds_toArray, List.set_cons_zero, List.set_cons_succ]
          refine takeH2 7 101 (v := ?_) rfl rfl (by kernel_rfl) (by kernel_rfl) (by kernel_rfl) (fun _ _ _ h => h) (by rfl) (by assumption) ?_ ?_
          rotate_left
          · intro w hSw; go_simp; (first | done | with_reducible rfl | rfl)
          try simp only [Act.put, List.setIfInBounds_toArray, List.set_cons_zero, List.set_cons_succ]
          refine wpAnyH_ready (rs := [8]) (by kernel_rfl) (by simp) ?_
          refine AllReadyH.cons rfl (fun K hK => ?_) AllReadyH.nil
          go_simp
          have bk := alloc_below' wx3 (.cells #[.int .i64 0, .string ⟨#[]⟩, .bool false, .slice none 0 0] 25)
          have HX := Lib.hid (box_new wx3 #[.int .i64 0, .string ⟨#[]⟩, .bool false, .slice none 0 0] 25)
          have hx4 := hx3.trans (bk.mono hx3.size)
          have rFx := sTok.below rF bk
          have oFx := oF2.grow bk
          have hnx : wx3.heap.size ∉ fF := fun hx => Nat.lt_irrefl _ (oF2.lt _ hx)
          refine hK.out _ _ (HS.out _ hx4) (fun hHeld => ?_)
          clear hK K bk
          try simp only [Act.put, List.setIfInBounds_toArray, List.set_cons_zero, List.set_cons_succ]
          have hgl := mlt HX.out
          have hge := hx3.size
          generalize (wx3.alloc (.cells #[.int .i64 0, .string ⟨#[]⟩, .bool false, .slice none 0 0] 25)) = wx4 at *
          have zc0 := cell_of_row _ (wx3.heap.size) 0 _ _ _ HX.out
          have zf0 : wx4.frozen? ⟨wx3.heap.size, 0, none⟩ = false := frozen_of_row _ _ 0 _ _ HX.out
          have zc1 := cell_of_row _ (wx3.heap.size) 1 _ _ _ HX.out
          have zf1 : wx4.frozen? ⟨wx3.heap.size, 1, none⟩ = false := frozen_of_row _ _ 1 _ _ HX.out
          have zc2 := cell_of_row _ (wx3.heap.size) 2 _ _ _ HX.out
          have zf2 : wx4.frozen? ⟨wx3.heap.size, 2, none⟩ = false := frozen_of_row _ _ 2 _ _ HX.out
          have zc3 := cell_of_row _ (wx3.heap.size) 3 _ _ _ HX.out
          have zf3 : wx4.frozen? ⟨wx3.heap.size, 3, none⟩ = false := frozen_of_row _ _ 3 _ _ HX.out
          have HDN := Lib.hid (box_done HX.out hge rFx oFx hnx hx4 (.int .i64 md.kind) (.string md.text) (.bool md.spaced) (.slice aF0 md.hidden.length cF0))
          refine wpAnyH_ready (rs := [9]) (by kernel_rfl) (by simp) ?_
          refine AllReadyH.cons rfl (fun K hK => ?_) AllReadyH.nil
          go_simp
          change K _ (set4 wx4 (wx3.heap.size) (.int .i64 md.kind) (.string md.text) (.bool md.spaced) (.slice aF0 md.hidden.length cF0))
          refine hK.out _ _ (HS.out _ HDN.out.2.2.2.2.2) (fun hHeld => ?_)
          clear hK K
          try simp only [Act.put, List.setIfInBounds_toArray, List.set_cons_zero, List.set_cons_succ]
          refine takeH2 10 16 (v := ?_) rfl rfl (by kernel_rfl) (by kernel_rfl) (by kernel_rfl) (fun _ _ _ h => h) (by rfl) (by assumption) ?_ ?_
          rotate_left
          · intro w hSw; go_simp; (first | done | with_reducible rfl | rfl)
          try simp only [Act.put, List.setIfInBounds_toArray, List.set_cons_zero, List.set_cons_succ]
          refine wpAnyH_done (by kernel_rfl) ?_ _
          refine NoPanic.normal ?_
          clear hHeld
          go_wp2
          go_meet
          case rel => exact ⟨_, _, _, _, rfl, rfl, HDN.out⟩
        refine AllReadyH.cons rfl (fun K hK => ?_) AllReadyH.nil
        go_simp
        have bk := alloc_below' wx2 (.cells #[.int .i64 0, .string ⟨#[]⟩, .bool false, .slice none 0 0] 25)
        have HX := Lib.hid (box_new wx2 #[.int .i64 0, .string ⟨#[]⟩, .bool false, .slice none 0 0] 25)
        have hx5 := hx2.trans (bk.mono hx2.size)
        have rr0x2x5 := sTok.below rr0x2 bk
        have rr1x5 := sTok.below rr1 bk
        refine hK.out _ _ (HS.out _ hx5) (fun hHeld => ?_)
        clear hK K bk
        try simp only [Act.put, List.setIfInBounds_toArray, List.set_cons_zero, List.set_cons_succ]
        have hgl := mlt HX.out
        have hge := hx2.size
        generalize (wx2.alloc (.cells #[.int .i64 0, .string ⟨#[]⟩, .bool false, .slice none 0 0] 25)) = wx5 at *
        refine wpAnyH_ready (rs := [4]) (by kernel_rfl) (by simp) ?_
        refine AllReadyH.cons rfl (fun K hK => ?_) AllReadyH.nil
        go_simp
        refine (HIM.out _ _ _ _ _ HW0.out HW1.out rr0x2x5 rr1x5).mono ?_
        rintro e wx6 ⟨vF, fF, rfl, rF, oF, br⟩
        have hx6 := hx5.trans (br.mono hx5.size)
        have HX6 := Lib.hid (boxes HX.out br)
        have rF2 := rF
        obtain ⟨hF0, rfl, -, -, KF0⟩ := rF2
        obtain ⟨aF0, cF0, rfl, -⟩ := open_rows KF0
        clear KF0
        have hn6 : wx2.heap.size ∉ fF := fun hx => by have h1 := (oF.2 _ hx).1; have h2 := mlt HX.out; omega
        have oF2 := oF.lower hx5.size
        refine hK.out _ _ (HS.out _ hx6) (fun hHeld => ?_)
        clear hK K br
        try simp only [Act.put, List.setIfInBounds_toArray, List.set_cons_zero, List.set_cons_succ]
        refine takeH2 5 94 (v := ?_) rfl rfl (by kernel_rfl) (by kernel_rfl) (by kernel_rfl) (fun _ _ _ h => h) (by rfl) (by assumption) ?_ ?_
        rotate_left
        · intro w hSw; go_simp; (first | done | with_reducible rfl | rfl)
        try simp only [Act.put, List.setIfInBounds_toArray, List.set_cons_zero, List.set_cons_succ]
        refine takeH2 6 100 (v := ?_) rfl rfl (by kernel_rfl) (by kernel_rfl) (by kernel_rfl) (fun _ _ _ h => h) (by rfl) (by assumption) ?_ ?_
        rotate_left
        · intro w hSw; go_simp; (first | done | with_reducible rfl | rfl)
        try simp only [Act.put, List.setIfInBounds_toArray, List.set_cons_zero, List.set_cons_succ]
        refine takeH2 7 101 (v := ?_) rfl rfl (by kernel_rfl) (by kernel_rfl) (by kernel_rfl) (fun _ _ _ h => h) (by rfl) (by assumption) ?_ ?_
        rotate_left
        · intro w hSw; go_simp; (first | done | with_reducible rfl | rfl)
        try simp only [Act.put, List.setIfInBounds_toArray, List.set_cons_zero, List.set_cons_succ]
        have zc0 := cell_of_row _ (wx2.heap.size) 0 _ _ _ HX6.out
        have zf0 : wx6.frozen? ⟨wx2.heap.size, 0, none⟩ = false := frozen_of_row _ _ 0 _ _ HX6.out
        have zc1 := cell_of_row _ (wx2.heap.size) 1 _ _ _ HX6.out
        have zf1 : wx6.frozen? ⟨wx2.heap.size, 1, none⟩ = false := frozen_of_row _ _ 1 _ _ HX6.out
        have zc2 := cell_of_row _ (wx2.heap.size) 2 _ _ _ HX6.out
        have zf2 : wx6.frozen? ⟨wx2.heap.size, 2, none⟩ = false := frozen_of_row _ _ 2 _ _ HX6.out
        have zc3 := cell_of_row _ (wx2.heap.size) 3 _ _ _ HX6.out
        have zf3 : wx6.frozen? ⟨wx2.heap.size, 3, none⟩ = false := frozen_of_row _ _ 3 _ _ HX6.out
        have HDN := Lib.hid (box_done HX6.out hge rF oF2 hn6 hx6 (.int .i64 md.kind) (.string md.text) (.bool md.spaced) (.slice aF0 md.hidden.length cF0))
        refine wpAnyH_ready (rs := [9]) (by kernel_rfl) (by simp) ?_
        refine AllReadyH.cons rfl (fun K hK => ?_) AllReadyH.nil
        go_simp
        change K _ (set4 wx6 (wx2.heap.size) (.int .i64 md.kind) (.string md.text) (.bool md.spaced) (.slice aF0 md.hidden.length cF0))
        refine hK.out _ _ (HS.out _ HDN.out.2.2.2.2.2) (fun hHeld => ?_)
        clear hK K
        try simp only [Act.put, List.setIfInBounds_toArray, List.set_cons_zero, List.set_cons_succ]
        refine takeH2 10 16 (v := ?_) rfl rfl (by kernel_rfl) (by kernel_rfl) (by kernel_rfl) (fun _ _ _ h => h) (by rfl) (by assumption) ?_ ?_
        rotate_left
        · intro w hSw; go_simp; (first | done | with_reducible rfl | rfl)
        try simp only [Act.put, List.setIfInBounds_toArray, List.set_cons_zero, List.set_cons_succ]
        refine wpAnyH_done (by kernel_rfl) ?_ _
        refine NoPanic.normal ?_
        clear hHeld
        go_wp2
        go_meet
        case rel => exact ⟨_, _, _, _, rfl, rfl, HDN.out⟩
      refine AllReadyH.cons rfl (fun K hK => ?_) AllReadyH.nil
      go_simp
      have bk := alloc_below' wx1 (.cells #[.int .i64 0, .string ⟨#[]⟩, .bool false, .slice none 0 0] 25)
      have HX := Lib.hid (box_new wx1 #[.int .i64 0, .string ⟨#[]⟩, .bool false, .slice none 0 0] 25)
      have hx7 := hx1.trans (bk.mono hx1.size)
      have rr0x7 := sTok.below rr0 bk
      refine hK.out _ _ (HS.out _ hx7) (fun hHeld => ?_)
      clear hK K bk
      try simp only [Act.put, List.setIfInBounds_toArray, List.set_cons_zero, List.set_cons_succ]
      have hgl := mlt HX.out
      have hge := hx1.size
      generalize (wx1.alloc (.cells #[.int .i64 0, .string ⟨#[]⟩, .bool false, .slice none 0 0] 25)) = wx7 at *
      refine wpAnyH_ready (rs := [3]) (by kernel_rfl) (by simp) ?_
      refine AllReadyH.cons rfl (fun K hK => ?_) AllReadyH.nil
      go_simp
      refine (HD153.out _ hx7).mono ?_
      rintro e wx8 ⟨cr1, fr1, rfl, rr1, -, br⟩
      have hx8 := hx7.trans (br.mono hx7.size)
      have rr0x7x8 := sTok.below rr0x7 br
      have HX8 := Lib.hid (boxes HX.out br)
      refine hK.out _ _ (HS.out _ hx8) (fun hHeld => ?_)
      clear hK K br
      try simp only [Act.put, List.setIfInBounds_toArray, List.set_cons_zero, List.set_cons_succ]
      refine wpAnyH_ready (rs := [4]) (by kernel_rfl) (by simp) ?_
      refine AllReadyH.cons rfl (fun K hK => ?_) AllReadyH.nil
      go_simp
      refine (HIM.out _ _ _ _ _ HW0.out HW1.out rr0x7x8 rr1).mono ?_
      rintro e wx9 ⟨vF, fF, rfl, rF, oF, br⟩
      have hx9 := hx8.trans (br.mono hx8.size)
      have HX9 := Lib.hid (boxes HX8.out br)
      have rF2 := rF
      obtain ⟨hF0, rfl, -, -, KF0⟩ := rF2
      obtain ⟨aF0, cF0, rfl, -⟩ := open_rows KF0
      clear KF0
      have hn9 : wx1.heap.size ∉ fF := fun hx => by have h1 := (oF.2 _ hx).1; have h2 := mlt HX8.out; omega
      have oF2 := oF.lower hx8.size
      refine hK.out _ _ (HS.out _ hx9) (fun hHeld => ?_)
      clear hK K br
      try simp only [Act.put, List.setIfInBounds_toArray, List.set_cons_zero, List.set_cons_succ]
      refine takeH2 5 94 (v := ?_) rfl rfl (by kernel_rfl) (by kernel_rfl) (by kernel_rfl) (fun _ _ _ h => h) (by rfl) (by assumption) ?_ ?_
      rotate_left
      · intro w hSw; go_simp; (first | done | with_reducible rfl | rfl)
      try simp only [Act.put, List.setIfInBounds_toArray, List.set_cons_zero, List.set_cons_succ]
      refine takeH2 6 100 (v := ?_) rfl rfl (by kernel_rfl) (by kernel_rfl) (by kernel_rfl) (fun _ _ _ h => h) (by rfl) (by assumption) ?_ ?_
      rotate_left
      · intro w hSw; go_simp; (first | done | with_reducible rfl | rfl)
      try simp only [Act.put, List.setIfInBounds_toArray, List.set_cons_zero, List.set_cons_succ]
      refine takeH2 7 101 (v := ?_) rfl rfl (by kernel_rfl) (by kernel_rfl) (by kernel_rfl) (fun _ _ _ h => h) (by rfl) (by assumption) ?_ ?_
      rotate_left
      · intro w hSw; go_simp; (first | done | with_reducible rfl | rfl)
      try simp only [Act.put, List.setIfInBounds_toArray, List.set_cons_zero, List.set_cons_succ]
      have zc0 := cell_of_row _ (wx1.heap.size) 0 _ _ _ HX9.out
      have zf0 : wx9.frozen? ⟨wx1.heap.size, 0, none⟩ = false := frozen_of_row _ _ 0 _ _ HX9.out
      have zc1 := cell_of_row _ (wx1.heap.size) 1 _ _ _ HX9.out
      have zf1 : wx9.frozen? ⟨wx1.heap.size, 1, none⟩ = false := frozen_of_row _ _ 1 _ _ HX9.out
      have zc2 := cell_of_row _ (wx1.heap.size) 2 _ _ _ HX9.out
      have zf2 : wx9.frozen? ⟨wx1.heap.size, 2, none⟩ = false := frozen_of_row _ _ 2 _ _ HX9.out
      have zc3 := cell_of_row _ (wx1.heap.size) 3 _ _ _ HX9.out
      have zf3 : wx9.frozen? ⟨wx1.heap.size, 3, none⟩ = false := frozen_of_row _ _ 3 _ _ HX9.out
      have HDN := Lib.hid (box_done HX9.out hge rF oF2 hn9 hx9 (.int .i64 md.kind) (.string md.text) (.bool md.spaced) (.slice aF0 md.hidden.length cF0))
      refine wpAnyH_ready (rs := [9]) (by kernel_rfl) (by simp) ?_
      refine AllReadyH.cons rfl (fun K hK => ?_) AllReadyH.nil
      go_simp
      change K _ (set4 wx9 (wx1.heap.size) (.int .i64 md.kind) (.string md.text) (.bool md.spaced) (.slice aF0 md.hidden.length cF0))
      refine hK.out _ _ (HS.out _ HDN.out.2.2.2.2.2) (fun hHeld => ?_)
      clear hK K
      try simp only [Act.put, List.setIfInBounds_toArray, List.set_cons_zero, List.set_cons_succ]
      refine takeH2 10 16 (v := ?_) rfl rfl (by kernel_rfl) (by kernel_rfl) (by kernel_rfl) (fun _ _ _ h => h) (by rfl) (by assumption) ?_ ?_
      rotate_left
      · intro w hSw; go_simp; (first | done | with_reducible rfl | rfl)
      try simp only [Act.put, List.setIfInBounds_toArray, List.set_cons_zero, List.set_cons_succ]
      refine wpAnyH_done (by kernel_rfl) ?_ _
      refine NoPanic.normal ?_
      clear hHeld
      go_wp2
      go_meet
      case rel => exact ⟨_, _, _, _, rfl, rfl, HDN.out⟩
    refine AllReadyH.cons rfl (fun K hK => ?_) AllReadyH.nil
    go_simp
    have bk := alloc_below' wd (.cells #[.int .i64 0, .string ⟨#[]⟩, .bool false, .slice none 0 0] 25)
    have HX := Lib.hid (box_new wd #[.int .i64 0, .string ⟨#[]⟩, .bool false, .slice none 0 0] 25)
    have hx10 := hcs.trans (bk.mono hcs.size)
    refine hK.out _ _ (HS.out _ hx10) (fun hHeld => ?_)
    clear hK K bk
    try simp only [Act.put, List.setIfInBounds_toArray, List.set_cons_zero, List.set_cons_succ]
    have hgl := mlt HX.out
    have hge := hcs.size
    generalize (wd.alloc (.cells #[.int .i64 0, .string ⟨#[]⟩, .bool false, .slice none 0 0] 25)) = wx10 at *
    refine wpAnyH_ready (rs := [1]) (by kernel_rfl) (by simp) ?_
    refine AllReadyH.cons rfl (fun K hK => ?_) AllReadyH.nil
    go_simp
    refine (HD152.out _ hx10).mono ?_
    rintro e wx11 ⟨cr0, fr0, rfl, rr0, -, br⟩
    have hx11 := hx10.trans (br.mono hx10.size)
    have HX11 := Lib.hid (boxes HX.out br)
    refine hK.out _ _ (HS.out _ hx11) (fun hHeld => ?_)
    clear hK K br
    try simp only [Act.put, List.setIfInBounds_toArray, List.set_cons_zero, List.set_cons_succ]
    refine wpAnyH_ready (rs := [3]) (by kernel_rfl) (by simp) ?_
    refine AllReadyH.cons rfl (fun K hK => ?_) AllReadyH.nil
    go_simp
    refine (HD153.out _ hx11).mono ?_
    rintro e wx12 ⟨cr1, fr1, rfl, rr1, -, br⟩
    have hx12 := hx11.trans (br.mono hx11.size)
    have rr0x12 := sTok.below rr0 br
    have HX12 := Lib.hid (boxes HX11.out br)
    refine hK.out _ _ (HS.out _ hx12) (fun hHeld => ?_)
    clear hK K br
    try simp only [Act.put, List.setIfInBounds_toArray, List.set_cons_zero, List.set_cons_succ]
    refine wpAnyH_ready (rs := [4]) (by kernel_rfl) (by simp) ?_
    refine AllReadyH.cons rfl (fun K hK => ?_) AllReadyH.nil
    go_simp
    refine (HIM.out _ _ _ _ _ HW0.out HW1.out rr0x12 rr1).mono ?_
    rintro e wx13 ⟨vF, fF, rfl, rF, oF, br⟩
    have hx13 := hx12.trans (br.mono hx12.size)
    have HX13 := Lib.hid (boxes HX12.out br)
    have rF2 := rF
    obtain ⟨hF0, rfl, -, -, KF0⟩ := rF2
    obtain ⟨aF0, cF0, rfl, -⟩ := open_rows KF0
    clear KF0
    have hn13 : wd.heap.size ∉ fF := fun hx => by have h1 := (oF.2 _ hx).1; have h2 := mlt HX12.out; omega
    have oF2 := oF.lower hx12.size
    refine hK.out _ _ (HS.out _ hx13) (fun hHeld => ?_)
    clear hK K br
    try simp only [Act.put, List.setIfInBounds_toArray, List.set_cons_zero, List.set_cons_succ]
    refine takeH2 5 94 (v := ?_) rfl rfl (by kernel_rfl) (by kernel_rfl) (by kernel_rfl) (fun _ _ _ h => h) (by rfl) (by assumption) ?_ ?_
    rotate_left
    · intro w hSw; go_simp; (first | done | with_reducible rfl | rfl)
    try simp only [Act.put, List.setIfInBounds_toArray, List.set_cons_zero, List.set_cons_succ]
    refine takeH2 6 100 (v := ?_) rfl rfl (by kernel_rfl) (by kernel_rfl) (by kernel_rfl) (fun _ _ _ h => h) (by rfl) (by assumption) ?_ ?_
    rotate_left
    · intro w hSw; go_simp; (first | done | with_reducible rfl | rfl)
    try simp only [Act.put, List.setIfInBounds_toArray, List.set_cons_zero, List.set_cons_succ]
    refine takeH2 7 101 (v := ?_) rfl rfl (by kernel_rfl) (by kernel_rfl) (by kernel_rfl) (fun _ _ _ h => h) (by rfl) (by assumption) ?_ ?_
    rotate_left
    · intro w hSw; go_simp; (first | done | with_reducible rfl | rfl)
    try simp only [Act.put, List.setIfInBounds_toArray, List.set_cons_zero, List.set_cons_succ]
    have zc0 := cell_of_row _ (wd.heap.size) 0 _ _ _ HX13.out
    have zf0 : wx13.frozen? ⟨wd.heap.size, 0, none⟩ = false := frozen_of_row _ _ 0 _ _ HX13.out
    have zc1 := cell_of_row _ (wd.heap.size) 1 _ _ _ HX13.out
    have zf1 : wx13.frozen? ⟨wd.heap.size, 1, none⟩ = false := frozen_of_row _ _ 1 _ _ HX13.out
    have zc2 := cell_of_row _ (wd.heap.size) 2 _ _ _ HX13.out
    have zf2 : wx13.frozen? ⟨wd.heap.size, 2, none⟩ = false := frozen_of_row _ _ 2 _ _ HX13.out
    have zc3 := cell_of_row _ (wd.heap.size) 3 _ _ _ HX13.out
    have zf3 : wx13.frozen? ⟨wd.heap.size, 3, none⟩ = false := frozen_of_row _ _ 3 _ _ HX13.out
    have HDN := Lib.hid (box_done HX13.out hge rF oF2 hn13 hx13 (.int .i64 md.kind) (.string md.text) (.bool md.spaced) (.slice aF0 md.hidden.length cF0))
    refine wpAnyH_ready (rs := [9]) (by kernel_rfl) (by simp) ?_
    refine AllReadyH.cons rfl (fun K hK => ?_) AllReadyH.nil
    go_simp
    change K _ (set4 wx13 (wd.heap.size) (.int .i64 md.kind) (.string md.text) (.bool md.spaced) (.slice aF0 md.hidden.length cF0))
    refine hK.out _ _ (HS.out _ HDN.out.2.2.2.2.2) (fun hHeld => ?_)
    clear hK K
    try simp only [Act.put, List.setIfInBounds_toArray, List.set_cons_zero, List.set_cons_succ]
    refine takeH2 10 16 (v := ?_) rfl rfl (by kernel_rfl) (by kernel_rfl) (by kernel_rfl) (fun _ _ _ h => h) (by rfl) (by assumption) ?_ ?_
    rotate_left
    · intro w hSw; go_simp; (first | done | with_reducible rfl | rfl)
    try simp only [Act.put, List.setIfInBounds_toArray, List.set_cons_zero, List.set_cons_succ]
    refine wpAnyH_done (by kernel_rfl) ?_ _
    refine NoPanic.normal ?_
    clear hHeld
    go_wp2
    go_meet
    case rel => exact ⟨_, _, _, _, rfl, rfl, HDN.out⟩
  obtain ⟨gB160, a161, c162, f157, rfl, rfl, HB155, hgl163, hgh164, r158, o159, b154⟩ := hcut
  clear HD152 HD153 HS hcs
  generalize wc = W21 at *
  replace HB155 := Lib.hid HB155
  replace a0 := a0.below b154
  replace a1 := a1.below b154
  replace g25 := g25.below b154
  replace g81 := g81.below b154
  replace HB8 := Lib.hid (boxes HB8.out b154)
  replace HB10 := Lib.hid (boxes HB10.out b154)
  replace HB24 := Lib.hid (boxes HB24.out b154)
  replace HB88 := Lib.hid (boxes HB88.out b154)
  replace hB := hB.trans (b154.mono hB.size)
  have hz20 : W20.heap.size ≤ W21.heap.size := b154.size
  clear b154
  have g156 := Live.of r158 o159
  clear r158 o159
  have q166 : W21.cell? ⟨gB160, 0, none⟩ = some (.int .i64 md.kind) := cell_of_row _ _ 0 _ _ _ HB155.out
  have q167 : W21.cell? ⟨gB160, 1, none⟩ = some (.string md.text) := cell_of_row _ _ 1 _ _ _ HB155.out
  have q168 : W21.cell? ⟨gB160, 2, none⟩ = some (.bool md.spaced) := cell_of_row _ _ 2 _ _ _ HB155.out
  have q169 : W21.cell? ⟨gB160, 3, none⟩ = some (.slice a161 md.hidden.length c162) := cell_of_row _ _ 3 _ _ _ HB155.out
  have q170 : W21.cell? ⟨gB29, 0, none⟩ = some (.int .i64 md.kind) := cell_of_row _ _ 0 _ _ _ HB24.out
  have q171 : W21.cell? ⟨gB29, 1, none⟩ = some (.string md.text) := cell_of_row _ _ 1 _ _ _ HB24.out
  have q172 : W21.cell? ⟨gB29, 2, none⟩ = some (.bool md.spaced) := cell_of_row _ _ 2 _ _ _ HB24.out
  have q173 : W21.cell? ⟨gB29, 3, none⟩ = some (.slice a30 md.hidden.length c31) := cell_of_row _ _ 3 _ _ _ HB24.out
  go_wp2_with fail
  refine (eqToken_same _ _ _ _ _ _ g156.r g25.r).mono ?_
  clear q166 q167 q168 q169 q170 q171 q172 q173
  rintro e W22 ⟨rfl, b165⟩
  replace a0 := a0.below b165
  replace a1 := a1.below b165
  replace g25 := g25.below b165
  replace g81 := g81.below b165
  replace g156 := g156.below b165
  replace HB8 := Lib.hid (boxes HB8.out b165)
  replace HB10 := Lib.hid (boxes HB10.out b165)
  replace HB24 := Lib.hid (boxes HB24.out b165)
  replace HB88 := Lib.hid (boxes HB88.out b165)
  replace HB155 := Lib.hid (boxes HB155.out b165)
  replace hB := hB.trans (b165.mono hB.size)
  have hz21 : W21.heap.size ≤ W22.heap.size := b165.size
  clear b165
  have q175 : W22.cell? ⟨W10.heap.size, 0, none⟩ = some (.int .i64 md.kind) := cell_of_row _ _ 0 _ _ _ HB88.out
  have q176 : W22.cell? ⟨W10.heap.size, 1, none⟩ = some (.string md.text) := cell_of_row _ _ 1 _ _ _ HB88.out
  have q177 : W22.cell? ⟨W10.heap.size, 2, none⟩ = some (.bool md.spaced) := cell_of_row _ _ 2 _ _ _ HB88.out
  have q178 : W22.cell? ⟨W10.heap.size, 3, none⟩ = some (.slice a85 md.hidden.length cap86) := cell_of_row _ _ 3 _ _ _ HB88.out
  go_wp2_with fail
  refine (heldToken _ _ _ _ _ (by first | omega | (have hc := HC.out; have hw0 := HW0.out; have hw1 := HW1.out; have hn0 := cntVToken_le x0; have hn1 := cntVToken_le x1; omega)) (by first | omega | (have hc := HC.out; have hw0 := HW0.out; have hw1 := HW1.out; have hn0 := cntVToken_le x0; have hn1 := cntVToken_le x1; omega)) g81.r).mono ?_
  clear q175 q176 q177 q178
  rintro e W23 ⟨rfl, b174⟩
  replace a0 := a0.below b174
  replace a1 := a1.below b174
  replace g25 := g25.below b174
  replace g81 := g81.below b174
  replace g156 := g156.below b174
  replace HB8 := Lib.hid (boxes HB8.out b174)
  replace HB10 := Lib.hid (boxes HB10.out b174)
  replace HB24 := Lib.hid (boxes HB24.out b174)
  replace HB88 := Lib.hid (boxes HB88.out b174)
  replace HB155 := Lib.hid (boxes HB155.out b174)
  replace hB := hB.trans (b174.mono hB.size)
  have hz22 : W22.heap.size ≤ W23.heap.size := b174.size
  clear b174
  go_wp2
  go_ret
  exact ⟨rfl, hB⟩

theorem own : ownKnob Try.prog.godebug = none := by kernel_rfl
theorem laidOut : laidOutB Try.prog = true := by kernel_rfl
theorem readable : ∀ t ∈ Try.f5.params.toList, Try.prog.readableRec t = true ∧ t < Try.prog.types.size := by
  rw [Try.params5]
  intro t ht
  simp only [List.mem_cons, List.not_mem_nil, or_false] at ht
  first
    | (subst ht; exact ⟨by kernel_rfl, of_decide_eq_true (by kernel_rfl)⟩)
    | (rcases ht with rfl | rfl <;> exact ⟨by kernel_rfl, of_decide_eq_true (by kernel_rfl)⟩)

set_option maxRecDepth 100000 in
theorem lifted (os : Os) (started : os.Started) (H : Type) (enc : TypeId × Value → H) :
    ReturnsInHanded {} Try.checked os 5 .any (Rows.fnExactPasteTokensSpec.pre6 enc Try.prog Try.f5 Rows.fnExactPasteTokensRow.domain false) (Rows.fnExactPasteTokensSpec.post enc Try.prog Try.f5 false true false false) := by
  refine returnsInHanded_of_change (C := Try.checked) own started (by kernel_rfl) Try.func5
    (ChangeSpec.witness6 (enc := enc) (C := Try.checked) false ⟨#[], #[zero_Token, zero_Token], []⟩ 8 (by kernel_rfl) (by kernel_rfl) (by kernel_rfl) (by kernel_rfl)) ?_
  intro W base args ds gs before hval0 hW hcnd _
  have hval : ∀ (j : Nat) t v, Try.f5.params[j]? = some t → args[j]? = some v → Value.okWide Try.prog W .any base t v := hval0
  have hW' := hW
  obtain ⟨p, q, hA0, hV, rfl, hfz, hnd⟩ := hW
  have hA : DataW.TrodAll enc Try.prog W 0 (fun _ => true) true Try.f5.params.toList args.toList ds p := hA0
  rw [Try.params5] at hA hval
  obtain ⟨v0, vs0, d0, ds0, p0, q0, hargs0, rfl, rfl, h0, r0⟩ := trodAll_cons hA
  obtain ⟨v1, vs1, d1, ds1, p1, q1, hargs1, rfl, rfl, h1, r1⟩ := trodAll_cons r0
  obtain ⟨rfl, rfl, rfl⟩ := trodAll_nil r1
  obtain rfl : args = #[v0, v1] := by cases args; simp_all
  obtain ⟨rfl, rfl⟩ := trodVars_none hV
  obtain ⟨cs0, rfl, _⟩ := okWide_struct Try.underlying39 (hval 0 39 v0 rfl rfl)
  obtain ⟨x0, fp0, H0⟩ := open_arg opens_Token h0
  obtain ⟨cs1, rfl, _⟩ := okWide_struct Try.underlying39 (hval 1 39 v1 rfl rfl)
  obtain ⟨x1, fp1, H1⟩ := open_arg opens_Token h1
  refine (walk _ x0 fp0 _ x1 fp1 W H0 H1).mono fun e W' ⟨he, hw⟩ => ?_
  subst he
  exact ⟨_, rfl, law_done laidOut readable rfl rfl Try.underlying4 hW' rfl rfl rfl hw⟩

theorem holds : Rows.FnExactPasteTokensSaid :=
  OpenClaim.holds_of_wide 5 Try.f5 rfl rfl rfl rfl rfl rfl rfl ⟨rfl, rfl, rfl, rfl, rfl⟩ rfl rfl rfl rfl rfl (by kernel_rfl) Try.func5 (by kernel_rfl)
    (of_decide_eq_true (by kernel_rfl)) (by unfold Func.isWrapper; first | (rw [if_pos (by decide +kernel)]; kernel_rfl) | (rw [if_neg (by decide +kernel)]; exact ⟨rfl, rfl⟩))
    (fun os started H enc _ => lifted os started H enc)


end Go.Proofs.Ytbkmapaieillmaa.exactPasteTokens
