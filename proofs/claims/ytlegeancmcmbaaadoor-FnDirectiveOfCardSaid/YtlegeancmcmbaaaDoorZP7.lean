/- Texts that the proof of P stands on, in one file. -/
import Derived.Test.YtlegeancmcmbaaaDoorZP6
import Derived.StillTailTactics
import Derived.Test.YtlegeancmcmbaaaDoorZP5
import Derived.Deep.Cut
import Derived.Test.YtlegeancmcmbaaaDoorZP2
set_option linter.unusedVariables false
set_option linter.unusedSimpArgs false
/- PrintTokens: the model. -/
namespace Go.Proofs.YtlegeancmcmbaaaDoor
open Go.RowKit
end Go.Proofs.YtlegeancmcmbaaaDoor

/- Macros: the model's own helpers; what both sides walk over. -/
namespace Go.Proofs.YtlegeancmcmbaaaDoor
open Go.RowKit

set_option maxHeartbeats 1000000 in
theorem spec_l5Name (x : ByteArray) (w : World) (hs : x.size ≤ maxLen) :
  Calls Tryd.prog 96 #[.string x] w (Says (oneTok x 1) w) := by
 have HT : Hid (∀ W, Calls Tryd.prog 37 #[.string x] W (TokMade (tokRes x) W)) := fun W => spec_TokensOf x W hs
 go_enter Tryd.func96, Tryd.ntmps96
 rcases one_ways x 1 with ⟨hr, HF⟩ | ⟨l, hr, hl, HF⟩ | ⟨t, hr, hk, HF⟩ | ⟨t, hr, hk, hx, HF⟩ | ⟨t, hr, hk, hx, _, HF⟩
 ·rw [hr] at HT
  clear hr
  go_wp2_with (go_at_call 37; refine (HT.out _).mono ?_; rintro e w' ⟨v, fp, rfl, hR, hO, hB⟩)
  go_ret
  exact ⟨ret_bool HF.out.symm, hB⟩
 ·rw [hr] at HT
  have hl' : ((l.length : Int) == 1) = false := by simp; omega
  clear hr hl
  go_wp2_with (go_at_call 37; refine (HT.out _).mono ?_; rintro e w' ⟨v, fp, rfl, hR, hO, hB⟩; obtain ⟨a, cap, rfl, _, _, _⟩ := open_rows hR)
  go_ret
  exact ⟨ret_bool HF.out.symm, hB⟩
 ·rw [hr] at HT
  have hk' : (t.kind == 1) = false := by simp [hk]
  clear hr hk
  go_wp2_with (go_at_call 37; refine (HT.out _).mono ?_; rintro e w' ⟨v, fp, rfl, hR, hO, hB⟩; obtain ⟨b, off, cap, h, rfl, hc1, hc2, hb, h0, h1, h2, h3, _, _⟩ := open_one hR)
  go_ret
  exact ⟨ret_bool HF.out.symm, hB⟩
 ·rw [hr] at HT
  have hk' : (t.kind == 1) = true := by simp [hk]
  have hx' : (t.text.toList == x.toList) = false := bytes_bne hx
  clear hr hk hx
  go_wp2_with (go_at_call 37; refine (HT.out _).mono ?_; rintro e w' ⟨v, fp, rfl, hR, hO, hB⟩; obtain ⟨b, off, cap, h, rfl, hc1, hc2, hb, h0, h1, h2, h3, _, _⟩ := open_one hR)
  go_ret
  exact ⟨ret_bool HF.out.symm, hB⟩
 ·rw [hr] at HT
  have hk' : (t.kind == 1) = true := by simp [hk]
  have hx' : (t.text.toList == x.toList) = true := bytes_beq hx
  clear hr hk hx
  go_wp2_with (go_at_call 37; refine (HT.out _).mono ?_; rintro e w' ⟨v, fp, rfl, hR, hO, hB⟩; obtain ⟨b, off, cap, h, rfl, hc1, hc2, hb, h0, h1, h2, h3, _, _⟩ := open_one hR)
  go_ret
  exact ⟨ret_bool HF.out.symm, hB⟩

theorem par_end {ps : List ByteArray} {t : Tok} {k : Nat} (h : ps.length ≤ k) : parFrom ps t k = -1 := by rw [parFrom, dif_neg (by omega)]
theorem par_hit {ps : List ByteArray} {t : Tok} {k : Nat} (h : k < ps.length) (h1 : t.kind = 1) (h2 : ps[k] = t.text) : parFrom ps t k = k := by rw [parFrom, dif_pos h, if_pos ⟨h1, h2⟩]
theorem par_miss {ps : List ByteArray} {t : Tok} {k : Nat} (h : k < ps.length) (h1 : ¬ (t.kind = 1 ∧ ps[k] = t.text)) : parFrom ps t k = parFrom ps t (k + 1) := by rw [parFrom, dif_pos h, if_neg h1]

set_option maxHeartbeats 4000000 in
set_option maxRecDepth 100000 in
theorem spec_l5Param (csM csT : List Value) (m : DMacro) (t : Tok) (fpM fpT : List Nat) (w : World) (HM : sMacro.R w csM m fpM) (HT : sTok.R w csT t fpT) :
  Calls Tryd.prog 97 #[.agg csM.toArray, .agg csT.toArray] w fun e w' => e = .returned (.int .i64 (parOf m.params t)) ∧ Below w.heap.size w w' := by
 obtain ⟨h2, h3, fp2, fp3, rfl, -, K2, K3, rfl⟩ := HM
 obtain ⟨hh, rfl, -, -, -⟩ := HT
 obtain ⟨a, cap, rfl, hc, hm, hcell, hsz⟩ := open_strs K2
 unfold maxLen at hm
 clear K2 K3
 have b0 := alloc_below' w (.cells #[.string m.name, .bool m.function, .slice a m.params.length cap, h3] 79)
 have b1 := b0.trans ((alloc_below' (w.alloc (.cells #[.string m.name, .bool m.function, .slice a m.params.length cap, h3] 79)) (.cells #[.int .i64 t.kind, .string t.text, .bool t.spaced, hh] 47)).mono b0.size)
 have HX := Lib.hid (alloc2_blk w #[.string m.name, .bool m.function, .slice a m.params.length cap, h3] #[.int .i64 t.kind, .string t.text, .bool t.spaced, hh] 79 47)
 go_enter Tryd.func97, Tryd.ntmps97
 go_wp2
 generalize (w.alloc (.cells #[.string m.name, .bool m.function, .slice a m.params.length cap, h3] 79)).alloc (.cells #[.int .i64 t.kind, .string t.text, .bool t.spaced, hh] 47) = W at *
 clear b0
 go_loopw [5] (fun i wr => ∃ k : Nat, k ≤ m.params.length ∧ i = .int .i64 k ∧ Hid (parOf m.params t = parFrom m.params t k) ∧ Below W.heap.size W wr) (fun i _ => m.params.length - (intOf i).toNat)
 case atStart => exact ⟨0, by omega, rfl, rfl, Below.refl _ _⟩
 case round =>
  obtain ⟨k, hk, rfl, HP, hb⟩ := hrel
  have HX1 := Lib.hid (And.intro ((hb.block _ (Array.getElem?_eq_some_iff.1 HX.out.1).1).trans HX.out.1) ((hb.block _ (Array.getElem?_eq_some_iff.1 HX.out.2).1).trans HX.out.2))
  have q2 : wr.cell? ⟨w.heap.size, 2, none⟩ = some (.slice a m.params.length cap) := cell_of_row _ _ 2 _ _ _ HX1.out.1
  have p0 : wr.cell? ⟨w.heap.size + 1, 0, none⟩ = some (.int .i64 t.kind) := cell_of_row _ _ 0 _ _ _ HX1.out.2
  have p1 : wr.cell? ⟨w.heap.size + 1, 1, none⟩ = some (.string t.text) := cell_of_row _ _ 1 _ _ _ HX1.out.2
  by_cases hlt : k < m.params.length
  ·obtain ⟨b, off, rfl, hbl, _, hc2⟩ := hcell (by omega)
   have hck := ((b1.trans (hb.mono b1.size)).cell (p := ⟨b, off + k, none⟩) hbl).trans (hc2 k hlt)
   clear hcell hc2
   by_cases e1 : t.kind = 1
   ·have g1 : (t.kind == 1) = true := by simp [e1]
    by_cases e2 : m.params[k] = t.text
    ·have g2 := bytes_beq e2
     have HF := Lib.hid (par_hit hlt e1 e2)
     clear e1 e2
     go_wp2
     go_quiet (fail)
     go_wp2
     go_ret
     exact ⟨ret_int (by rw [HP.out, HF.out]), b1.trans ((belowN hb _).mono b1.size)⟩
    ·have g2 : (m.params[k].toList == t.text.toList) = false := bytes_bne e2
     have HF := Lib.hid (par_miss hlt (fun h => e2 h.2))
     clear e1 e2
     go_wp2
     go_quiet (fail)
     go_wp2
     go_roundw
     case rel => exact ⟨k + 1, by omega, by go_num, by show _ = _; rw [HP.out, HF.out], belowN hb _⟩
     case measure => simp [intOf]; omega
   ·have g1 : (t.kind == 1) = false := by simp [e1]
    have HF := Lib.hid (par_miss hlt (fun h => e1 h.1))
    clear e1
    go_wp2
    go_quiet (fail)
    go_wp2
    go_roundw
    case rel => exact ⟨k + 1, by omega, by go_num, by show _ = _; rw [HP.out, HF.out], belowN hb _⟩
    case measure => simp [intOf]; omega
  ·have HF := Lib.hid (par_end (t := t) (by omega : m.params.length ≤ k))
   go_wp2
   go_ret
   exact ⟨ret_int (by rw [HP.out, HF.out]), b1.trans (hb.mono b1.size)⟩

end Go.Proofs.YtlegeancmcmbaaaDoor

/- Copies of tokens: the model's own. -/
namespace Go.Proofs.YtlegeancmcmbaaaDoor
open Go.RowKit

theorem run_append_nil {P : Program} {w : World} (base : Nat) (t ty e : TypeId) (i : TypeInfo) (size c : Nat) (ht : P.underlying t = some (.slice e)) (hi : P.info? e = some i)
  (v : Value) (n : Nat) (xs : List Value) (hown : w.ownsRow base e size v n xs) : (Builtin.append_ #[t, t] ty #[v, .slice none 0 c]).run P w = .ok v w := by
 rcases hown.2 with ⟨rfl, rfl⟩ | ⟨g, cap, cur, rfl, _, _, hnc, _⟩
 ·simp [Builtin.append_, run_underlying ht, sizeOf, typeInfo, hi, Builtin.lenOf, Builtin.firstCells]
 ·simp [Builtin.append_, run_underlying ht, sizeOf, typeInfo, hi, Builtin.lenOf, Builtin.firstCells, hnc, storeCells]
theorem wp_append_strsR {w : World} {ops : Array Oper} {rest : List Oper} {o : Oper} {a : Act} {Q : Exit → Act → World → Prop} (hg : o.guard = none) (s y : Operand)
  (ho : o.op = .call { callee := .builtin .append, args := #[s, y], argTypes := #[45, 45] })
  (base : Nat) (v u : Value) (L M : List ByteArray) (fp : List Nat) (hs : a.eval s = v) (hown : w.ownsRow base 9 1 v L.length (L.map Value.string)) (hy : a.eval y = u) (HM : (sSlice sStr).R w [u] M fp)
  (h63 : L.length + M.length ≤ 4000000) (hbase : base ≤ w.heap.size)
  (h : ∀ v' w', w'.ownsRow base 9 1 v' (L ++ M).length ((L ++ M).map Value.string) → w.grownBy w' v.ownBlock → wpList Tryd.prog ops Q rest (a.put o.dst v') w') : wpList Tryd.prog ops Q (o :: rest) a w := by
 obtain ⟨i, hi, hz0, hz1, hz2⟩ := info_parts ti27.2
 obtain ⟨ad, cap, rfl, hc, hm, hcell, hsz⟩ := open_strs HM
 have key : ∀ (b off : Nat), (0 < M.length → ∀ j, (hj : j < M.length) → w.cell? ⟨b, off + j, none⟩ = some (.string M[j])) → a.eval y = .slice (some ⟨b, off, none⟩) M.length cap → wpList Tryd.prog ops Q (o :: rest) a w := by
  intro b off hat hy'
  refine wpList_append_own _ hg s y 45 ho base 9 i _ 1 16 ti27.1 hi hz0 hz1 hz2 rfl (by decide) v L.length (L.map Value.string) hs hown ⟨b, off, none⟩ M.length cap (M.map Value.string) hy' (by simp) ?_ ?_ (by unfold maxLen; omega) (by omega) hbase fun v' w' h1 h2 _ => h v' w' ?_ h2
  ·intro j x hj
   have hj' : j < M.length := by have := (List.getElem?_eq_some_iff.1 hj).1; simpa using this
   rw [Addr.add_lit, hat (by omega) j hj', ← hj]
   simp [List.getElem?_eq_getElem hj']
  ·intro x hx
   obtain ⟨s, _, rfl⟩ := List.mem_map.1 hx
   rfl
  ·simpa using h1
 by_cases h0 : 0 < M.length
 ·obtain ⟨b, off, rfl, _, _, hc2⟩ := hcell h0
  exact key b off (fun _ j hj => hc2 j hj) hy
 ·have hM : M = [] := List.length_eq_zero_iff.1 (by omega)
  subst hM
  cases ad with
  |
   none =>
   have hrun := run_append_nil (P := Tryd.prog) (w := w) base 45 o.type 9 i 1 cap ti27.1 hi v L.length _ hown
   have hK := h v w (by simpa using hown) ⟨rfl, rfl, rfl, Nat.le_refl _, fun _ _ _ => rfl⟩
   refine wpList_plain hg fun K hK' => ?_
   unfold Oper.wp
   simp only [List.length_nil] at hy
   simp [execOp, ho, resolve, invoke, builtin, hs, hy, hrun, Result.andThen]
   exact hK' _ _ hK
  |
   some ad =>
   refine wpList_append_own _ hg s y 45 ho base 9 i _ 1 16 ti27.1 hi hz0 hz1 hz2 rfl (by decide) v L.length (L.map Value.string) hs hown ad 0 cap [] hy rfl (by simp) (by simp) (by unfold maxLen; omega) (by omega) hbase fun v' w' h1 h2 _ => h v' w' (by simpa using h1) h2

def OwnTok (x : Tok) (w : World) (e : Ending) (w' : World) : Prop :=
 ∃ (ao : Option Addr) (c : Nat) (fp : List Nat), e = .returned (.agg #[.int .i64 x.kind, .string x.text, .bool x.spaced, .slice ao x.hidden.length c]) ∧ sTok.R w' [.int .i64 x.kind, .string x.text, .bool x.spaced, .slice ao x.hidden.length c] x fp ∧
  (∀ b ∈ fp, w.heap.size ≤ b) ∧ (∀ b ∈ fp, ∃ cur t fr, w'.heap[b]? = some (.cells cur t fr) ∧ t = 9) ∧ Below w.heap.size w w'

set_option maxHeartbeats 4000000 in
set_option maxRecDepth 100000 in
theorem spec_l1OwnToken (cs : List Value) (x : Tok) (fp : List Nat) (w : World) (hx : x.hidden.length ≤ 2000000) (H : sTok.R w cs x fp) : Calls Tryd.prog 64 #[.agg cs.toArray] w (OwnTok x w) := by
 obtain ⟨h, rfl, hk, hok, K⟩ := H
 obtain ⟨a0, cap0, rfl, -, -, -, hsz⟩ := open_strs K
 have hb3 := below3 w #[.int .i64 x.kind, .string x.text, .bool x.spaced, .slice a0 x.hidden.length cap0] #[.int .i64 0, .string ⟨#[]⟩, .bool false, .slice none 0 0] #[.int .i64 x.kind, .string x.text, .bool x.spaced, .slice a0 x.hidden.length cap0] 47 47 47
 have g0 := alloc3_blk0 w #[.int .i64 x.kind, .string x.text, .bool x.spaced, .slice a0 x.hidden.length cap0] #[.int .i64 0, .string ⟨#[]⟩, .bool false, .slice none 0 0] #[.int .i64 x.kind, .string x.text, .bool x.spaced, .slice a0 x.hidden.length cap0] 47 47 47
 obtain ⟨g1, g2, hs3⟩ := alloc3_blk w #[.int .i64 x.kind, .string x.text, .bool x.spaced, .slice a0 x.hidden.length cap0] #[.int .i64 0, .string ⟨#[]⟩, .bool false, .slice none 0 0] #[.int .i64 x.kind, .string x.text, .bool x.spaced, .slice a0 x.hidden.length cap0] 47 47 47
 have HK := Lib.hid ((sSlice sStr).below K hb3)
 have HSZ := Lib.hid hsz
 clear K hsz
 obtain ⟨hv, HV⟩ : ∃ hv : Value, Hid (hv = Value.slice a0 x.hidden.length cap0) := ⟨_, rfl⟩
 go_enter Tryd.func64, Tryd.ntmps64
 go_upto_region 2 with fail
 generalize (((w.alloc (.cells #[.int .i64 x.kind, .string x.text, .bool x.spaced, .slice a0 x.hidden.length cap0] 47)).alloc (.cells #[.int .i64 0, .string ⟨#[]⟩, .bool false, .slice none 0 0] 47)).alloc (.cells #[.int .i64 x.kind, .string x.text, .bool x.spaced, .slice a0 x.hidden.length cap0] 47)) = W3 at *
 have hba := alloc_below' W3 (.cells #[] 9)
 have c03 : (W3.alloc (.cells #[] 9)).cell? ⟨w.heap.size, 3, none⟩ = some hv := by
  rw [HV.out]
  exact (hba.cell (p := ⟨w.heap.size, 3, none⟩) (by show w.heap.size < _; omega)).trans (cell_of_row _ _ 3 _ _ _ g0)
 have hlit : Hid ((W3.alloc (.cells #[] 9)).ownsRow W3.heap.size 9 1 (.slice (some ⟨W3.heap.size, 0, none⟩) 0 0) ([] : List ByteArray).length (([] : List ByteArray).map Value.string)) :=
  World.ownsRow_lit (base := W3.heap.size) (e := 9) (size := 1) W3 #[] 0 (Nat.le_refl _) (by simp) rfl
 have HKV : Hid ((sSlice sStr).R (W3.alloc (.cells #[] 9)) [hv] x.hidden fp) := by show (sSlice sStr).R _ _ _ _; rw [HV.out]; exact (sSlice sStr).below HK.out hba
 have HG := Lib.hid (And.intro g1 (And.intro g2 hs3))
 have hb4 := Lib.hid (hb3.trans (hba.mono hb3.size))
 clear g0 g1 g2 hb3 hs3 HK hba
 go_wp2_with (
  at_builtin
  refine wp_append_strsR rfl (.tmp 5) (.tmp 7) rfl W3.heap.size (.slice (some ⟨W3.heap.size, 0, none⟩) 0 0) hv [] x.hidden _ rfl hlit.out rfl HKV.out (by simp; omega) (by simp) ?_
  intro v5 w1 hown hgrow
  rw [List.nil_append] at hown
  obtain ⟨fp1, R1, O1, hfp⟩ := own_flat (ok := okStr) hown HSZ.out
  have hs3 := HG.out.2.2
  have hblk : ∀ k, k < W3.heap.size → w1.heap[k]? = W3.heap[k]? := fun k hk => (hgrow.block k (by simp; omega) (by simp [Value.ownBlock]; omega)).trans ((alloc_below' W3 _).block k hk)
  have HG1 : Hid (w1.heap[w.heap.size + 1]? = some (.cells #[.int .i64 0, .string ⟨#[]⟩, .bool false, .slice none 0 0] 47 (0, 0)) ∧ w1.heap[w.heap.size + 1 + 1]? = some (.cells #[.int .i64 x.kind, .string x.text, .bool x.spaced, .slice a0 x.hidden.length cap0] 47 (0, 0))) :=
   ⟨(hblk _ (by omega)).trans HG.out.1, (hblk _ (by omega)).trans HG.out.2.1⟩
  have hb : Below w.heap.size w w1 := hb4.out.grown hgrow (by simp; omega) (fun b hb => by simp [Value.ownBlock] at hb; omega)
  have hty : ∀ b ∈ fp1, ∃ cur t fr, w1.heap[b]? = some (.cells cur t fr) ∧ t = 9 := fun b hb' => by
   have hv := hfp b hb'
   rcases hown.2 with ⟨rfl, _⟩ | ⟨g, cap, cur, rfl, _, hg, _⟩
   ·simp [Value.ownBlock] at hv
   ·simp only [Value.ownBlock, Option.some.injEq] at hv
    subst hv
    exact ⟨_, _, _, hg, rfl⟩
  have hlo : ∀ b ∈ fp1, w.heap.size + 3 ≤ b := fun b hb => by have := (O1.2 b hb).1; omega
  clear HG hblk hgrow hown hfp O1 c03 hb4 HKV hlit hs3
  obtain ⟨a1, cap1, rfl, hq⟩ := open_rows R1
  clear hq
  have c10 : w1.cell? ⟨w.heap.size + 1, 0, none⟩ = some (.int .i64 0) := cell_of_row w1 (w.heap.size + 1) 0 _ _ _ HG1.out.1
  have c11 : w1.cell? ⟨w.heap.size + 1, 1, none⟩ = some (.string ⟨#[]⟩) := cell_of_row w1 (w.heap.size + 1) 1 _ _ _ HG1.out.1
  have c12 : w1.cell? ⟨w.heap.size + 1, 2, none⟩ = some (.bool false) := cell_of_row w1 (w.heap.size + 1) 2 _ _ _ HG1.out.1
  have c13 : w1.cell? ⟨w.heap.size + 1, 3, none⟩ = some (.slice none 0 0) := cell_of_row w1 (w.heap.size + 1) 3 _ _ _ HG1.out.1
  have c20 : w1.cell? ⟨w.heap.size + 1 + 1, 0, none⟩ = some (.int .i64 x.kind) := cell_of_row w1 (w.heap.size + 1 + 1) 0 _ _ _ HG1.out.2
  have c21 : w1.cell? ⟨w.heap.size + 1 + 1, 1, none⟩ = some (.string x.text) := cell_of_row w1 (w.heap.size + 1 + 1) 1 _ _ _ HG1.out.2
  have c22 : w1.cell? ⟨w.heap.size + 1 + 1, 2, none⟩ = some (.bool x.spaced) := cell_of_row w1 (w.heap.size + 1 + 1) 2 _ _ _ HG1.out.2
  have c23 : w1.cell? ⟨w.heap.size + 1 + 1, 3, none⟩ = some (.slice a0 x.hidden.length cap0) := cell_of_row w1 (w.heap.size + 1 + 1) 3 _ _ _ HG1.out.2
  have f10 : w1.frozen? ⟨w.heap.size + 1, 0, none⟩ = false := frozen_of_row w1 (w.heap.size + 1) 0 _ _ HG1.out.1
  have f11 : w1.frozen? ⟨w.heap.size + 1, 1, none⟩ = false := frozen_of_row w1 (w.heap.size + 1) 1 _ _ HG1.out.1
  have f12 : w1.frozen? ⟨w.heap.size + 1, 2, none⟩ = false := frozen_of_row w1 (w.heap.size + 1) 2 _ _ HG1.out.1
  have f13 : w1.frozen? ⟨w.heap.size + 1, 3, none⟩ = false := frozen_of_row w1 (w.heap.size + 1) 3 _ _ HG1.out.1
  have f23 : w1.frozen? ⟨w.heap.size + 1 + 1, 3, none⟩ = false := frozen_of_row w1 (w.heap.size + 1 + 1) 3 _ _ HG1.out.2
  have hn1 : w.heap.size + 1 ∉ fp1 := fun hx => by have := hlo _ hx; omega
  have hn2 : w.heap.size + 1 + 1 ∉ fp1 := fun hx => by have := hlo _ hx; omega
  have HLO : Hid (∀ b ∈ fp1, w.heap.size ≤ b) := fun b hb => by have := hlo b hb; omega
  have HR := Lib.hid ((sSlice sStr).setB ((sSlice sStr).setB ((sSlice sStr).setB ((sSlice sStr).setB ((sSlice sStr).setB R1 hn2 3 (.slice a1 x.hidden.length cap1)) hn1 0 (.int .i64 x.kind)) hn1 1 (.string x.text)) hn1 2 (.bool x.spaced)) hn1 3 (.slice a1 x.hidden.length cap1))
  have HT : Hid (∀ b ∈ fp1, ∃ cur t fr, (((((w1.setCell ⟨w.heap.size + 1 + 1, 3, none⟩ (.slice a1 x.hidden.length cap1)).setCell ⟨w.heap.size + 1, 0, none⟩ (.int .i64 x.kind)).setCell ⟨w.heap.size + 1, 1, none⟩ (.string x.text)).setCell ⟨w.heap.size + 1, 2, none⟩ (.bool x.spaced)).setCell ⟨w.heap.size + 1, 3, none⟩ (.slice a1 x.hidden.length cap1)).heap[b]? = some (.cells cur t fr) ∧ t = 9) := fun b hb => by
   obtain ⟨cur, t, fr, q1, q2⟩ := hty b hb
   have e1 : b ≠ w.heap.size + 1 := fun e => hn1 (e ▸ hb)
   have e2 : b ≠ w.heap.size + 1 + 1 := fun e => hn2 (e ▸ hb)
   exact ⟨cur, t, fr, blk_other (blk_other (blk_other (blk_other (blk_other q1 e2 _ _) e1 _ _) e1 _ _) e1 _ _) e1 _ _, q2⟩
  have HB := Lib.hid (((((hb.setCell (p := ⟨w.heap.size + 1 + 1, 3, none⟩) (by simp; omega) (.slice a1 x.hidden.length cap1)).setCell (p := ⟨w.heap.size + 1, 0, none⟩) (by simp) (.int .i64 x.kind)).setCell (p := ⟨w.heap.size + 1, 1, none⟩) (by simp) (.string x.text)).setCell (p := ⟨w.heap.size + 1, 2, none⟩) (by simp) (.bool x.spaced)).setCell (p := ⟨w.heap.size + 1, 3, none⟩) (by simp) (.slice a1 x.hidden.length cap1))
  have HS := Lib.hid (blk_set (blk_set (blk_set (blk_set (blk_other HG1.out.1 (by omega : w.heap.size + 1 ≠ w.heap.size + 1 + 1) 3 (.slice a1 x.hidden.length cap1)) 0 (.int .i64 x.kind)) 1 (.string x.text)) 2 (.bool x.spaced)) 3 (.slice a1 x.hidden.length cap1))
  clear HG1 hty hlo)
 refine bodyPost_ret (results_cell_row rfl _ _ (w.heap.size + 1) _ _ _ _ rfl HS.out Tryd.underlying47 rfl (by kernel_rfl)) rfl ?_
 exact ⟨a1, cap1, fp1, rfl, ⟨_, rfl, hk, hok, HR.out⟩, HLO.out, HT.out, HB.out⟩

def OwnToks (l : List Tok) (w : World) (e : Ending) (w' : World) : Prop := ∃ v fp, e = .returned v ∧ (sSlice sTok).R w' [v] l fp ∧ Below w.heap.size w w'
def NoMac (w : World) (fp : List Nat) : Prop := ∀ b ∈ fp, ∃ cur t fr, w.heap[b]? = some (.cells cur t fr) ∧ t ≠ 79
theorem NoMac.same {w w' : World} {fp : List Nat} (h : NoMac w fp) (hb : ∀ b ∈ fp, b < w.heap.size → w'.heap[b]? = w.heap[b]?) : NoMac w' fp := fun b hb' => by
 obtain ⟨cur, t, fr, h1, h2⟩ := h b hb'
 exact ⟨cur, t, fr, (hb b hb' (Array.getElem?_eq_some_iff.1 h1).1).trans h1, h2⟩
theorem NoMac.below {w w' : World} {fp : List Nat} (h : NoMac w fp) (hb : Below w.heap.size w w') : NoMac w' fp := h.same fun b _ hl => hb.block b hl
def TokTy (w : World) (fp : List Nat) : Prop := ∀ b ∈ fp, ∃ cur t fr, w.heap[b]? = some (.cells cur t fr) ∧ (t = 47 ∨ t = 9)
theorem TokTy.same {w w' : World} {fp : List Nat} (h : TokTy w fp) (hb : ∀ b ∈ fp, b < w.heap.size → w'.heap[b]? = w.heap[b]?) : TokTy w' fp := fun b hb' => by
 obtain ⟨cur, t, fr, h1, h2⟩ := h b hb'
 exact ⟨cur, t, fr, (hb b hb' (Array.getElem?_eq_some_iff.1 h1).1).trans h1, h2⟩
theorem TokTy.below {w w' : World} {fp : List Nat} (h : TokTy w fp) (hb : Below w.heap.size w w') : TokTy w' fp := h.same fun b _ hl => hb.block b hl
theorem TokTy.mac {w : World} {fp : List Nat} (h : TokTy w fp) : NoMac w fp := fun b hb => by
 obtain ⟨cur, t, fr, h1, h2⟩ := h b hb
 refine ⟨cur, t, fr, h1, ?_⟩
 rcases h2 with rfl | rfl <;> decide
def OwnToksS (l : List Tok) (w : World) (e : Ending) (w' : World) : Prop := ∃ v fp, e = .returned v ∧ (sSlice sTok).R w' [v] l fp ∧ (∀ b ∈ fp, w.heap.size ≤ b) ∧ TokTy w' fp ∧ Below w.heap.size w w'
set_option maxHeartbeats 4000000 in
set_option maxRecDepth 100000 in
theorem spec_l1OwnTokenList_s (v : Value) (l : List Tok) (fp : List Nat) (w : World) (hl : l.length ≤ 1048576) (hx : ∀ k, (hk : k < l.length) → l[k].hidden.length ≤ 2000000) (H : (sSlice sTok).R w [v] l fp) :
  Calls Tryd.prog 39 #[v] w (OwnToksS l w) := by
 obtain ⟨a, cap, rfl, hc, hm, hrow⟩ := open_rows H
 unfold maxLen at hm
 clear H
 have HX := Lib.hid hx
 clear hx
 have hlit : Hid (RowE sTok w.heap.size 47 (.slice (some ⟨w.heap.size, 0, none⟩) 0 0) [] (w.alloc (.cells #[] 47))) := RowE.lit [] (by simp) (by simp) (by simp) (by simp) (Nat.le_refl _) (by simp)
 have hba := alloc_below' w (.cells #[] 47)
 go_enter Tryd.func39, Tryd.ntmps39
 go_wp2
 go_loopw [3, 4] (fun o i wr => ∃ (k : Nat) (L : List (Elem Tok)), k ≤ l.length ∧ i = .int .i64 k ∧ Hid (RowE sTok w.heap.size 47 o L wr) ∧ Hid (L.map (·.d) = l.take k) ∧ Hid (∀ x ∈ L, TokTy wr x.fp) ∧ Below w.heap.size w wr) (fun _ i _ => l.length - (intOf i).toNat)
 case atStart => exact ⟨0, [], by omega, rfl, hlit, rfl, (show ∀ x ∈ ([] : List (Elem Tok)), TokTy _ x.fp from by simp), hba⟩
 case round =>
  clear hlit hba
  obtain ⟨k, L, hk, rfl, HE, HD, HN, hb⟩ := hrel
  by_cases hlt : k < l.length
  ·obtain ⟨b1, off1, fps1, rfl, hb1, -, he1⟩ := hrow (by omega)
   obtain ⟨es1, hE1, hR1⟩ := he1 k hlt
   clear hrow he1
   have hR2 := sTok.below hR1 hb
   obtain ⟨h1', rfl, _, _, _⟩ := hR1
   have HC := Lib.hid (spec_l1OwnToken _ _ _ wr (HX.out k hlt) hR2)
   clear hR2
   replace hE1 := hE1.frame (hb.block b1 hb1)
   have c10 : wr.cell? ⟨b1, off1 + k * 4, none⟩ = some _ := elem_cell0 hE1 (by decide) rfl
   have c11 : wr.cell? ⟨b1, off1 + k * 4 + 1, none⟩ = some _ := elem_cell (j := 1) hE1 (by decide) rfl
   have c12 : wr.cell? ⟨b1, off1 + k * 4 + 2, none⟩ = some _ := elem_cell (j := 2) hE1 (by decide) rfl
   have c13 : wr.cell? ⟨b1, off1 + k * 4 + 3, none⟩ = some _ := elem_cell (j := 3) hE1 (by decide) rfl
   clear hE1
   have HLl : Hid (L.length = k) := by have := congrArg List.length HD.out; simp at this; show _ = _; omega
   go_wp2_with fail
   refine HC.out.mono ?_
   rintro e w2 ⟨ao, c, fp2, rfl, hR2, hlo2, hty2, hb2⟩
   obtain ⟨ar, capr, rfl, -⟩ := HE.out.val
   have hE2 := HE.out.below hb2
   have hty2' : ∀ b ∈ fp2, ∃ cur t fr, w2.heap[b]? = some (.cells cur t fr) ∧ t ≠ 47 := fun b hb => by obtain ⟨cur, t, fr, h1, h2⟩ := hty2 b hb; exact ⟨cur, t, fr, h1, by rw [h2]; decide⟩
   have HN2 : Hid (∀ x ∈ L ++ [(⟨[.int .i64 l[k].kind, .string l[k].text, .bool l[k].spaced, .slice ao l[k].hidden.length c], ⟨l[k].kind, l[k].text, l[k].spaced, l[k].hidden⟩, fp2⟩ : Elem Tok)], TokTy w2 x.fp) := fun x hx => by
    rcases List.mem_append.1 hx with hx | hx
    ·exact (HN.out x hx).below hb2
    ·obtain rfl := List.mem_singleton.1 hx
     intro b hb
     obtain ⟨cur, t, fr, h1, h2⟩ := hty2 b hb
     exact ⟨cur, t, fr, h1, .inr h2⟩
   have hbw := hb.trans (hb2.mono hb.size)
   have hlo3 : ∀ b ∈ fp2, w.heap.size ≤ b := fun b hx => Nat.le_trans hb.size (hlo2 b hx)
   clear c10 c11 c12 c13 HC HE
   go_wp2_with (at_builtin; refine wp_append_tokE rfl (.tmp 12) (.tmp 18) rfl w.heap.size (.slice ar L.length capr) L rfl hE2 l[k].kind l[k].text l[k].spaced ao l[k].hidden.length c l[k].hidden fp2 rfl hR2 hlo3 hty2' (by have := HLl.out; omega) hbw.size ?_; intro v3 w3 hE3 hg3)
   have hb3 : Below w.heap.size w w3 := hbw.grown hg3 hbw.size (fun b hb => (hE2.row.lt b hb).1)
   have HE3 := Lib.hid hE3
   have HN3 : Hid (∀ x ∈ L ++ [(⟨[.int .i64 l[k].kind, .string l[k].text, .bool l[k].spaced, .slice ao l[k].hidden.length c], ⟨l[k].kind, l[k].text, l[k].spaced, l[k].hidden⟩, fp2⟩ : Elem Tok)], TokTy w3 x.fp) := fun x hx => (HN2.out x hx).same fun b hb hl => hg3.block b hl (by
    rcases List.mem_append.1 hx with hx | hx
    ·exact fun e => hE2.ap hx hb e.symm
    ·obtain rfl := List.mem_singleton.1 hx
     intro e
     obtain ⟨cur, t, fr, h1, h2⟩ := hty2' b hb
     obtain ⟨g, capg, curg, q1, q2, q3, -⟩ : ∃ g capg curg, Value.slice ar L.length capr = .slice (some ⟨g, 0, none⟩) L.length capg ∧ w.heap.size ≤ g ∧ w2.heap[g]? = some (.cells curg 47 (0, 0)) ∧ True := by
      rcases hE2.row.2 with ⟨h0, _⟩ | ⟨g, capg, curg, q1, q2, q3, -⟩
      ·rw [h0] at e; simp [Value.ownBlock] at e
      ·exact ⟨g, capg, curg, q1, q2, q3, trivial⟩
     rw [q1] at e
     simp only [Value.ownBlock, Option.some.injEq] at e
     subst e
     rw [h1] at q3
     simp only [Option.some.injEq, Obj.cells.injEq] at q3
     exact h2 q3.2.1)
   have HD3 : Hid ((L ++ [(⟨[.int .i64 l[k].kind, .string l[k].text, .bool l[k].spaced, .slice ao l[k].hidden.length c], ⟨l[k].kind, l[k].text, l[k].spaced, l[k].hidden⟩, fp2⟩ : Elem Tok)]).map (·.d) = l.take (k + 1)) := by
    show _ = _
    rw [List.map_append, HD.out, List.take_succ_eq_append_getElem hlt]; rfl
   clear hE2 hE3 hg3 hR2 hty2 hty2' hlo2 hlo3 hb2 HN2 HN
   go_roundw
   case rel => exact ⟨k + 1, _, by omega, by go_num, HE3, HD3, HN3, hb3⟩
   case measure => simp [intOf]; omega
  ·obtain ⟨fpr, hr, hin, -⟩ := slice_of_row HE.out.row fun x hx => ⟨HE.out.len x hx, HE.out.el x hx⟩
   have HLO : Hid (∀ b ∈ fpr, w.heap.size ≤ b) := fun b hb => by
    rcases hin b hb with h | h
    ·exact HE.out.mine b h
    ·obtain ⟨x, hx, hb'⟩ := List.mem_flatMap.1 h
     exact HE.out.lo x hx b hb'
   have HNM : Hid (TokTy wr fpr) := fun b hb => by
    rcases hin b hb with h | h
    ·rcases HE.out.row.2 with ⟨h0, _⟩ | ⟨g, capg, curg, q1, q2, q3, -⟩
     ·rw [h0] at h; simp [Value.ownBlock] at h
     ·rw [q1] at h
      simp only [Value.ownBlock, Option.some.injEq] at h
      subst h
      exact ⟨_, _, _, q3, .inl rfl⟩
    ·obtain ⟨x, hx, hb'⟩ := List.mem_flatMap.1 h
     exact HN.out x hx b hb'
   clear hin
   have hd := HD.out
   rw [List.take_of_length_le (by omega)] at hd
   rw [hd] at hr
   have HR := Lib.hid hr
   clear hr hd HE HD HN
   go_wp2
   go_ret
   exact ⟨_, fpr, rfl, HR.out, HLO.out, HNM.out, hb⟩
def OwnToksT (l : List Tok) (w : World) (e : Ending) (w' : World) : Prop := ∃ v fp, e = .returned v ∧ (sSlice sTok).R w' [v] l fp ∧ (∀ b ∈ fp, w.heap.size ≤ b) ∧ NoMac w' fp ∧ Below w.heap.size w w'
theorem spec_l1OwnTokenList_t (v : Value) (l : List Tok) (fp : List Nat) (w : World) (hl : l.length ≤ 1048576) (hx : ∀ k, (hk : k < l.length) → l[k].hidden.length ≤ 2000000) (H : (sSlice sTok).R w [v] l fp) :
  Calls Tryd.prog 39 #[v] w (OwnToksT l w) := (spec_l1OwnTokenList_s v l fp w hl hx H).mono fun _ _ ⟨v, fp, h1, h2, h3, h4, h5⟩ => ⟨v, fp, h1, h2, h3, h4.mac, h5⟩
theorem spec_l1OwnTokenList (v : Value) (l : List Tok) (fp : List Nat) (w : World) (hl : l.length ≤ 1048576) (hx : ∀ k, (hk : k < l.length) → l[k].hidden.length ≤ 2000000) (H : (sSlice sTok).R w [v] l fp) :
  Calls Tryd.prog 39 #[v] w (OwnToks l w) := (spec_l1OwnTokenList_t v l fp w hl hx H).mono fun _ _ ⟨v, fp, h1, h2, _, _, h3⟩ => ⟨v, fp, h1, h2, h3⟩

end Go.Proofs.YtlegeancmcmbaaaDoor

/- The text of a macro is read as the macro again: no program. -/
namespace Go.Proofs.YtlegeancmcmbaaaDoor
open Go.RowKit

/-! ### Tokens that need no space between them -/
def markT (c : UInt8) : Tok := ⟨4, ⟨#[c]⟩, false, []⟩
def nameT (s : ByteArray) : Tok := ⟨1, s, false, []⟩
theorem nameT_ok {s : ByteArray} (h : oneTok s 1 = true) : tokOk (nameT s) = true := by
 unfold tokOk nameT
 rw [Bool.and_eq_true]
 exact ⟨h, by show hidOk [] = true; decide⟩
/-! ### Printing token by token -/
/-! ### The tokens of a macro's text -/
def hL (m : DMacro) : Nat → List Tok
 | 0 => [nameT m.name, markT 40]
 | k + 1 => (if 0 < k then hL m k ++ [markT 44] else hL m k) ++ [nameT (if h : k < m.params.length then m.params[k] else ⟨#[]⟩)]
/-! ### Reading it -/
theorem bodyFrom_len (l : List Tok) (k : Nat) : (bodyFrom l k).length = l.length - k := by simp [bodyFrom]
theorem bodyFrom_get (l : List Tok) (k i : Nat) (h : i < (bodyFrom l k).length) : (bodyFrom l k)[i] = ⟨(l[k + i]'(by rw [bodyFrom_len] at h; omega)).kind, (l[k + i]'(by rw [bodyFrom_len] at h; omega)).text, (l[k + i]'(by rw [bodyFrom_len] at h; omega)).spaced && decide (0 < i), []⟩ := by simp [bodyFrom]
/-! ### What the other promises ask -/
end Go.Proofs.YtlegeancmcmbaaaDoor

/- Valid macros, part by part, as both sides ask for them: no program. -/
namespace Go.Proofs.YtlegeancmcmbaaaDoor
open Go.RowKit

theorem txt_dec (x : ByteArray) (l : List UInt8) : (x.toList == l) = decide (x = ⟨l.toArray⟩) := by
 rw [ByteArray.toList_eq]
 by_cases h : x = ⟨l.toArray⟩
 ·subst h; simp
 ·rw [decide_eq_false h, beq_eq_false_iff_ne]
  intro e
  apply h
  rw [← e]
theorem txt_t {x : ByteArray} {l : List UInt8} (h : x = ⟨l.toArray⟩) : (x.toList == l) = true := by rw [txt_dec, decide_eq_true h]
theorem txt_f {x : ByteArray} {l : List UInt8} (h : x ≠ ⟨l.toArray⟩) : (x.toList == l) = false := by rw [txt_dec, decide_eq_false h]

/-! ### Parameters -/
def ParUpto (ps : List ByteArray) (k : Nat) : Prop := ∀ j, j < k → parOk ps j = true
theorem ParUpto.zero (ps : List ByteArray) : ParUpto ps 0 := by intro j h; omega
theorem ParUpto.succ {ps : List ByteArray} {k : Nat} (h : ParUpto ps k) (h1 : parOk ps k = true) : ParUpto ps (k + 1) := by
 intro j hj
 by_cases e : j = k
 ·subst e; exact h1
 ·exact h j (by omega)
def NotUpto (ps : List ByteArray) (x : ByteArray) (j : Nat) : Prop := ∀ i, i < j → ps[i]? ≠ some x
theorem NotUpto.zero (ps : List ByteArray) (x : ByteArray) : NotUpto ps x 0 := by intro i h; omega
theorem NotUpto.succ {ps : List ByteArray} {x : ByteArray} {j : Nat} (h : NotUpto ps x j) (hj : j < ps.length) (hn : ps[j] ≠ x) : NotUpto ps x (j + 1) := by
 intro i hi
 by_cases e : i = j
 ·subst e; rw [List.getElem?_eq_getElem hj]; intro h'; exact hn (Option.some.inj h')
 ·exact h i (by omega)
theorem par_name {ps : List ByteArray} {k : Nat} (hk : k < ps.length) (h : oneTok ps[k] 1 = false) : parOk ps k = false := by unfold parOk; rw [dif_pos hk, h]; rfl
theorem par_twice {ps : List ByteArray} {k j : Nat} (hk : k < ps.length) (hj : j < k) (h : ps[j]'(by omega) = ps[k]) : parOk ps k = false := by
 unfold parOk
 rw [dif_pos hk]
 have : (List.range k).all (fun j => !decide (ps[j]? = some ps[k])) = false := by
  rw [List.all_eq_false]
  exact ⟨j, by simpa using hj, by simp [List.getElem?_eq_getElem (show j < ps.length by omega), h]⟩
 rw [this, Bool.and_false]
theorem par_yes {ps : List ByteArray} {k : Nat} (hk : k < ps.length) (h : oneTok ps[k] 1 = true) (hn : NotUpto ps ps[k] k) : parOk ps k = true := by
 unfold parOk
 rw [dif_pos hk, h, Bool.true_and, List.all_eq_true]
 intro j hj
 have := hn j (by simpa using hj)
 simp [this]

/-! ### The body -/
def bodI (b : List Tok) (k : Nat) : Bool :=
 if h : k < b.length then
  decide (b[k].hidden.length = 0) && !(decide (k = 0) && b[k].spaced) && !(decide (b[k].text = hash2) && (decide (k = 0) || decide (k + 1 = b.length) || decide ((b[k - 1]'(by omega)).text = hash2)))
 else true
def hasTx (ps : List ByteArray) (x : ByteArray) : Bool := ps.any fun p => decide (p = x)
theorem hasTx_iff {ps : List ByteArray} {x : ByteArray} : hasTx ps x = true ↔ x ∈ ps := by
 unfold hasTx
 rw [List.any_eq_true]
 exact ⟨fun ⟨p, h1, h2⟩ => by rw [← of_decide_eq_true h2]; exact h1, fun h => ⟨x, h, by simp⟩⟩
def signS (m : DMacro) (k : Nat) : Bool := if h : k < m.body.length then !(decide (m.body[k].text = hash1) && (if h2 : k + 1 < m.body.length then decide (parOf m.params m.body[k + 1] < 0) else true)) else true
def signI (m : DMacro) (k : Nat) : Bool := if h : k < m.body.length then !(decide (m.body[k].text = hash1) && (if h2 : k + 1 < m.body.length then !hasTx m.params m.body[k + 1].text else true)) else true
theorem bodOk_split (m : DMacro) (k : Nat) (hk : k < m.body.length) : bodOk m k = (tokOk m.body[k] && bodI m.body k && (!m.function || signS m k)) := by
 unfold bodOk bodI signS
 rw [dif_pos hk, dif_pos hk, dif_pos hk]
 cases tokOk m.body[k] <;> cases decide (m.body[k].hidden.length = 0) <;> cases (decide (k = 0) && m.body[k].spaced) <;> cases m.function <;> simp
theorem bodI_ways {b : List Tok} {k : Nat} (hk : k < b.length) :
  (b[k].hidden.length ≠ 0 ∧ Hid (bodI b k = false)) ∨
  (b[k].hidden.length = 0 ∧ k = 0 ∧ b[k].spaced = true ∧ Hid (bodI b k = false)) ∨
  (b[k].hidden.length = 0 ∧ k = 0 ∧ b[k].spaced = false ∧ b[k].text = hash2 ∧ Hid (bodI b k = false)) ∨
  (b[k].hidden.length = 0 ∧ k = 0 ∧ b[k].spaced = false ∧ b[k].text ≠ hash2 ∧ Hid (bodI b k = true)) ∨
  (b[k].hidden.length = 0 ∧ k ≠ 0 ∧ b[k].text = hash2 ∧ k + 1 = b.length ∧ Hid (bodI b k = false)) ∨
  (b[k].hidden.length = 0 ∧ k ≠ 0 ∧ b[k].text = hash2 ∧ k + 1 ≠ b.length ∧ (b[k - 1]'(by omega)).text = hash2 ∧ Hid (bodI b k = false)) ∨
  (b[k].hidden.length = 0 ∧ k ≠ 0 ∧ b[k].text = hash2 ∧ k + 1 ≠ b.length ∧ (b[k - 1]'(by omega)).text ≠ hash2 ∧ Hid (bodI b k = true)) ∨
  (b[k].hidden.length = 0 ∧ k ≠ 0 ∧ b[k].text ≠ hash2 ∧ Hid (bodI b k = true)) := by
 have e : bodI b k = (decide (b[k].hidden.length = 0) && !(decide (k = 0) && b[k].spaced) && !(decide (b[k].text = hash2) && (decide (k = 0) || decide (k + 1 = b.length) || decide ((b[k - 1]'(by omega)).text = hash2)))) := by
  unfold bodI; rw [dif_pos hk]
 by_cases h1 : b[k].hidden.length = 0
 ·by_cases h2 : k = 0
  ·subst h2
   cases h3 : b[0].spaced
   ·by_cases h4 : b[0].text = hash2
    ·exact .inr (.inr (.inl ⟨h1, rfl, rfl, h4, by show _ = _; rw [e, h3, decide_eq_true h4]; simp⟩))
    ·exact .inr (.inr (.inr (.inl ⟨h1, rfl, rfl, h4, by show _ = _; rw [e, h3, decide_eq_true h1, decide_eq_false h4]; simp⟩)))
   ·exact .inr (.inl ⟨h1, rfl, rfl, by show _ = _; rw [e, h3]; simp⟩)
  ·by_cases h4 : b[k].text = hash2
   ·by_cases h5 : k + 1 = b.length
    ·exact .inr (.inr (.inr (.inr (.inl ⟨h1, h2, h4, h5, by show _ = _; rw [e]; simp [h4, h5]⟩))))
    ·by_cases h6 : (b[k - 1]'(by omega)).text = hash2
     ·exact .inr (.inr (.inr (.inr (.inr (.inl ⟨h1, h2, h4, h5, h6, by show _ = _; rw [e]; simp [h4, h6]⟩)))))
     ·exact .inr (.inr (.inr (.inr (.inr (.inr (.inl ⟨h1, h2, h4, h5, h6, by show _ = _; rw [e]; simp [h1, h2, h5, h6]⟩))))))
   ·exact .inr (.inr (.inr (.inr (.inr (.inr (.inr ⟨h1, h2, h4, by show _ = _; rw [e]; simp [h1, h2, h4]⟩))))))
 ·exact .inl ⟨h1, by show _ = _; rw [e]; simp [h1]⟩
def BodUpto (p : Nat → Bool) (k : Nat) : Prop := ∀ j, j < k → p j = true
theorem BodUpto.zero (p : Nat → Bool) : BodUpto p 0 := by intro j h; omega
theorem BodUpto.succ {p : Nat → Bool} {k : Nat} (h : BodUpto p k) (h1 : p k = true) : BodUpto p (k + 1) := by
 intro j hj
 by_cases e : j = k
 ·subst e; exact h1
 ·exact h j (by omega)
theorem range_no {p : Nat → Bool} {n k : Nat} (hk : k < n) (h : p k = false) : (List.range n).all p = false := by
 rw [List.all_eq_false]; exact ⟨k, by simpa using hk, by simp [h]⟩
theorem range_yes {p : Nat → Bool} {n : Nat} (h : ∀ j, j < n → p j = true) : (List.range n).all p = true := by
 rw [List.all_eq_true]; intro j hj; exact h j (by simpa using hj)

theorem signS_other {m : DMacro} {k : Nat} (hk : k < m.body.length) (h : m.body[k].text ≠ hash1) : signS m k = true := by unfold signS; rw [dif_pos hk, decide_eq_false h]; rfl
theorem signS_last {m : DMacro} {k : Nat} (hk : k < m.body.length) (h : m.body[k].text = hash1) (hl : k + 1 = m.body.length) : signS m k = false := by unfold signS; rw [dif_pos hk, decide_eq_true h, dif_neg (by omega)]; rfl
theorem signS_no {m : DMacro} {k : Nat} (hk : k + 1 < m.body.length) (h : (m.body[k]'(by omega)).text = hash1) (hp : parOf m.params m.body[k + 1] < 0) : signS m k = false := by unfold signS; rw [dif_pos (by omega), decide_eq_true h, dif_pos hk, decide_eq_true hp]; rfl
theorem signS_yes {m : DMacro} {k : Nat} (hk : k + 1 < m.body.length) (h : (m.body[k]'(by omega)).text = hash1) (hp : ¬ parOf m.params m.body[k + 1] < 0) : signS m k = true := by unfold signS; rw [dif_pos (by omega), decide_eq_true h, dif_pos hk, decide_eq_false hp]; rfl

/-! ### Macros of the model -/
theorem macOk_head {m : DMacro} (h : macHead m = false) : macOk m = false := by unfold macOk; rw [h]; rfl
theorem macOk_par {m : DMacro} {k : Nat} (hk : k < m.params.length) (h : parOk m.params k = false) : macOk m = false := by unfold macOk; rw [range_no hk h]; simp
theorem macOk_bod {m : DMacro} {k : Nat} (hk : k < m.body.length) (h : bodOk m k = false) : macOk m = false := by unfold macOk; rw [range_no hk h]; simp
theorem macOk_yes {m : DMacro} (h : macHead m = true) (h1 : ParUpto m.params m.params.length) (h2 : BodUpto (bodOk m) m.body.length) : macOk m = true := by unfold macOk; rw [h, range_yes h1, range_yes h2]; rfl
theorem head_ways (m : DMacro) :
  (oneTok m.name 1 = false ∧ Hid (macOk m = false)) ∨
  (oneTok m.name 1 = true ∧ m.name = definedB ∧ Hid (macOk m = false)) ∨
  (oneTok m.name 1 = true ∧ m.name ≠ definedB ∧ 4 < m.params.length ∧ Hid (macOk m = false)) ∨
  (oneTok m.name 1 = true ∧ m.name ≠ definedB ∧ m.params.length ≤ 4 ∧ m.function = false ∧ 0 < m.params.length ∧ Hid (macOk m = false)) ∨
  (oneTok m.name 1 = true ∧ m.name ≠ definedB ∧ m.params.length ≤ 4 ∧ (m.function = true ∨ m.params.length = 0) ∧ 20 < m.body.length ∧ Hid (macOk m = false)) ∨
  (oneTok m.name 1 = true ∧ m.name ≠ definedB ∧ m.params.length ≤ 4 ∧ (m.function = true ∨ m.params.length = 0) ∧ m.body.length ≤ 20 ∧ Hid (macHead m = true)) := by
 have hd : macHead m = (oneTok m.name 1 && !decide (m.name = definedB) && decide (m.params.length ≤ 4) && (m.function || decide (m.params.length = 0)) && decide (m.body.length ≤ 20)) := rfl
 cases h1 : oneTok m.name 1
 ·exact .inl ⟨rfl, macOk_head (by rw [hd, h1]; rfl)⟩
 by_cases h2 : m.name = definedB
 ·exact .inr (.inl ⟨rfl, h2, macOk_head (by rw [hd, h1]; simp [h2])⟩)
 by_cases h3 : m.params.length ≤ 4
 ·cases h4 : m.function
  ·by_cases h5 : m.params.length = 0
   ·by_cases h6 : m.body.length ≤ 20
    ·exact .inr (.inr (.inr (.inr (.inr ⟨rfl, h2, h3, .inr h5, h6, by show _ = _; rw [hd, h1]; simp [h2, h5, h6]⟩))))
    ·exact .inr (.inr (.inr (.inr (.inl ⟨rfl, h2, h3, .inr h5, by omega, macOk_head (by rw [hd]; simp [h6])⟩))))
   ·exact .inr (.inr (.inr (.inl ⟨rfl, h2, h3, rfl, by omega, macOk_head (by rw [hd, h4]; simp [h5])⟩)))
  ·by_cases h6 : m.body.length ≤ 20
   ·exact .inr (.inr (.inr (.inr (.inr ⟨rfl, h2, h3, .inl rfl, h6, by show _ = _; rw [hd, h1, h4]; simp [h2, h3, h6]⟩))))
   ·exact .inr (.inr (.inr (.inr (.inl ⟨rfl, h2, h3, .inl rfl, by omega, macOk_head (by rw [hd]; simp [h6])⟩))))
 ·exact .inr (.inr (.inl ⟨rfl, h2, by omega, macOk_head (by rw [hd]; simp [h3])⟩))

/-! ### Macros of the program -/
def parsOk (ps : List ByteArray) : Bool := decide (ps.length ≤ 4) && (List.range ps.length).all (parOk ps)
def bodyOkI (b : List Tok) : Bool := decide (b.length ≤ 20) && toksOk b && (List.range b.length).all (bodI b)
def signsOk (m : DMacro) : Bool := (List.range m.body.length).all (signI m)
theorem one_kind {x : ByteArray} {k k' : Int} (h : oneTok x k = true) (h' : oneTok x k' = true) : k = k' := by
 rcases one_ways x k with ⟨_, H⟩ | ⟨_, _, _, H⟩ | ⟨_, _, _, H⟩ | ⟨_, _, _, _, H⟩ | ⟨t, hr, hk, _, _, _⟩
 ·exact absurd (H.out.symm.trans h) (by simp)
 ·exact absurd (H.out.symm.trans h) (by simp)
 ·exact absurd (H.out.symm.trans h) (by simp)
 ·exact absurd (H.out.symm.trans h) (by simp)
 ·unfold oneTok at h'
  rw [hr] at h'
  simp at h'
  rw [← hk, ← h'.1]
theorem parFrom_neg {ps : List ByteArray} {t : Tok} (hk : t.kind = 1) (k : Nat) : parFrom ps t k < 0 ↔ t.text ∉ ps.drop k := by
 induction k using parFrom.induct (ps := ps) (t := t) with
 |
  case1 k h hc =>
  rw [parFrom, dif_pos h, if_pos hc, List.drop_eq_getElem_cons h]
  simp [hc.2]
 |
  case2 k h hc ih =>
  rw [parFrom, dif_pos h, if_neg hc, ih, List.drop_eq_getElem_cons h]
  have hn : ¬ t.text = ps[k] := fun e => hc ⟨hk, e.symm⟩
  rw [List.mem_cons, not_or]
  exact ⟨fun h => ⟨hn, h⟩, fun h => h.2⟩
 | case3 k h => rw [parFrom, dif_neg h, List.drop_eq_nil_iff.2 (by omega)]; simp
theorem parFrom_kind {ps : List ByteArray} {t : Tok} (hk : t.kind ≠ 1) (k : Nat) : parFrom ps t k < 0 := by
 induction k using parFrom.induct (ps := ps) (t := t) with
 | case1 k h hc => exact absurd hc.1 hk
 | case2 k h hc ih => rw [parFrom, dif_pos h, if_neg hc]; exact ih
 | case3 k h => rw [parFrom, dif_neg h]; omega
theorem sign_same {m : DMacro} (hp : ∀ k, (hk : k < m.params.length) → oneTok m.params[k] 1 = true) (hb : ∀ k, (hk : k < m.body.length) → tokOk m.body[k] = true) (k : Nat) : signI m k = signS m k := by
 unfold signI signS
 by_cases h : k < m.body.length
 ·rw [dif_pos h, dif_pos h]
  by_cases h2 : k + 1 < m.body.length
  ·rw [dif_pos h2, dif_pos h2]
   have e : (!hasTx m.params m.body[k + 1].text) = decide (parOf m.params m.body[k + 1] < 0) := by
    by_cases hk : m.body[k + 1].kind = 1
    ·have := parFrom_neg (ps := m.params) hk 0
     rw [List.drop_zero] at this
     unfold parOf
     by_cases hm : m.body[k + 1].text ∈ m.params
     ·have h3 : ¬ parFrom m.params m.body[k + 1] 0 < 0 := fun h => this.1 h hm
      rw [hasTx_iff.2 hm, decide_eq_false h3]; rfl
     ·have h4 : hasTx m.params m.body[k + 1].text = false := by
       cases h : hasTx m.params m.body[k + 1].text
       ·rfl
       ·exact absurd (hasTx_iff.1 h) hm
      rw [h4, decide_eq_true (this.2 hm)]; rfl
    ·have h3 := parFrom_kind (ps := m.params) hk 0
     have hm : m.body[k + 1].text ∉ m.params := fun hm => by
      obtain ⟨i, hi, he⟩ := List.getElem_of_mem hm
      have h4 := hp i hi
      rw [he] at h4
      have h5 := hb (k + 1) h2
      unfold tokOk at h5
      rw [Bool.and_eq_true] at h5
      exact hk (one_kind h5.1 h4)
     have h4 : hasTx m.params m.body[k + 1].text = false := by
      cases h : hasTx m.params m.body[k + 1].text
      ·rfl
      ·exact absurd (hasTx_iff.1 h) hm
     unfold parOf
     rw [h4, decide_eq_true h3]; rfl
   rw [e]
  ·rw [dif_neg h2, dif_neg h2]
 ·rw [dif_neg h, dif_neg h]
theorem all_and (n : Nat) (p q : Nat → Bool) : (List.range n).all (fun k => p k && q k) = ((List.range n).all p && (List.range n).all q) := by
 induction n with
 | zero => rfl
 |
  succ n ih =>
  simp only [List.range_succ, List.all_append, ih, List.all_cons, List.all_nil, Bool.and_true]
  cases (List.range n).all p <;> cases (List.range n).all q <;> cases p n <;> cases q n <;> rfl
theorem all_ext {n : Nat} {p q : Nat → Bool} (h : ∀ k, k < n → p k = q k) : (List.range n).all p = (List.range n).all q := by
 cases hq : (List.range n).all q
 ·rw [List.all_eq_false] at hq
  obtain ⟨k, hk, h2⟩ := hq
  have hk' : k < n := by simpa using hk
  exact range_no hk' (by rw [h k hk']; simpa using h2)
 ·rw [List.all_eq_true] at hq
  exact range_yes fun j hj => by rw [h j hj]; exact hq j (by simpa using hj)
theorem toks_range {b : List Tok} (h : b.length ≤ 20) : toksOk b = (List.range b.length).all (fun k => if h : k < b.length then tokOk b[k] else true) := by
 unfold toksOk
 rw [decide_eq_true (by omega : b.length ≤ 60), Bool.true_and]
 cases hr : (List.range b.length).all (fun k => if h : k < b.length then tokOk b[k] else true)
 ·rw [List.all_eq_false] at hr ⊢
  obtain ⟨k, hk, h2⟩ := hr
  have hk' : k < b.length := by simpa using hk
  rw [dif_pos hk'] at h2
  exact ⟨b[k], List.getElem_mem hk', h2⟩
 ·rw [List.all_eq_true] at hr ⊢
  intro t ht
  obtain ⟨i, hi, rfl⟩ := List.getElem_of_mem ht
  have := hr i (by simpa using hi)
  rw [dif_pos hi] at this
  exact this
theorem mac_impl (m : DMacro) : macOk m = (oneTok m.name 1 && !decide (m.name = definedB) && (if m.function = true then parsOk m.params && bodyOkI m.body && signsOk m else decide (m.params.length = 0) && bodyOkI m.body)) := by
 have hd : macHead m = (oneTok m.name 1 && !decide (m.name = definedB) && decide (m.params.length ≤ 4) && (m.function || decide (m.params.length = 0)) && decide (m.body.length ≤ 20)) := rfl
 have hB : m.body.length ≤ 20 → (List.range m.body.length).all (bodOk m) = (toksOk m.body && (List.range m.body.length).all (bodI m.body) && (List.range m.body.length).all (fun k => !m.function || signS m k)) := by
  intro hl
  rw [toks_range hl, ← all_and, ← all_and]
  exact all_ext fun k hk => by rw [dif_pos hk]; exact bodOk_split m k hk
 unfold macOk
 rw [hd]
 by_cases hl : m.body.length ≤ 20
 ·rw [hB hl, decide_eq_true hl]
  cases hf : m.function
  ·rw [if_neg (by simp)]
   have e1 : (List.range m.body.length).all (fun k => !false || signS m k) = true := range_yes fun _ _ => rfl
   rw [e1]
   unfold bodyOkI
   rw [decide_eq_true hl]
   by_cases h0 : m.params.length = 0
   ·rw [h0]
    simp
   ·rw [decide_eq_false h0]; simp
  ·rw [if_pos rfl]
   unfold parsOk bodyOkI signsOk
   rw [decide_eq_true hl]
   have e1 : (List.range m.body.length).all (fun k => !true || signS m k) = (List.range m.body.length).all (signS m) := all_ext fun _ _ => by simp
   rw [e1]
   cases hp : (List.range m.params.length).all (parOk m.params)
   ·simp
   cases ht : toksOk m.body
   ·simp
   have e2 : (List.range m.body.length).all (signI m) = (List.range m.body.length).all (signS m) := all_ext fun k _ => by
    refine sign_same (fun k hk => ?_) (fun k hk => ?_) k
    ·rw [List.all_eq_true] at hp
     have := hp k (by simpa using hk)
     unfold parOk at this
     rw [dif_pos hk, Bool.and_eq_true] at this
     exact this.1
    ·rw [toks_range hl, List.all_eq_true] at ht
     have := ht k (by simpa using hk)
     rw [dif_pos hk] at this
     exact this
   rw [e2]
   simp only [Bool.true_or, Bool.and_true, Bool.true_and, Bool.and_assoc]
 ·have e1 : bodyOkI m.body = false := by unfold bodyOkI; rw [decide_eq_false hl]; rfl
  rw [decide_eq_false hl, e1]
  simp

end Go.Proofs.YtlegeancmcmbaaaDoor

/- Parameters as they are read: the model. -/
namespace Go.Proofs.YtlegeancmcmbaaaDoor
open Go.RowKit

def parRes (l : List Tok) : List ByteArray × Int := match parsOf l with | some p => (p.1, (p.2 : Int)) | none => ([], -1)
theorem parRes_some {l : List Tok} {p : List ByteArray × Nat} (h : parsOf l = some p) : parRes l = (p.1, (p.2 : Int)) := by unfold parRes; rw [h]
theorem parRes_none {l : List Tok} (h : parsOf l = none) : parRes l = ([], -1) := by unfold parRes; rw [h]
def PMade (l : List Tok) (w : World) (e : Ending) (w' : World) : Prop :=
 ∃ (pv : Value) (fp : List Nat), e = .returned (.tuple #[pv, .int .i64 (parRes l).2]) ∧ (sSlice sStr).R w' [pv] (parRes l).1 fp ∧ Own w' w.heap.size fp ∧ Below w.heap.size w w'
theorem pm_none {l : List Tok} {w w1 : World} (h : parsOf l = none) (hb : Below w.heap.size w w1) : PMade l w (.returned (.tuple #[.slice (some ⟨w1.heap.size, 0, none⟩) 0 0, .int .i64 (-1)])) (w1.alloc (.cells #[] 9)) :=
 ⟨_, [], by rw [parRes_none h], by rw [parRes_none h]; exact slice_empty sStr _ _ _ (by simp), Own.nil _ _, hb.trans ((alloc_below' w1 _).mono hb.size)⟩
theorem pm_some {l : List Tok} {w w1 : World} {v : Value} {L : List ByteArray} {n : Int} {p : List ByteArray × Nat} (h : parsOf l = some p) (h1 : p.1 = L) (h2 : (p.2 : Int) = n) (hb : Below w.heap.size w w1) (ho : w1.ownsRow w.heap.size 9 1 v L.length (L.map Value.string))
  (hs : ∀ i, (hi : i < L.length) → L[i].size ≤ maxLen) : PMade l w (.returned (.tuple #[v, .int .i64 n])) w1 := by
 obtain ⟨fp, h3, h4, _⟩ := own_flat (ok := okStr) ho hs
 exact ⟨v, fp, by rw [parRes_some h, h2], by rw [parRes_some h]; show (sSlice sStr).R w1 [v] p.1 fp; rw [h1]; exact h3, h4, hb⟩
theorem pa_kind {l : List Tok} {k : Nat} (h : k + 1 < l.length) (h1 : (l[k]'(by omega)).kind ≠ 1) : parsAt l k = none := by rw [parsAt, dif_pos h, if_neg h1]
theorem pa_close {l : List Tok} {k : Nat} (h : k + 1 < l.length) (h1 : (l[k]'(by omega)).kind = 1) (h2 : l[k + 1].text = closeB) : parsAt l k = some ([(l[k]'(by omega)).text], k + 2) := by rw [parsAt, dif_pos h, if_pos h1, if_pos h2]
theorem pa_comma {l : List Tok} {k : Nat} (h : k + 1 < l.length) (h1 : (l[k]'(by omega)).kind = 1) (h2 : l[k + 1].text ≠ closeB) (h3 : l[k + 1].text = commaB) : parsAt l k = (parsAt l (k + 2)).map (fun p => ((l[k]'(by omega)).text :: p.1, p.2)) := by rw [parsAt, dif_pos h, if_pos h1, if_neg h2, if_pos h3]
theorem pa_other {l : List Tok} {k : Nat} (h : k + 1 < l.length) (h1 : (l[k]'(by omega)).kind = 1) (h2 : l[k + 1].text ≠ closeB) (h3 : l[k + 1].text ≠ commaB) : parsAt l k = none := by rw [parsAt, dif_pos h, if_pos h1, if_neg h2, if_neg h3]
theorem pa_end {l : List Tok} {k : Nat} (h : ¬ k + 1 < l.length) : parsAt l k = none := by rw [parsAt, dif_neg h]
theorem snoc_row {w : World} {base e : Nat} {v : Value} {L : List ByteArray} {x : ByteArray} (h : w.ownsRow base e 1 v (L.length + 1) (L.map Value.string ++ [.string x])) : w.ownsRow base e 1 v (L ++ [x]).length ((L ++ [x]).map Value.string) := by
 simpa using h
theorem snoc_size {L : List ByteArray} {x : ByteArray} (h : ∀ i, (hi : i < L.length) → L[i].size ≤ maxLen) (hx : x.size ≤ maxLen) : ∀ i, (hi : i < (L ++ [x]).length) → (L ++ [x])[i].size ≤ maxLen := by
 intro i hi
 by_cases h1 : i < L.length
 ·rw [List.getElem_append_left h1]; exact h i h1
 ·have : i = L.length := by simp at hi; omega
  subst this; simp [hx]


set_option maxHeartbeats 16000000 in
set_option maxRecDepth 100000 in
theorem spec_l5Params (v : Value) (l : List Tok) (fp : List Nat) (w : World) (hl : l.length ≤ 60) (H : (sSlice sTok).R w [v] l fp) :
  Calls Tryd.prog 86 #[v] w (PMade l w) := by
 obtain ⟨a, cap, rfl, hc, hm, hrow⟩ := open_rows H
 unfold maxLen at hm
 clear H
 have hlit : Hid ((w.alloc (.cells #[] 9)).ownsRow w.heap.size 9 1 (.slice (some ⟨w.heap.size, 0, none⟩) 0 0) ([] : List ByteArray).length (([] : List ByteArray).map Value.string)) :=
  World.ownsRow_lit (base := w.heap.size) (e := 9) (size := 1) w #[] 0 (Nat.le_refl _) (by simp) rfl
 have hba := alloc_below' w (.cells #[] 9)
 have fin : (¬ ∃ h : 2 < l.length, l[2].text = closeB ∧ l[2].kind = 4) → Hid (parsOf l = (parsAt l 2).map (fun p => (([] : List ByteArray) ++ p.1, p.2))) := fun hne => by
  show _ = _
  have e : (fun p : List ByteArray × Nat => (([] : List ByteArray) ++ p.1, p.2)) = id := by funext p; simp
  rw [e, Option.map_id]
  unfold parsOf
  by_cases h2 : 2 < l.length
  ·rw [dif_pos h2, if_neg (fun h => hne ⟨h2, h⟩)]; rfl
  ·rw [dif_neg h2, pa_end (by omega)]; rfl
 by_cases h2 : 2 < l.length
 ·obtain ⟨b1, off1, fps1, rfl, hb1, hfp, he1⟩ := hrow (by omega)
  obtain ⟨es1, hE1, hR1⟩ := he1 2 h2
  obtain ⟨hh, rfl, -, -, -⟩ := hR1
  have hrow : Hid (0 < l.length → ∃ b off fps, (some ⟨b1, off1, none⟩ : Option Addr) = some ⟨b, off, none⟩ ∧ b < w.heap.size ∧ fp = b :: (List.range l.length).flatMap fps ∧ ∀ i, (hi : i < l.length) → ∃ es, ElemAt w b off sTok.m i es ∧ sTok.R w es l[i] (fps i)) := fun _ => ⟨b1, off1, fps1, rfl, hb1, hfp, he1⟩
  have hE2 := hE1.frame (hba.block b1 hb1)
  have c0 : (w.alloc (.cells #[] 9)).cell? ⟨b1, off1 + 8, none⟩ = some (.int .i64 l[2].kind) := elem_cell0 (i := 2) (m := 4) hE2 (by decide) rfl
  have c1 : (w.alloc (.cells #[] 9)).cell? ⟨b1, off1 + 8 + 1, none⟩ = some (.string l[2].text) := elem_cell (i := 2) (m := 4) (j := 1) hE2 (by decide) rfl
  have f3 : (2 : Int) < (l.length : Int) := by omega
  clear hE1 hE2 he1
  by_cases h3 : l[2].text = closeB
  ·have f1 := txt_t (l := [41]) h3
   by_cases h4 : l[2].kind = 4
   ·have f2 : (l[2].kind == 4) = true := by simp [h4]
    have HP : Hid (parsOf l = some ([], 3)) := by show _ = _; unfold parsOf; rw [dif_pos h2, if_pos ⟨h3, h4⟩]
    clear h3 h4 fin
    go_enter Tryd.func86, Tryd.ntmps86
    go_wp2
    go_ret2
    exact pm_some (p := ([], 3)) HP.out rfl rfl hba hlit.out (by simp)
   ·have f2 : (l[2].kind == 4) = false := by simp [h4]
    have HPA := fin (by rintro ⟨_, _, h⟩; exact h4 h)
    clear h3 h4 fin
    go_enter Tryd.func86, Tryd.ntmps86
    go_wp2
    go_loopw [4, 5] (fun o i wr => ∃ (k : Nat) (L : List ByteArray), k ≤ l.length + 2 ∧ L.length ≤ k ∧ i = .int .i64 k ∧ Hid (wr.ownsRow w.heap.size 9 1 o L.length (L.map Value.string)) ∧ Hid (∀ i, (hi : i < L.length) → L[i].size ≤ maxLen) ∧ Hid (parsOf l = (parsAt l k).map (fun p => (L ++ p.1, p.2))) ∧ Below w.heap.size w wr) (fun _ i _ => l.length + 2 - (intOf i).toNat)
    case atStart => exact ⟨2, [], by omega, by simp, rfl, hlit, by intro i hi; simp at hi, HPA, hba⟩
    case round =>
     clear hlit hba HPA
     obtain ⟨k, L, hk, hLk, rfl, HO, HS, HP, hb⟩ := hrel
     by_cases hlt : k + 1 < l.length
     ·obtain ⟨b1, off1, fps1, heq, hb1, -, he1⟩ := hrow.out (by omega)
      first
       | subst heq
       | (simp only [Option.some.injEq, Addr.mk.injEq, and_true] at heq; obtain ⟨rfl, rfl⟩ := heq)
      obtain ⟨es1, hE1, hR1⟩ := he1 k (by omega)
      obtain ⟨es2, hE2, hR2⟩ := he1 (k + 1) hlt
      clear hrow he1
      obtain ⟨h1', rfl, -, okt, -⟩ := hR1
      obtain ⟨h2', rfl, -, -, -⟩ := hR2
      have hE1' := hE1.frame (hb.block b1 hb1)
      have hE2' := hE2.frame (hb.block b1 hb1)
      have c0 : wr.cell? ⟨b1, off1 + k * 4, none⟩ = some _ := elem_cell0 hE1' (by decide) rfl
      have c1 : wr.cell? ⟨b1, off1 + k * 4 + 1, none⟩ = some _ := elem_cell (j := 1) hE1' (by decide) rfl
      have d1 : wr.cell? ⟨b1, off1 + (k + 1) * 4 + 1, none⟩ = some _ := elem_cell (j := 1) hE2' (by decide) rfl
      have d1w : w.cell? ⟨b1, off1 + (k + 1) * 4 + 1, none⟩ = some _ := elem_cell (j := 1) hE2 (by decide) rfl
      clear hE1 hE2 hE1' hE2'
      obtain ⟨fpo, hRo, -, -⟩ := own_flat (ok := okStr) HO.out HS.out
      obtain ⟨ao, co, rfl, -⟩ := open_strs hRo
      clear hRo
      have h6 : ((k : Int) + 1).toNat = k + 1 := by omega
      have hk1 : (k : Int) + 1 < (l.length : Int) := by omega
      by_cases e1 : (l[k]'(by omega)).kind = 1
      ·have g1 : ((l[k]'(by omega)).kind != 1) = false := by simp [e1]
       have OKT := Lib.hid okt
       by_cases e2 : l[k + 1].text = closeB
       ·have g2 := txt_t (l := [41]) e2
        have HN := Lib.hid (HP.out.trans (by rw [pa_close hlt e1 e2]; try rfl))
        clear e1 e2 okt
        go_wp2_with (
         at_builtin
         refine wp_append_one ti27 rfl _ (.string (l[k]'(by omega)).text) rfl rfl (.tmp 39) (.tmp 45) rfl w.heap.size (.slice ao L.length co) L.length _ rfl HO.out rfl (by unfold maxLen; omega) (by omega) hb.size ?_
         intro v3 w3 hown hgrow
         have hb3 := hb.grown hgrow hb.size (fun b hb' => (HO.out.lt b hb').1)
         have d3 := (hb3.cell (p := ⟨b1, off1 + (k + 1) * 4 + 1, none⟩) hb1).trans d1w
         have HB3 := Lib.hid hb3
         have HOW := Lib.hid (snoc_row hown)
         clear hgrow hown)
        go_ret2
        exact pm_some HN.out rfl (by go_num) HB3.out HOW.out (snoc_size HS.out OKT.out)
       ·have g2 := txt_f (l := [41]) e2
        by_cases e3 : l[k + 1].text = commaB
        ·have g3 := txt_t (l := [44]) e3
         have HN : Hid (parsOf l = (parsAt l (k + 2)).map (fun p => ((L ++ [(l[k]'(by omega)).text]) ++ p.1, p.2))) := by
          show _ = _
          rw [HP.out, pa_comma hlt e1 e2 e3, Option.map_map]
          congr 1
          funext p
          simp
         clear e1 e2 e3 okt
         go_wp2_with (
          at_builtin
          refine wp_append_one ti27 rfl _ (.string (l[k]'(by omega)).text) rfl rfl (.tmp 39) (.tmp 45) rfl w.heap.size (.slice ao L.length co) L.length _ rfl HO.out rfl (by unfold maxLen; omega) (by omega) hb.size ?_
          intro v3 w3 hown hgrow
          have hb3 := hb.grown hgrow hb.size (fun b hb' => (HO.out.lt b hb').1)
          have d3 := (hb3.cell (p := ⟨b1, off1 + (k + 1) * 4 + 1, none⟩) hb1).trans d1w
          have HB3 := Lib.hid hb3
          have HOW := Lib.hid (snoc_row hown)
          clear hgrow hown)
         go_roundw
         case rel => exact ⟨k + 2, _, by omega, by simp; omega, by go_num, HOW, snoc_size HS.out OKT.out, HN, HB3.out⟩
         case measure => simp [intOf]; omega
        ·have g3 := txt_f (l := [44]) e3
         have HN := Lib.hid (HP.out.trans (by rw [pa_other hlt e1 e2 e3]; try rfl))
         clear e1 e2 e3 okt
         go_wp2_with (
          at_builtin
          refine wp_append_one ti27 rfl _ (.string (l[k]'(by omega)).text) rfl rfl (.tmp 39) (.tmp 45) rfl w.heap.size (.slice ao L.length co) L.length _ rfl HO.out rfl (by unfold maxLen; omega) (by omega) hb.size ?_
          intro v3 w3 hown hgrow
          have hb3 := hb.grown hgrow hb.size (fun b hb' => (HO.out.lt b hb').1)
          have d3 := (hb3.cell (p := ⟨b1, off1 + (k + 1) * 4 + 1, none⟩) hb1).trans d1w
          have HB3 := Lib.hid hb3
          clear hgrow hown)
         go_ret2
         exact pm_none HN.out HB3.out
      ·have g1 : ((l[k]'(by omega)).kind != 1) = true := by simp [e1]
       have HN := Lib.hid (HP.out.trans (by rw [pa_kind hlt e1]; try rfl))
       clear e1
       go_wp2
       go_ret2
       exact pm_none HN.out hb
     ·have HN := Lib.hid (HP.out.trans (by rw [pa_end hlt]; try rfl))
      have hk1 : ¬ (k : Int) + 1 < (l.length : Int) := by omega
      go_wp2
      go_ret2
      exact pm_none HN.out hb
  ·have f1 := txt_f (l := [41]) h3
   have HPA := fin (by rintro ⟨_, h, _⟩; exact h3 h)
   clear h3 fin
   go_enter Tryd.func86, Tryd.ntmps86
   go_wp2
   go_loopw [4, 5] (fun o i wr => ∃ (k : Nat) (L : List ByteArray), k ≤ l.length + 2 ∧ L.length ≤ k ∧ i = .int .i64 k ∧ Hid (wr.ownsRow w.heap.size 9 1 o L.length (L.map Value.string)) ∧ Hid (∀ i, (hi : i < L.length) → L[i].size ≤ maxLen) ∧ Hid (parsOf l = (parsAt l k).map (fun p => (L ++ p.1, p.2))) ∧ Below w.heap.size w wr) (fun _ i _ => l.length + 2 - (intOf i).toNat)
   case atStart => exact ⟨2, [], by omega, by simp, rfl, hlit, by intro i hi; simp at hi, HPA, hba⟩
   case round =>
    clear hlit hba HPA
    obtain ⟨k, L, hk, hLk, rfl, HO, HS, HP, hb⟩ := hrel
    by_cases hlt : k + 1 < l.length
    ·obtain ⟨b1, off1, fps1, heq, hb1, -, he1⟩ := hrow.out (by omega)
     first
      | subst heq
      | (simp only [Option.some.injEq, Addr.mk.injEq, and_true] at heq; obtain ⟨rfl, rfl⟩ := heq)
     obtain ⟨es1, hE1, hR1⟩ := he1 k (by omega)
     obtain ⟨es2, hE2, hR2⟩ := he1 (k + 1) hlt
     clear hrow he1
     obtain ⟨h1', rfl, -, okt, -⟩ := hR1
     obtain ⟨h2', rfl, -, -, -⟩ := hR2
     have hE1' := hE1.frame (hb.block b1 hb1)
     have hE2' := hE2.frame (hb.block b1 hb1)
     have c0 : wr.cell? ⟨b1, off1 + k * 4, none⟩ = some _ := elem_cell0 hE1' (by decide) rfl
     have c1 : wr.cell? ⟨b1, off1 + k * 4 + 1, none⟩ = some _ := elem_cell (j := 1) hE1' (by decide) rfl
     have d1 : wr.cell? ⟨b1, off1 + (k + 1) * 4 + 1, none⟩ = some _ := elem_cell (j := 1) hE2' (by decide) rfl
     have d1w : w.cell? ⟨b1, off1 + (k + 1) * 4 + 1, none⟩ = some _ := elem_cell (j := 1) hE2 (by decide) rfl
     clear hE1 hE2 hE1' hE2'
     obtain ⟨fpo, hRo, -, -⟩ := own_flat (ok := okStr) HO.out HS.out
     obtain ⟨ao, co, rfl, -⟩ := open_strs hRo
     clear hRo
     have h6 : ((k : Int) + 1).toNat = k + 1 := by omega
     have hk1 : (k : Int) + 1 < (l.length : Int) := by omega
     by_cases e1 : (l[k]'(by omega)).kind = 1
     ·have g1 : ((l[k]'(by omega)).kind != 1) = false := by simp [e1]
      have OKT := Lib.hid okt
      by_cases e2 : l[k + 1].text = closeB
      ·have g2 := txt_t (l := [41]) e2
       have HN := Lib.hid (HP.out.trans (by rw [pa_close hlt e1 e2]; try rfl))
       clear e1 e2 okt
       go_wp2_with (
        at_builtin
        refine wp_append_one ti27 rfl _ (.string (l[k]'(by omega)).text) rfl rfl (.tmp 39) (.tmp 45) rfl w.heap.size (.slice ao L.length co) L.length _ rfl HO.out rfl (by unfold maxLen; omega) (by omega) hb.size ?_
        intro v3 w3 hown hgrow
        have hb3 := hb.grown hgrow hb.size (fun b hb' => (HO.out.lt b hb').1)
        have d3 := (hb3.cell (p := ⟨b1, off1 + (k + 1) * 4 + 1, none⟩) hb1).trans d1w
        have HB3 := Lib.hid hb3
        have HOW := Lib.hid (snoc_row hown)
        clear hgrow hown)
       go_ret2
       exact pm_some HN.out rfl (by go_num) HB3.out HOW.out (snoc_size HS.out OKT.out)
      ·have g2 := txt_f (l := [41]) e2
       by_cases e3 : l[k + 1].text = commaB
       ·have g3 := txt_t (l := [44]) e3
        have HN : Hid (parsOf l = (parsAt l (k + 2)).map (fun p => ((L ++ [(l[k]'(by omega)).text]) ++ p.1, p.2))) := by
         show _ = _
         rw [HP.out, pa_comma hlt e1 e2 e3, Option.map_map]
         congr 1
         funext p
         simp
        clear e1 e2 e3 okt
        go_wp2_with (
         at_builtin
         refine wp_append_one ti27 rfl _ (.string (l[k]'(by omega)).text) rfl rfl (.tmp 39) (.tmp 45) rfl w.heap.size (.slice ao L.length co) L.length _ rfl HO.out rfl (by unfold maxLen; omega) (by omega) hb.size ?_
         intro v3 w3 hown hgrow
         have hb3 := hb.grown hgrow hb.size (fun b hb' => (HO.out.lt b hb').1)
         have d3 := (hb3.cell (p := ⟨b1, off1 + (k + 1) * 4 + 1, none⟩) hb1).trans d1w
         have HB3 := Lib.hid hb3
         have HOW := Lib.hid (snoc_row hown)
         clear hgrow hown)
        go_roundw
        case rel => exact ⟨k + 2, _, by omega, by simp; omega, by go_num, HOW, snoc_size HS.out OKT.out, HN, HB3.out⟩
        case measure => simp [intOf]; omega
       ·have g3 := txt_f (l := [44]) e3
        have HN := Lib.hid (HP.out.trans (by rw [pa_other hlt e1 e2 e3]; try rfl))
        clear e1 e2 e3 okt
        go_wp2_with (
         at_builtin
         refine wp_append_one ti27 rfl _ (.string (l[k]'(by omega)).text) rfl rfl (.tmp 39) (.tmp 45) rfl w.heap.size (.slice ao L.length co) L.length _ rfl HO.out rfl (by unfold maxLen; omega) (by omega) hb.size ?_
         intro v3 w3 hown hgrow
         have hb3 := hb.grown hgrow hb.size (fun b hb' => (HO.out.lt b hb').1)
         have d3 := (hb3.cell (p := ⟨b1, off1 + (k + 1) * 4 + 1, none⟩) hb1).trans d1w
         have HB3 := Lib.hid hb3
         clear hgrow hown)
        go_ret2
        exact pm_none HN.out HB3.out
     ·have g1 : ((l[k]'(by omega)).kind != 1) = true := by simp [e1]
      have HN := Lib.hid (HP.out.trans (by rw [pa_kind hlt e1]; try rfl))
      clear e1
      go_wp2
      go_ret2
      exact pm_none HN.out hb
    ·have HN := Lib.hid (HP.out.trans (by rw [pa_end hlt]; try rfl))
     have hk1 : ¬ (k : Int) + 1 < (l.length : Int) := by omega
     go_wp2
     go_ret2
     exact pm_none HN.out hb
 ·have f3 : ¬ (2 : Int) < (l.length : Int) := by omega
  have HPA := fin (by rintro ⟨h, _⟩; exact h2 h)
  have hrow := Lib.hid hrow
  clear fin
  go_enter Tryd.func86, Tryd.ntmps86
  go_wp2
  go_loopw [4, 5] (fun o i wr => ∃ (k : Nat) (L : List ByteArray), k ≤ l.length + 2 ∧ L.length ≤ k ∧ i = .int .i64 k ∧ Hid (wr.ownsRow w.heap.size 9 1 o L.length (L.map Value.string)) ∧ Hid (∀ i, (hi : i < L.length) → L[i].size ≤ maxLen) ∧ Hid (parsOf l = (parsAt l k).map (fun p => (L ++ p.1, p.2))) ∧ Below w.heap.size w wr) (fun _ i _ => l.length + 2 - (intOf i).toNat)
  case atStart => exact ⟨2, [], by omega, by simp, rfl, hlit, by intro i hi; simp at hi, HPA, hba⟩
  case round =>
   clear hlit hba HPA
   obtain ⟨k, L, hk, hLk, rfl, HO, HS, HP, hb⟩ := hrel
   by_cases hlt : k + 1 < l.length
   ·obtain ⟨b1, off1, fps1, heq, hb1, -, he1⟩ := hrow.out (by omega)
    first
     | subst heq
     | (simp only [Option.some.injEq, Addr.mk.injEq, and_true] at heq; obtain ⟨rfl, rfl⟩ := heq)
    obtain ⟨es1, hE1, hR1⟩ := he1 k (by omega)
    obtain ⟨es2, hE2, hR2⟩ := he1 (k + 1) hlt
    clear hrow he1
    obtain ⟨h1', rfl, -, okt, -⟩ := hR1
    obtain ⟨h2', rfl, -, -, -⟩ := hR2
    have hE1' := hE1.frame (hb.block b1 hb1)
    have hE2' := hE2.frame (hb.block b1 hb1)
    have c0 : wr.cell? ⟨b1, off1 + k * 4, none⟩ = some _ := elem_cell0 hE1' (by decide) rfl
    have c1 : wr.cell? ⟨b1, off1 + k * 4 + 1, none⟩ = some _ := elem_cell (j := 1) hE1' (by decide) rfl
    have d1 : wr.cell? ⟨b1, off1 + (k + 1) * 4 + 1, none⟩ = some _ := elem_cell (j := 1) hE2' (by decide) rfl
    have d1w : w.cell? ⟨b1, off1 + (k + 1) * 4 + 1, none⟩ = some _ := elem_cell (j := 1) hE2 (by decide) rfl
    clear hE1 hE2 hE1' hE2'
    obtain ⟨fpo, hRo, -, -⟩ := own_flat (ok := okStr) HO.out HS.out
    obtain ⟨ao, co, rfl, -⟩ := open_strs hRo
    clear hRo
    have h6 : ((k : Int) + 1).toNat = k + 1 := by omega
    have hk1 : (k : Int) + 1 < (l.length : Int) := by omega
    by_cases e1 : (l[k]'(by omega)).kind = 1
    ·have g1 : ((l[k]'(by omega)).kind != 1) = false := by simp [e1]
     have OKT := Lib.hid okt
     by_cases e2 : l[k + 1].text = closeB
     ·have g2 := txt_t (l := [41]) e2
      have HN := Lib.hid (HP.out.trans (by rw [pa_close hlt e1 e2]; try rfl))
      clear e1 e2 okt
      go_wp2_with (
       at_builtin
       refine wp_append_one ti27 rfl _ (.string (l[k]'(by omega)).text) rfl rfl (.tmp 39) (.tmp 45) rfl w.heap.size (.slice ao L.length co) L.length _ rfl HO.out rfl (by unfold maxLen; omega) (by omega) hb.size ?_
       intro v3 w3 hown hgrow
       have hb3 := hb.grown hgrow hb.size (fun b hb' => (HO.out.lt b hb').1)
       have d3 := (hb3.cell (p := ⟨b1, off1 + (k + 1) * 4 + 1, none⟩) hb1).trans d1w
       have HB3 := Lib.hid hb3
       have HOW := Lib.hid (snoc_row hown)
       clear hgrow hown)
      go_ret2
      exact pm_some HN.out rfl (by go_num) HB3.out HOW.out (snoc_size HS.out OKT.out)
     ·have g2 := txt_f (l := [41]) e2
      by_cases e3 : l[k + 1].text = commaB
      ·have g3 := txt_t (l := [44]) e3
       have HN : Hid (parsOf l = (parsAt l (k + 2)).map (fun p => ((L ++ [(l[k]'(by omega)).text]) ++ p.1, p.2))) := by
        show _ = _
        rw [HP.out, pa_comma hlt e1 e2 e3, Option.map_map]
        congr 1
        funext p
        simp
       clear e1 e2 e3 okt
       go_wp2_with (
        at_builtin
        refine wp_append_one ti27 rfl _ (.string (l[k]'(by omega)).text) rfl rfl (.tmp 39) (.tmp 45) rfl w.heap.size (.slice ao L.length co) L.length _ rfl HO.out rfl (by unfold maxLen; omega) (by omega) hb.size ?_
        intro v3 w3 hown hgrow
        have hb3 := hb.grown hgrow hb.size (fun b hb' => (HO.out.lt b hb').1)
        have d3 := (hb3.cell (p := ⟨b1, off1 + (k + 1) * 4 + 1, none⟩) hb1).trans d1w
        have HB3 := Lib.hid hb3
        have HOW := Lib.hid (snoc_row hown)
        clear hgrow hown)
       go_roundw
       case rel => exact ⟨k + 2, _, by omega, by simp; omega, by go_num, HOW, snoc_size HS.out OKT.out, HN, HB3.out⟩
       case measure => simp [intOf]; omega
      ·have g3 := txt_f (l := [44]) e3
       have HN := Lib.hid (HP.out.trans (by rw [pa_other hlt e1 e2 e3]; try rfl))
       clear e1 e2 e3 okt
       go_wp2_with (
        at_builtin
        refine wp_append_one ti27 rfl _ (.string (l[k]'(by omega)).text) rfl rfl (.tmp 39) (.tmp 45) rfl w.heap.size (.slice ao L.length co) L.length _ rfl HO.out rfl (by unfold maxLen; omega) (by omega) hb.size ?_
        intro v3 w3 hown hgrow
        have hb3 := hb.grown hgrow hb.size (fun b hb' => (HO.out.lt b hb').1)
        have d3 := (hb3.cell (p := ⟨b1, off1 + (k + 1) * 4 + 1, none⟩) hb1).trans d1w
        have HB3 := Lib.hid hb3
        clear hgrow hown)
       go_ret2
       exact pm_none HN.out HB3.out
    ·have g1 : ((l[k]'(by omega)).kind != 1) = true := by simp [e1]
     have HN := Lib.hid (HP.out.trans (by rw [pa_kind hlt e1]; try rfl))
     clear e1
     go_wp2
     go_ret2
     exact pm_none HN.out hb
   ·have HN := Lib.hid (HP.out.trans (by rw [pa_end hlt]; try rfl))
    have hk1 : ¬ (k : Int) + 1 < (l.length : Int) := by omega
    go_wp2
    go_ret2
    exact pm_none HN.out hb

end Go.Proofs.YtlegeancmcmbaaaDoor

/- MacroValid of the model. (Made by gen_mac3.py.) -/
namespace Go.Proofs.YtlegeancmcmbaaaDoor
open Go.RowKit

set_option maxHeartbeats 16000000 in
set_option maxRecDepth 100000 in
theorem spec_MacroValid_no (m : DMacro) (h2 h3 : Value) (fp2 fp3 : List Nat) (w : World) (k0 : okStr m.name) (K2 : (sSlice sStr).R w [h2] m.params fp2) (K3 : (sSlice sTok).R w [h3] m.body fp3) (hf : m.function = false) :
  Calls Tryd.prog 87 #[.agg #[.string m.name, .bool m.function, h2, h3]] w (Says (macOk m) w) := by
 obtain ⟨a2, cap2, rfl, hc2, hm2, hcell2, hsz2⟩ := open_strs K2
 have K3' := K3
 obtain ⟨a3, cap3, rfl, hc3, hm3, hrow3⟩ := open_rows K3
 unfold maxLen at hm2 hm3
 rw [hf]
 have HN := Lib.hid (fun W => spec_l5Name m.name W k0)
 have hb0 := alloc_below' w (.cells #[.string m.name, .bool false, .slice a2 m.params.length cap2, .slice a3 m.body.length cap3] 79)
 have HX := Lib.hid (heap_alloc_new w (.cells #[.string m.name, .bool false, .slice a2 m.params.length cap2, .slice a3 m.body.length cap3] 79))
 go_enter Tryd.func87, Tryd.ntmps87
 rcases head_ways m with ⟨g1, HF⟩ | ⟨g1, g2, HF⟩ | ⟨g1, g2, g3, HF⟩ | ⟨g1, g2, g3, g4, g5, HF⟩ | ⟨g1, g2, g3, g4, g5, HF⟩ | ⟨g1, g2, g3, g4, g5, HH⟩
 ·rw [g1] at HN
  clear g1
  go_wp2_with (go_at_call 96; refine (HN.out _).mono ?_; rintro e w1 ⟨rfl, hb1⟩)
  go_ret
  exact ⟨ret_bool HF.out.symm, hb0.trans (hb1.mono hb0.size)⟩
 ·rw [g1] at HN
  have e2 := txt_t (l := [100, 101, 102, 105, 110, 101, 100]) g2
  clear g1 g2
  go_wp2_with (go_at_call 96; refine (HN.out _).mono ?_; rintro e w1 ⟨rfl, hb1⟩; have q0 : w1.cell? ⟨w.heap.size, 0, none⟩ = some _ := cell_of_row _ _ 0 _ _ _ ((hb1.block _ (Array.getElem?_eq_some_iff.1 HX.out).1).trans HX.out))
  go_ret
  exact ⟨ret_bool HF.out.symm, hb0.trans (hb1.mono hb0.size)⟩
 ·rw [g1] at HN
  have e2 := txt_f (l := [100, 101, 102, 105, 110, 101, 100]) g2
  clear g1 g2
  go_wp2_with (go_at_call 96; refine (HN.out _).mono ?_; rintro e w1 ⟨rfl, hb1⟩; have q0 : w1.cell? ⟨w.heap.size, 0, none⟩ = some _ := cell_of_row _ _ 0 _ _ _ ((hb1.block _ (Array.getElem?_eq_some_iff.1 HX.out).1).trans HX.out); have q2 : w1.cell? ⟨w.heap.size, 2, none⟩ = some _ := cell_of_row _ _ 2 _ _ _ ((hb1.block _ (Array.getElem?_eq_some_iff.1 HX.out).1).trans HX.out))
  go_ret
  exact ⟨ret_bool HF.out.symm, hb0.trans (hb1.mono hb0.size)⟩
 ·rw [g1] at HN
  have e2 := txt_f (l := [100, 101, 102, 105, 110, 101, 100]) g2
  clear g1 g2
  go_wp2_with (go_at_call 96; refine (HN.out _).mono ?_; rintro e w1 ⟨rfl, hb1⟩; have q0 : w1.cell? ⟨w.heap.size, 0, none⟩ = some _ := cell_of_row _ _ 0 _ _ _ ((hb1.block _ (Array.getElem?_eq_some_iff.1 HX.out).1).trans HX.out); have q1 : w1.cell? ⟨w.heap.size, 1, none⟩ = some _ := cell_of_row _ _ 1 _ _ _ ((hb1.block _ (Array.getElem?_eq_some_iff.1 HX.out).1).trans HX.out); have q2 : w1.cell? ⟨w.heap.size, 2, none⟩ = some _ := cell_of_row _ _ 2 _ _ _ ((hb1.block _ (Array.getElem?_eq_some_iff.1 HX.out).1).trans HX.out))
  go_ret
  exact ⟨ret_bool HF.out.symm, hb0.trans (hb1.mono hb0.size)⟩
 ·rw [g1] at HN
  have e2 := txt_f (l := [100, 101, 102, 105, 110, 101, 100]) g2
  have g6 : ¬ (0 : Int) < (m.params.length : Int) := by rcases g4 with h | h; rw [hf] at h; simp at h; omega
  have g7 : ¬ 0 < m.params.length := by omega
  clear g1 g2 g4
  go_wp2_with (go_at_call 96; refine (HN.out _).mono ?_; rintro e w1 ⟨rfl, hb1⟩; have q0 : w1.cell? ⟨w.heap.size, 0, none⟩ = some _ := cell_of_row _ _ 0 _ _ _ ((hb1.block _ (Array.getElem?_eq_some_iff.1 HX.out).1).trans HX.out); have q1 : w1.cell? ⟨w.heap.size, 1, none⟩ = some _ := cell_of_row _ _ 1 _ _ _ ((hb1.block _ (Array.getElem?_eq_some_iff.1 HX.out).1).trans HX.out); have q2 : w1.cell? ⟨w.heap.size, 2, none⟩ = some _ := cell_of_row _ _ 2 _ _ _ ((hb1.block _ (Array.getElem?_eq_some_iff.1 HX.out).1).trans HX.out); have q3 : w1.cell? ⟨w.heap.size, 3, none⟩ = some _ := cell_of_row _ _ 3 _ _ _ ((hb1.block _ (Array.getElem?_eq_some_iff.1 HX.out).1).trans HX.out))
  go_ret
  exact ⟨ret_bool HF.out.symm, hb0.trans (hb1.mono hb0.size)⟩
 ·rw [g1] at HN
  have e2 := txt_f (l := [100, 101, 102, 105, 110, 101, 100]) g2
  have g6 : ¬ (0 : Int) < (m.params.length : Int) := by rcases g4 with h | h; rw [hf] at h; simp at h; omega
  have g7 : ¬ 0 < m.params.length := by omega
  clear g1 g2 g4
  go_wp2_with (go_at_call 96; refine (HN.out _).mono ?_; rintro e w1 ⟨rfl, hb1⟩; have q0 : w1.cell? ⟨w.heap.size, 0, none⟩ = some _ := cell_of_row _ _ 0 _ _ _ ((hb1.block _ (Array.getElem?_eq_some_iff.1 HX.out).1).trans HX.out); have q1 : w1.cell? ⟨w.heap.size, 1, none⟩ = some _ := cell_of_row _ _ 1 _ _ _ ((hb1.block _ (Array.getElem?_eq_some_iff.1 HX.out).1).trans HX.out); have q2 : w1.cell? ⟨w.heap.size, 2, none⟩ = some _ := cell_of_row _ _ 2 _ _ _ ((hb1.block _ (Array.getElem?_eq_some_iff.1 HX.out).1).trans HX.out); have q3 : w1.cell? ⟨w.heap.size, 3, none⟩ = some _ := cell_of_row _ _ 3 _ _ _ ((hb1.block _ (Array.getElem?_eq_some_iff.1 HX.out).1).trans HX.out))
  have hB1 := hb0.trans (hb1.mono hb0.size)
  have HX1 := Lib.hid ((hb1.block _ (Array.getElem?_eq_some_iff.1 HX.out).1).trans HX.out)
  have HM := Lib.hid (fun W (hb : Below w.heap.size w W) => sMacro.below (show sMacro.R w [.string m.name, .bool false, .slice a2 m.params.length cap2, .slice a3 m.body.length cap3] m (fp2 ++ fp3) from ⟨_, _, fp2, fp3, by rw [hf], k0, K2, K3, rfl⟩) hb)
  clear q0 q1 q2 q3 HN hb0 HX hb1 K3' K2 K3
  go_loopw [3] (fun i wr => ∃ k : Nat, k ≤ m.params.length ∧ i = .int .i64 k ∧ ParUpto m.params k ∧ Below w1.heap.size w1 wr) (fun i _ => m.params.length - (intOf i).toNat)
  case atStart => exact ⟨0, by omega, rfl, ParUpto.zero _, Below.refl _ _⟩
  case round =>
   obtain ⟨k, hk, rfl, hall, hb⟩ := hrel
   have HX2 := Lib.hid ((hb.block _ (Array.getElem?_eq_some_iff.1 HX1.out).1).trans HX1.out)
   have q2 : wr.cell? ⟨w.heap.size, 2, none⟩ = some _ := cell_of_row _ _ 2 _ _ _ HX2.out
   have q3 : wr.cell? ⟨w.heap.size, 3, none⟩ = some _ := cell_of_row _ _ 3 _ _ _ HX2.out
   have hbw := hB1.trans (hb.mono hB1.size)
   by_cases hlt : k < m.params.length
   ·omega
   ·have HP := Lib.hid (show ParUpto m.params m.params.length from fun j hj => hall j (by omega))
    have hz : decide (k < m.params.length) = false := decide_eq_false hlt
    clear hall hk
    go_wp2
    try rw [hz]
    clear q2 q3 HX2 hbw hlt hz
    go_loopw [6] (fun i wr => ∃ k : Nat, k ≤ m.body.length ∧ i = .int .i64 k ∧ BodUpto (bodOk m) k ∧ Below w1.heap.size w1 wr) (fun i _ => m.body.length - (intOf i).toNat)
    case atStart => exact ⟨0, by omega, rfl, BodUpto.zero _, hb⟩
    case round =>
     clear hb
     obtain ⟨k, hk, rfl, hall, hb⟩ := hrel
     have HX3 := Lib.hid ((hb.block _ (Array.getElem?_eq_some_iff.1 HX1.out).1).trans HX1.out)
     have q3 : wr.cell? ⟨w.heap.size, 3, none⟩ = some _ := cell_of_row _ _ 3 _ _ _ HX3.out
     have hbw := hB1.trans (hb.mono hB1.size)
     by_cases hlt : k < m.body.length
     ·obtain ⟨b1, off1, fps1, rfl, hb1', -, he1⟩ := hrow3 (by omega)
      obtain ⟨es1, hE1, hR1⟩ := he1 k hlt
      have hR1' := hR1
      obtain ⟨hh, rfl, -, -, K1⟩ := hR1
      obtain ⟨ah, caph, rfl, -⟩ := open_rows K1
      replace hE1 := hE1.frame (hbw.block b1 hb1')
      have c10 : wr.cell? ⟨b1, off1 + k * 4, none⟩ = some _ := elem_cell0 hE1 (by decide) rfl
      have c11 : wr.cell? ⟨b1, off1 + k * 4 + 1, none⟩ = some _ := elem_cell (j := 1) hE1 (by decide) rfl
      have c12 : wr.cell? ⟨b1, off1 + k * 4 + 2, none⟩ = some _ := elem_cell (j := 2) hE1 (by decide) rfl
      have c13 : wr.cell? ⟨b1, off1 + k * 4 + 3, none⟩ = some _ := elem_cell (j := 3) hE1 (by decide) rfl
      have hbx : Below wr.heap.size wr (wr.alloc (.cells #[.int .i64 m.body[k].kind, .string m.body[k].text, .bool m.body[k].spaced, .slice ah m.body[k].hidden.length caph] 47)) := alloc_below' _ _
      have HT := Lib.hid (heap_alloc_new wr (.cells #[.int .i64 m.body[k].kind, .string m.body[k].text, .bool m.body[k].spaced, .slice ah m.body[k].hidden.length caph] 47))
      have HV := Lib.hid (fun W (hW : Below (wr.alloc (.cells #[.int .i64 m.body[k].kind, .string m.body[k].text, .bool m.body[k].spaced, .slice ah m.body[k].hidden.length caph] 47)).heap.size (wr.alloc (.cells #[.int .i64 m.body[k].kind, .string m.body[k].text, .bool m.body[k].spaced, .slice ah m.body[k].hidden.length caph] 47)) W) => spec_TokenValid _ _ _ W (sTok.below (sTok.below (sTok.below hR1' hbw) hbx) hW))
      clear K1 hR1' hE1
      go_wp2_with fail
      refine (HV.out _ (Below.refl _ _)).mono ?_
      rintro e w2 ⟨rfl, hb2⟩
      have HT2 := Lib.hid ((hb2.block _ (Array.getElem?_eq_some_iff.1 HT.out).1).trans HT.out)
      have hb02 := hbx.trans (hb2.mono hbx.size)
      have hbq := hb.trans (hb02.mono hb.size)
      have hbw2 := hB1.trans (hbq.mono hB1.size)
      have HX4 := Lib.hid ((hb02.block _ (Array.getElem?_eq_some_iff.1 HX3.out).1).trans HX3.out)
      have p1 : w2.cell? ⟨wr.heap.size, 1, none⟩ = some _ := cell_of_row _ _ 1 _ _ _ HT2.out
      have p2 : w2.cell? ⟨wr.heap.size, 2, none⟩ = some _ := cell_of_row _ _ 2 _ _ _ HT2.out
      have p3 : w2.cell? ⟨wr.heap.size, 3, none⟩ = some _ := cell_of_row _ _ 3 _ _ _ HT2.out
      clear q3 c10 c11 c12 c13 HV HT hb2 HX3 hbx hb02 hbw hb
      have q0 : w2.cell? ⟨w.heap.size, 0, none⟩ = some _ := cell_of_row _ _ 0 _ _ _ HX4.out
      have q1 : w2.cell? ⟨w.heap.size, 1, none⟩ = some _ := cell_of_row _ _ 1 _ _ _ HX4.out
      have q2 : w2.cell? ⟨w.heap.size, 2, none⟩ = some _ := cell_of_row _ _ 2 _ _ _ HX4.out
      have q3 : w2.cell? ⟨w.heap.size, 3, none⟩ = some _ := cell_of_row _ _ 3 _ _ _ HX4.out
      cases hv : tokOk m.body[k]
      ·have HF := Lib.hid (macOk_bod hlt (by rw [bodOk_split _ _ hlt, hv]; rfl))
       clear hv hall
       go_wp2
       go_ret
       exact ⟨ret_bool HF.out.symm, hbw2⟩
      have HS := Lib.hid (bodOk_split m k hlt)
      rw [hv] at HS
      clear hv
      have g00 : ((k : Int) == 0) = decide (k = 0) := by rw [Bool.eq_iff_iff]; simp
      have g01 : ((k : Int) == (m.body.length : Int) - 1) = decide (k + 1 = m.body.length) := by rw [Bool.eq_iff_iff]; simp; omega
      rcases bodI_ways hlt with ⟨e1, HI⟩ | ⟨e1, e2, e3, HI⟩ | ⟨e1, e2, e3, e4, HI⟩ | ⟨e1, e2, e3, e4, HI⟩ | ⟨e1, e2, e4, e5, HI⟩ | ⟨e1, e2, e4, e5, e6, HI⟩ | ⟨e1, e2, e4, e5, e6, HI⟩ | ⟨e1, e2, e4, HI⟩
      ·have HF := Lib.hid (macOk_bod hlt (by rw [HS.out, HI.out]; simp))
       have f0 : (0 : Int) < (m.body[k].hidden.length : Int) := by omega
       have f01 : 0 < m.body[k].hidden.length := by omega
       have f02 : decide ((0 : Int) < (m.body[k].hidden.length : Int)) = true := decide_eq_true f0
       clear e1 hall
       go_wp2
       go_ret
       exact ⟨ret_bool HF.out.symm, hbw2⟩
      ·have HF := Lib.hid (macOk_bod hlt (by rw [HS.out, HI.out]; simp))
       have f0 : ¬ (0 : Int) < (m.body[k].hidden.length : Int) := by omega
       have f01 : ¬ 0 < m.body[k].hidden.length := by omega
       rw [decide_eq_true e2] at g00
       rw [e3] at p2
       clear e2 e3
       clear e1 hall
       go_wp2
       go_ret
       exact ⟨ret_bool HF.out.symm, hbw2⟩
      ·have HF := Lib.hid (macOk_bod hlt (by rw [HS.out, HI.out]; simp))
       have f0 : ¬ (0 : Int) < (m.body[k].hidden.length : Int) := by omega
       have f01 : ¬ 0 < m.body[k].hidden.length := by omega
       rw [decide_eq_true e2] at g00
       rw [e3] at p2
       have f4 := txt_t (l := [35, 35]) e4
       have E4 := Lib.hid e4
       clear e4
       clear e2 e3
       clear e1 hall
       go_wp2
       go_ret
       exact ⟨ret_bool HF.out.symm, hbw2⟩
      ·have f0 : ¬ (0 : Int) < (m.body[k].hidden.length : Int) := by omega
       have f01 : ¬ 0 < m.body[k].hidden.length := by omega
       rw [decide_eq_true e2] at g00
       rw [e3] at p2
       have f4 := txt_f (l := [35, 35]) e4
       have E4 := Lib.hid e4
       clear e4
       clear e1 e2 e3
       have HN := Lib.hid (hall.succ (by rw [HS.out, HI.out, hf]; rfl))
       clear hall
       go_wp2
       go_quiet (fail)
       go_wp2
       go_roundw
       case rel => first | exact ⟨k + 1, by omega, by go_num, HN.out, belowN hbq _⟩ | ((repeat apply Exists.intro); exact ⟨⟨k + 1, by omega, by go_num, HN.out, belowN hbq _⟩, rfl⟩)
       case measure => simp [intOf]; omega
      ·have HF := Lib.hid (macOk_bod hlt (by rw [HS.out, HI.out]; simp))
       have f0 : ¬ (0 : Int) < (m.body[k].hidden.length : Int) := by omega
       have f01 : ¬ 0 < m.body[k].hidden.length := by omega
       rw [decide_eq_false e2] at g00
       have f4 := txt_t (l := [35, 35]) e4
       have E4 := Lib.hid e4
       clear e4
       rw [decide_eq_true e5] at g01
       clear e2 e5
       clear e1 hall
       go_wp2
       go_ret
       exact ⟨ret_bool HF.out.symm, hbw2⟩
      ·have HF := Lib.hid (macOk_bod hlt (by rw [HS.out, HI.out]; simp))
       have f0 : ¬ (0 : Int) < (m.body[k].hidden.length : Int) := by omega
       have f01 : ¬ 0 < m.body[k].hidden.length := by omega
       rw [decide_eq_false e2] at g00
       have f4 := txt_t (l := [35, 35]) e4
       have E4 := Lib.hid e4
       clear e4
       rw [decide_eq_false e5] at g01
       obtain ⟨es2, hE2, hR2⟩ := he1 (k - 1) (by omega)
       obtain ⟨h9, rfl, -, -, -⟩ := hR2
       replace hE2 := hE2.frame (hbw2.block b1 hb1')
       have c21 : w2.cell? ⟨b1, off1 + (k - 1) * 4 + 1, none⟩ = some _ := elem_cell (j := 1) hE2 (by decide) rfl
       have h6 : ((k : Int) - 1).toNat = k - 1 := by omega
       have hwl : IntKind.i64.wrap ((k : Int) - 1) = (k : Int) - 1 := IntWalk.i64_in _ (by omega)
       have hi1 : (0 : Int) ≤ (k : Int) - 1 := by omega
       have hi2 : (k : Int) - 1 < (m.body.length : Int) := by omega
       clear hE2
       have f6 := txt_t (l := [35, 35]) e6
       clear e2 e5 e6
       clear e1 hall
       go_wp2
       go_ret
       exact ⟨ret_bool HF.out.symm, hbw2⟩
      ·have f0 : ¬ (0 : Int) < (m.body[k].hidden.length : Int) := by omega
       have f01 : ¬ 0 < m.body[k].hidden.length := by omega
       rw [decide_eq_false e2] at g00
       have f4 := txt_t (l := [35, 35]) e4
       have E4 := Lib.hid e4
       clear e4
       rw [decide_eq_false e5] at g01
       obtain ⟨es2, hE2, hR2⟩ := he1 (k - 1) (by omega)
       obtain ⟨h9, rfl, -, -, -⟩ := hR2
       replace hE2 := hE2.frame (hbw2.block b1 hb1')
       have c21 : w2.cell? ⟨b1, off1 + (k - 1) * 4 + 1, none⟩ = some _ := elem_cell (j := 1) hE2 (by decide) rfl
       have h6 : ((k : Int) - 1).toNat = k - 1 := by omega
       have hwl : IntKind.i64.wrap ((k : Int) - 1) = (k : Int) - 1 := IntWalk.i64_in _ (by omega)
       have hi1 : (0 : Int) ≤ (k : Int) - 1 := by omega
       have hi2 : (k : Int) - 1 < (m.body.length : Int) := by omega
       clear hE2
       have f6 := txt_f (l := [35, 35]) e6
       clear e1 e2 e5 e6
       have HN := Lib.hid (hall.succ (by rw [HS.out, HI.out, hf]; rfl))
       clear hall
       go_wp2
       go_quiet (fail)
       go_wp2
       go_roundw
       case rel => first | exact ⟨k + 1, by omega, by go_num, HN.out, belowN hbq _⟩ | ((repeat apply Exists.intro); exact ⟨⟨k + 1, by omega, by go_num, HN.out, belowN hbq _⟩, rfl⟩)
       case measure => simp [intOf]; omega
      ·have f0 : ¬ (0 : Int) < (m.body[k].hidden.length : Int) := by omega
       have f01 : ¬ 0 < m.body[k].hidden.length := by omega
       rw [decide_eq_false e2] at g00
       have f4 := txt_f (l := [35, 35]) e4
       have E4 := Lib.hid e4
       clear e4
       clear e1 e2
       have HN := Lib.hid (hall.succ (by rw [HS.out, HI.out, hf]; rfl))
       clear hall
       go_wp2
       go_quiet (fail)
       go_wp2
       go_roundw
       case rel => first | exact ⟨k + 1, by omega, by go_num, HN.out, belowN hbq _⟩ | ((repeat apply Exists.intro); exact ⟨⟨k + 1, by omega, by go_num, HN.out, belowN hbq _⟩, rfl⟩)
       case measure => simp [intOf]; omega
     ·have HF := Lib.hid (macOk_yes HH.out HP.out (fun j hj => hall j (by omega)))
      clear hall
      go_wp2
      go_ret
      exact ⟨ret_bool HF.out.symm, hbw⟩

set_option maxHeartbeats 16000000 in
set_option maxRecDepth 100000 in
theorem spec_MacroValid_yes (m : DMacro) (h2 h3 : Value) (fp2 fp3 : List Nat) (w : World) (k0 : okStr m.name) (K2 : (sSlice sStr).R w [h2] m.params fp2) (K3 : (sSlice sTok).R w [h3] m.body fp3) (hf : m.function = true) :
  Calls Tryd.prog 87 #[.agg #[.string m.name, .bool m.function, h2, h3]] w (Says (macOk m) w) := by
 obtain ⟨a2, cap2, rfl, hc2, hm2, hcell2, hsz2⟩ := open_strs K2
 have K3' := K3
 obtain ⟨a3, cap3, rfl, hc3, hm3, hrow3⟩ := open_rows K3
 unfold maxLen at hm2 hm3
 rw [hf]
 have HN := Lib.hid (fun W => spec_l5Name m.name W k0)
 have hb0 := alloc_below' w (.cells #[.string m.name, .bool true, .slice a2 m.params.length cap2, .slice a3 m.body.length cap3] 79)
 have HX := Lib.hid (heap_alloc_new w (.cells #[.string m.name, .bool true, .slice a2 m.params.length cap2, .slice a3 m.body.length cap3] 79))
 go_enter Tryd.func87, Tryd.ntmps87
 rcases head_ways m with ⟨g1, HF⟩ | ⟨g1, g2, HF⟩ | ⟨g1, g2, g3, HF⟩ | ⟨g1, g2, g3, g4, g5, HF⟩ | ⟨g1, g2, g3, g4, g5, HF⟩ | ⟨g1, g2, g3, g4, g5, HH⟩
 ·rw [g1] at HN
  clear g1
  go_wp2_with (go_at_call 96; refine (HN.out _).mono ?_; rintro e w1 ⟨rfl, hb1⟩)
  go_ret
  exact ⟨ret_bool HF.out.symm, hb0.trans (hb1.mono hb0.size)⟩
 ·rw [g1] at HN
  have e2 := txt_t (l := [100, 101, 102, 105, 110, 101, 100]) g2
  clear g1 g2
  go_wp2_with (go_at_call 96; refine (HN.out _).mono ?_; rintro e w1 ⟨rfl, hb1⟩; have q0 : w1.cell? ⟨w.heap.size, 0, none⟩ = some _ := cell_of_row _ _ 0 _ _ _ ((hb1.block _ (Array.getElem?_eq_some_iff.1 HX.out).1).trans HX.out))
  go_ret
  exact ⟨ret_bool HF.out.symm, hb0.trans (hb1.mono hb0.size)⟩
 ·rw [g1] at HN
  have e2 := txt_f (l := [100, 101, 102, 105, 110, 101, 100]) g2
  clear g1 g2
  go_wp2_with (go_at_call 96; refine (HN.out _).mono ?_; rintro e w1 ⟨rfl, hb1⟩; have q0 : w1.cell? ⟨w.heap.size, 0, none⟩ = some _ := cell_of_row _ _ 0 _ _ _ ((hb1.block _ (Array.getElem?_eq_some_iff.1 HX.out).1).trans HX.out); have q2 : w1.cell? ⟨w.heap.size, 2, none⟩ = some _ := cell_of_row _ _ 2 _ _ _ ((hb1.block _ (Array.getElem?_eq_some_iff.1 HX.out).1).trans HX.out))
  go_ret
  exact ⟨ret_bool HF.out.symm, hb0.trans (hb1.mono hb0.size)⟩
 ·rw [hf] at g4; exact absurd g4 (by simp)
 ·rw [g1] at HN
  have e2 := txt_f (l := [100, 101, 102, 105, 110, 101, 100]) g2
  clear g1 g2 g4
  go_wp2_with (go_at_call 96; refine (HN.out _).mono ?_; rintro e w1 ⟨rfl, hb1⟩; have q0 : w1.cell? ⟨w.heap.size, 0, none⟩ = some _ := cell_of_row _ _ 0 _ _ _ ((hb1.block _ (Array.getElem?_eq_some_iff.1 HX.out).1).trans HX.out); have q1 : w1.cell? ⟨w.heap.size, 1, none⟩ = some _ := cell_of_row _ _ 1 _ _ _ ((hb1.block _ (Array.getElem?_eq_some_iff.1 HX.out).1).trans HX.out); have q2 : w1.cell? ⟨w.heap.size, 2, none⟩ = some _ := cell_of_row _ _ 2 _ _ _ ((hb1.block _ (Array.getElem?_eq_some_iff.1 HX.out).1).trans HX.out); have q3 : w1.cell? ⟨w.heap.size, 3, none⟩ = some _ := cell_of_row _ _ 3 _ _ _ ((hb1.block _ (Array.getElem?_eq_some_iff.1 HX.out).1).trans HX.out))
  go_ret
  exact ⟨ret_bool HF.out.symm, hb0.trans (hb1.mono hb0.size)⟩
 ·rw [g1] at HN
  have e2 := txt_f (l := [100, 101, 102, 105, 110, 101, 100]) g2
  clear g1 g2 g4
  go_wp2_with (go_at_call 96; refine (HN.out _).mono ?_; rintro e w1 ⟨rfl, hb1⟩; have q0 : w1.cell? ⟨w.heap.size, 0, none⟩ = some _ := cell_of_row _ _ 0 _ _ _ ((hb1.block _ (Array.getElem?_eq_some_iff.1 HX.out).1).trans HX.out); have q1 : w1.cell? ⟨w.heap.size, 1, none⟩ = some _ := cell_of_row _ _ 1 _ _ _ ((hb1.block _ (Array.getElem?_eq_some_iff.1 HX.out).1).trans HX.out); have q2 : w1.cell? ⟨w.heap.size, 2, none⟩ = some _ := cell_of_row _ _ 2 _ _ _ ((hb1.block _ (Array.getElem?_eq_some_iff.1 HX.out).1).trans HX.out); have q3 : w1.cell? ⟨w.heap.size, 3, none⟩ = some _ := cell_of_row _ _ 3 _ _ _ ((hb1.block _ (Array.getElem?_eq_some_iff.1 HX.out).1).trans HX.out))
  have hB1 := hb0.trans (hb1.mono hb0.size)
  have HX1 := Lib.hid ((hb1.block _ (Array.getElem?_eq_some_iff.1 HX.out).1).trans HX.out)
  have HM := Lib.hid (fun W (hb : Below w.heap.size w W) => sMacro.below (show sMacro.R w [.string m.name, .bool true, .slice a2 m.params.length cap2, .slice a3 m.body.length cap3] m (fp2 ++ fp3) from ⟨_, _, fp2, fp3, by rw [hf], k0, K2, K3, rfl⟩) hb)
  clear q0 q1 q2 q3 HN hb0 HX hb1 K3' K2 K3
  go_loopw [3] (fun i wr => ∃ k : Nat, k ≤ m.params.length ∧ i = .int .i64 k ∧ ParUpto m.params k ∧ Below w1.heap.size w1 wr) (fun i _ => m.params.length - (intOf i).toNat)
  case atStart => exact ⟨0, by omega, rfl, ParUpto.zero _, Below.refl _ _⟩
  case round =>
   obtain ⟨k, hk, rfl, hall, hb⟩ := hrel
   have HX2 := Lib.hid ((hb.block _ (Array.getElem?_eq_some_iff.1 HX1.out).1).trans HX1.out)
   have q2 : wr.cell? ⟨w.heap.size, 2, none⟩ = some _ := cell_of_row _ _ 2 _ _ _ HX2.out
   have q3 : wr.cell? ⟨w.heap.size, 3, none⟩ = some _ := cell_of_row _ _ 3 _ _ _ HX2.out
   have hbw := hB1.trans (hb.mono hB1.size)
   by_cases hlt : k < m.params.length
   ·obtain ⟨b, off, rfl, hbl, _, hce⟩ := hcell2 (by omega)
    have hck := (hbw.cell (p := ⟨b, off + k, none⟩) hbl).trans (hce k hlt)
    have HN := Lib.hid (fun W => spec_l5Name m.params[k] W (hsz2 k hlt))
    cases h1 : oneTok m.params[k] 1
    ·rw [h1] at HN
     have HF := Lib.hid (macOk_par hlt (par_name hlt h1))
     clear h1 hce hall
     go_wp2_with (go_at_call 96; refine (HN.out _).mono ?_; rintro e w2 ⟨rfl, hb2⟩)
     go_ret
     exact ⟨ret_bool HF.out.symm, hbw.trans (hb2.mono hbw.size)⟩
    ·rw [h1] at HN
     have H1 := Lib.hid h1
     clear h1
     go_wp2_with (go_at_call 96; refine (HN.out _).mono ?_; rintro e w2 ⟨rfl, hb2⟩)
     have HX3 := Lib.hid ((hb2.block _ (Array.getElem?_eq_some_iff.1 HX2.out).1).trans HX2.out)
     have hb12 := hb.trans (hb2.mono hb.size)
     clear q2 q3 hck HX2
     go_loopw [4] (fun i wr => ∃ j : Nat, j ≤ k ∧ i = .int .i64 j ∧ NotUpto m.params m.params[k] j ∧ Below w2.heap.size w2 wr) (fun i _ => k - (intOf i).toNat)
     case atStart => exact ⟨0, by omega, rfl, NotUpto.zero _ _, Below.refl _ _⟩
     case round =>
      obtain ⟨j, hj, rfl, hnot, hb3⟩ := hrel
      have HX4 := Lib.hid ((hb3.block _ (Array.getElem?_eq_some_iff.1 HX3.out).1).trans HX3.out)
      have hb13 := hb12.trans (hb3.mono hb12.size)
      have hbw3 := hB1.trans (hb13.mono hB1.size)
      have q2 : wr.cell? ⟨w.heap.size, 2, none⟩ = some _ := cell_of_row _ _ 2 _ _ _ HX4.out
      by_cases hjk : j < k
      ·have hcj := (hbw3.cell (p := ⟨b, off + j, none⟩) hbl).trans (hce j (by omega))
       have hck := (hbw3.cell (p := ⟨b, off + k, none⟩) hbl).trans (hce k hlt)
       by_cases e : m.params[j] = m.params[k]
       ·have e' := bytes_beq e
        have HF := Lib.hid (macOk_par hlt (par_twice hlt hjk e))
        clear e hce hall hnot
        go_wp2
        go_quiet (fail)
        go_wp2
        go_ret
        exact ⟨ret_bool HF.out.symm, belowN hbw3 _⟩
       ·have e' : (m.params[j].toList == m.params[k].toList) = false := bytes_bne e
        have HG := Lib.hid (hnot.succ (by omega) e)
        clear e hce hall hnot
        go_wp2
        go_quiet (fail)
        go_wp2
        go_roundw
        case rel => exact ⟨j + 1, by omega, by go_num, HG.out, belowN hb3 _⟩
        case measure => simp [intOf]; omega
      ·have hjk' : j = k := by omega
       subst hjk'
       have HG := Lib.hid (hall.succ (par_yes hlt H1.out hnot))
       clear hce hall hnot
       go_wp2
       go_roundw
       case rel => exact ⟨j + 1, by omega, by go_num, HG.out, hb13⟩
       case measure => simp [intOf]; omega
   ·have HP := Lib.hid (show ParUpto m.params m.params.length from fun j hj => hall j (by omega))
    have hz : decide (k < m.params.length) = false := decide_eq_false hlt
    clear hall hk
    go_wp2
    try rw [hz]
    clear q2 q3 HX2 hbw hlt hz
    go_loopw [6] (fun i wr => ∃ k : Nat, k ≤ m.body.length ∧ i = .int .i64 k ∧ BodUpto (bodOk m) k ∧ Below w1.heap.size w1 wr) (fun i _ => m.body.length - (intOf i).toNat)
    case atStart => exact ⟨0, by omega, rfl, BodUpto.zero _, hb⟩
    case round =>
     clear hb
     obtain ⟨k, hk, rfl, hall, hb⟩ := hrel
     have HX3 := Lib.hid ((hb.block _ (Array.getElem?_eq_some_iff.1 HX1.out).1).trans HX1.out)
     have q3 : wr.cell? ⟨w.heap.size, 3, none⟩ = some _ := cell_of_row _ _ 3 _ _ _ HX3.out
     have hbw := hB1.trans (hb.mono hB1.size)
     by_cases hlt : k < m.body.length
     ·obtain ⟨b1, off1, fps1, rfl, hb1', -, he1⟩ := hrow3 (by omega)
      obtain ⟨es1, hE1, hR1⟩ := he1 k hlt
      have hR1' := hR1
      obtain ⟨hh, rfl, -, -, K1⟩ := hR1
      obtain ⟨ah, caph, rfl, -⟩ := open_rows K1
      replace hE1 := hE1.frame (hbw.block b1 hb1')
      have c10 : wr.cell? ⟨b1, off1 + k * 4, none⟩ = some _ := elem_cell0 hE1 (by decide) rfl
      have c11 : wr.cell? ⟨b1, off1 + k * 4 + 1, none⟩ = some _ := elem_cell (j := 1) hE1 (by decide) rfl
      have c12 : wr.cell? ⟨b1, off1 + k * 4 + 2, none⟩ = some _ := elem_cell (j := 2) hE1 (by decide) rfl
      have c13 : wr.cell? ⟨b1, off1 + k * 4 + 3, none⟩ = some _ := elem_cell (j := 3) hE1 (by decide) rfl
      have hbx : Below wr.heap.size wr (wr.alloc (.cells #[.int .i64 m.body[k].kind, .string m.body[k].text, .bool m.body[k].spaced, .slice ah m.body[k].hidden.length caph] 47)) := alloc_below' _ _
      have HT := Lib.hid (heap_alloc_new wr (.cells #[.int .i64 m.body[k].kind, .string m.body[k].text, .bool m.body[k].spaced, .slice ah m.body[k].hidden.length caph] 47))
      have HV := Lib.hid (fun W (hW : Below (wr.alloc (.cells #[.int .i64 m.body[k].kind, .string m.body[k].text, .bool m.body[k].spaced, .slice ah m.body[k].hidden.length caph] 47)).heap.size (wr.alloc (.cells #[.int .i64 m.body[k].kind, .string m.body[k].text, .bool m.body[k].spaced, .slice ah m.body[k].hidden.length caph] 47)) W) => spec_TokenValid _ _ _ W (sTok.below (sTok.below (sTok.below hR1' hbw) hbx) hW))
      clear K1 hR1' hE1
      go_wp2_with fail
      refine (HV.out _ (Below.refl _ _)).mono ?_
      rintro e w2 ⟨rfl, hb2⟩
      have HT2 := Lib.hid ((hb2.block _ (Array.getElem?_eq_some_iff.1 HT.out).1).trans HT.out)
      have hb02 := hbx.trans (hb2.mono hbx.size)
      have hbq := hb.trans (hb02.mono hb.size)
      have hbw2 := hB1.trans (hbq.mono hB1.size)
      have HX4 := Lib.hid ((hb02.block _ (Array.getElem?_eq_some_iff.1 HX3.out).1).trans HX3.out)
      have p1 : w2.cell? ⟨wr.heap.size, 1, none⟩ = some _ := cell_of_row _ _ 1 _ _ _ HT2.out
      have p2 : w2.cell? ⟨wr.heap.size, 2, none⟩ = some _ := cell_of_row _ _ 2 _ _ _ HT2.out
      have p3 : w2.cell? ⟨wr.heap.size, 3, none⟩ = some _ := cell_of_row _ _ 3 _ _ _ HT2.out
      clear q3 c10 c11 c12 c13 HV HT hb2 HX3 hbx hb02 hbw hb
      have q0 : w2.cell? ⟨w.heap.size, 0, none⟩ = some _ := cell_of_row _ _ 0 _ _ _ HX4.out
      have q1 : w2.cell? ⟨w.heap.size, 1, none⟩ = some _ := cell_of_row _ _ 1 _ _ _ HX4.out
      have q2 : w2.cell? ⟨w.heap.size, 2, none⟩ = some _ := cell_of_row _ _ 2 _ _ _ HX4.out
      have q3 : w2.cell? ⟨w.heap.size, 3, none⟩ = some _ := cell_of_row _ _ 3 _ _ _ HX4.out
      cases hv : tokOk m.body[k]
      ·have HF := Lib.hid (macOk_bod hlt (by rw [bodOk_split _ _ hlt, hv]; rfl))
       clear hv hall
       go_wp2
       go_ret
       exact ⟨ret_bool HF.out.symm, hbw2⟩
      have HS := Lib.hid (bodOk_split m k hlt)
      rw [hv] at HS
      clear hv
      have g00 : ((k : Int) == 0) = decide (k = 0) := by rw [Bool.eq_iff_iff]; simp
      have g01 : ((k : Int) == (m.body.length : Int) - 1) = decide (k + 1 = m.body.length) := by rw [Bool.eq_iff_iff]; simp; omega
      rcases bodI_ways hlt with ⟨e1, HI⟩ | ⟨e1, e2, e3, HI⟩ | ⟨e1, e2, e3, e4, HI⟩ | ⟨e1, e2, e3, e4, HI⟩ | ⟨e1, e2, e4, e5, HI⟩ | ⟨e1, e2, e4, e5, e6, HI⟩ | ⟨e1, e2, e4, e5, e6, HI⟩ | ⟨e1, e2, e4, HI⟩
      ·have HF := Lib.hid (macOk_bod hlt (by rw [HS.out, HI.out]; simp))
       have f0 : (0 : Int) < (m.body[k].hidden.length : Int) := by omega
       have f01 : 0 < m.body[k].hidden.length := by omega
       have f02 : decide ((0 : Int) < (m.body[k].hidden.length : Int)) = true := decide_eq_true f0
       clear e1 hall
       go_wp2
       go_ret
       exact ⟨ret_bool HF.out.symm, hbw2⟩
      ·have HF := Lib.hid (macOk_bod hlt (by rw [HS.out, HI.out]; simp))
       have f0 : ¬ (0 : Int) < (m.body[k].hidden.length : Int) := by omega
       have f01 : ¬ 0 < m.body[k].hidden.length := by omega
       rw [decide_eq_true e2] at g00
       rw [e3] at p2
       clear e2 e3
       clear e1 hall
       go_wp2
       go_ret
       exact ⟨ret_bool HF.out.symm, hbw2⟩
      ·have HF := Lib.hid (macOk_bod hlt (by rw [HS.out, HI.out]; simp))
       have f0 : ¬ (0 : Int) < (m.body[k].hidden.length : Int) := by omega
       have f01 : ¬ 0 < m.body[k].hidden.length := by omega
       rw [decide_eq_true e2] at g00
       rw [e3] at p2
       have f4 := txt_t (l := [35, 35]) e4
       have E4 := Lib.hid e4
       clear e4
       clear e2 e3
       clear e1 hall
       go_wp2
       go_ret
       exact ⟨ret_bool HF.out.symm, hbw2⟩
      ·have f0 : ¬ (0 : Int) < (m.body[k].hidden.length : Int) := by omega
       have f01 : ¬ 0 < m.body[k].hidden.length := by omega
       rw [decide_eq_true e2] at g00
       rw [e3] at p2
       have f4 := txt_f (l := [35, 35]) e4
       have E4 := Lib.hid e4
       clear e4
       clear e1 e2 e3
       by_cases e7 : m.body[k].text = hash1
       ·have f7 := txt_t (l := [35]) e7
        have E7 := Lib.hid e7
        clear e7
        by_cases e8 : k + 1 = m.body.length
        ·have HF := Lib.hid (macOk_bod hlt (by rw [HS.out, HI.out, hf, signS_last hlt E7.out e8]; rfl))
         rw [decide_eq_true e8] at g01
         clear e8 hall
         go_wp2
         go_quiet (fail)
         go_wp2
         go_ret
         exact ⟨ret_bool HF.out.symm, belowN hbw2 _⟩
        ·have hk1 : k + 1 < m.body.length := by omega
         obtain ⟨es3, hE3, hR3⟩ := he1 (k + 1) hk1
         have hR3' := hR3
         obtain ⟨h9, rfl, -, -, -⟩ := hR3
         replace hE3 := hE3.frame (hbw2.block b1 hb1')
         have c30 : w2.cell? ⟨b1, off1 + (k + 1) * 4, none⟩ = some _ := elem_cell0 hE3 (by decide) rfl
         have c31 : w2.cell? ⟨b1, off1 + (k + 1) * 4 + 1, none⟩ = some _ := elem_cell (j := 1) hE3 (by decide) rfl
         have c32 : w2.cell? ⟨b1, off1 + (k + 1) * 4 + 2, none⟩ = some _ := elem_cell (j := 2) hE3 (by decide) rfl
         have c33 : w2.cell? ⟨b1, off1 + (k + 1) * 4 + 3, none⟩ = some _ := elem_cell (j := 3) hE3 (by decide) rfl
         have HC := Lib.hid (fun W (hW : Below w2.heap.size w2 W) => spec_l5Param _ _ m m.body[k + 1] _ _ W (HM.out W (hbw2.trans (hW.mono hbw2.size))) (sTok.below (sTok.below hR3' hbw2) hW))
         have h6 : ((k : Int) + 1).toNat = k + 1 := by omega
         have hwl : IntKind.i64.wrap ((k : Int) + 1) = (k : Int) + 1 := IntWalk.i64_in _ (by omega)
         have hi1 : (0 : Int) ≤ (k : Int) + 1 := by omega
         have hi2 : (k : Int) + 1 < (m.body.length : Int) := by omega
         rw [decide_eq_false e8] at g01
         clear hE3 hR3' e8 he1 hrow3
         go_wp2
         go_still_tail 19, (by kernel_rfl)
         change wpList _ _ _ _ _ w2.drew
         have hd : Below w2.heap.size w2 w2.drew := belowN (Below.refl _ _) 1
         generalize w2.drew = w3 at *
         by_cases e9 : parOf m.params m.body[k + 1] < 0
         ·have HF := Lib.hid (macOk_bod hlt (by rw [HS.out, HI.out, hf, signS_no hk1 E7.out e9]; rfl))
          clear hall
          go_wp2_with (go_at_call 97; refine (HC.out _ hd).mono ?_; rintro e w4 ⟨rfl, hb4⟩)
          go_ret
          exact ⟨ret_bool HF.out.symm, (hbw2.trans (hd.mono hbw2.size)).trans (hb4.mono (Nat.le_trans hbw2.size hd.size))⟩
         ·have HN := Lib.hid (hall.succ (by rw [HS.out, HI.out, hf, signS_yes hk1 E7.out e9]; rfl))
          clear hall
          go_wp2_with (go_at_call 97; refine (HC.out _ hd).mono ?_; rintro e w4 ⟨rfl, hb4⟩)
          go_roundw
          case rel => first | exact ⟨k + 1, by omega, by go_num, HN.out, (hbq.trans (hd.mono hbq.size)).trans (hb4.mono (Nat.le_trans hbq.size hd.size))⟩ | ((repeat apply Exists.intro); exact ⟨⟨k + 1, by omega, by go_num, HN.out, (hbq.trans (hd.mono hbq.size)).trans (hb4.mono (Nat.le_trans hbq.size hd.size))⟩, rfl⟩)
          case measure => simp [intOf]; omega
       ·have f7 := txt_f (l := [35]) e7
        have HN := Lib.hid (hall.succ (by rw [HS.out, HI.out, hf, signS_other hlt e7]; rfl))
        clear e7 hall
        go_wp2
        go_quiet (fail)
        go_wp2
        go_roundw
        case rel => first | exact ⟨k + 1, by omega, by go_num, HN.out, belowN hbq _⟩ | ((repeat apply Exists.intro); exact ⟨⟨k + 1, by omega, by go_num, HN.out, belowN hbq _⟩, rfl⟩)
        case measure => simp [intOf]; omega
      ·have HF := Lib.hid (macOk_bod hlt (by rw [HS.out, HI.out]; simp))
       have f0 : ¬ (0 : Int) < (m.body[k].hidden.length : Int) := by omega
       have f01 : ¬ 0 < m.body[k].hidden.length := by omega
       rw [decide_eq_false e2] at g00
       have f4 := txt_t (l := [35, 35]) e4
       have E4 := Lib.hid e4
       clear e4
       rw [decide_eq_true e5] at g01
       clear e2 e5
       clear e1 hall
       go_wp2
       go_ret
       exact ⟨ret_bool HF.out.symm, hbw2⟩
      ·have HF := Lib.hid (macOk_bod hlt (by rw [HS.out, HI.out]; simp))
       have f0 : ¬ (0 : Int) < (m.body[k].hidden.length : Int) := by omega
       have f01 : ¬ 0 < m.body[k].hidden.length := by omega
       rw [decide_eq_false e2] at g00
       have f4 := txt_t (l := [35, 35]) e4
       have E4 := Lib.hid e4
       clear e4
       rw [decide_eq_false e5] at g01
       obtain ⟨es2, hE2, hR2⟩ := he1 (k - 1) (by omega)
       obtain ⟨h9, rfl, -, -, -⟩ := hR2
       replace hE2 := hE2.frame (hbw2.block b1 hb1')
       have c21 : w2.cell? ⟨b1, off1 + (k - 1) * 4 + 1, none⟩ = some _ := elem_cell (j := 1) hE2 (by decide) rfl
       have h6 : ((k : Int) - 1).toNat = k - 1 := by omega
       have hwl : IntKind.i64.wrap ((k : Int) - 1) = (k : Int) - 1 := IntWalk.i64_in _ (by omega)
       have hi1 : (0 : Int) ≤ (k : Int) - 1 := by omega
       have hi2 : (k : Int) - 1 < (m.body.length : Int) := by omega
       clear hE2
       have f6 := txt_t (l := [35, 35]) e6
       clear e2 e5 e6
       clear e1 hall
       go_wp2
       go_ret
       exact ⟨ret_bool HF.out.symm, hbw2⟩
      ·have f0 : ¬ (0 : Int) < (m.body[k].hidden.length : Int) := by omega
       have f01 : ¬ 0 < m.body[k].hidden.length := by omega
       rw [decide_eq_false e2] at g00
       have f4 := txt_t (l := [35, 35]) e4
       have E4 := Lib.hid e4
       clear e4
       rw [decide_eq_false e5] at g01
       obtain ⟨es2, hE2, hR2⟩ := he1 (k - 1) (by omega)
       obtain ⟨h9, rfl, -, -, -⟩ := hR2
       replace hE2 := hE2.frame (hbw2.block b1 hb1')
       have c21 : w2.cell? ⟨b1, off1 + (k - 1) * 4 + 1, none⟩ = some _ := elem_cell (j := 1) hE2 (by decide) rfl
       have h6 : ((k : Int) - 1).toNat = k - 1 := by omega
       have hwl : IntKind.i64.wrap ((k : Int) - 1) = (k : Int) - 1 := IntWalk.i64_in _ (by omega)
       have hi1 : (0 : Int) ≤ (k : Int) - 1 := by omega
       have hi2 : (k : Int) - 1 < (m.body.length : Int) := by omega
       clear hE2
       have f6 := txt_f (l := [35, 35]) e6
       clear e1 e2 e5 e6
       by_cases e7 : m.body[k].text = hash1
       ·exact absurd (e7.symm.trans E4.out) (by decide)
       ·have f7 := txt_f (l := [35]) e7
        have HN := Lib.hid (hall.succ (by rw [HS.out, HI.out, hf, signS_other hlt e7]; rfl))
        clear e7 hall
        go_wp2
        go_quiet (fail)
        go_wp2
        go_roundw
        case rel => first | exact ⟨k + 1, by omega, by go_num, HN.out, belowN hbq _⟩ | ((repeat apply Exists.intro); exact ⟨⟨k + 1, by omega, by go_num, HN.out, belowN hbq _⟩, rfl⟩)
        case measure => simp [intOf]; omega
      ·have f0 : ¬ (0 : Int) < (m.body[k].hidden.length : Int) := by omega
       have f01 : ¬ 0 < m.body[k].hidden.length := by omega
       rw [decide_eq_false e2] at g00
       have f4 := txt_f (l := [35, 35]) e4
       have E4 := Lib.hid e4
       clear e4
       clear e1 e2
       by_cases e7 : m.body[k].text = hash1
       ·have f7 := txt_t (l := [35]) e7
        have E7 := Lib.hid e7
        clear e7
        by_cases e8 : k + 1 = m.body.length
        ·have HF := Lib.hid (macOk_bod hlt (by rw [HS.out, HI.out, hf, signS_last hlt E7.out e8]; rfl))
         rw [decide_eq_true e8] at g01
         clear e8 hall
         go_wp2
         go_quiet (fail)
         go_wp2
         go_ret
         exact ⟨ret_bool HF.out.symm, belowN hbw2 _⟩
        ·have hk1 : k + 1 < m.body.length := by omega
         obtain ⟨es3, hE3, hR3⟩ := he1 (k + 1) hk1
         have hR3' := hR3
         obtain ⟨h9, rfl, -, -, -⟩ := hR3
         replace hE3 := hE3.frame (hbw2.block b1 hb1')
         have c30 : w2.cell? ⟨b1, off1 + (k + 1) * 4, none⟩ = some _ := elem_cell0 hE3 (by decide) rfl
         have c31 : w2.cell? ⟨b1, off1 + (k + 1) * 4 + 1, none⟩ = some _ := elem_cell (j := 1) hE3 (by decide) rfl
         have c32 : w2.cell? ⟨b1, off1 + (k + 1) * 4 + 2, none⟩ = some _ := elem_cell (j := 2) hE3 (by decide) rfl
         have c33 : w2.cell? ⟨b1, off1 + (k + 1) * 4 + 3, none⟩ = some _ := elem_cell (j := 3) hE3 (by decide) rfl
         have HC := Lib.hid (fun W (hW : Below w2.heap.size w2 W) => spec_l5Param _ _ m m.body[k + 1] _ _ W (HM.out W (hbw2.trans (hW.mono hbw2.size))) (sTok.below (sTok.below hR3' hbw2) hW))
         have h6 : ((k : Int) + 1).toNat = k + 1 := by omega
         have hwl : IntKind.i64.wrap ((k : Int) + 1) = (k : Int) + 1 := IntWalk.i64_in _ (by omega)
         have hi1 : (0 : Int) ≤ (k : Int) + 1 := by omega
         have hi2 : (k : Int) + 1 < (m.body.length : Int) := by omega
         rw [decide_eq_false e8] at g01
         clear hE3 hR3' e8 he1 hrow3
         go_wp2
         go_still_tail 19, (by kernel_rfl)
         change wpList _ _ _ _ _ w2.drew
         have hd : Below w2.heap.size w2 w2.drew := belowN (Below.refl _ _) 1
         generalize w2.drew = w3 at *
         by_cases e9 : parOf m.params m.body[k + 1] < 0
         ·have HF := Lib.hid (macOk_bod hlt (by rw [HS.out, HI.out, hf, signS_no hk1 E7.out e9]; rfl))
          clear hall
          go_wp2_with (go_at_call 97; refine (HC.out _ hd).mono ?_; rintro e w4 ⟨rfl, hb4⟩)
          go_ret
          exact ⟨ret_bool HF.out.symm, (hbw2.trans (hd.mono hbw2.size)).trans (hb4.mono (Nat.le_trans hbw2.size hd.size))⟩
         ·have HN := Lib.hid (hall.succ (by rw [HS.out, HI.out, hf, signS_yes hk1 E7.out e9]; rfl))
          clear hall
          go_wp2_with (go_at_call 97; refine (HC.out _ hd).mono ?_; rintro e w4 ⟨rfl, hb4⟩)
          go_roundw
          case rel => first | exact ⟨k + 1, by omega, by go_num, HN.out, (hbq.trans (hd.mono hbq.size)).trans (hb4.mono (Nat.le_trans hbq.size hd.size))⟩ | ((repeat apply Exists.intro); exact ⟨⟨k + 1, by omega, by go_num, HN.out, (hbq.trans (hd.mono hbq.size)).trans (hb4.mono (Nat.le_trans hbq.size hd.size))⟩, rfl⟩)
          case measure => simp [intOf]; omega
       ·have f7 := txt_f (l := [35]) e7
        have HN := Lib.hid (hall.succ (by rw [HS.out, HI.out, hf, signS_other hlt e7]; rfl))
        clear e7 hall
        go_wp2
        go_quiet (fail)
        go_wp2
        go_roundw
        case rel => first | exact ⟨k + 1, by omega, by go_num, HN.out, belowN hbq _⟩ | ((repeat apply Exists.intro); exact ⟨⟨k + 1, by omega, by go_num, HN.out, belowN hbq _⟩, rfl⟩)
        case measure => simp [intOf]; omega
     ·have HF := Lib.hid (macOk_yes HH.out HP.out (fun j hj => hall j (by omega)))
      clear hall
      go_wp2
      go_ret
      exact ⟨ret_bool HF.out.symm, hbw⟩


end Go.Proofs.YtlegeancmcmbaaaDoor

/- MacroValid of the program. -/
namespace Go.Proofs.YtlegeancmcmbaaaDoor
open Go.RowKit

def idxTx (ps : List ByteArray) (x : ByteArray) (k : Nat) : Int := if h : k < ps.length then (if x = ps[k] then (k : Int) else idxTx ps x (k + 1)) else -1
termination_by ps.length - k
theorem idx_end {ps : List ByteArray} {x : ByteArray} {k : Nat} (h : ps.length ≤ k) : idxTx ps x k = -1 := by rw [idxTx, dif_neg (by omega)]
theorem idx_hit {ps : List ByteArray} {x : ByteArray} {k : Nat} (h : k < ps.length) (h1 : x = ps[k]) : idxTx ps x k = k := by rw [idxTx, dif_pos h, if_pos h1]
theorem idx_miss {ps : List ByteArray} {x : ByteArray} {k : Nat} (h : k < ps.length) (h1 : x ≠ ps[k]) : idxTx ps x k = idxTx ps x (k + 1) := by rw [idxTx, dif_pos h, if_neg h1]
theorem idx_has (ps : List ByteArray) (x : ByteArray) (k : Nat) : decide (0 ≤ idxTx ps x k) = hasTx (ps.drop k) x := by
 induction k using idxTx.induct (ps := ps) (x := x) with
 |
  case1 k h hc =>
  rw [idx_hit h hc, List.drop_eq_getElem_cons h]
  unfold hasTx
  rw [List.any_cons, decide_eq_true hc.symm, Bool.true_or, decide_eq_true (by omega)]
 |
  case2 k h hc ih =>
  have hc' : ¬ ps[k] = x := fun e => hc e.symm
  rw [idx_miss h hc, ih, List.drop_eq_getElem_cons h]
  unfold hasTx
  rw [List.any_cons, decide_eq_false hc', Bool.false_or]
 | case3 k h => rw [idx_end (by omega), List.drop_eq_nil_iff.2 (by omega)]; rfl
theorem idx_has0 (ps : List ByteArray) (x : ByteArray) : decide (0 ≤ idxTx ps x 0) = hasTx ps x := idx_has ps x 0

set_option maxHeartbeats 2000000 in
theorem lib_Index (v : Value) (l : List ByteArray) (fp : List Nat) (x : ByteArray) (w : World) (H : (sSlice sStr).R w [v] l fp) :
  Calls Tryd.prog 110 #[v, .string x] w fun e w' => e = .returned (.int .i64 (idxTx l x 0)) ∧ w' = w := by
 obtain ⟨a, cap, rfl, hc, hm, hcell, hsz⟩ := open_strs H
 unfold maxLen at hm
 clear H
 go_enter Tryd.func110, Tryd.ntmps110
 go_wp2
 go_loopw [8] (fun i wr => ∃ k : Nat, k ≤ l.length ∧ i = .int .i64 k ∧ Hid (idxTx l x 0 = idxTx l x k) ∧ wr = w) (fun i _ => l.length - (intOf i).toNat)
 case atStart => exact ⟨0, by omega, rfl, rfl, rfl⟩
 case round =>
  obtain ⟨k, hk, rfl, HP, rfl⟩ := hrel
  by_cases hlt : k < l.length
  ·obtain ⟨b, off, rfl, hbl, _, hc2⟩ := hcell (by omega)
   have hck := hc2 k hlt
   clear hcell hc2
   by_cases e : x = l[k]
   ·have g := bytes_beq e
    have HF := Lib.hid (idx_hit hlt e)
    clear e
    go_wp2
    go_ret
    exact ⟨ret_int (by rw [HP.out, HF.out]), by first | rfl | trivial⟩
   ·have g : (x.toList == l[k].toList) = false := bytes_bne e
    have HF := Lib.hid (idx_miss hlt e)
    clear e
    go_wp2
    go_roundw
    case rel => exact ⟨k + 1, by omega, by go_num, by show _ = _; rw [HP.out, HF.out], by first | rfl | trivial⟩
    case measure => simp [intOf]; omega
  ·have HF := Lib.hid (idx_end (x := x) (by omega : l.length ≤ k))
   go_wp2
   go_ret
   exact ⟨ret_int (by rw [HP.out, HF.out]), by first | rfl | trivial⟩
theorem lib_Contains (v : Value) (l : List ByteArray) (fp : List Nat) (x : ByteArray) (w : World) (H : (sSlice sStr).R w [v] l fp) :
  Calls Tryd.prog 107 #[v, .string x] w fun e w' => e = .returned (.bool (hasTx l x)) ∧ w' = w := by
 have HC := Lib.hid (lib_Index v l fp x w H)
 have HF := Lib.hid (idx_has0 l x)
 clear H
 go_enter Tryd.func107, Tryd.ntmps107
 go_wp2_with (go_at_call 110; refine HC.out.mono ?_; rintro e w' ⟨rfl, rfl⟩)
 go_ret
 exact ⟨ret_bool HF.out, by first | rfl | trivial⟩

theorem par_take {ps : List ByteArray} {k : Nat} (hk : k < ps.length) : parOk ps k = (oneTok ps[k] 1 && !hasTx (ps.take k) ps[k]) := by
 unfold parOk
 rw [dif_pos hk]
 congr 1
 cases h : hasTx (ps.take k) ps[k]
 ·rw [Bool.not_false, List.all_eq_true]
  intro j hj
  have hj' : j < k := by simpa using hj
  rw [List.getElem?_eq_getElem (by omega), Bool.not_eq_true', decide_eq_false_iff_not]
  intro e
  have : hasTx (ps.take k) ps[k] = true := hasTx_iff.2 (by rw [← Option.some.inj e]; exact List.mem_take_iff_getElem.2 ⟨j, by omega, rfl⟩)
  rw [h] at this
  exact absurd this (by simp)
 ·rw [Bool.not_true, List.all_eq_false]
  obtain ⟨j, hj, he⟩ := List.mem_take_iff_getElem.1 (hasTx_iff.1 h)
  exact ⟨j, by simp; omega, by rw [List.getElem?_eq_getElem (by omega), he]; simp⟩
theorem parsOk_long {ps : List ByteArray} (h : 4 < ps.length) : parsOk ps = false := by unfold parsOk; rw [decide_eq_false (by omega)]; rfl
theorem parsOk_no {ps : List ByteArray} {k : Nat} (hk : k < ps.length) (h : parOk ps k = false) : parsOk ps = false := by unfold parsOk; rw [range_no hk h, Bool.and_false]
theorem parsOk_yes {ps : List ByteArray} (hl : ps.length ≤ 4) (h : ParUpto ps ps.length) : parsOk ps = true := by unfold parsOk; rw [range_yes h, decide_eq_true hl]; rfl

set_option maxHeartbeats 4000000 in
set_option maxRecDepth 100000 in
theorem impl_paramsValid (v : Value) (l : List ByteArray) (fp : List Nat) (w : World) (H : (sSlice sStr).R w [v] l fp) :
  Calls Tryd.prog 101 #[v] w (Says (parsOk l) w) := by
 have H' := H
 obtain ⟨a, cap, rfl, hc, hm, hcell, hsz⟩ := open_strs H
 unfold maxLen at hm
 clear H
 by_cases hl : 4 < l.length
 ·have HF := Lib.hid (parsOk_long hl)
  go_enter Tryd.func101, Tryd.ntmps101
  go_wp2
  go_ret
  exact ⟨ret_bool HF.out.symm, Below.refl _ _⟩
 go_enter Tryd.func101, Tryd.ntmps101
 go_wp2
 go_loopw [10] (fun i wr => ∃ k : Nat, k ≤ l.length ∧ i = .int .i64 k ∧ ParUpto l k ∧ Below w.heap.size w wr) (fun i _ => l.length - (intOf i).toNat)
 case atStart => exact ⟨0, by omega, rfl, ParUpto.zero _, Below.refl _ _⟩
 case round =>
  obtain ⟨k, hk, rfl, hall, hb⟩ := hrel
  by_cases hlt : k < l.length
  ·obtain ⟨b, off, rfl, hbl, _, hc2⟩ := hcell (by omega)
   have hck := (hb.cell (p := ⟨b, off + k, none⟩) hbl).trans (hc2 k hlt)
   have HC := Lib.hid (fun W => impl_isOneToken l[k] 1 W (hsz k hlt))
   obtain ⟨fpt, HT, -⟩ := slice_take k hk H'
   have HD := Lib.hid (fun W (hW : Below wr.heap.size wr W) => lib_Contains _ _ _ l[k] W ((sSlice sStr).below ((sSlice sStr).below HT hb) hW))
   have hpk := par_take hlt
   clear hcell hc2 HT H'
   cases h1 : oneTok l[k] 1
   ·rw [h1] at HC hpk
    have HF := Lib.hid (parsOk_no hlt (hpk.trans rfl))
    clear h1 hpk hall HD
    go_wp2_with (go_at_call 88; refine (HC.out _).mono ?_; rintro e w1 ⟨rfl, hb1⟩)
    go_ret
    exact ⟨ret_bool HF.out.symm, hb.trans (hb1.mono hb.size)⟩
   ·rw [h1] at HC hpk
    clear h1
    go_wp2_with fail
    refine (HC.out _).mono ?_
    rintro e w1 ⟨rfl, hb1⟩
    go_wp2_with fail
    refine (HD.out _ hb1).mono ?_
    rintro e w2 ⟨rfl, rfl⟩
    have hbq := hb.trans (hb1.mono hb.size)
    cases h2 : hasTx (l.take k) l[k]
    ·rw [h2] at hpk
     have HN := Lib.hid (hall.succ (hpk.trans rfl))
     clear h2 hpk hall hck HD HC hb1
     go_wp2
     go_roundw
     case rel => exact ⟨k + 1, by omega, by go_num, HN.out, hbq⟩
     case measure => simp [intOf]; omega
    ·rw [h2] at hpk
     have HF := Lib.hid (parsOk_no hlt (hpk.trans rfl))
     clear h2 hpk hall hck HD HC hb1
     go_wp2
     go_ret
     exact ⟨ret_bool HF.out.symm, hbq⟩
  ·have HF := Lib.hid (parsOk_yes (by omega) (fun j hj => hall j (by omega)))
   clear hall
   go_wp2
   go_ret
   exact ⟨ret_bool HF.out.symm, hb⟩

end Go.Proofs.YtlegeancmcmbaaaDoor
