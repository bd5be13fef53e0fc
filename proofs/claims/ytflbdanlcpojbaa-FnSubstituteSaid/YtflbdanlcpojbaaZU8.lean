/- Texts that the proof of U stands on, in one file. -/
import Derived.Test.YtflbdanlcpojbaaZU6
import Derived.Test.YtflbdanlcpojbaaZU5
import Derived.Test.YtflbdanlcpojbaaZU7
import Derived.Deep.Cut
import Derived.Test.YtflbdanlcpojbaaZU1
import Derived.Laws.ResultCell
import Derived.Test.YtflbdanlcpojbaaZU2
import Derived.Test.YtflbdanlcpojbaaZU4
import Derived.Test.YtflbdanlcpojbaaZU3
set_option linter.unusedVariables false
set_option linter.unusedSimpArgs false
/- Copies of tokens: the model's own. -/
namespace Go.Proofs.Ytflbdanlcpojbaa
open Go.RowKit

theorem run_append_nil {P : Program} {w : World} (base : Nat) (t ty e : TypeId) (i : TypeInfo) (size c : Nat) (ht : P.underlying t = some (.slice e)) (hi : P.info? e = some i)
    (v : Value) (n : Nat) (xs : List Value) (hown : w.ownsRow base e size v n xs) : (Builtin.append_ #[t, t] ty #[v, .slice none 0 c]).run P w = .ok v w := by
  rcases hown.2 with ⟨rfl, rfl⟩ | ⟨g, cap, cur, rfl, _, _, hnc, _⟩
  · simp [Builtin.append_, run_underlying ht, sizeOf, typeInfo, hi, Builtin.lenOf, Builtin.firstCells]
  · simp [Builtin.append_, run_underlying ht, sizeOf, typeInfo, hi, Builtin.lenOf, Builtin.firstCells, hnc, storeCells]
/-- append(row, texts...), the texts of any slice that can be read. -/
theorem wp_append_strsR {w : World} {ops : Array Oper} {rest : List Oper} {o : Oper} {a : Act} {Q : Exit → Act → World → Prop} (hg : o.guard = none) (s y : Operand)
    (ho : o.op = .call { callee := .builtin .append, args := #[s, y], argTypes := #[23, 23] })
    (base : Nat) (v u : Value) (L M : List ByteArray) (fp : List Nat) (hs : a.eval s = v) (hown : w.ownsRow base 9 1 v L.length (L.map Value.string)) (hy : a.eval y = u) (HM : (sSlice sStr).R w [u] M fp)
    (h63 : L.length + M.length ≤ 4000000) (hbase : base ≤ w.heap.size)
    (h : ∀ v' w', w'.ownsRow base 9 1 v' (L ++ M).length ((L ++ M).map Value.string) → w.grownBy w' v.ownBlock → wpList Try.prog ops Q rest (a.put o.dst v') w') : wpList Try.prog ops Q (o :: rest) a w := by
  obtain ⟨i, hi, hz0, hz1, hz2⟩ := info_parts ti27.2
  obtain ⟨ad, cap, rfl, hc, hm, hcell, hsz⟩ := open_strs HM
  have key : ∀ (b off : Nat), (0 < M.length → ∀ j, (hj : j < M.length) → w.cell? ⟨b, off + j, none⟩ = some (.string M[j])) → a.eval y = .slice (some ⟨b, off, none⟩) M.length cap → wpList Try.prog ops Q (o :: rest) a w := by
    intro b off hat hy'
    refine wpList_append_own _ hg s y 23 ho base 9 i _ 1 16 ti27.1 hi hz0 hz1 hz2 rfl (by decide) v L.length (L.map Value.string) hs hown ⟨b, off, none⟩ M.length cap (M.map Value.string) hy' (by simp) ?_ ?_ (by unfold maxLen; omega) (by omega) hbase fun v' w' h1 h2 _ => h v' w' ?_ h2
    · intro j x hj
      have hj' : j < M.length := by have := (List.getElem?_eq_some_iff.1 hj).1; simpa using this
      rw [Addr.add_lit, hat (by omega) j hj', ← hj]
      simp [List.getElem?_eq_getElem hj']
    · intro x hx
      obtain ⟨s, _, rfl⟩ := List.mem_map.1 hx
      rfl
    · simpa using h1
  by_cases h0 : 0 < M.length
  · obtain ⟨b, off, rfl, _, _, hc2⟩ := hcell h0
    exact key b off (fun _ j hj => hc2 j hj) hy
  · have hM : M = [] := List.length_eq_zero_iff.1 (by omega)
    subst hM
    cases ad with
    | none =>
      have hrun := run_append_nil (P := Try.prog) (w := w) base 23 o.type 9 i 1 cap ti27.1 hi v L.length _ hown
      have hK := h v w (by simpa using hown) ⟨rfl, rfl, rfl, Nat.le_refl _, fun _ _ _ => rfl⟩
      refine wpList_plain hg fun K hK' => ?_
      unfold Oper.wp
      simp only [List.length_nil] at hy
      simp [execOp, ho, resolve, invoke, builtin, hs, hy, hrun, Result.andThen]
      exact hK' _ _ hK
    | some ad =>
      refine wpList_append_own _ hg s y 23 ho base 9 i _ 1 16 ti27.1 hi hz0 hz1 hz2 rfl (by decide) v L.length (L.map Value.string) hs hown ad 0 cap [] hy rfl (by simp) (by simp) (by unfold maxLen; omega) (by omega) hbase fun v' w' h1 h2 _ => h v' w' (by simpa using h1) h2

/-- A token of the call's own. -/
def OwnTok (x : Tok) (w : World) (e : Ending) (w' : World) : Prop :=
  ∃ (ao : Option Addr) (c : Nat) (fp : List Nat), e = .returned (.agg #[.int .i64 x.kind, .string x.text, .bool x.spaced, .slice ao x.hidden.length c]) ∧ sTok.R w' [.int .i64 x.kind, .string x.text, .bool x.spaced, .slice ao x.hidden.length c] x fp ∧
    (∀ b ∈ fp, w.heap.size ≤ b) ∧ (∀ b ∈ fp, ∃ cur t fr, w'.heap[b]? = some (.cells cur t fr) ∧ t = 9) ∧ Below w.heap.size w w'

set_option maxHeartbeats 4000000 in
set_option maxRecDepth 100000 in
theorem spec_l1OwnToken (cs : List Value) (x : Tok) (fp : List Nat) (w : World) (hx : x.hidden.length ≤ 2000000) (H : sTok.R w cs x fp) : Calls Try.prog 66 #[.agg cs.toArray] w (OwnTok x w) := by
  obtain ⟨h, rfl, hk, hok, K⟩ := H
  obtain ⟨a0, cap0, rfl, -, -, -, hsz⟩ := open_strs K
  have hb3 := below3 w #[.int .i64 x.kind, .string x.text, .bool x.spaced, .slice a0 x.hidden.length cap0] #[.int .i64 0, .string ⟨#[]⟩, .bool false, .slice none 0 0] #[.int .i64 x.kind, .string x.text, .bool x.spaced, .slice a0 x.hidden.length cap0] 35 35 35
  have g0 := alloc3_blk0 w #[.int .i64 x.kind, .string x.text, .bool x.spaced, .slice a0 x.hidden.length cap0] #[.int .i64 0, .string ⟨#[]⟩, .bool false, .slice none 0 0] #[.int .i64 x.kind, .string x.text, .bool x.spaced, .slice a0 x.hidden.length cap0] 35 35 35
  obtain ⟨g1, g2, hs3⟩ := alloc3_blk w #[.int .i64 x.kind, .string x.text, .bool x.spaced, .slice a0 x.hidden.length cap0] #[.int .i64 0, .string ⟨#[]⟩, .bool false, .slice none 0 0] #[.int .i64 x.kind, .string x.text, .bool x.spaced, .slice a0 x.hidden.length cap0] 35 35 35
  have HK := Lib.hid ((sSlice sStr).below K hb3)
  have HSZ := Lib.hid hsz
  clear K hsz
  obtain ⟨hv, HV⟩ : ∃ hv : Value, Hid (hv = Value.slice a0 x.hidden.length cap0) := ⟨_, rfl⟩
  go_enter Try.func66, Try.ntmps66
  go_upto_region 2 with fail
  generalize (((w.alloc (.cells #[.int .i64 x.kind, .string x.text, .bool x.spaced, .slice a0 x.hidden.length cap0] 35)).alloc (.cells #[.int .i64 0, .string ⟨#[]⟩, .bool false, .slice none 0 0] 35)).alloc (.cells #[.int .i64 x.kind, .string x.text, .bool x.spaced, .slice a0 x.hidden.length cap0] 35)) = W3 at *
  have hba := alloc_below' W3 (.cells #[] 9)
  have c03 : (W3.alloc (.cells #[] 9)).cell? ⟨w.heap.size, 3, none⟩ = some hv := by
    rw [HV.out]
    exact (hba.cell (p := ⟨w.heap.size, 3, none⟩) (by show w.heap.size < _; omega)).trans (cell_of_row _ _ 3 _ _ _ g0)
  have hlit : Hid ((W3.alloc (.cells #[] 9)).ownsRow W3.heap.size 9 1 (.slice (some ⟨W3.heap.size, 0, none⟩) 0 0) ([] : List ByteArray).length (([] : List ByteArray).map Value.string)) :=
    World.ownsRow_lit (base := W3.heap.size) (e := 9) (size := 1) W3 #[] 0 (Nat.le_refl _) (by simp) rfl
  have HKV : Hid ((sSlice sStr).R (W3.alloc (.cells #[] 9)) [hv] x.hidden fp) := by show (sSlice sStr).R _ _ _ _; rw [HV.out]; exact (sSlice sStr).below HK.out hba
  have HG := Lib.hid (And.intro g1 (And.intro g2 hs3))
  have hb4 := Lib.hid (hb3.trans (hba.mono hb3.size))
  clear g0 g1 g2 hb3 hs3 HK hba
  go_wp2_with (
    at_builtin
    refine wp_append_strsR rfl (.tmp 5) (.tmp 7) rfl W3.heap.size (.slice (some ⟨W3.heap.size, 0, none⟩) 0 0) hv [] x.hidden _ rfl hlit.out rfl HKV.out (by simp; omega) (by simp) ?_
    intro v5 w1 hown hgrow
    rw [List.nil_append] at hown
    obtain ⟨fp1, R1, O1, hfp⟩ := own_flat (ok := okStr) hown HSZ.out
    have hs3 := HG.out.2.2
    have hblk : ∀ k, k < W3.heap.size → w1.heap[k]? = W3.heap[k]? := fun k hk => (hgrow.block k (by simp; omega) (by simp [Value.ownBlock]; omega)).trans ((alloc_below' W3 _).block k hk)
    have HG1 : Hid (w1.heap[w.heap.size + 1]? = some (.cells #[.int .i64 0, .string ⟨#[]⟩, .bool false, .slice none 0 0] 35 (0, 0)) ∧ w1.heap[w.heap.size + 1 + 1]? = some (.cells #[.int .i64 x.kind, .string x.text, .bool x.spaced, .slice a0 x.hidden.length cap0] 35 (0, 0))) :=
      ⟨(hblk _ (by omega)).trans HG.out.1, (hblk _ (by omega)).trans HG.out.2.1⟩
    have hb : Below w.heap.size w w1 := hb4.out.grown hgrow (by simp; omega) (fun b hb => by simp [Value.ownBlock] at hb; omega)
    have hty : ∀ b ∈ fp1, ∃ cur t fr, w1.heap[b]? = some (.cells cur t fr) ∧ t = 9 := fun b hb' => by
      have hv := hfp b hb'
      rcases hown.2 with ⟨rfl, _⟩ | ⟨g, cap, cur, rfl, _, hg, _⟩
      · simp [Value.ownBlock] at hv
      · simp only [Value.ownBlock, Option.some.injEq] at hv
        subst hv
        exact ⟨_, _, _, hg, rfl⟩
    have hlo : ∀ b ∈ fp1, w.heap.size + 3 ≤ b := fun b hb => by have := (O1.2 b hb).1; omega
    clear HG hblk hgrow hown hfp O1 c03 hb4 HKV hlit hs3
    obtain ⟨a1, cap1, rfl, hq⟩ := open_rows R1
    clear hq
    have c10 : w1.cell? ⟨w.heap.size + 1, 0, none⟩ = some (.int .i64 0) := cell_of_row w1 (w.heap.size + 1) 0 _ _ _ HG1.out.1
    have c11 : w1.cell? ⟨w.heap.size + 1, 1, none⟩ = some (.string ⟨#[]⟩) := cell_of_row w1 (w.heap.size + 1) 1 _ _ _ HG1.out.1
    have c12 : w1.cell? ⟨w.heap.size + 1, 2, none⟩ = some (.bool false) := cell_of_row w1 (w.heap.size + 1) 2 _ _ _ HG1.out.1
    have c13 : w1.cell? ⟨w.heap.size + 1, 3, none⟩ = some (.slice none 0 0) := cell_of_row w1 (w.heap.size + 1) 3 _ _ _ HG1.out.1
    have c20 : w1.cell? ⟨w.heap.size + 1 + 1, 0, none⟩ = some (.int .i64 x.kind) := cell_of_row w1 (w.heap.size + 1 + 1) 0 _ _ _ HG1.out.2
    have c21 : w1.cell? ⟨w.heap.size + 1 + 1, 1, none⟩ = some (.string x.text) := cell_of_row w1 (w.heap.size + 1 + 1) 1 _ _ _ HG1.out.2
    have c22 : w1.cell? ⟨w.heap.size + 1 + 1, 2, none⟩ = some (.bool x.spaced) := cell_of_row w1 (w.heap.size + 1 + 1) 2 _ _ _ HG1.out.2
    have c23 : w1.cell? ⟨w.heap.size + 1 + 1, 3, none⟩ = some (.slice a0 x.hidden.length cap0) := cell_of_row w1 (w.heap.size + 1 + 1) 3 _ _ _ HG1.out.2
    have f10 : w1.frozen? ⟨w.heap.size + 1, 0, none⟩ = false := frozen_of_row w1 (w.heap.size + 1) 0 _ _ HG1.out.1
    have f11 : w1.frozen? ⟨w.heap.size + 1, 1, none⟩ = false := frozen_of_row w1 (w.heap.size + 1) 1 _ _ HG1.out.1
    have f12 : w1.frozen? ⟨w.heap.size + 1, 2, none⟩ = false := frozen_of_row w1 (w.heap.size + 1) 2 _ _ HG1.out.1
    have f13 : w1.frozen? ⟨w.heap.size + 1, 3, none⟩ = false := frozen_of_row w1 (w.heap.size + 1) 3 _ _ HG1.out.1
    have f23 : w1.frozen? ⟨w.heap.size + 1 + 1, 3, none⟩ = false := frozen_of_row w1 (w.heap.size + 1 + 1) 3 _ _ HG1.out.2
    have hn1 : w.heap.size + 1 ∉ fp1 := fun hx => by have := hlo _ hx; omega
    have hn2 : w.heap.size + 1 + 1 ∉ fp1 := fun hx => by have := hlo _ hx; omega
    have HLO : Hid (∀ b ∈ fp1, w.heap.size ≤ b) := fun b hb => by have := hlo b hb; omega
    have HR := Lib.hid ((sSlice sStr).setB ((sSlice sStr).setB ((sSlice sStr).setB ((sSlice sStr).setB ((sSlice sStr).setB R1 hn2 3 (.slice a1 x.hidden.length cap1)) hn1 0 (.int .i64 x.kind)) hn1 1 (.string x.text)) hn1 2 (.bool x.spaced)) hn1 3 (.slice a1 x.hidden.length cap1))
    have HT : Hid (∀ b ∈ fp1, ∃ cur t fr, (((((w1.setCell ⟨w.heap.size + 1 + 1, 3, none⟩ (.slice a1 x.hidden.length cap1)).setCell ⟨w.heap.size + 1, 0, none⟩ (.int .i64 x.kind)).setCell ⟨w.heap.size + 1, 1, none⟩ (.string x.text)).setCell ⟨w.heap.size + 1, 2, none⟩ (.bool x.spaced)).setCell ⟨w.heap.size + 1, 3, none⟩ (.slice a1 x.hidden.length cap1)).heap[b]? = some (.cells cur t fr) ∧ t = 9) := fun b hb => by
      obtain ⟨cur, t, fr, q1, q2⟩ := hty b hb
      have e1 : b ≠ w.heap.size + 1 := fun e => hn1 (e ▸ hb)
      have e2 : b ≠ w.heap.size + 1 + 1 := fun e => hn2 (e ▸ hb)
      exact ⟨cur, t, fr, blk_other (blk_other (blk_other (blk_other (blk_other q1 e2 _ _) e1 _ _) e1 _ _) e1 _ _) e1 _ _, q2⟩
    have HB := Lib.hid (((((hb.setCell (p := ⟨w.heap.size + 1 + 1, 3, none⟩) (by simp; omega) (.slice a1 x.hidden.length cap1)).setCell (p := ⟨w.heap.size + 1, 0, none⟩) (by simp) (.int .i64 x.kind)).setCell (p := ⟨w.heap.size + 1, 1, none⟩) (by simp) (.string x.text)).setCell (p := ⟨w.heap.size + 1, 2, none⟩) (by simp) (.bool x.spaced)).setCell (p := ⟨w.heap.size + 1, 3, none⟩) (by simp) (.slice a1 x.hidden.length cap1))
    have HS := Lib.hid (blk_set (blk_set (blk_set (blk_set (blk_other HG1.out.1 (by omega : w.heap.size + 1 ≠ w.heap.size + 1 + 1) 3 (.slice a1 x.hidden.length cap1)) 0 (.int .i64 x.kind)) 1 (.string x.text)) 2 (.bool x.spaced)) 3 (.slice a1 x.hidden.length cap1))
    clear HG1 hty hlo)
  refine bodyPost_ret (results_cell_row rfl _ _ (w.heap.size + 1) _ _ _ _ rfl HS.out Try.underlying35 rfl (by kernel_rfl)) rfl ?_
  exact ⟨a1, cap1, fp1, rfl, ⟨_, rfl, hk, hok, HR.out⟩, HLO.out, HT.out, HB.out⟩

/-- A list of tokens as the call's own copy. -/
def OwnToks (l : List Tok) (w : World) (e : Ending) (w' : World) : Prop := ∃ v fp, e = .returned v ∧ (sSlice sTok).R w' [v] l fp ∧ Below w.heap.size w w'
/-- .. and in which blocks it lies. -/
def NoMac (w : World) (fp : List Nat) : Prop := ∀ b ∈ fp, ∃ cur t fr, w.heap[b]? = some (.cells cur t fr) ∧ t ≠ 26
theorem NoMac.same {w w' : World} {fp : List Nat} (h : NoMac w fp) (hb : ∀ b ∈ fp, b < w.heap.size → w'.heap[b]? = w.heap[b]?) : NoMac w' fp := fun b hb' => by
  obtain ⟨cur, t, fr, h1, h2⟩ := h b hb'
  exact ⟨cur, t, fr, (hb b hb' (Array.getElem?_eq_some_iff.1 h1).1).trans h1, h2⟩
theorem NoMac.below {w w' : World} {fp : List Nat} (h : NoMac w fp) (hb : Below w.heap.size w w') : NoMac w' fp := h.same fun b _ hl => hb.block b hl
/-- Blocks of tokens and of their texts alone. -/
def TokTy (w : World) (fp : List Nat) : Prop := ∀ b ∈ fp, ∃ cur t fr, w.heap[b]? = some (.cells cur t fr) ∧ (t = 35 ∨ t = 9)
theorem TokTy.same {w w' : World} {fp : List Nat} (h : TokTy w fp) (hb : ∀ b ∈ fp, b < w.heap.size → w'.heap[b]? = w.heap[b]?) : TokTy w' fp := fun b hb' => by
  obtain ⟨cur, t, fr, h1, h2⟩ := h b hb'
  exact ⟨cur, t, fr, (hb b hb' (Array.getElem?_eq_some_iff.1 h1).1).trans h1, h2⟩
theorem TokTy.below {w w' : World} {fp : List Nat} (h : TokTy w fp) (hb : Below w.heap.size w w') : TokTy w' fp := h.same fun b _ hl => hb.block b hl
theorem TokTy.mac {w : World} {fp : List Nat} (h : TokTy w fp) : NoMac w fp := fun b hb => by
  obtain ⟨cur, t, fr, h1, h2⟩ := h b hb
  refine ⟨cur, t, fr, h1, ?_⟩
  rcases h2 with rfl | rfl <;> decide
def OwnToksS (l : List Tok) (w : World) (e : Ending) (w' : World) : Prop := ∃ v fp, e = .returned v ∧ (sSlice sTok).R w' [v] l fp ∧ (∀ b ∈ fp, w.heap.size ≤ b) ∧ TokTy w' fp ∧ Below w.heap.size w w'
set_option maxHeartbeats 4000000 in
set_option maxRecDepth 100000 in
theorem spec_l1OwnTokenList_s (v : Value) (l : List Tok) (fp : List Nat) (w : World) (hl : l.length ≤ 1048576) (hx : ∀ k, (hk : k < l.length) → l[k].hidden.length ≤ 2000000) (H : (sSlice sTok).R w [v] l fp) :
    Calls Try.prog 34 #[v] w (OwnToksS l w) := by
  obtain ⟨a, cap, rfl, hc, hm, hrow⟩ := open_rows H
  unfold maxLen at hm
  clear H
  have HX := Lib.hid hx
  clear hx
  have hlit : Hid (RowE sTok w.heap.size 35 (.slice (some ⟨w.heap.size, 0, none⟩) 0 0) [] (w.alloc (.cells #[] 35))) := RowE.lit [] (by simp) (by simp) (by simp) (by simp) (Nat.le_refl _) (by simp)
  have hba := alloc_below' w (.cells #[] 35)
  go_enter Try.func34, Try.ntmps34
  go_wp2
  go_loopw [3, 4] (fun o i wr => ∃ (k : Nat) (L : List (Elem Tok)), k ≤ l.length ∧ i = .int .i64 k ∧ Hid (RowE sTok w.heap.size 35 o L wr) ∧ Hid (L.map (·.d) = l.take k) ∧ Hid (∀ x ∈ L, TokTy wr x.fp) ∧ Below w.heap.size w wr) (fun _ i _ => l.length - (intOf i).toNat)
  case atStart => exact ⟨0, [], by omega, rfl, hlit, rfl, (show ∀ x ∈ ([] : List (Elem Tok)), TokTy _ x.fp from by simp), hba⟩
  case round =>
    clear hlit hba
    obtain ⟨k, L, hk, rfl, HE, HD, HN, hb⟩ := hrel
    by_cases hlt : k < l.length
    · obtain ⟨b1, off1, fps1, rfl, hb1, -, he1⟩ := hrow (by omega)
      obtain ⟨es1, hE1, hR1⟩ := he1 k hlt
      clear hrow he1
      have hR2 := sTok.below hR1 hb
      obtain ⟨h1', rfl, _, _, _⟩ := hR1
      have HC := Lib.hid (spec_l1OwnToken _ _ _ wr (HX.out k hlt) hR2)
      clear hR2
      replace hE1 := hE1.frame (hb.block b1 hb1)
      have c10 : wr.cell? ⟨b1, off1 + k * 4, none⟩ = some _ := elem_cell0 hE1 (by decide) rfl
      have c11 : wr.cell? ⟨b1, off1 + k * 4 + 1, none⟩ = some _ := elem_cell (j := 1) hE1 (by decide) rfl
      have c12 : wr.cell? ⟨b1, off1 + k * 4 + 2, none⟩ = some _ := elem_cell (j := 2) hE1 (by decide) rfl
      have c13 : wr.cell? ⟨b1, off1 + k * 4 + 3, none⟩ = some _ := elem_cell (j := 3) hE1 (by decide) rfl
      clear hE1
      have HLl : Hid (L.length = k) := by have := congrArg List.length HD.out; simp at this; show _ = _; omega
      go_wp2_with fail
      refine HC.out.mono ?_
      rintro e w2 ⟨ao, c, fp2, rfl, hR2, hlo2, hty2, hb2⟩
      obtain ⟨ar, capr, rfl, -⟩ := HE.out.val
      have hE2 := HE.out.below hb2
      have hty2' : ∀ b ∈ fp2, ∃ cur t fr, w2.heap[b]? = some (.cells cur t fr) ∧ t ≠ 35 := fun b hb => by obtain ⟨cur, t, fr, h1, h2⟩ := hty2 b hb; exact ⟨cur, t, fr, h1, by rw [h2]; decide⟩
      have HN2 : Hid (∀ x ∈ L ++ [(⟨[.int .i64 l[k].kind, .string l[k].text, .bool l[k].spaced, .slice ao l[k].hidden.length c], ⟨l[k].kind, l[k].text, l[k].spaced, l[k].hidden⟩, fp2⟩ : Elem Tok)], TokTy w2 x.fp) := fun x hx => by
        rcases List.mem_append.1 hx with hx | hx
        · exact (HN.out x hx).below hb2
        · obtain rfl := List.mem_singleton.1 hx
          intro b hb
          obtain ⟨cur, t, fr, h1, h2⟩ := hty2 b hb
          exact ⟨cur, t, fr, h1, .inr h2⟩
      have hbw := hb.trans (hb2.mono hb.size)
      have hlo3 : ∀ b ∈ fp2, w.heap.size ≤ b := fun b hx => Nat.le_trans hb.size (hlo2 b hx)
      clear c10 c11 c12 c13 HC HE
      go_wp2_with (at_builtin; refine wp_append_tokE rfl (.tmp 12) (.tmp 18) rfl w.heap.size (.slice ar L.length capr) L rfl hE2 l[k].kind l[k].text l[k].spaced ao l[k].hidden.length c l[k].hidden fp2 rfl hR2 hlo3 hty2' (by have := HLl.out; omega) hbw.size ?_; intro v3 w3 hE3 hg3)
      have hb3 : Below w.heap.size w w3 := hbw.grown hg3 hbw.size (fun b hb => (hE2.row.lt b hb).1)
      have HE3 := Lib.hid hE3
      have HN3 : Hid (∀ x ∈ L ++ [(⟨[.int .i64 l[k].kind, .string l[k].text, .bool l[k].spaced, .slice ao l[k].hidden.length c], ⟨l[k].kind, l[k].text, l[k].spaced, l[k].hidden⟩, fp2⟩ : Elem Tok)], TokTy w3 x.fp) := fun x hx => (HN2.out x hx).same fun b hb hl => hg3.block b hl (by
        rcases List.mem_append.1 hx with hx | hx
        · exact fun e => hE2.ap hx hb e.symm
        · obtain rfl := List.mem_singleton.1 hx
          intro e
          obtain ⟨cur, t, fr, h1, h2⟩ := hty2' b hb
          obtain ⟨g, capg, curg, q1, q2, q3, -⟩ : ∃ g capg curg, Value.slice ar L.length capr = .slice (some ⟨g, 0, none⟩) L.length capg ∧ w.heap.size ≤ g ∧ w2.heap[g]? = some (.cells curg 35 (0, 0)) ∧ True := by
            rcases hE2.row.2 with ⟨h0, _⟩ | ⟨g, capg, curg, q1, q2, q3, -⟩
            · rw [h0] at e; simp [Value.ownBlock] at e
            · exact ⟨g, capg, curg, q1, q2, q3, trivial⟩
          rw [q1] at e
          simp only [Value.ownBlock, Option.some.injEq] at e
          subst e
          rw [h1] at q3
          simp only [Option.some.injEq, Obj.cells.injEq] at q3
          exact h2 q3.2.1)
      have HD3 : Hid ((L ++ [(⟨[.int .i64 l[k].kind, .string l[k].text, .bool l[k].spaced, .slice ao l[k].hidden.length c], ⟨l[k].kind, l[k].text, l[k].spaced, l[k].hidden⟩, fp2⟩ : Elem Tok)]).map (·.d) = l.take (k + 1)) := by
        show _ = _
        rw [List.map_append, HD.out, List.take_succ_eq_append_getElem hlt]; rfl
      clear hE2 hE3 hg3 hR2 hty2 hty2' hlo2 hlo3 hb2 HN2 HN
      go_roundw
      case rel => exact ⟨k + 1, _, by omega, by go_num, HE3, HD3, HN3, hb3⟩
      case measure => simp [intOf]; omega
    · obtain ⟨fpr, hr, hin, -⟩ := slice_of_row HE.out.row fun x hx => ⟨HE.out.len x hx, HE.out.el x hx⟩
      have HLO : Hid (∀ b ∈ fpr, w.heap.size ≤ b) := fun b hb => by
        rcases hin b hb with h | h
        · exact HE.out.mine b h
        · obtain ⟨x, hx, hb'⟩ := List.mem_flatMap.1 h
          exact HE.out.lo x hx b hb'
      have HNM : Hid (TokTy wr fpr) := fun b hb => by
        rcases hin b hb with h | h
        · rcases HE.out.row.2 with ⟨h0, _⟩ | ⟨g, capg, curg, q1, q2, q3, -⟩
          · rw [h0] at h; simp [Value.ownBlock] at h
          · rw [q1] at h
            simp only [Value.ownBlock, Option.some.injEq] at h
            subst h
            exact ⟨_, _, _, q3, .inl rfl⟩
        · obtain ⟨x, hx, hb'⟩ := List.mem_flatMap.1 h
          exact HN.out x hx b hb'
      clear hin
      have hd := HD.out
      rw [List.take_of_length_le (by omega)] at hd
      rw [hd] at hr
      have HR := Lib.hid hr
      clear hr hd HE HD HN
      go_wp2
      go_ret
      exact ⟨_, fpr, rfl, HR.out, HLO.out, HNM.out, hb⟩
def OwnToksT (l : List Tok) (w : World) (e : Ending) (w' : World) : Prop := ∃ v fp, e = .returned v ∧ (sSlice sTok).R w' [v] l fp ∧ (∀ b ∈ fp, w.heap.size ≤ b) ∧ NoMac w' fp ∧ Below w.heap.size w w'
theorem spec_l1OwnTokenList_t (v : Value) (l : List Tok) (fp : List Nat) (w : World) (hl : l.length ≤ 1048576) (hx : ∀ k, (hk : k < l.length) → l[k].hidden.length ≤ 2000000) (H : (sSlice sTok).R w [v] l fp) :
    Calls Try.prog 34 #[v] w (OwnToksT l w) := (spec_l1OwnTokenList_s v l fp w hl hx H).mono fun _ _ ⟨v, fp, h1, h2, h3, h4, h5⟩ => ⟨v, fp, h1, h2, h3, h4.mac, h5⟩
theorem spec_l1OwnTokenList (v : Value) (l : List Tok) (fp : List Nat) (w : World) (hl : l.length ≤ 1048576) (hx : ∀ k, (hk : k < l.length) → l[k].hidden.length ≤ 2000000) (H : (sSlice sTok).R w [v] l fp) :
    Calls Try.prog 34 #[v] w (OwnToks l w) := (spec_l1OwnTokenList_t v l fp w hl hx H).mono fun _ _ ⟨v, fp, h1, h2, _, _, h3⟩ => ⟨v, fp, h1, h2, h3⟩

end Go.Proofs.Ytflbdanlcpojbaa

/- What a function with a struct and another result hands back; boxes. Over any program. -/
namespace Go.Proofs.Ytflbdanlcpojbaa
open Go.RowKit

theorem results_cell2 {P : Program} {fn : Func} {p u : Tmp} {ty : TypeId} (h : fn.results = #[.cell p ty, .tmp u]) (tmps : Array Value) (w : World) (g : Nat) (t : TypeId) (cs : Array Value) (fr : Nat × Nat) (d : TypeDesc)
    (hp : tmps.getD p undef = .pointer (some ⟨g, 0, none⟩)) (hg : w.heap[g]? = some (.cells cs t fr))
    (hu : P.underlying ty = some d) (hd : (match d with | .struct _ | .array _ _ => true | _ => false) = true) (hi : (P.info? ty).map (·.size) = some cs.size) :
    (results fn tmps).run P w = .ok (.tuple #[.agg cs, tmps.getD u undef]) w := by
  have hp' : tmps[p]?.getD undef = .pointer (some ⟨g, 0, none⟩) := by simpa using hp
  rw [results_cell_tmp h]
  simp [hp', asAddr, run_loadVar_row w g t ty cs fr d hg hu hd hi, Result.andThen]

theorem mbox {w : World} {g : Nat} {arr : Array Value} {ty : TypeId} (h : w.heap[g]? = some (.cells arr ty (0, 0))) {w' : World} (hb : Below w.heap.size w w') : w'.heap[g]? = some (.cells arr ty (0, 0)) :=
  (hb.block g (Array.getElem?_eq_some_iff.1 h).1).trans h
theorem mlt {w : World} {g : Nat} {o : Obj} (h : w.heap[g]? = some o) : g < w.heap.size := (Array.getElem?_eq_some_iff.1 h).1

end Go.Proofs.Ytflbdanlcpojbaa

/- A token by value: its marks. -/
namespace Go.Proofs.Ytflbdanlcpojbaa
open Go.RowKit
end Go.Proofs.Ytflbdanlcpojbaa

/- TextToken of the model. (Made by gen_txt.py.) -/
namespace Go.Proofs.Ytflbdanlcpojbaa
open Go.RowKit

/-- A text that is handed back. -/
def StrOf (s : ByteArray) (w : World) (e : Ending) (w' : World) : Prop := e = .returned (.string s) ∧ Below w.heap.size w w'
theorem ret_text {a b : ByteArray} (h : a = b) : Ending.returned (.string a) = .returned (.string b) := by rw [h]
theorem q_ways (c : UInt8) : (((c.toNat : Int) == 34) = true ∧ Hid (isQ c = true)) ∨ (((c.toNat : Int) == 34) = false ∧ ((c.toNat : Int) == 92) = true ∧ Hid (isQ c = true)) ∨ (((c.toNat : Int) == 34) = false ∧ ((c.toNat : Int) == 92) = false ∧ Hid (isQ c = false)) := by
  by_cases h1 : c.toNat = 34
  · exact .inl ⟨by simp [h1], by show _ = _; unfold isQ; simp [h1]⟩
  · by_cases h2 : c.toNat = 92
    · exact .inr (.inl ⟨by simp; omega, by simp [h2], by show _ = _; unfold isQ; simp [h2]⟩)
    · exact .inr (.inr ⟨by simp; omega, by simp; omega, by show _ = _; unfold isQ; simp [h1, h2]⟩)

set_option maxHeartbeats 4000000 in
set_option maxRecDepth 100000 in
theorem spec_l8Escape (s : ByteArray) (w : World) (hs : s.size ≤ 1000000) :
    Calls Try.prog 104 #[.string s] w (StrOf (escTo s s.size) w) := by
  go_enter Try.func104, Try.ntmps104
  go_wp2
  go_loopw [3, 4] (fun o i wr => ∃ (k : Nat) (out : ByteArray), k ≤ s.size ∧ i = .int .i64 k ∧ o = .string out ∧ Hid (out = escTo s k) ∧ Below w.heap.size w wr) (fun _ i _ => s.size - (intOf i).toNat)
  case atStart => exact ⟨0, _, by omega, rfl, rfl, rfl, Below.refl _ _⟩
  case round =>
    obtain ⟨k, out, hk, rfl, rfl, HO, hb⟩ := hrel
    by_cases hlt : k < s.size
    · have hso : out.size ≤ 2 * k := by rw [HO.out]; exact escTo_size s k
      have h1z : (⟨#[92]⟩ : ByteArray).size = 1 := rfl
      have hsl := fun W => (run_cut s (k : Int) ((k : Int) + 1) k (k + 1) rfl rfl (by omega) (by omega) W)
      have ad1 := fun W => run_string_add_sum (P := Try.prog) W out (⟨#[92]⟩ : ByteArray) (by omega)
      have ad2 := fun W => run_string_add_sum (P := Try.prog) W (out ++ (⟨#[92]⟩ : ByteArray)) (s.extract k (k + 1)) (by rw [ByteArray.size_append, ByteArray.size_extract]; omega)
      have ad3 := fun W => run_string_add_sum (P := Try.prog) W out (s.extract k (k + 1)) (by rw [ByteArray.size_extract]; omega)
      clear h1z
      rcases q_ways s[k] with ⟨e1, HQ⟩ | ⟨e1, e2, HQ⟩ | ⟨e1, e2, HQ⟩
      · have HN : Hid (out ++ ⟨#[92]⟩ ++ s.extract k (k + 1) = escTo s (k + 1)) := by show _ = _; rw [escTo_q hlt HQ.out, HO.out]
        clear HO HQ hso
        go_wp2
        go_roundw
        case rel => exact ⟨k + 1, _, by omega, by go_num, rfl, HN.out, hb⟩
        case measure => simp [intOf]; omega
      · have HN : Hid (out ++ ⟨#[92]⟩ ++ s.extract k (k + 1) = escTo s (k + 1)) := by show _ = _; rw [escTo_q hlt HQ.out, HO.out]
        clear HO HQ hso
        go_wp2
        go_roundw
        case rel => exact ⟨k + 1, _, by omega, by go_num, rfl, HN.out, hb⟩
        case measure => simp [intOf]; omega
      · have HN : Hid (out ++ s.extract k (k + 1) = escTo s (k + 1)) := by show _ = _; rw [escTo_n hlt HQ.out, HO.out]
        clear HO HQ hso
        go_wp2
        go_roundw
        case rel => exact ⟨k + 1, _, by omega, by go_num, rfl, HN.out, hb⟩
        case measure => simp [intOf]; omega
    · have HF : Hid (out = escTo s s.size) := by show _ = _; rw [HO.out, show k = s.size by omega]
      clear HO
      go_wp2
      go_ret
      exact ⟨ret_text HF.out, hb⟩

set_option maxHeartbeats 8000000 in
set_option maxRecDepth 100000 in
theorem spec_l8Join (v : Value) (l : List Tok) (fp : List Nat) (w : World) (hv : toksOk l = true) (H : (sSlice sTok).R w [v] l fp) :
    Calls Try.prog 94 #[v] w (StrOf (joinTo l l.length) w) := by
  obtain ⟨a, cap, rfl, hc, hm, hrow⟩ := open_rows H
  unfold maxLen at hm
  clear H
  have HOK := Lib.hid (toksOk_facts hv)
  have hlen := HOK.out.1
  have HSZ := Lib.hid (joinTo_size hv)
  clear hv
  go_enter Try.func94, Try.ntmps94
  go_wp2
  go_loopw [3, 4] (fun o i wr => ∃ (k : Nat) (out : ByteArray), k ≤ l.length ∧ i = .int .i64 k ∧ o = .string out ∧ Hid (out = joinTo l k) ∧ Below w.heap.size w wr) (fun _ i _ => l.length - (intOf i).toNat)
  case atStart => exact ⟨0, _, by omega, rfl, rfl, rfl, Below.refl _ _⟩
  case round =>
    obtain ⟨k, out, hk, rfl, rfl, HO, hb⟩ := hrel
    by_cases hlt : k < l.length
    · obtain ⟨b1, off1, fps1, rfl, hb1', -, he1⟩ := hrow (by omega)
      obtain ⟨es1, hE1, hR1⟩ := he1 k hlt
      obtain ⟨h1, rfl, -, -, -⟩ := hR1
      replace hE1 := hE1.frame (hb.block b1 hb1')
      have c10 : wr.cell? ⟨b1, off1 + k * 4, none⟩ = some _ := elem_cell0 hE1 (by decide) rfl
      have c11 : wr.cell? ⟨b1, off1 + k * 4 + 1, none⟩ = some _ := elem_cell (j := 1) hE1 (by decide) rfl
      have c12 : wr.cell? ⟨b1, off1 + k * 4 + 2, none⟩ = some _ := elem_cell (j := 2) hE1 (by decide) rfl
      have hsz1 := (tokOk_facts (HOK.out.2 k hlt)).2
      have hso : out.size ≤ 401 * k := by rw [HO.out]; exact HSZ.out k hk
      have hes := escTo_size l[k].text l[k].text.size
      have HE : Hid (∀ W, Calls Try.prog 104 #[.string l[k].text] W (StrOf (escTo l[k].text l[k].text.size) W)) := fun W => spec_l8Escape _ W (by omega)
      have h1z : (⟨#[32]⟩ : ByteArray).size = 1 := rfl
      have ad1 := fun W => run_string_add_sum (P := Try.prog) W out (⟨#[32]⟩ : ByteArray) (by omega)
      have ad2 := fun W => run_string_add_sum (P := Try.prog) W (out ++ (⟨#[32]⟩ : ByteArray)) (escTo l[k].text l[k].text.size) (by rw [ByteArray.size_append]; omega)
      have ad3 := fun W => run_string_add_sum (P := Try.prog) W (out ++ (⟨#[32]⟩ : ByteArray)) l[k].text (by rw [ByteArray.size_append]; omega)
      have ad4 := fun W => run_string_add_sum (P := Try.prog) W out (escTo l[k].text l[k].text.size) (by omega)
      have ad5 := fun W => run_string_add_sum (P := Try.prog) W out l[k].text (by omega)
      clear h1z hes he1 hrow hE1
      by_cases h0 : k = 0
      · have h00 : ¬ (0 : Int) < (k : Int) := by omega
        have h01 : decide ((0 : Int) < (k : Int)) = false := by simp; omega
        have h02 : decide (0 < k) = false := by simp; omega
        have HNS : Hid (¬ (0 < k ∧ l[k].spaced = true)) := fun h => by omega
        clear h0
        by_cases h3 : l[k].kind = 3
        · have hk3 : (l[k].kind == 3) = true := by simp [h3]
          have HBT : Hid (bit l[k] = escTo l[k].text l[k].text.size) := by show _ = _; unfold bit; rw [if_pos h3]
          have HN : Hid (out ++ escTo l[k].text l[k].text.size = joinTo l (k + 1)) := by show _ = _; rw [joinTo_no hlt HNS.out, HBT.out, HO.out]
          clear h3 HBT HO hso
          go_wp2_with (go_at_call 104; refine (HE.out _).mono ?_; rintro e w3 ⟨rfl, hb3⟩)
          go_roundw
          case rel => exact ⟨k + 1, _, by omega, by go_num, rfl, HN.out, hb.trans (hb3.mono hb.size)⟩
          case measure => simp [intOf]; omega
        · have hk3 : (l[k].kind == 3) = false := by simp; exact h3
          have HBT : Hid (bit l[k] = l[k].text) := by show _ = _; unfold bit; rw [if_neg h3]
          have HN : Hid (out ++ l[k].text = joinTo l (k + 1)) := by show _ = _; rw [joinTo_no hlt HNS.out, HBT.out, HO.out]
          clear h3 HBT HO hso
          go_wp2
          go_roundw
          case rel => exact ⟨k + 1, _, by omega, by go_num, rfl, HN.out, hb⟩
          case measure => simp [intOf]; omega
      · have h00 : (0 : Int) < (k : Int) := by omega
        have h01 : decide ((0 : Int) < (k : Int)) = true := by simp; omega
        have h02 : decide (0 < k) = true := by simp; omega
        cases hsp : l[k].spaced
        · have HNS : Hid (¬ (0 < k ∧ l[k].spaced = true)) := fun h => by rw [hsp] at h; exact absurd h.2 (by simp)
          by_cases h3 : l[k].kind = 3
          · have hk3 : (l[k].kind == 3) = true := by simp [h3]
            have HBT : Hid (bit l[k] = escTo l[k].text l[k].text.size) := by show _ = _; unfold bit; rw [if_pos h3]
            have HN : Hid (out ++ escTo l[k].text l[k].text.size = joinTo l (k + 1)) := by show _ = _; rw [joinTo_no hlt HNS.out, HBT.out, HO.out]
            rw [hsp] at c12
            clear h3 HBT HO hso
            go_wp2_with (go_at_call 104; refine (HE.out _).mono ?_; rintro e w3 ⟨rfl, hb3⟩)
            go_roundw
            case rel => exact ⟨k + 1, _, by omega, by go_num, rfl, HN.out, hb.trans (hb3.mono hb.size)⟩
            case measure => simp [intOf]; omega
          · have hk3 : (l[k].kind == 3) = false := by simp; exact h3
            have HBT : Hid (bit l[k] = l[k].text) := by show _ = _; unfold bit; rw [if_neg h3]
            have HN : Hid (out ++ l[k].text = joinTo l (k + 1)) := by show _ = _; rw [joinTo_no hlt HNS.out, HBT.out, HO.out]
            rw [hsp] at c12
            clear h3 HBT HO hso
            go_wp2
            go_roundw
            case rel => exact ⟨k + 1, _, by omega, by go_num, rfl, HN.out, hb⟩
            case measure => simp [intOf]; omega
        · skip
          by_cases h3 : l[k].kind = 3
          · have hk3 : (l[k].kind == 3) = true := by simp [h3]
            have HBT : Hid (bit l[k] = escTo l[k].text l[k].text.size) := by show _ = _; unfold bit; rw [if_pos h3]
            have HN : Hid (out ++ ⟨#[32]⟩ ++ escTo l[k].text l[k].text.size = joinTo l (k + 1)) := by show _ = _; rw [joinTo_sp hlt (by omega) hsp, HBT.out, HO.out]
            rw [hsp] at c12
            clear h3 HBT HO hso
            go_wp2_with (go_at_call 104; refine (HE.out _).mono ?_; rintro e w3 ⟨rfl, hb3⟩)
            go_roundw
            case rel => exact ⟨k + 1, _, by omega, by go_num, rfl, HN.out, hb.trans (hb3.mono hb.size)⟩
            case measure => simp [intOf]; omega
          · have hk3 : (l[k].kind == 3) = false := by simp; exact h3
            have HBT : Hid (bit l[k] = l[k].text) := by show _ = _; unfold bit; rw [if_neg h3]
            have HN : Hid (out ++ ⟨#[32]⟩ ++ l[k].text = joinTo l (k + 1)) := by show _ = _; rw [joinTo_sp hlt (by omega) hsp, HBT.out, HO.out]
            rw [hsp] at c12
            clear h3 HBT HO hso
            go_wp2
            go_roundw
            case rel => exact ⟨k + 1, _, by omega, by go_num, rfl, HN.out, hb⟩
            case measure => simp [intOf]; omega
    · have HF : Hid (out = joinTo l l.length) := by show _ = _; rw [HO.out, show k = l.length by omega]
      clear HO
      go_wp2
      go_ret
      exact ⟨ret_text HF.out, hb⟩

/-- What TextToken hands back. -/
def TextOf (l : List Tok) (w : World) (e : Ending) (w' : World) : Prop :=
  ∃ (cs : List Value) (fp : List Nat), e = .returned (.tuple #[.agg cs.toArray, .bool (txtRes l).2]) ∧ sTok.R w' cs (txtRes l).1 fp ∧ Own w' w.heap.size fp ∧ Below w.heap.size w w'
theorem tok_bare (k : Int) (s : ByteArray) (w : World) (h1 : okInt k) (h2 : s.size ≤ maxLen) : sTok.R w [.int .i64 k, .string s, .bool false, .slice none 0 0] ⟨k, s, false, []⟩ [] := ⟨_, rfl, h1, h2, slice_empty sStr _ _ _ (by simp)⟩
theorem textOf_no {l : List Tok} {w w' : World} (h : txtRes l = (zTok, false)) (hb : Below w.heap.size w w') : TextOf l w (.returned (.tuple #[.agg #[.int .i64 0, .string ⟨#[]⟩, .bool false, .slice none 0 0], .bool false])) w' :=
  ⟨[.int .i64 0, .string ⟨#[]⟩, .bool false, .slice none 0 0], [], by rw [h], by rw [h]; exact tok_bare 0 ⟨#[]⟩ w' (by unfold okInt; omega) (by show (0 : Nat) ≤ _; simp [maxLen]), Own.nil _ _, hb⟩
theorem textOf_yes {l : List Tok} {s : ByteArray} {w w' : World} (h : txtRes l = (⟨3, s, false, []⟩, true)) (hb : Below w.heap.size w w') (hs : s.size ≤ 1000000) : TextOf l w (.returned (.tuple #[.agg #[.int .i64 3, .string s, .bool false, .slice none 0 0], .bool true])) w' :=
  ⟨[.int .i64 3, .string s, .bool false, .slice none 0 0], [], by rw [h], by rw [h]; exact tok_bare 3 s w' (by unfold okInt; omega) (by unfold maxLen; omega), Own.nil _ _, hb⟩
theorem quoted_long {l : List Tok} (h : toksOk l = true) : (quoted (joinTo l l.length)).size ≤ 50000 := by
  have h1 := joinTo_size h l.length (Nat.le_refl _)
  have h2 := (toksOk_facts h).1
  rw [quoted_size]; omega

set_option maxHeartbeats 8000000 in
set_option maxRecDepth 100000 in
theorem spec_TextToken (v : Value) (l : List Tok) (fp : List Nat) (w : World) (hl : l.length ≤ 1048576) (hx : ∀ k, (hk : k < l.length) → l[k].hidden.length ≤ 2000000) (H : (sSlice sTok).R w [v] l fp) :
    Calls Try.prog 82 #[v] w (TextOf l w) := by
  have hz0 := alloc_below' w (.cells #[.int .i64 0, .string ⟨#[]⟩, .bool false, .slice none 0 0] 35)
  have HZ := Lib.hid (heap_alloc_new w (.cells #[.int .i64 0, .string ⟨#[]⟩, .bool false, .slice none 0 0] 35))
  have HCP := Lib.hid (spec_l1OwnTokenList_s v l fp _ hl hx ((sSlice sTok).below H hz0))
  clear H hx
  go_enter Try.func82, Try.ntmps82
  go_wp2_with fail
  refine HCP.out.mono ?_
  rintro e w1 ⟨v1, fp1, rfl, HL, -, -, hb1⟩
  have hB1 := hz0.trans (hb1.mono hz0.size)
  replace HZ := Lib.hid (mbox HZ.out hb1)
  clear hb1 hz0 HCP
  have HV := Lib.hid (spec_TokensValid v1 l fp1 w1 HL)
  have HL1 := Lib.hid HL
  obtain ⟨a, cap, rfl, hc, hm, -⟩ := open_rows HL
  clear HL
  unfold maxLen at hm
  go_wp2_with fail
  refine HV.out.mono ?_
  rintro e w2 ⟨rfl, hb2⟩
  have hB2 := hB1.trans (hb2.mono hB1.size)
  replace HZ := Lib.hid (mbox HZ.out hb2)
  have HLL := Lib.hid ((sSlice sTok).below HL1.out hb2)
  clear HL1 HV hb2 hB1
  cases hv : toksOk l
  · have HF := Lib.hid (txtRes_no hv)
    clear hv
    have z0 : w2.cell? ⟨w.heap.size, 0, none⟩ = some (.int .i64 0) := cell_of_row _ _ 0 _ _ _ HZ.out
    have zf0 : w2.frozen? ⟨w.heap.size, 0, none⟩ = false := frozen_of_row _ _ 0 _ _ HZ.out
    have z1 : w2.cell? ⟨w.heap.size, 1, none⟩ = some (.string ⟨#[]⟩) := cell_of_row _ _ 1 _ _ _ HZ.out
    have zf1 : w2.frozen? ⟨w.heap.size, 1, none⟩ = false := frozen_of_row _ _ 1 _ _ HZ.out
    have z2 : w2.cell? ⟨w.heap.size, 2, none⟩ = some (.bool false) := cell_of_row _ _ 2 _ _ _ HZ.out
    have zf2 : w2.frozen? ⟨w.heap.size, 2, none⟩ = false := frozen_of_row _ _ 2 _ _ HZ.out
    have z3 : w2.cell? ⟨w.heap.size, 3, none⟩ = some (.slice none 0 0) := cell_of_row _ _ 3 _ _ _ HZ.out
    have zf3 : w2.frozen? ⟨w.heap.size, 3, none⟩ = false := frozen_of_row _ _ 3 _ _ HZ.out
    have HS := Lib.hid (blk_set (blk_set (blk_set (blk_set HZ.out 0 (.int .i64 0)) 1 (.string ⟨#[]⟩)) 2 (.bool false)) 3 (.slice none 0 0))
    have HBF := Lib.hid ((((hB2.setCell (p := ⟨w.heap.size, 0, none⟩) (Nat.le_refl _) (.int .i64 0)).setCell (p := ⟨w.heap.size, 1, none⟩) (Nat.le_refl _) (.string ⟨#[]⟩)).setCell (p := ⟨w.heap.size, 2, none⟩) (Nat.le_refl _) (.bool false)).setCell (p := ⟨w.heap.size, 3, none⟩) (Nat.le_refl _) (.slice none 0 0))
    go_wp2
    refine bodyPost_ret (results_cell2 rfl _ _ w.heap.size _ _ _ _ rfl HS.out Try.underlying35 rfl (by kernel_rfl)) rfl ?_
    exact textOf_no HF.out HBF.out
  have HJ := Lib.hid (spec_l8Join _ l fp1 w2 hv HLL.out)
  have HVD := Lib.hid hv
  have hq := quoted_long hv
  have hj := quoted_size (joinTo l l.length)
  clear hv HLL
  go_wp2_with fail
  refine HJ.out.mono ?_
  rintro e w3 ⟨rfl, hb3⟩
  have hB3 := hB2.trans (hb3.mono hB2.size)
  replace HZ := Lib.hid (mbox HZ.out hb3)
  clear HJ hb3 hB2
  have HY := Lib.hid (fun h => txtRes_yes (l := l) HVD.out rfl h)
  have HG := Lib.hid (fun h => txtRes_long (l := l) HVD.out rfl h)
  have h1z : (⟨#[34]⟩ : ByteArray).size = 1 := rfl
  have ad1 := fun W => run_string_add_sum (P := Try.prog) W (⟨#[34]⟩ : ByteArray) (joinTo l l.length) (by omega)
  have ad2 : ∀ W, (Op.stringOp .add ((⟨#[34]⟩ : ByteArray) ++ joinTo l l.length) (⟨#[34]⟩ : ByteArray)).run Try.prog W = .ok (.string (quoted (joinTo l l.length))) W := fun W => run_string_add_sum (P := Try.prog) W ((⟨#[34]⟩ : ByteArray) ++ joinTo l l.length) (⟨#[34]⟩ : ByteArray) (by rw [ByteArray.size_append]; omega)
  clear h1z hj
  generalize quoted (joinTo l l.length) = Q at *
  by_cases hbig : 200 < Q.size
  · have HF := Lib.hid (HG.out hbig)
    clear HG HY
    have z0 : w3.cell? ⟨w.heap.size, 0, none⟩ = some (.int .i64 0) := cell_of_row _ _ 0 _ _ _ HZ.out
    have zf0 : w3.frozen? ⟨w.heap.size, 0, none⟩ = false := frozen_of_row _ _ 0 _ _ HZ.out
    have z1 : w3.cell? ⟨w.heap.size, 1, none⟩ = some (.string ⟨#[]⟩) := cell_of_row _ _ 1 _ _ _ HZ.out
    have zf1 : w3.frozen? ⟨w.heap.size, 1, none⟩ = false := frozen_of_row _ _ 1 _ _ HZ.out
    have z2 : w3.cell? ⟨w.heap.size, 2, none⟩ = some (.bool false) := cell_of_row _ _ 2 _ _ _ HZ.out
    have zf2 : w3.frozen? ⟨w.heap.size, 2, none⟩ = false := frozen_of_row _ _ 2 _ _ HZ.out
    have z3 : w3.cell? ⟨w.heap.size, 3, none⟩ = some (.slice none 0 0) := cell_of_row _ _ 3 _ _ _ HZ.out
    have zf3 : w3.frozen? ⟨w.heap.size, 3, none⟩ = false := frozen_of_row _ _ 3 _ _ HZ.out
    have HS := Lib.hid (blk_set (blk_set (blk_set (blk_set HZ.out 0 (.int .i64 0)) 1 (.string ⟨#[]⟩)) 2 (.bool false)) 3 (.slice none 0 0))
    have HBF := Lib.hid ((((hB3.setCell (p := ⟨w.heap.size, 0, none⟩) (Nat.le_refl _) (.int .i64 0)).setCell (p := ⟨w.heap.size, 1, none⟩) (Nat.le_refl _) (.string ⟨#[]⟩)).setCell (p := ⟨w.heap.size, 2, none⟩) (Nat.le_refl _) (.bool false)).setCell (p := ⟨w.heap.size, 3, none⟩) (Nat.le_refl _) (.slice none 0 0))
    go_wp2
    refine bodyPost_ret (results_cell2 rfl _ _ w.heap.size _ _ _ _ rfl HS.out Try.underlying35 rfl (by kernel_rfl)) rfl ?_
    exact textOf_no HF.out HBF.out
  · have HF := Lib.hid (HY.out hbig)
    clear HG HY
    have z0 : w3.cell? ⟨w.heap.size, 0, none⟩ = some (.int .i64 0) := cell_of_row _ _ 0 _ _ _ HZ.out
    have zf0 : w3.frozen? ⟨w.heap.size, 0, none⟩ = false := frozen_of_row _ _ 0 _ _ HZ.out
    have z1 : w3.cell? ⟨w.heap.size, 1, none⟩ = some (.string ⟨#[]⟩) := cell_of_row _ _ 1 _ _ _ HZ.out
    have zf1 : w3.frozen? ⟨w.heap.size, 1, none⟩ = false := frozen_of_row _ _ 1 _ _ HZ.out
    have z2 : w3.cell? ⟨w.heap.size, 2, none⟩ = some (.bool false) := cell_of_row _ _ 2 _ _ _ HZ.out
    have zf2 : w3.frozen? ⟨w.heap.size, 2, none⟩ = false := frozen_of_row _ _ 2 _ _ HZ.out
    have z3 : w3.cell? ⟨w.heap.size, 3, none⟩ = some (.slice none 0 0) := cell_of_row _ _ 3 _ _ _ HZ.out
    have zf3 : w3.frozen? ⟨w.heap.size, 3, none⟩ = false := frozen_of_row _ _ 3 _ _ HZ.out
    have HS := Lib.hid (blk_set (blk_set (blk_set (blk_set HZ.out 0 (.int .i64 3)) 1 (.string Q)) 2 (.bool false)) 3 (.slice none 0 0))
    have HBF := Lib.hid ((((hB3.setCell (p := ⟨w.heap.size, 0, none⟩) (Nat.le_refl _) (.int .i64 3)).setCell (p := ⟨w.heap.size, 1, none⟩) (Nat.le_refl _) (.string Q)).setCell (p := ⟨w.heap.size, 2, none⟩) (Nat.le_refl _) (.bool false)).setCell (p := ⟨w.heap.size, 3, none⟩) (Nat.le_refl _) (.slice none 0 0))
    go_wp2
    refine bodyPost_ret (results_cell2 rfl _ _ w.heap.size _ _ _ _ rfl HS.out Try.underlying35 rfl (by kernel_rfl)) rfl ?_
    exact textOf_yes HF.out HBF.out (by omega)

end Go.Proofs.Ytflbdanlcpojbaa

/- Names of two lists, of both; slices.BinarySearch of strings. -/
namespace Go.Proofs.Ytflbdanlcpojbaa
open Go.RowKit

/-! ### Places of names -/
def lowS (l : List ByteArray) (nm : ByteArray) : Nat := (l.takeWhile fun x => sLess x nm).length
theorem lowS_le (l : List ByteArray) (nm : ByteArray) : lowS l nm ≤ l.length := (List.takeWhile_prefix _).length_le
theorem lowS_iff (nm : ByteArray) : ∀ {l : List ByteArray}, Up l → ∀ j, (hj : j < l.length) → sLess l[j] nm = decide (j < lowS l nm)
  | [], _, j, hj => by simp at hj
  | x :: r, h, j, hj => by
    obtain ⟨h1, h2⟩ := List.pairwise_cons.1 h
    by_cases hx : sLess x nm = true
    · have e : lowS (x :: r) nm = lowS r nm + 1 := by unfold lowS; rw [List.takeWhile_cons_of_pos (p := fun x => sLess x nm) hx]; rfl
      rw [e]
      cases j with
      | zero => simp [hx]
      | succ j => simp only [List.getElem_cons_succ]; rw [lowS_iff nm h2 j (by simpa using hj)]; exact decide_eq_decide.2 (by omega)
    · have e : lowS (x :: r) nm = 0 := by unfold lowS; rw [List.takeWhile_cons_of_neg (p := fun x => sLess x nm) hx]; rfl
      rw [e]
      cases j with
      | zero => simp at hx ⊢; exact hx
      | succ j =>
        simp only [List.getElem_cons_succ]
        have hj' : j < r.length := by simpa using hj
        cases hs : sLess r[j] nm
        · simp
        · exact absurd (sLess_trans (h1 _ (List.getElem_mem hj')) hs) hx
def isS (l : List ByteArray) (nm : ByteArray) : Bool := if h : lowS l nm < l.length then (l[lowS l nm].toList == nm.toList) else false
theorem isS_has {l : List ByteArray} (h : Up l) (nm : ByteArray) : isS l nm = hasN l nm := by
  cases hs : isS l nm
  · refine (hasN_no fun j hj => ?_).symm
    cases hj2 : (l[j].toList == nm.toList)
    · rfl
    · exfalso
      have e := bytes_same hj2
      have h1 := lowS_iff nm h j hj
      rw [e, sLess_irrefl] at h1
      have h2 := of_decide_eq_false h1.symm
      unfold isS at hs
      by_cases h3 : j = lowS l nm
      · subst h3; rw [dif_pos hj, hj2] at hs; exact absurd hs (by simp)
      · have h4 : lowS l nm < j := by omega
        have h5 := (List.pairwise_iff_getElem.1 h) (lowS l nm) j (by omega) hj h4
        rw [e, lowS_iff nm h (lowS l nm) (by omega)] at h5
        simp at h5
  · unfold isS at hs
    split at hs
    · rename_i h1; exact (hasN_hit h1 hs).symm
    · exact absurd hs (by simp)
/-! ### The library's -/
theorem lib_cmpNaN (a : ByteArray) (w : World) : Calls Try.prog 107 #[.string a] w fun e w' => e = .returned (.bool false) ∧ w' = w := by
  go_enter Try.func107, Try.ntmps107
  go_wp2
  go_ret
  exact ⟨rfl, rfl⟩
theorem lib_slNaN (a : ByteArray) (w : World) : Calls Try.prog 103 #[.string a] w fun e w' => e = .returned (.bool false) ∧ w' = w := by
  go_enter Try.func103, Try.ntmps103
  go_wp2
  go_ret
  exact ⟨rfl, rfl⟩
theorem lib_Less (a b : ByteArray) (w : World) : Calls Try.prog 102 #[.string a, .string b] w fun e w' => e = .returned (.bool (sLess a b)) ∧ w' = w := by
  go_enter Try.func102, Try.ntmps102
  go_wp2_with (go_at_call 107; refine (lib_cmpNaN _ _).mono ?_; rintro e w2 ⟨rfl, rfl⟩)
  go_ret
  exact ⟨rfl, rfl⟩

set_option maxHeartbeats 4000000 in
theorem lib_SearchS (v : Value) (l : List ByteArray) (nm : ByteArray) (fp : List Nat) (w : World) (hu : Up l) (hn : l.length ≤ 1000000) (H : (sSlice sStr).R w [v] l fp) :
    Calls Try.prog 93 #[v, .string nm] w fun e w' => e = .returned (.tuple #[.int .i64 (lowS l nm : Nat), .bool (isS l nm)]) ∧ w' = w := by
  obtain ⟨a, cap, rfl, hc, hm, hcell, -⟩ := open_strs H
  unfold maxLen at hm
  clear H
  have HLE := Lib.hid (lowS_le l nm)
  have HIFF : Hid (∀ j, (hj : j < l.length) → sLess l[j] nm = decide (j < lowS l nm)) := lowS_iff nm hu
  have HIN : Hid (∀ h : lowS l nm < l.length, isS l nm = (l[lowS l nm].toList == nm.toList)) := fun h => by unfold isS; rw [dif_pos h]
  have HOUT : Hid (¬ lowS l nm < l.length → isS l nm = false) := fun h => by unfold isS; rw [dif_neg h]
  clear hu
  go_enter Try.func93, Try.ntmps93
  go_wp2
  go_loopw [7, 8] (fun s9 s10 wr => ∃ lo hi : Nat, s9 = .int .i64 lo ∧ s10 = .int .i64 hi ∧ lo ≤ hi ∧ hi ≤ l.length ∧ Hid (lo ≤ lowS l nm ∧ lowS l nm ≤ hi) ∧ wr = w) (fun s9 s10 _ => (intOf s10).toNat - (intOf s9).toNat)
  case atStart => exact ⟨0, l.length, rfl, rfl, by omega, by omega, ⟨by omega, HLE.out⟩, rfl⟩
  case round =>
    obtain ⟨lo, hi, rfl, rfl, hlh, hin, HW, rfl⟩ := hrel
    by_cases hlt : lo < hi
    · obtain ⟨b1, off1, rfl, hb1, -, he1⟩ := hcell (by omega)
      have c10 : wr.cell? ⟨b1, off1 + (lo + hi) / 2, none⟩ = some _ := he1 ((lo + hi) / 2) (by omega)
      have HC := Lib.hid (lib_Less (l[(lo + hi) / 2]'(by omega)) nm wr)
      clear he1 hcell
      cases hyx : sLess (l[(lo + hi) / 2]'(by omega)) nm
      · have HL : Hid (lo ≤ lowS l nm ∧ lowS l nm ≤ (lo + hi) / 2) := by
          have h1 := HIFF.out ((lo + hi) / 2) (by omega)
          rw [hyx] at h1
          have h2 := of_decide_eq_false h1.symm
          exact ⟨HW.out.1, by omega⟩
        rw [hyx] at HC
        clear hyx
        go_wp2_with (go_at_call 102; refine HC.out.mono ?_; rintro e w2 ⟨rfl, rfl⟩)
        go_roundw
        case rel => exact ⟨lo, (lo + hi) / 2, rfl, by first | rfl | rw [show ((lo : Int) + (hi : Int)) / 2 = (((lo + hi) / 2 : Nat) : Int) by omega], by omega, by omega, HL, by trivial⟩
        case measure => simp [intOf]; omega
      · have HL : Hid ((lo + hi) / 2 + 1 ≤ lowS l nm ∧ lowS l nm ≤ hi) := by
          have h1 := HIFF.out ((lo + hi) / 2) (by omega)
          rw [hyx] at h1
          have h2 := of_decide_eq_true h1.symm
          exact ⟨h2, HW.out.2⟩
        rw [hyx] at HC
        clear hyx
        go_wp2_with (go_at_call 102; refine HC.out.mono ?_; rintro e w2 ⟨rfl, rfl⟩)
        go_roundw
        case rel => exact ⟨(lo + hi) / 2 + 1, hi, by first | rfl | rw [show ((lo : Int) + (hi : Int)) / 2 + 1 = (((lo + hi) / 2 + 1 : Nat) : Int) by omega], rfl, by omega, hin, HL, by trivial⟩
        case measure => simp [intOf]; omega
    · obtain rfl : hi = lo := by omega
      have hlow : lowS l nm = hi := by have := HW.out; omega
      by_cases hn2 : hi < l.length
      · have HD : Hid (isS l nm = (l[hi].toList == nm.toList)) := by
          subst hlow
          exact HIN.out hn2
        have HA := Lib.hid hlow
        clear hlow HIN HOUT HIFF HW HLE
        obtain ⟨b1, off1, rfl, hb1, -, he1⟩ := hcell (by omega)
        have c10 : wr.cell? ⟨b1, off1 + hi, none⟩ = some _ := he1 hi hn2
        clear he1 hcell
        cases hyx : (l[hi].toList == nm.toList)
        · have HF := Lib.hid (HD.out.trans hyx)
          clear HD
          go_wp2_with (go_at_call 103; refine (lib_slNaN _ _).mono ?_; rintro e w2 ⟨rfl, rfl⟩)
          go_ret2
          exact ⟨by rw [HA.out, HF.out]; rfl, rfl⟩
        · have HF := Lib.hid (HD.out.trans hyx)
          clear HD
          go_wp2
          go_ret2
          exact ⟨by rw [HA.out, HF.out]; rfl, rfl⟩
      · have HF := Lib.hid (HOUT.out (by omega))
        have HA := Lib.hid hlow
        clear hlow HIN HOUT HIFF HW HLE
        go_wp2
        go_ret2
        exact ⟨by rw [HA.out, HF.out]; rfl, rfl⟩

/-! ### Names that are in both -/
set_option maxHeartbeats 4000000 in
theorem spec_l9Has (v : Value) (l : List ByteArray) (s : ByteArray) (fp : List Nat) (w : World) (H : (sSlice sStr).R w [v] l fp) :
    Calls Try.prog 95 #[v, .string s] w (Says (hasN l s) w) := by
  obtain ⟨a, cap, rfl, hc, hm, hcell, -⟩ := open_strs H
  unfold maxLen at hm
  clear H
  go_enter Try.func95, Try.ntmps95
  go_wp2
  go_loopw [5] (fun i wr => ∃ k : Nat, k ≤ l.length ∧ i = .int .i64 k ∧ Hid (∀ j, (hj : j < l.length) → j < k → (l[j].toList == s.toList) = false) ∧ Below w.heap.size w wr) (fun i _ => l.length - (intOf i).toNat)
  case atStart => exact ⟨0, by omega, rfl, fun j _ h => by omega, Below.refl _ _⟩
  case round =>
    obtain ⟨k, hk, rfl, HP, hb⟩ := hrel
    by_cases hlt : k < l.length
    · obtain ⟨b1, off1, rfl, hb1, -, he1⟩ := hcell (by omega)
      have c10 : wr.cell? ⟨b1, off1 + k, none⟩ = some _ := (hb.cell (p := ⟨b1, off1 + k, none⟩) hb1).trans (he1 k hlt)
      clear he1 hcell
      cases g : (l[k].toList == s.toList)
      · have HF : Hid (∀ j, (hj : j < l.length) → j < k + 1 → (l[j].toList == s.toList) = false) := fun j hj h => by
          by_cases e : j = k
          · subst e; exact g
          · exact HP.out j hj (by omega)
        clear HP
        go_wp2
        go_roundw
        case rel => exact ⟨k + 1, by omega, by go_num, HF, hb⟩
        case measure => simp [intOf]; omega
      · have HF := Lib.hid (hasN_hit hlt g)
        clear HP
        go_wp2
        go_ret
        exact ⟨ret_bool HF.out.symm, hb⟩
    · have HF := Lib.hid (hasN_no (l := l) (s := s) fun j hj => HP.out j hj (by omega))
      clear HP
      go_wp2
      go_ret
      exact ⟨ret_bool HF.out.symm, hb⟩

theorem both_ok {a b : List ByteArray} (h : ∀ i, (hi : i < a.length) → a[i].size ≤ maxLen) : ∀ i, (hi : i < (both a b).length) → okStr (both a b)[i] := fun i hi => by
  have hm : (both a b)[i] ∈ a := (List.mem_filter.1 (List.getElem_mem hi)).1
  obtain ⟨j, hj, e⟩ := List.getElem_of_mem hm
  rw [← e]; exact h j hj

set_option maxHeartbeats 4000000 in
theorem spec_l9Both (va vb : Value) (a b : List ByteArray) (fpa fpb : List Nat) (w : World) (ha : a.length ≤ 1000000) (Ha : (sSlice sStr).R w [va] a fpa) (Hb : (sSlice sStr).R w [vb] b fpb) :
    Calls Try.prog 84 #[va, vb] w (Made (sSlice sStr) (both a b) w) := by
  obtain ⟨aa, ca, rfl, hca, hma, hcell, hsz⟩ := open_strs Ha
  unfold maxLen at hma
  have HSZ := Lib.hid (both_ok (b := b) hsz)
  have HB := Lib.hid Hb
  have hlit : Hid ((w.alloc (.cells #[] 9)).ownsRow w.heap.size 9 1 (.slice (some ⟨w.heap.size, 0, none⟩) 0 0) (both (a.take 0) b).length ((both (a.take 0) b).map Value.string)) :=
    World.ownsRow_lit (base := w.heap.size) (e := 9) (size := 1) w #[] 0 (Nat.le_refl _) (by simp) rfl
  have hba := alloc_below' w (.cells #[] 9)
  clear Ha Hb hsz
  go_enter Try.func84, Try.ntmps84
  go_wp2
  go_loopw [5, 6] (fun o i wr => ∃ (k : Nat), k ≤ a.length ∧ i = .int .i64 k ∧ Hid (wr.ownsRow w.heap.size 9 1 o (both (a.take k) b).length ((both (a.take k) b).map Value.string)) ∧ Below w.heap.size w wr) (fun _ i _ => a.length - (intOf i).toNat)
  case atStart => exact ⟨0, by omega, rfl, hlit, hba⟩
  case round =>
    clear hlit hba
    obtain ⟨k, hk, rfl, HO, hb⟩ := hrel
    by_cases hlt : k < a.length
    · obtain ⟨b1, off1, rfl, hb1, -, he1⟩ := hcell (by omega)
      have c10 : wr.cell? ⟨b1, off1 + k, none⟩ = some _ := (hb.cell (p := ⟨b1, off1 + k, none⟩) hb1).trans (he1 k hlt)
      have HC := Lib.hid (spec_l9Has vb b a[k] fpb wr ((sSlice sStr).below HB.out hb))
      clear he1 hcell
      cases g : hasN b a[k]
      · have HN := Lib.hid (both_no hlt g)
        rw [g] at HC
        clear g
        go_wp2_with (go_at_call 95; refine HC.out.mono ?_; rintro e w2 ⟨rfl, hb2⟩)
        go_roundw
        case rel => exact ⟨k + 1, by omega, by go_num, by show World.ownsRow _ _ _ _ _ _ _; rw [HN.out]; exact ownsRow_same HO.out fun g hg => hb2.block g (HO.out.lt g hg).2, hb.trans (hb2.mono hb.size)⟩
        case measure => simp [intOf]; omega
      · have HN := Lib.hid (both_yes hlt g)
        rw [g] at HC
        clear g
        have hlen : (both (a.take k) b).length ≤ k := Nat.le_trans (both_len _ _) (by simp; omega)
        go_wp2_with fail
        refine HC.out.mono ?_
        rintro e w2 ⟨rfl, hb2⟩
        have hbw := hb.trans (hb2.mono hb.size)
        have c11 : w2.cell? ⟨b1, off1 + k, none⟩ = some _ := (hb2.cell (p := ⟨b1, off1 + k, none⟩) (Nat.lt_of_lt_of_le hb1 hb.size)).trans c10
        have HO2 := Lib.hid (ownsRow_same (w' := w2) HO.out fun g hg => hb2.block g (HO.out.lt g hg).2)
        clear HO hb2 c10 HC
        go_wp2_with (at_builtin; refine wp_append_one ti27 rfl _ (.string a[k]) rfl rfl (.tmp 20) (.tmp 25) rfl w.heap.size _ (both (a.take k) b).length ((both (a.take k) b).map Value.string) rfl HO2.out rfl (by unfold maxLen; omega) (by omega) hbw.size ?_; intro v3 w3 hE3 hg3)
        have hb3 : Below w.heap.size w w3 := hbw.grown hg3 hbw.size (fun b hb => (HO2.out.lt b hb).1)
        have HO3 : Hid (w3.ownsRow w.heap.size 9 1 v3 (both (a.take (k + 1)) b).length ((both (a.take (k + 1)) b).map Value.string)) := by
          show World.ownsRow _ _ _ _ _ _ _
          rw [HN.out]; simpa using hE3
        clear hE3 hg3 c11 hlen HO2
        go_roundw
        case rel => exact ⟨k + 1, by omega, by go_num, HO3, hb3⟩
        case measure => simp [intOf]; omega
    · have hO := HO.out
      rw [both_all (by omega)] at hO
      obtain ⟨fpr, hR, hOw, -⟩ := own_flat (ok := okStr) hO HSZ.out
      have HR := Lib.hid (And.intro hR hOw)
      clear hO hR hOw HO
      go_wp2
      go_ret
      exact ⟨_, fpr, rfl, HR.out.1, HR.out.2, hb⟩

set_option maxHeartbeats 4000000 in
theorem impl_namesOfBoth (va vb : Value) (a b : List ByteArray) (fpa fpb : List Nat) (w : World) (ha : a.length ≤ 1000000) (hbl : b.length ≤ 1000000) (hu : Up b) (Ha : (sSlice sStr).R w [va] a fpa) (Hb : (sSlice sStr).R w [vb] b fpb) :
    Calls Try.prog 81 #[va, vb] w (Made (sSlice sStr) (both a b) w) := by
  obtain ⟨aa, ca, rfl, hca, hma, hcell, hsz⟩ := open_strs Ha
  unfold maxLen at hma
  have HSZ := Lib.hid (both_ok (b := b) hsz)
  have HB := Lib.hid Hb
  have HU := Lib.hid hu
  have hlit : Hid (w.ownsRow w.heap.size 9 1 (.slice none 0 0) (both (a.take 0) b).length ((both (a.take 0) b).map Value.string)) := ⟨rfl, .inl ⟨rfl, rfl⟩⟩
  clear Ha Hb hsz hu
  go_enter Try.func81, Try.ntmps81
  go_wp2
  go_loopw [5, 12] (fun o i wr => ∃ (k : Nat), k ≤ a.length ∧ i = .int .i64 k ∧ Hid (wr.ownsRow w.heap.size 9 1 o (both (a.take k) b).length ((both (a.take k) b).map Value.string)) ∧ Below w.heap.size w wr) (fun _ i _ => a.length - (intOf i).toNat)
  case atStart => exact ⟨0, by omega, rfl, hlit, Below.refl _ _⟩
  case round =>
    clear hlit
    obtain ⟨k, hk, rfl, HO, hb⟩ := hrel
    by_cases hlt : k < a.length
    · obtain ⟨b1, off1, rfl, hb1, -, he1⟩ := hcell (by omega)
      have c10 : wr.cell? ⟨b1, off1 + k, none⟩ = some _ := (hb.cell (p := ⟨b1, off1 + k, none⟩) hb1).trans (he1 k hlt)
      have HC := Lib.hid (lib_SearchS vb b a[k] fpb wr HU.out hbl ((sSlice sStr).below HB.out hb))
      have HI := Lib.hid (isS_has HU.out a[k])
      clear he1 hcell
      generalize lowS b a[k] = lo at HC
      cases g : hasN b a[k]
      · have HN := Lib.hid (both_no hlt g)
        rw [HI.out, g] at HC
        clear g HI
        go_wp2_with (go_at_call 93; refine HC.out.mono ?_; rintro e w2 ⟨rfl, rfl⟩)
        go_roundw
        case rel => exact ⟨k + 1, by omega, by go_num, by show World.ownsRow _ _ _ _ _ _ _; rw [HN.out]; exact HO.out, hb⟩
        case measure => simp [intOf]; omega
      · have HN := Lib.hid (both_yes hlt g)
        rw [HI.out, g] at HC
        clear g HI
        have hlen : (both (a.take k) b).length ≤ k := Nat.le_trans (both_len _ _) (by simp; omega)
        go_wp2_with (first
          | (go_at_call 93; refine HC.out.mono ?_; rintro e w2 ⟨rfl, rfl⟩)
          | (at_builtin; refine wp_append_one ti27 rfl _ (.string a[k]) rfl rfl (.tmp 23) (.tmp 25) rfl w.heap.size _ (both (a.take k) b).length ((both (a.take k) b).map Value.string) rfl HO.out rfl (by unfold maxLen; omega) (by omega) hb.size ?_; intro v3 w3 hE3 hg3
             have hb3 : Below w.heap.size w w3 := hb.grown hg3 hb.size (fun b hb => (HO.out.lt b hb).1)
             have HO3 : Hid (w3.ownsRow w.heap.size 9 1 v3 (both (a.take (k + 1)) b).length ((both (a.take (k + 1)) b).map Value.string)) := by
               show World.ownsRow _ _ _ _ _ _ _
               rw [HN.out]; simpa using hE3
             clear hE3 hg3 c10 hlen HO))
        go_roundw
        case rel => exact ⟨k + 1, by omega, by go_num, HO3, hb3⟩
        case measure => simp [intOf]; omega
    · have hO := HO.out
      rw [both_all (by omega)] at hO
      obtain ⟨fpr, hR, hOw, -⟩ := own_flat (ok := okStr) hO HSZ.out
      have HR := Lib.hid (And.intro hR hOw)
      clear hO hR hOw HO
      go_wp2
      go_ret
      exact ⟨_, fpr, rfl, HR.out.1, HR.out.2, hb⟩

end Go.Proofs.Ytflbdanlcpojbaa

/- PasteTokens of both. (Made by gen_pst2.py.) -/
namespace Go.Proofs.Ytflbdanlcpojbaa
open Go.RowKit

/-- What PasteTokens hands back. -/
def PasteOf (a b : Tok) (w : World) (e : Ending) (w' : World) : Prop :=
  ∃ (cs : List Value) (fp : List Nat), e = .returned (.tuple #[.agg cs.toArray, .bool (pasteRes a b).2]) ∧ sTok.R w' cs (pasteRes a b).1 fp ∧ Own w' w.heap.size fp ∧ Below w.heap.size w w'
theorem pasteOf_no {a b : Tok} {w w' : World} (h : pasteRes a b = (zTok, false)) (hb : Below w.heap.size w w') : PasteOf a b w (.returned (.tuple #[.agg #[.int .i64 0, .string ⟨#[]⟩, .bool false, .slice none 0 0], .bool false])) w' :=
  ⟨[.int .i64 0, .string ⟨#[]⟩, .bool false, .slice none 0 0], [], by rw [h], by rw [h]; exact ⟨_, rfl, by unfold okInt zTok; simp, by show (0 : Nat) ≤ _; simp [maxLen], slice_empty sStr _ _ _ (by simp)⟩, Own.nil _ _, hb⟩
theorem pasteOf_yes {a b t : Tok} {hv : Value} {fp : List Nat} {w w' : World} (h : pasteRes a b = (⟨t.kind, t.text, a.spaced, both a.hidden b.hidden⟩, true)) (hk : okInt t.kind) (hs : okStr t.text) (HR : (sSlice sStr).R w' [hv] (both a.hidden b.hidden) fp) (HO : Own w' w.heap.size fp) (hb : Below w.heap.size w w') :
    PasteOf a b w (.returned (.tuple #[.agg #[.int .i64 t.kind, .string t.text, .bool a.spaced, hv], .bool true])) w' :=
  ⟨[.int .i64 t.kind, .string t.text, .bool a.spaced, hv], fp, by rw [h], by rw [h]; exact ⟨_, rfl, hk, hs, HR⟩, HO, hb⟩
theorem tok_hid {w : World} {k : Int} {s : ByteArray} {p : Bool} {h : Value} {x : Tok} {fp : List Nat} (H : sTok.R w [.int .i64 k, .string s, .bool p, h] x fp) : (sSlice sStr).R w [h] x.hidden fp := by
  obtain ⟨h', e, -, -, K⟩ := H
  simp only [List.cons.injEq, and_true] at e
  rw [e.2.2.2]; exact K
theorem tok_hidOk {t : Tok} (h : tokOk t = true) : hidOk t.hidden = true := by unfold tokOk at h; exact (Bool.and_eq_true_iff.1 h).2
/-- A token of one that stands alone in a row. -/
theorem open_head {w : World} {v : Value} {t : Tok} {fp : List Nat} (h : (sSlice sTok).R w [v] [t] fp) :
    ∃ (b off cap : Nat) (ah : Option Addr) (ch : Nat), v = .slice (some ⟨b, off, none⟩) 1 cap ∧ 1 ≤ cap ∧ cap ≤ maxLen ∧ b < w.heap.size ∧ b ∈ fp ∧ w.cell? ⟨b, off, none⟩ = some (.int .i64 t.kind) ∧ w.cell? ⟨b, off + 1, none⟩ = some (.string t.text) ∧ w.cell? ⟨b, off + 2, none⟩ = some (.bool t.spaced) ∧ w.cell? ⟨b, off + 3, none⟩ = some (.slice ah t.hidden.length ch) ∧ okInt t.kind ∧ okStr t.text := by
  obtain ⟨a, cap, rfl, hc, hm, hrow⟩ := open_rows h
  obtain ⟨b, off, fps, rfl, hb, hfp, he⟩ := hrow (by simp)
  obtain ⟨es, hE, hR⟩ := he 0 (by simp)
  obtain ⟨hv, rfl, hk, hs, K⟩ := hR
  obtain ⟨ah, ch, rfl, -⟩ := open_strs K
  have c0 : w.cell? ⟨b, off + 0 * 4, none⟩ = some _ := elem_cell0 hE (by decide) rfl
  have c1 : w.cell? ⟨b, off + 0 * 4 + 1, none⟩ = some _ := elem_cell (j := 1) hE (by decide) rfl
  have c2 : w.cell? ⟨b, off + 0 * 4 + 2, none⟩ = some _ := elem_cell (j := 2) hE (by decide) rfl
  have c3 : w.cell? ⟨b, off + 0 * 4 + 3, none⟩ = some _ := elem_cell (j := 3) hE (by decide) rfl
  simp only [Nat.zero_mul, Nat.add_zero] at c0 c1 c2 c3
  exact ⟨b, off, cap, ah, ch, rfl, by simpa using hc, hm, hb, by rw [hfp]; simp, c0, c1, c2, c3, hk, hs⟩

set_option maxHeartbeats 8000000 in
set_option maxRecDepth 100000 in
theorem spec_PasteTokens (ca cb : List Value) (a b : Tok) (fpa fpb : List Nat) (w : World) (hla : a.hidden.length ≤ 2000000) (hlb : b.hidden.length ≤ 2000000) (HA0 : sTok.R w ca a fpa) (HB0 : sTok.R w cb b fpb) :
    Calls Try.prog 65 #[.agg ca.toArray, .agg cb.toArray] w (PasteOf a b w) := by
  have HA0' := HA0
  have HB0' := HB0
  obtain ⟨ha, rfl, -, -, -⟩ := HA0'
  obtain ⟨hb, rfl, -, -, -⟩ := HB0'

  have hb3 := below3 w #[.int .i64 a.kind, .string a.text, .bool a.spaced, ha] #[.int .i64 b.kind, .string b.text, .bool b.spaced, hb] #[.int .i64 0, .string ⟨#[]⟩, .bool false, .slice none 0 0] 35 35 35
  have HA := Lib.hid (alloc3_blk0 w #[.int .i64 a.kind, .string a.text, .bool a.spaced, ha] #[.int .i64 b.kind, .string b.text, .bool b.spaced, hb] #[.int .i64 0, .string ⟨#[]⟩, .bool false, .slice none 0 0] 35 35 35)
  obtain ⟨g1, g2, hs3⟩ := alloc3_blk w #[.int .i64 a.kind, .string a.text, .bool a.spaced, ha] #[.int .i64 b.kind, .string b.text, .bool b.spaced, hb] #[.int .i64 0, .string ⟨#[]⟩, .bool false, .slice none 0 0] 35 35 35
  have HB := Lib.hid g1
  have HZ := Lib.hid g2
  have HRA := Lib.hid (sTok.below HA0 hb3)
  have HRB := Lib.hid (sTok.below HB0 hb3)
  have HNB : Hid (w.heap.size ∉ fpb ∧ w.heap.size + 1 ∉ fpb) := ⟨fun hx => by have := sTok.lt HB0 _ hx; omega, fun hx => by have := sTok.lt HB0 _ hx; omega⟩
  have hB3 := hb3
  clear HA0 HB0 g1 g2 hb3
  go_enter Try.func65, Try.ntmps65
  go_upto_region 1 with fail
  generalize (((w.alloc (.cells #[.int .i64 a.kind, .string a.text, .bool a.spaced, ha] 35)).alloc (.cells #[.int .i64 b.kind, .string b.text, .bool b.spaced, hb] 35)).alloc (.cells #[.int .i64 0, .string ⟨#[]⟩, .bool false, .slice none 0 0] 35)) = W3 at *
  have HCa := Lib.hid (spec_l1OwnToken _ _ _ W3 hla HRA.out)
  have c0 := cell_of_row W3 (w.heap.size) 0 _ _ _ HA.out
  have c1 := cell_of_row W3 (w.heap.size) 1 _ _ _ HA.out
  have c2 := cell_of_row W3 (w.heap.size) 2 _ _ _ HA.out
  have c3 := cell_of_row W3 (w.heap.size) 3 _ _ _ HA.out
  go_wp2_with fail
  refine HCa.out.mono ?_
  rintro e w4 ⟨aoa, coa, foa, rfl, Ra, loa, tya, b4⟩
  clear c0 c1 c2 c3 HCa
  replace HA := Lib.hid (mbox HA.out b4)
  replace HB := Lib.hid (mbox HB.out b4)
  replace HZ := Lib.hid (mbox HZ.out b4)
  have c0 := cell_of_row w4 (w.heap.size) 0 _ _ _ HA.out
  have cz0 : w4.frozen? ⟨w.heap.size, 0, none⟩ = false := frozen_of_row _ _ 0 _ _ HA.out
  have c1 := cell_of_row w4 (w.heap.size) 1 _ _ _ HA.out
  have cz1 : w4.frozen? ⟨w.heap.size, 1, none⟩ = false := frozen_of_row _ _ 1 _ _ HA.out
  have c2 := cell_of_row w4 (w.heap.size) 2 _ _ _ HA.out
  have cz2 : w4.frozen? ⟨w.heap.size, 2, none⟩ = false := frozen_of_row _ _ 2 _ _ HA.out
  have c3 := cell_of_row w4 (w.heap.size) 3 _ _ _ HA.out
  have cz3 : w4.frozen? ⟨w.heap.size, 3, none⟩ = false := frozen_of_row _ _ 3 _ _ HA.out
  have hsz4 : w.heap.size + 3 ≤ w4.heap.size := by have := b4.size; omega
  have hB4 := set4_below (hB3.trans (b4.mono hB3.size)) (g := w.heap.size) (by omega) (.int .i64 a.kind) (.string a.text) (.bool a.spaced) (.slice aoa a.hidden.length coa)
  replace HRA := Lib.hid (sTok.set4R Ra (g := w.heap.size) (fun hx => by have := loa _ hx; omega) (.int .i64 a.kind) (.string a.text) (.bool a.spaced) (.slice aoa a.hidden.length coa))
  replace HRB := Lib.hid (sTok.set4R (sTok.below HRB.out b4) (g := w.heap.size) (HNB.out.1) (.int .i64 a.kind) (.string a.text) (.bool a.spaced) (.slice aoa a.hidden.length coa))
  replace HA := Lib.hid (set4_at HA.out (.int .i64 a.kind) (.string a.text) (.bool a.spaced) (.slice aoa a.hidden.length coa))
  replace HB := Lib.hid ((set4_far (g := w.heap.size) (by omega) (.int .i64 a.kind) (.string a.text) (.bool a.spaced) (.slice aoa a.hidden.length coa)).trans HB.out)
  replace HZ := Lib.hid ((set4_far (g := w.heap.size) (by omega) (.int .i64 a.kind) (.string a.text) (.bool a.spaced) (.slice aoa a.hidden.length coa)).trans HZ.out)
  have hs4 : w.heap.size + 3 ≤ (set4 w4 (w.heap.size) (.int .i64 a.kind) (.string a.text) (.bool a.spaced) (.slice aoa a.hidden.length coa)).heap.size := by rw [set4_size]; omega
  have HNA : Hid (w.heap.size + 1 ∉ foa) := fun hx => by have := loa _ hx; omega
  unfold set4 at hB4 HRA HRB HA HB HZ hs4
  go_upto_region 2 with fail
  clear c0 c1 c2 c3 cz0 cz1 cz2 cz3 Ra loa tya b4 hsz4
  generalize ((((w4.setCell ⟨w.heap.size, 0, none⟩ (.int .i64 a.kind)).setCell ⟨w.heap.size, 1, none⟩ (.string a.text)).setCell ⟨w.heap.size, 2, none⟩ (.bool a.spaced)).setCell ⟨w.heap.size, 3, none⟩ (.slice aoa a.hidden.length coa)) = W4 at *
  have HCb := Lib.hid (spec_l1OwnToken _ _ _ W4 hlb HRB.out)
  have c0 := cell_of_row W4 (w.heap.size + 1) 0 _ _ _ HB.out
  have c1 := cell_of_row W4 (w.heap.size + 1) 1 _ _ _ HB.out
  have c2 := cell_of_row W4 (w.heap.size + 1) 2 _ _ _ HB.out
  have c3 := cell_of_row W4 (w.heap.size + 1) 3 _ _ _ HB.out
  go_wp2_with fail
  refine HCb.out.mono ?_
  rintro e w5 ⟨aob, cob, fob, rfl, Rb, lob, tyb, b5⟩
  clear c0 c1 c2 c3 HCb
  replace HA := Lib.hid (mbox HA.out b5)
  replace HB := Lib.hid (mbox HB.out b5)
  replace HZ := Lib.hid (mbox HZ.out b5)
  have c0 := cell_of_row w5 (w.heap.size + 1) 0 _ _ _ HB.out
  have cz0 : w5.frozen? ⟨w.heap.size + 1, 0, none⟩ = false := frozen_of_row _ _ 0 _ _ HB.out
  have c1 := cell_of_row w5 (w.heap.size + 1) 1 _ _ _ HB.out
  have cz1 : w5.frozen? ⟨w.heap.size + 1, 1, none⟩ = false := frozen_of_row _ _ 1 _ _ HB.out
  have c2 := cell_of_row w5 (w.heap.size + 1) 2 _ _ _ HB.out
  have cz2 : w5.frozen? ⟨w.heap.size + 1, 2, none⟩ = false := frozen_of_row _ _ 2 _ _ HB.out
  have c3 := cell_of_row w5 (w.heap.size + 1) 3 _ _ _ HB.out
  have cz3 : w5.frozen? ⟨w.heap.size + 1, 3, none⟩ = false := frozen_of_row _ _ 3 _ _ HB.out
  have hsz5 : w.heap.size + 3 ≤ w5.heap.size := by have := b5.size; omega
  have hB5 := set4_below (hB4.trans (b5.mono hB4.size)) (g := w.heap.size + 1) (by omega) (.int .i64 b.kind) (.string b.text) (.bool b.spaced) (.slice aob b.hidden.length cob)
  replace HRB := Lib.hid (sTok.set4R Rb (g := w.heap.size + 1) (fun hx => by have := lob _ hx; omega) (.int .i64 b.kind) (.string b.text) (.bool b.spaced) (.slice aob b.hidden.length cob))
  replace HRA := Lib.hid (sTok.set4R (sTok.below HRA.out b5) (g := w.heap.size + 1) (HNA.out) (.int .i64 b.kind) (.string b.text) (.bool b.spaced) (.slice aob b.hidden.length cob))
  replace HA := Lib.hid ((set4_far (g := w.heap.size + 1) (by omega) (.int .i64 b.kind) (.string b.text) (.bool b.spaced) (.slice aob b.hidden.length cob)).trans HA.out)
  replace HB := Lib.hid (set4_at HB.out (.int .i64 b.kind) (.string b.text) (.bool b.spaced) (.slice aob b.hidden.length cob))
  replace HZ := Lib.hid ((set4_far (g := w.heap.size + 1) (by omega) (.int .i64 b.kind) (.string b.text) (.bool b.spaced) (.slice aob b.hidden.length cob)).trans HZ.out)
  have hs5 : w.heap.size + 3 ≤ (set4 w5 (w.heap.size + 1) (.int .i64 b.kind) (.string b.text) (.bool b.spaced) (.slice aob b.hidden.length cob)).heap.size := by rw [set4_size]; omega
  unfold set4 at hB5 HRA HRB HA HB HZ hs5
  go_upto_region 3 with fail
  clear c0 c1 c2 c3 cz0 cz1 cz2 cz3 Rb lob tyb b5 hsz5
  generalize ((((w5.setCell ⟨w.heap.size + 1, 0, none⟩ (.int .i64 b.kind)).setCell ⟨w.heap.size + 1, 1, none⟩ (.string b.text)).setCell ⟨w.heap.size + 1, 2, none⟩ (.bool b.spaced)).setCell ⟨w.heap.size + 1, 3, none⟩ (.slice aob b.hidden.length cob)) = W5 at *
  have HVA := Lib.hid (spec_TokenValid _ _ _ W5 HRA.out)
  have c0 := cell_of_row W5 (w.heap.size) 0 _ _ _ HA.out
  have c1 := cell_of_row W5 (w.heap.size) 1 _ _ _ HA.out
  have c2 := cell_of_row W5 (w.heap.size) 2 _ _ _ HA.out
  have c3 := cell_of_row W5 (w.heap.size) 3 _ _ _ HA.out
  cases hva : tokOk a
  · rw [hva] at HVA
    have HF := Lib.hid (paste_no1 (b := b) hva)
    clear hva
    go_wp2_with fail
    refine HVA.out.mono ?_
    rintro e w6 ⟨rfl, b6⟩
    replace HZ := Lib.hid (mbox HZ.out b6)
    have hB6 := hB5.trans (b6.mono hB5.size)
    have z0 := cell_of_row w6 (w.heap.size + 1 + 1) 0 _ _ _ HZ.out
    have zz0 : w6.frozen? ⟨w.heap.size + 1 + 1, 0, none⟩ = false := frozen_of_row _ _ 0 _ _ HZ.out
    have z1 := cell_of_row w6 (w.heap.size + 1 + 1) 1 _ _ _ HZ.out
    have zz1 : w6.frozen? ⟨w.heap.size + 1 + 1, 1, none⟩ = false := frozen_of_row _ _ 1 _ _ HZ.out
    have z2 := cell_of_row w6 (w.heap.size + 1 + 1) 2 _ _ _ HZ.out
    have zz2 : w6.frozen? ⟨w.heap.size + 1 + 1, 2, none⟩ = false := frozen_of_row _ _ 2 _ _ HZ.out
    have z3 := cell_of_row w6 (w.heap.size + 1 + 1) 3 _ _ _ HZ.out
    have zz3 : w6.frozen? ⟨w.heap.size + 1 + 1, 3, none⟩ = false := frozen_of_row _ _ 3 _ _ HZ.out
    have HS := Lib.hid (set4_at HZ.out (.int .i64 0) (.string ⟨#[]⟩) (.bool false) (.slice none 0 0))
    have HBF := Lib.hid (set4_below hB6 (g := w.heap.size + 1 + 1) (by omega) (.int .i64 0) (.string ⟨#[]⟩) (.bool false) (.slice none 0 0))
    unfold set4 at HS HBF
    go_wp2
    refine bodyPost_ret (results_cell2 rfl _ _ (w.heap.size + 1 + 1) _ _ _ _ rfl HS.out Try.underlying35 rfl (by kernel_rfl)) rfl ?_
    exact pasteOf_no HF.out HBF.out
  rw [hva] at HVA
  go_wp2_with fail
  refine HVA.out.mono ?_
  rintro e w6 ⟨rfl, b6⟩
  clear c0 c1 c2 c3 HVA
  replace HA := Lib.hid (mbox HA.out b6)
  replace HB := Lib.hid (mbox HB.out b6)
  replace HZ := Lib.hid (mbox HZ.out b6)
  replace HRA := Lib.hid (sTok.below HRA.out b6)
  replace HRB := Lib.hid (sTok.below HRB.out b6)
  have hB6 := hB5.trans (b6.mono hB5.size)
  clear b6
  have HVB := Lib.hid (spec_TokenValid _ _ _ w6 HRB.out)
  have c0 := cell_of_row w6 (w.heap.size + 1) 0 _ _ _ HB.out
  have c1 := cell_of_row w6 (w.heap.size + 1) 1 _ _ _ HB.out
  have c2 := cell_of_row w6 (w.heap.size + 1) 2 _ _ _ HB.out
  have c3 := cell_of_row w6 (w.heap.size + 1) 3 _ _ _ HB.out
  cases hvb : tokOk b
  · rw [hvb] at HVB
    have HF := Lib.hid (paste_no2 (a := a) hvb)
    clear hva hvb
    go_wp2_with fail
    refine HVB.out.mono ?_
    rintro e w7 ⟨rfl, b7⟩
    replace HZ := Lib.hid (mbox HZ.out b7)
    have hB7 := hB6.trans (b7.mono hB6.size)
    have z0 := cell_of_row w7 (w.heap.size + 1 + 1) 0 _ _ _ HZ.out
    have zz0 : w7.frozen? ⟨w.heap.size + 1 + 1, 0, none⟩ = false := frozen_of_row _ _ 0 _ _ HZ.out
    have z1 := cell_of_row w7 (w.heap.size + 1 + 1) 1 _ _ _ HZ.out
    have zz1 : w7.frozen? ⟨w.heap.size + 1 + 1, 1, none⟩ = false := frozen_of_row _ _ 1 _ _ HZ.out
    have z2 := cell_of_row w7 (w.heap.size + 1 + 1) 2 _ _ _ HZ.out
    have zz2 : w7.frozen? ⟨w.heap.size + 1 + 1, 2, none⟩ = false := frozen_of_row _ _ 2 _ _ HZ.out
    have z3 := cell_of_row w7 (w.heap.size + 1 + 1) 3 _ _ _ HZ.out
    have zz3 : w7.frozen? ⟨w.heap.size + 1 + 1, 3, none⟩ = false := frozen_of_row _ _ 3 _ _ HZ.out
    have HS := Lib.hid (set4_at HZ.out (.int .i64 0) (.string ⟨#[]⟩) (.bool false) (.slice none 0 0))
    have HBF := Lib.hid (set4_below hB7 (g := w.heap.size + 1 + 1) (by omega) (.int .i64 0) (.string ⟨#[]⟩) (.bool false) (.slice none 0 0))
    unfold set4 at HS HBF
    go_wp2
    refine bodyPost_ret (results_cell2 rfl _ _ (w.heap.size + 1 + 1) _ _ _ _ rfl HS.out Try.underlying35 rfl (by kernel_rfl)) rfl ?_
    exact pasteOf_no HF.out HBF.out
  rw [hvb] at HVB
  go_wp2_with fail
  refine HVB.out.mono ?_
  rintro e w7 ⟨rfl, b7⟩
  clear c0 c1 c2 c3 HVB
  replace HA := Lib.hid (mbox HA.out b7)
  replace HB := Lib.hid (mbox HB.out b7)
  replace HZ := Lib.hid (mbox HZ.out b7)
  replace HRA := Lib.hid (sTok.below HRA.out b7)
  replace HRB := Lib.hid (sTok.below HRB.out b7)
  have hB7 := hB6.trans (b7.mono hB6.size)
  clear b7
  have hzt := mlt HZ.out
  have hsa := (tokOk_facts hva).2
  have hsb := (tokOk_facts hvb).2
  have HT := Lib.hid (fun W => spec_TokensOf (a.text ++ b.text) W (by rw [ByteArray.size_append]; unfold maxLen; omega))
  have ad := fun W => run_string_add_sum (P := Try.prog) W a.text b.text (by omega)
  obtain ⟨l, ok, htr⟩ : ∃ l ok, tokRes (a.text ++ b.text) = (l, ok) := ⟨_, _, rfl⟩
  have HTR := Lib.hid htr
  rw [htr] at HT
  clear htr
  have HVV := Lib.hid (And.intro hva hvb)
  clear hva hvb
  have c0 := cell_of_row w7 (w.heap.size) 0 _ _ _ HA.out
  have c1 := cell_of_row w7 (w.heap.size) 1 _ _ _ HA.out
  have c2 := cell_of_row w7 (w.heap.size) 2 _ _ _ HA.out
  have c3 := cell_of_row w7 (w.heap.size) 3 _ _ _ HA.out
  have d0 := cell_of_row w7 (w.heap.size + 1) 0 _ _ _ HB.out
  have d1 := cell_of_row w7 (w.heap.size + 1) 1 _ _ _ HB.out
  have d2 := cell_of_row w7 (w.heap.size + 1) 2 _ _ _ HB.out
  have d3 := cell_of_row w7 (w.heap.size + 1) 3 _ _ _ HB.out
  go_wp2_with fail
  refine (HT.out _).mono ?_
  rintro e w8 ⟨vt, fpt, rfl, RT, OT, b8⟩
  clear c0 c1 c2 c3 d0 d1 d2 d3 HT ad
  replace HA := Lib.hid (mbox HA.out b8)
  replace HB := Lib.hid (mbox HB.out b8)
  replace HZ := Lib.hid (mbox HZ.out b8)
  replace HRA := Lib.hid (sTok.below HRA.out b8)
  replace HRB := Lib.hid (sTok.below HRB.out b8)
  have hB8 := hB7.trans (b8.mono hB7.size)
  clear b8
  cases ok
  · have HF := Lib.hid (paste_bad HTR.out)
    clear HTR RT OT
    have z0 := cell_of_row w8 (w.heap.size + 1 + 1) 0 _ _ _ HZ.out
    have zz0 : w8.frozen? ⟨w.heap.size + 1 + 1, 0, none⟩ = false := frozen_of_row _ _ 0 _ _ HZ.out
    have z1 := cell_of_row w8 (w.heap.size + 1 + 1) 1 _ _ _ HZ.out
    have zz1 : w8.frozen? ⟨w.heap.size + 1 + 1, 1, none⟩ = false := frozen_of_row _ _ 1 _ _ HZ.out
    have z2 := cell_of_row w8 (w.heap.size + 1 + 1) 2 _ _ _ HZ.out
    have zz2 : w8.frozen? ⟨w.heap.size + 1 + 1, 2, none⟩ = false := frozen_of_row _ _ 2 _ _ HZ.out
    have z3 := cell_of_row w8 (w.heap.size + 1 + 1) 3 _ _ _ HZ.out
    have zz3 : w8.frozen? ⟨w.heap.size + 1 + 1, 3, none⟩ = false := frozen_of_row _ _ 3 _ _ HZ.out
    have HS := Lib.hid (set4_at HZ.out (.int .i64 0) (.string ⟨#[]⟩) (.bool false) (.slice none 0 0))
    have HBF := Lib.hid (set4_below hB8 (g := w.heap.size + 1 + 1) (by omega) (.int .i64 0) (.string ⟨#[]⟩) (.bool false) (.slice none 0 0))
    unfold set4 at HS HBF
    go_wp2
    refine bodyPost_ret (results_cell2 rfl _ _ (w.heap.size + 1 + 1) _ _ _ _ rfl HS.out Try.underlying35 rfl (by kernel_rfl)) rfl ?_
    exact pasteOf_no HF.out HBF.out
  by_cases hl1 : l.length = 1
  rotate_left
  · have HF := Lib.hid (paste_len HTR.out hl1)
    obtain ⟨at_, ct_, rfl, -⟩ := open_rows RT
    have hl2 : ((l.length : Int) != 1) = true := by simp; omega
    clear HTR RT hl1 OT
    have z0 := cell_of_row w8 (w.heap.size + 1 + 1) 0 _ _ _ HZ.out
    have zz0 : w8.frozen? ⟨w.heap.size + 1 + 1, 0, none⟩ = false := frozen_of_row _ _ 0 _ _ HZ.out
    have z1 := cell_of_row w8 (w.heap.size + 1 + 1) 1 _ _ _ HZ.out
    have zz1 : w8.frozen? ⟨w.heap.size + 1 + 1, 1, none⟩ = false := frozen_of_row _ _ 1 _ _ HZ.out
    have z2 := cell_of_row w8 (w.heap.size + 1 + 1) 2 _ _ _ HZ.out
    have zz2 : w8.frozen? ⟨w.heap.size + 1 + 1, 2, none⟩ = false := frozen_of_row _ _ 2 _ _ HZ.out
    have z3 := cell_of_row w8 (w.heap.size + 1 + 1) 3 _ _ _ HZ.out
    have zz3 : w8.frozen? ⟨w.heap.size + 1 + 1, 3, none⟩ = false := frozen_of_row _ _ 3 _ _ HZ.out
    have HS := Lib.hid (set4_at HZ.out (.int .i64 0) (.string ⟨#[]⟩) (.bool false) (.slice none 0 0))
    have HBF := Lib.hid (set4_below hB8 (g := w.heap.size + 1 + 1) (by omega) (.int .i64 0) (.string ⟨#[]⟩) (.bool false) (.slice none 0 0))
    unfold set4 at HS HBF
    go_wp2
    refine bodyPost_ret (results_cell2 rfl _ _ (w.heap.size + 1 + 1) _ _ _ _ rfl HS.out Try.underlying35 rfl (by kernel_rfl)) rfl ?_
    exact pasteOf_no HF.out HBF.out
  obtain ⟨t, rfl⟩ : ∃ t, l = [t] := List.length_eq_one_iff.1 hl1
  clear hl1
  have HF := Lib.hid (paste_yes HVV.out.1 HVV.out.2 HTR.out)
  obtain ⟨bt, ot, ct, ath, cth, rfl, hc1, hcm, hbt, hmem, t0, t1, t2, t3, okk, oks⟩ := open_head RT
  have hbt2 := (OT.2 bt hmem).1
  unfold maxLen at hcm
  clear RT HTR OT hmem
  have hla2 : a.hidden.length ≤ 1000000 := by have := (hid_at (tok_hidOk HVV.out.1)).1; omega
  have HL := Lib.hid (fun U (hU : Below w8.heap.size w8 U) => spec_l9Both _ _ a.hidden b.hidden _ _ U hla2 (tok_hid (sTok.below HRA.out hU)) (tok_hid (sTok.below HRB.out hU)))
  have c0 := cell_of_row w8 (w.heap.size) 0 _ _ _ HA.out
  have c1 := cell_of_row w8 (w.heap.size) 1 _ _ _ HA.out
  have c2 := cell_of_row w8 (w.heap.size) 2 _ _ _ HA.out
  have c3 := cell_of_row w8 (w.heap.size) 3 _ _ _ HA.out
  have d0 := cell_of_row w8 (w.heap.size + 1) 0 _ _ _ HB.out
  have d1 := cell_of_row w8 (w.heap.size + 1) 1 _ _ _ HB.out
  have d2 := cell_of_row w8 (w.heap.size + 1) 2 _ _ _ HB.out
  have d3 := cell_of_row w8 (w.heap.size + 1) 3 _ _ _ HB.out
  have hz9 : w.heap.size + 3 ≤ w8.heap.size := by have := hB8.size; have := mlt HZ.out; omega
  have hcs : Below w8.heap.size w8 w8.drew := belowN (Below.refl _ _) 1
  replace c2 : w8.drew.cell? ⟨w.heap.size, 2, none⟩ = some (.bool a.spaced) := c2
  replace c3 : w8.drew.cell? ⟨w.heap.size, 3, none⟩ = some (.slice aoa a.hidden.length coa) := c3
  replace d3 : w8.drew.cell? ⟨w.heap.size + 1, 3, none⟩ = some (.slice aob b.hidden.length cob) := d3
  replace t0 : w8.drew.cell? ⟨bt, ot, none⟩ = some (.int .i64 t.kind) := t0
  replace t1 : w8.drew.cell? ⟨bt, ot + 1, none⟩ = some (.string t.text) := t1
  have HK1 : ∀ U : World, Below w8.drew.heap.size w8.drew U → U.cell? ⟨w.heap.size, 2, none⟩ = some (.bool a.spaced) ∧ U.cell? ⟨w.heap.size, 3, none⟩ = some (.slice aoa a.hidden.length coa) ∧ U.cell? ⟨w.heap.size + 1, 3, none⟩ = some (.slice aob b.hidden.length cob) ∧ U.cell? ⟨bt, ot, none⟩ = some (.int .i64 t.kind) ∧ U.cell? ⟨bt, ot + 1, none⟩ = some (.string t.text) := fun U hU => ⟨(hU.cell (by show _ < w8.heap.size; simp only; omega)).trans c2, (hU.cell (by show _ < w8.heap.size; simp only; omega)).trans c3, (hU.cell (by show _ < w8.heap.size; simp only; omega)).trans d3, (hU.cell (by show _ < w8.heap.size; simp only; omega)).trans t0, (hU.cell (by show _ < w8.heap.size; simp only; omega)).trans t1⟩
  have HK2 : ∀ U : World, Below w8.drew.heap.size w8.drew U → ∀ v0 v1 v2 v3 : Value, ((((U.setCell ⟨w.heap.size + 1 + 1, 0, none⟩ v0).setCell ⟨w.heap.size + 1 + 1, 1, none⟩ v1).setCell ⟨w.heap.size + 1 + 1, 2, none⟩ v2).setCell ⟨w.heap.size + 1 + 1, 3, none⟩ v3).cell? ⟨w.heap.size, 2, none⟩ = some (.bool a.spaced) ∧ ((((U.setCell ⟨w.heap.size + 1 + 1, 0, none⟩ v0).setCell ⟨w.heap.size + 1 + 1, 1, none⟩ v1).setCell ⟨w.heap.size + 1 + 1, 2, none⟩ v2).setCell ⟨w.heap.size + 1 + 1, 3, none⟩ v3).cell? ⟨w.heap.size, 3, none⟩ = some (.slice aoa a.hidden.length coa) ∧ ((((U.setCell ⟨w.heap.size + 1 + 1, 0, none⟩ v0).setCell ⟨w.heap.size + 1 + 1, 1, none⟩ v1).setCell ⟨w.heap.size + 1 + 1, 2, none⟩ v2).setCell ⟨w.heap.size + 1 + 1, 3, none⟩ v3).cell? ⟨w.heap.size + 1, 3, none⟩ = some (.slice aob b.hidden.length cob) ∧ ((((U.setCell ⟨w.heap.size + 1 + 1, 0, none⟩ v0).setCell ⟨w.heap.size + 1 + 1, 1, none⟩ v1).setCell ⟨w.heap.size + 1 + 1, 2, none⟩ v2).setCell ⟨w.heap.size + 1 + 1, 3, none⟩ v3).cell? ⟨bt, ot, none⟩ = some (.int .i64 t.kind) ∧ ((((U.setCell ⟨w.heap.size + 1 + 1, 0, none⟩ v0).setCell ⟨w.heap.size + 1 + 1, 1, none⟩ v1).setCell ⟨w.heap.size + 1 + 1, 2, none⟩ v2).setCell ⟨w.heap.size + 1 + 1, 3, none⟩ v3).cell? ⟨bt, ot + 1, none⟩ = some (.string t.text) := fun U hU v0 v1 v2 v3 => by
    obtain ⟨k1, k2, k3, k4, k5⟩ := HK1 U hU
    exact ⟨(chain_cell (by omega) _ _ _ _ _).trans k1, (chain_cell (by omega) _ _ _ _ _).trans k2, (chain_cell (by omega) _ _ _ _ _).trans k3, (chain_cell (by omega) _ _ _ _ _).trans k4, (chain_cell (by omega) _ _ _ _ _).trans k5⟩
  have HZD : Hid (w8.drew.heap[w.heap.size + 1 + 1]? = _) := HZ
  clear c0 c1 d0 d1 d2
  go_wp2_with fail
  go_region_held3 (fun w' => w'.cell? ⟨w.heap.size, 2, none⟩ = some (.bool a.spaced) ∧ w'.cell? ⟨w.heap.size, 3, none⟩ = some (.slice aoa a.hidden.length coa) ∧ w'.cell? ⟨w.heap.size + 1, 3, none⟩ = some (.slice aob b.hidden.length cob) ∧ w'.cell? ⟨bt, ot, none⟩ = some (.int .i64 t.kind) ∧ w'.cell? ⟨bt, ot + 1, none⟩ = some (.string t.text))
    (first | (with_reducible exact ⟨c2, c3, d3, t0, t1⟩) | (with_reducible exact HK1 _ b9) | (with_reducible exact HK2 _ b9 _ _ _ _))
    (first | (go_at_call 84; (with_reducible refine (HL.out _ hcs).mono ?_); rintro e w9 ⟨vv, fv, rfl, RV, OV, b9⟩; obtain ⟨av, cv, rfl, -⟩ := open_strs RV; have HZN := mbox HZD.out b9; have z0 := cell_of_row _ (w.heap.size + 1 + 1) 0 _ _ _ HZN; have zz0 : w9.frozen? ⟨w.heap.size + 1 + 1, 0, none⟩ = false := frozen_of_row _ _ 0 _ _ HZN; have z1 := cell_of_row _ (w.heap.size + 1 + 1) 1 _ _ _ HZN; have zz1 : w9.frozen? ⟨w.heap.size + 1 + 1, 1, none⟩ = false := frozen_of_row _ _ 1 _ _ HZN; have z2 := cell_of_row _ (w.heap.size + 1 + 1) 2 _ _ _ HZN; have zz2 : w9.frozen? ⟨w.heap.size + 1 + 1, 2, none⟩ = false := frozen_of_row _ _ 2 _ _ HZN; have z3 := cell_of_row _ (w.heap.size + 1 + 1) 3 _ _ _ HZN; have zz3 : w9.frozen? ⟨w.heap.size + 1 + 1, 3, none⟩ = false := frozen_of_row _ _ 3 _ _ HZN))
  have HS := Lib.hid (set4_at (mbox HZD.out b9) (.int .i64 t.kind) (.string t.text) (.bool a.spaced) (.slice av (both a.hidden b.hidden).length cv))
  have hbk := hB8.trans ((hcs.trans (b9.mono (Nat.le_refl _))).mono hB8.size)
  have HBF := Lib.hid (set4_below hbk (g := w.heap.size + 1 + 1) (by omega) (.int .i64 t.kind) (.string t.text) (.bool a.spaced) (.slice av (both a.hidden b.hidden).length cv))
  have hfv : w.heap.size + 1 + 1 ∉ fv := fun hx => by have h1 := (OV.2 _ hx).1; have h2 : w8.heap.size ≤ w.heap.size + 1 + 1 := h1; omega
  have HRF := Lib.hid ((sSlice sStr).set4R RV hfv (.int .i64 t.kind) (.string t.text) (.bool a.spaced) (.slice av (both a.hidden b.hidden).length cv))
  have HOF := Lib.hid (Own.set4 (g := w.heap.size + 1 + 1) (OV.lower (show w.heap.size ≤ w8.heap.size by omega)) (.int .i64 t.kind) (.string t.text) (.bool a.spaced) (.slice av (both a.hidden b.hidden).length cv))
  unfold set4 at HS HBF HRF HOF
  go_wp2
  refine bodyPost_ret (results_cell2 rfl _ _ (w.heap.size + 1 + 1) _ _ _ _ rfl HS.out Try.underlying35 rfl (by kernel_rfl)) rfl ?_
  exact pasteOf_yes HF.out okk oks HRF.out HOF.out HBF.out

set_option maxHeartbeats 8000000 in
set_option maxRecDepth 100000 in
theorem impl_PasteTokens (ca cb : List Value) (a b : Tok) (fpa fpb : List Nat) (w : World) (hla : a.hidden.length ≤ 2000000) (hlb : b.hidden.length ≤ 2000000) (HA0 : sTok.R w ca a fpa) (HB0 : sTok.R w cb b fpb) :
    Calls Try.prog 59 #[.agg ca.toArray, .agg cb.toArray] w (PasteOf a b w) := by
  have HA0' := HA0
  have HB0' := HB0
  obtain ⟨ha, rfl, -, -, -⟩ := HA0'
  obtain ⟨hb, rfl, -, -, -⟩ := HB0'

  have hb3 := below3 w #[.int .i64 a.kind, .string a.text, .bool a.spaced, ha] #[.int .i64 b.kind, .string b.text, .bool b.spaced, hb] #[.int .i64 0, .string ⟨#[]⟩, .bool false, .slice none 0 0] 35 35 35
  have HA := Lib.hid (alloc3_blk0 w #[.int .i64 a.kind, .string a.text, .bool a.spaced, ha] #[.int .i64 b.kind, .string b.text, .bool b.spaced, hb] #[.int .i64 0, .string ⟨#[]⟩, .bool false, .slice none 0 0] 35 35 35)
  obtain ⟨g1, g2, hs3⟩ := alloc3_blk w #[.int .i64 a.kind, .string a.text, .bool a.spaced, ha] #[.int .i64 b.kind, .string b.text, .bool b.spaced, hb] #[.int .i64 0, .string ⟨#[]⟩, .bool false, .slice none 0 0] 35 35 35
  have HB := Lib.hid g1
  have HZ := Lib.hid g2
  have HRA := Lib.hid (sTok.below HA0 hb3)
  have HRB := Lib.hid (sTok.below HB0 hb3)
  have HNB : Hid (w.heap.size ∉ fpb ∧ w.heap.size + 1 ∉ fpb) := ⟨fun hx => by have := sTok.lt HB0 _ hx; omega, fun hx => by have := sTok.lt HB0 _ hx; omega⟩
  have hB3 := hb3
  clear HA0 HB0 g1 g2 hb3
  go_enter Try.func59, Try.ntmps59
  go_upto_region 1 with fail
  generalize (((w.alloc (.cells #[.int .i64 a.kind, .string a.text, .bool a.spaced, ha] 35)).alloc (.cells #[.int .i64 b.kind, .string b.text, .bool b.spaced, hb] 35)).alloc (.cells #[.int .i64 0, .string ⟨#[]⟩, .bool false, .slice none 0 0] 35)) = W3 at *
  have HVA := Lib.hid (impl_TokenValid _ _ _ W3 HRA.out)
  have c0 := cell_of_row W3 (w.heap.size) 0 _ _ _ HA.out
  have c1 := cell_of_row W3 (w.heap.size) 1 _ _ _ HA.out
  have c2 := cell_of_row W3 (w.heap.size) 2 _ _ _ HA.out
  have c3 := cell_of_row W3 (w.heap.size) 3 _ _ _ HA.out
  cases hva : tokOk a
  · rw [hva] at HVA
    have HF := Lib.hid (paste_no1 (b := b) hva)
    clear hva
    go_wp2_with fail
    refine HVA.out.mono ?_
    rintro e w6 ⟨rfl, b6⟩
    replace HZ := Lib.hid (mbox HZ.out b6)
    have hB6 := hB3.trans (b6.mono hB3.size)
    have z0 := cell_of_row w6 (w.heap.size + 1 + 1) 0 _ _ _ HZ.out
    have zz0 : w6.frozen? ⟨w.heap.size + 1 + 1, 0, none⟩ = false := frozen_of_row _ _ 0 _ _ HZ.out
    have z1 := cell_of_row w6 (w.heap.size + 1 + 1) 1 _ _ _ HZ.out
    have zz1 : w6.frozen? ⟨w.heap.size + 1 + 1, 1, none⟩ = false := frozen_of_row _ _ 1 _ _ HZ.out
    have z2 := cell_of_row w6 (w.heap.size + 1 + 1) 2 _ _ _ HZ.out
    have zz2 : w6.frozen? ⟨w.heap.size + 1 + 1, 2, none⟩ = false := frozen_of_row _ _ 2 _ _ HZ.out
    have z3 := cell_of_row w6 (w.heap.size + 1 + 1) 3 _ _ _ HZ.out
    have zz3 : w6.frozen? ⟨w.heap.size + 1 + 1, 3, none⟩ = false := frozen_of_row _ _ 3 _ _ HZ.out
    have HS := Lib.hid (set4_at HZ.out (.int .i64 0) (.string ⟨#[]⟩) (.bool false) (.slice none 0 0))
    have HBF := Lib.hid (set4_below hB6 (g := w.heap.size + 1 + 1) (by omega) (.int .i64 0) (.string ⟨#[]⟩) (.bool false) (.slice none 0 0))
    unfold set4 at HS HBF
    go_wp2
    refine bodyPost_ret (results_cell2 rfl _ _ (w.heap.size + 1 + 1) _ _ _ _ rfl HS.out Try.underlying35 rfl (by kernel_rfl)) rfl ?_
    exact pasteOf_no HF.out HBF.out
  rw [hva] at HVA
  go_wp2_with fail
  refine HVA.out.mono ?_
  rintro e w6 ⟨rfl, b6⟩
  clear c0 c1 c2 c3 HVA
  replace HA := Lib.hid (mbox HA.out b6)
  replace HB := Lib.hid (mbox HB.out b6)
  replace HZ := Lib.hid (mbox HZ.out b6)
  replace HRA := Lib.hid (sTok.below HRA.out b6)
  replace HRB := Lib.hid (sTok.below HRB.out b6)
  have hB6 := hB3.trans (b6.mono hB3.size)
  clear b6
  have HVB := Lib.hid (impl_TokenValid _ _ _ w6 HRB.out)
  have c0 := cell_of_row w6 (w.heap.size + 1) 0 _ _ _ HB.out
  have c1 := cell_of_row w6 (w.heap.size + 1) 1 _ _ _ HB.out
  have c2 := cell_of_row w6 (w.heap.size + 1) 2 _ _ _ HB.out
  have c3 := cell_of_row w6 (w.heap.size + 1) 3 _ _ _ HB.out
  cases hvb : tokOk b
  · rw [hvb] at HVB
    have HF := Lib.hid (paste_no2 (a := a) hvb)
    clear hva hvb
    go_wp2_with fail
    refine HVB.out.mono ?_
    rintro e w7 ⟨rfl, b7⟩
    replace HZ := Lib.hid (mbox HZ.out b7)
    have hB7 := hB6.trans (b7.mono hB6.size)
    have z0 := cell_of_row w7 (w.heap.size + 1 + 1) 0 _ _ _ HZ.out
    have zz0 : w7.frozen? ⟨w.heap.size + 1 + 1, 0, none⟩ = false := frozen_of_row _ _ 0 _ _ HZ.out
    have z1 := cell_of_row w7 (w.heap.size + 1 + 1) 1 _ _ _ HZ.out
    have zz1 : w7.frozen? ⟨w.heap.size + 1 + 1, 1, none⟩ = false := frozen_of_row _ _ 1 _ _ HZ.out
    have z2 := cell_of_row w7 (w.heap.size + 1 + 1) 2 _ _ _ HZ.out
    have zz2 : w7.frozen? ⟨w.heap.size + 1 + 1, 2, none⟩ = false := frozen_of_row _ _ 2 _ _ HZ.out
    have z3 := cell_of_row w7 (w.heap.size + 1 + 1) 3 _ _ _ HZ.out
    have zz3 : w7.frozen? ⟨w.heap.size + 1 + 1, 3, none⟩ = false := frozen_of_row _ _ 3 _ _ HZ.out
    have HS := Lib.hid (set4_at HZ.out (.int .i64 0) (.string ⟨#[]⟩) (.bool false) (.slice none 0 0))
    have HBF := Lib.hid (set4_below hB7 (g := w.heap.size + 1 + 1) (by omega) (.int .i64 0) (.string ⟨#[]⟩) (.bool false) (.slice none 0 0))
    unfold set4 at HS HBF
    go_wp2
    refine bodyPost_ret (results_cell2 rfl _ _ (w.heap.size + 1 + 1) _ _ _ _ rfl HS.out Try.underlying35 rfl (by kernel_rfl)) rfl ?_
    exact pasteOf_no HF.out HBF.out
  rw [hvb] at HVB
  go_wp2_with fail
  refine HVB.out.mono ?_
  rintro e w7 ⟨rfl, b7⟩
  clear c0 c1 c2 c3 HVB
  replace HA := Lib.hid (mbox HA.out b7)
  replace HB := Lib.hid (mbox HB.out b7)
  replace HZ := Lib.hid (mbox HZ.out b7)
  replace HRA := Lib.hid (sTok.below HRA.out b7)
  replace HRB := Lib.hid (sTok.below HRB.out b7)
  have hB7 := hB6.trans (b7.mono hB6.size)
  clear b7
  have hzt := mlt HZ.out
  have hsa := (tokOk_facts hva).2
  have hsb := (tokOk_facts hvb).2
  have HT := Lib.hid (fun W => impl_TokensOf (a.text ++ b.text) W (by rw [ByteArray.size_append]; unfold maxLen; omega))
  have ad := fun W => run_string_add_sum (P := Try.prog) W a.text b.text (by omega)
  obtain ⟨l, ok, htr⟩ : ∃ l ok, tokRes (a.text ++ b.text) = (l, ok) := ⟨_, _, rfl⟩
  have HTR := Lib.hid htr
  rw [htr] at HT
  clear htr
  have HVV := Lib.hid (And.intro hva hvb)
  clear hva hvb
  have c0 := cell_of_row w7 (w.heap.size) 0 _ _ _ HA.out
  have c1 := cell_of_row w7 (w.heap.size) 1 _ _ _ HA.out
  have c2 := cell_of_row w7 (w.heap.size) 2 _ _ _ HA.out
  have c3 := cell_of_row w7 (w.heap.size) 3 _ _ _ HA.out
  have d0 := cell_of_row w7 (w.heap.size + 1) 0 _ _ _ HB.out
  have d1 := cell_of_row w7 (w.heap.size + 1) 1 _ _ _ HB.out
  have d2 := cell_of_row w7 (w.heap.size + 1) 2 _ _ _ HB.out
  have d3 := cell_of_row w7 (w.heap.size + 1) 3 _ _ _ HB.out
  go_wp2_with fail
  refine (HT.out _).mono ?_
  rintro e w8 ⟨vt, fpt, rfl, RT, OT, b8⟩
  clear c0 c1 c2 c3 d0 d1 d2 d3 HT ad
  replace HA := Lib.hid (mbox HA.out b8)
  replace HB := Lib.hid (mbox HB.out b8)
  replace HZ := Lib.hid (mbox HZ.out b8)
  replace HRA := Lib.hid (sTok.below HRA.out b8)
  replace HRB := Lib.hid (sTok.below HRB.out b8)
  have hB8 := hB7.trans (b8.mono hB7.size)
  clear b8
  cases ok
  · have HF := Lib.hid (paste_bad HTR.out)
    clear HTR RT OT
    have z0 := cell_of_row w8 (w.heap.size + 1 + 1) 0 _ _ _ HZ.out
    have zz0 : w8.frozen? ⟨w.heap.size + 1 + 1, 0, none⟩ = false := frozen_of_row _ _ 0 _ _ HZ.out
    have z1 := cell_of_row w8 (w.heap.size + 1 + 1) 1 _ _ _ HZ.out
    have zz1 : w8.frozen? ⟨w.heap.size + 1 + 1, 1, none⟩ = false := frozen_of_row _ _ 1 _ _ HZ.out
    have z2 := cell_of_row w8 (w.heap.size + 1 + 1) 2 _ _ _ HZ.out
    have zz2 : w8.frozen? ⟨w.heap.size + 1 + 1, 2, none⟩ = false := frozen_of_row _ _ 2 _ _ HZ.out
    have z3 := cell_of_row w8 (w.heap.size + 1 + 1) 3 _ _ _ HZ.out
    have zz3 : w8.frozen? ⟨w.heap.size + 1 + 1, 3, none⟩ = false := frozen_of_row _ _ 3 _ _ HZ.out
    have HS := Lib.hid (set4_at HZ.out (.int .i64 0) (.string ⟨#[]⟩) (.bool false) (.slice none 0 0))
    have HBF := Lib.hid (set4_below hB8 (g := w.heap.size + 1 + 1) (by omega) (.int .i64 0) (.string ⟨#[]⟩) (.bool false) (.slice none 0 0))
    unfold set4 at HS HBF
    go_wp2
    refine bodyPost_ret (results_cell2 rfl _ _ (w.heap.size + 1 + 1) _ _ _ _ rfl HS.out Try.underlying35 rfl (by kernel_rfl)) rfl ?_
    exact pasteOf_no HF.out HBF.out
  by_cases hl1 : l.length = 1
  rotate_left
  · have HF := Lib.hid (paste_len HTR.out hl1)
    obtain ⟨at_, ct_, rfl, -⟩ := open_rows RT
    have hl2 : ((l.length : Int) != 1) = true := by simp; omega
    clear HTR RT hl1 OT
    have z0 := cell_of_row w8 (w.heap.size + 1 + 1) 0 _ _ _ HZ.out
    have zz0 : w8.frozen? ⟨w.heap.size + 1 + 1, 0, none⟩ = false := frozen_of_row _ _ 0 _ _ HZ.out
    have z1 := cell_of_row w8 (w.heap.size + 1 + 1) 1 _ _ _ HZ.out
    have zz1 : w8.frozen? ⟨w.heap.size + 1 + 1, 1, none⟩ = false := frozen_of_row _ _ 1 _ _ HZ.out
    have z2 := cell_of_row w8 (w.heap.size + 1 + 1) 2 _ _ _ HZ.out
    have zz2 : w8.frozen? ⟨w.heap.size + 1 + 1, 2, none⟩ = false := frozen_of_row _ _ 2 _ _ HZ.out
    have z3 := cell_of_row w8 (w.heap.size + 1 + 1) 3 _ _ _ HZ.out
    have zz3 : w8.frozen? ⟨w.heap.size + 1 + 1, 3, none⟩ = false := frozen_of_row _ _ 3 _ _ HZ.out
    have HS := Lib.hid (set4_at HZ.out (.int .i64 0) (.string ⟨#[]⟩) (.bool false) (.slice none 0 0))
    have HBF := Lib.hid (set4_below hB8 (g := w.heap.size + 1 + 1) (by omega) (.int .i64 0) (.string ⟨#[]⟩) (.bool false) (.slice none 0 0))
    unfold set4 at HS HBF
    go_wp2
    refine bodyPost_ret (results_cell2 rfl _ _ (w.heap.size + 1 + 1) _ _ _ _ rfl HS.out Try.underlying35 rfl (by kernel_rfl)) rfl ?_
    exact pasteOf_no HF.out HBF.out
  obtain ⟨t, rfl⟩ : ∃ t, l = [t] := List.length_eq_one_iff.1 hl1
  clear hl1
  have HF := Lib.hid (paste_yes HVV.out.1 HVV.out.2 HTR.out)
  obtain ⟨bt, ot, ct, ath, cth, rfl, hc1, hcm, hbt, hmem, t0, t1, t2, t3, okk, oks⟩ := open_head RT
  have hbt2 := (OT.2 bt hmem).1
  unfold maxLen at hcm
  clear RT HTR OT hmem
  have hpa := hid_parts (tok_hidOk HVV.out.1)
  have hpb := hid_parts (tok_hidOk HVV.out.2)
  have HL := Lib.hid (fun (U : World) (hU : Below w8.heap.size w8 U) => impl_namesOfBoth _ _ a.hidden b.hidden _ _ U (by omega) (by omega) hpb.2.2 (tok_hid (sTok.below HRA.out hU)) (tok_hid (sTok.below HRB.out hU)))
  clear hpa hpb
  have c0 := cell_of_row w8 (w.heap.size) 0 _ _ _ HA.out
  have c1 := cell_of_row w8 (w.heap.size) 1 _ _ _ HA.out
  have c2 := cell_of_row w8 (w.heap.size) 2 _ _ _ HA.out
  have c3 := cell_of_row w8 (w.heap.size) 3 _ _ _ HA.out
  have d0 := cell_of_row w8 (w.heap.size + 1) 0 _ _ _ HB.out
  have d1 := cell_of_row w8 (w.heap.size + 1) 1 _ _ _ HB.out
  have d2 := cell_of_row w8 (w.heap.size + 1) 2 _ _ _ HB.out
  have d3 := cell_of_row w8 (w.heap.size + 1) 3 _ _ _ HB.out
  have hzz : w.heap.size + 1 + 1 < w8.heap.size := mlt HZ.out
  have hal0 := alloc_below' w8 (.cells #[.int .i64 t.kind, .string t.text, .bool t.spaced, .slice ath t.hidden.length cth] 35)
  have c2_0 : (w8.alloc (.cells #[.int .i64 t.kind, .string t.text, .bool t.spaced, .slice ath t.hidden.length cth] 35)).cell? ⟨w.heap.size, 2, none⟩ = some (.bool a.spaced) := (hal0.cell (by show _ < w8.heap.size; simp only; omega)).trans c2
  have c3_0 : (w8.alloc (.cells #[.int .i64 t.kind, .string t.text, .bool t.spaced, .slice ath t.hidden.length cth] 35)).cell? ⟨w.heap.size, 3, none⟩ = some (ha) := (hal0.cell (by show _ < w8.heap.size; simp only; omega)).trans c3
  have d3_0 : (w8.alloc (.cells #[.int .i64 t.kind, .string t.text, .bool t.spaced, .slice ath t.hidden.length cth] 35)).cell? ⟨w.heap.size + 1, 3, none⟩ = some (hb) := (hal0.cell (by show _ < w8.heap.size; simp only; omega)).trans d3
  have hal1 := alloc_below' w8 (.cells #[.int .i64 t.kind, .string t.text, .bool a.spaced, .slice ath t.hidden.length cth] 35)
  have c2_1 : (w8.alloc (.cells #[.int .i64 t.kind, .string t.text, .bool a.spaced, .slice ath t.hidden.length cth] 35)).cell? ⟨w.heap.size, 2, none⟩ = some (.bool a.spaced) := (hal1.cell (by show _ < w8.heap.size; simp only; omega)).trans c2
  have c3_1 : (w8.alloc (.cells #[.int .i64 t.kind, .string t.text, .bool a.spaced, .slice ath t.hidden.length cth] 35)).cell? ⟨w.heap.size, 3, none⟩ = some (ha) := (hal1.cell (by show _ < w8.heap.size; simp only; omega)).trans c3
  have d3_1 : (w8.alloc (.cells #[.int .i64 t.kind, .string t.text, .bool a.spaced, .slice ath t.hidden.length cth] 35)).cell? ⟨w.heap.size + 1, 3, none⟩ = some (hb) := (hal1.cell (by show _ < w8.heap.size; simp only; omega)).trans d3
  clear c0 c1 c2 c3 d0 d1 d2 d3
  have HX := Lib.hid (show (w8.alloc (.cells #[.int .i64 t.kind, .string t.text, .bool a.spaced, .slice ath t.hidden.length cth] 35)).heap[w8.heap.size]? = some (.cells #[.int .i64 t.kind, .string t.text, .bool a.spaced, .slice ath t.hidden.length cth] 35 (0, 0)) by show (w8.heap.push _)[_]? = _; simp)
  go_wp2_with fail
  refine (HL.out _ hal1).mono ?_
  rintro e w9 ⟨vv, fv, rfl, RV, OV, b9⟩
  obtain ⟨av, cv, rfl, -⟩ := open_strs RV
  clear t0 t1 t2 t3 HL c2_0 c3_0 d3_0 c2_1 c3_1 d3_1
  have hbk := hB8.trans ((hal1.trans (b9.mono hal1.size)).mono hB8.size)
  have hox : w8.heap.size ∉ fv := fun hx => by have h1 := (OV.2 _ hx).1; have h2 : (w8.alloc (.cells #[.int .i64 t.kind, .string t.text, .bool a.spaced, .slice ath t.hidden.length cth] 35)).heap.size = w8.heap.size + 1 := (by simp); omega
  have hoz : w.heap.size + 1 + 1 ∉ fv := fun hx => by have h1 := (OV.2 _ hx).1; have h2 : (w8.alloc (.cells #[.int .i64 t.kind, .string t.text, .bool a.spaced, .slice ath t.hidden.length cth] 35)).heap.size = w8.heap.size + 1 := (by simp); omega
  replace HX := Lib.hid (mbox HX.out b9)
  replace HZ := Lib.hid (mbox HZ.out (hal1.trans (b9.mono hal1.size)))
  have x0 := cell_of_row _ (w8.heap.size) 0 _ _ _ HX.out
  have xz0 : w9.frozen? ⟨w8.heap.size, 0, none⟩ = false := frozen_of_row _ _ 0 _ _ HX.out
  have x1 := cell_of_row _ (w8.heap.size) 1 _ _ _ HX.out
  have xz1 : w9.frozen? ⟨w8.heap.size, 1, none⟩ = false := frozen_of_row _ _ 1 _ _ HX.out
  have x2 := cell_of_row _ (w8.heap.size) 2 _ _ _ HX.out
  have xz2 : w9.frozen? ⟨w8.heap.size, 2, none⟩ = false := frozen_of_row _ _ 2 _ _ HX.out
  have x3 := cell_of_row _ (w8.heap.size) 3 _ _ _ HX.out
  have xz3 : w9.frozen? ⟨w8.heap.size, 3, none⟩ = false := frozen_of_row _ _ 3 _ _ HX.out
  have hb10 := hbk.setCell (p := ⟨w8.heap.size, 3, none⟩) (by show w.heap.size ≤ w8.heap.size; omega) (.slice av (both a.hidden b.hidden).length cv)
  have HR := Lib.hid ((sSlice sStr).setB RV hox 3 (.slice av (both a.hidden b.hidden).length cv))
  have HO := Lib.hid (OV.setCell ⟨w8.heap.size, 3, none⟩ (.slice av (both a.hidden b.hidden).length cv))
  replace HX := Lib.hid (blk_set HX.out 3 (.slice av (both a.hidden b.hidden).length cv))
  replace HZ := Lib.hid (blk_other HZ.out (by omega : w.heap.size + 1 + 1 ≠ w8.heap.size) 3 (.slice av (both a.hidden b.hidden).length cv))
  go_upto_region 9 with fail
  clear x0 x1 x2 x3 xz0 xz1 xz2 xz3 RV OV b9 hbk
  generalize w9.setCell ⟨w8.heap.size, 3, none⟩ (.slice av (both a.hidden b.hidden).length cv) = w9' at *
  have x0 := cell_of_row _ (w8.heap.size) 0 _ _ _ HX.out
  have x1 := cell_of_row _ (w8.heap.size) 1 _ _ _ HX.out
  have x2 := cell_of_row _ (w8.heap.size) 2 _ _ _ HX.out
  have x3 := cell_of_row _ (w8.heap.size) 3 _ _ _ HX.out
  have z0 := cell_of_row w9' (w.heap.size + 1 + 1) 0 _ _ _ HZ.out
  have zz0 : w9'.frozen? ⟨w.heap.size + 1 + 1, 0, none⟩ = false := frozen_of_row _ _ 0 _ _ HZ.out
  have z1 := cell_of_row w9' (w.heap.size + 1 + 1) 1 _ _ _ HZ.out
  have zz1 : w9'.frozen? ⟨w.heap.size + 1 + 1, 1, none⟩ = false := frozen_of_row _ _ 1 _ _ HZ.out
  have z2 := cell_of_row w9' (w.heap.size + 1 + 1) 2 _ _ _ HZ.out
  have zz2 : w9'.frozen? ⟨w.heap.size + 1 + 1, 2, none⟩ = false := frozen_of_row _ _ 2 _ _ HZ.out
  have z3 := cell_of_row w9' (w.heap.size + 1 + 1) 3 _ _ _ HZ.out
  have zz3 : w9'.frozen? ⟨w.heap.size + 1 + 1, 3, none⟩ = false := frozen_of_row _ _ 3 _ _ HZ.out
  have HS := Lib.hid (set4_at HZ.out (.int .i64 t.kind) (.string t.text) (.bool a.spaced) (.slice av (both a.hidden b.hidden).length cv))
  have HBF := Lib.hid (set4_below hb10 (g := w.heap.size + 1 + 1) (by omega) (.int .i64 t.kind) (.string t.text) (.bool a.spaced) (.slice av (both a.hidden b.hidden).length cv))
  have HRF := Lib.hid ((sSlice sStr).set4R HR.out hoz (.int .i64 t.kind) (.string t.text) (.bool a.spaced) (.slice av (both a.hidden b.hidden).length cv))
  have HOF := Lib.hid (Own.set4 (g := w.heap.size + 1 + 1) (HO.out.lower (show w.heap.size ≤ (w8.alloc (.cells #[.int .i64 t.kind, .string t.text, .bool a.spaced, .slice ath t.hidden.length cth] 35)).heap.size by simp; omega)) (.int .i64 t.kind) (.string t.text) (.bool a.spaced) (.slice av (both a.hidden b.hidden).length cv))
  unfold set4 at HS HBF HRF HOF
  go_wp2
  refine bodyPost_ret (results_cell2 rfl _ _ (w.heap.size + 1 + 1) _ _ _ _ rfl HS.out Try.underlying35 rfl (by kernel_rfl)) rfl ?_
  exact pasteOf_yes HF.out okk oks HRF.out HOF.out HBF.out

end Go.Proofs.Ytflbdanlcpojbaa

/- What stands for a place of a body: helpers of the model. -/
namespace Go.Proofs.Ytflbdanlcpojbaa
open Go.RowKit

theorem tok_one1 (w : World) (cs : List Value) (x : Tok) (fp : List Nat) (h : sTok.R w cs x fp) : ∀ u ∈ cs, u.oneCell' = true := by
  obtain ⟨hv, rfl, -, -, K⟩ := h
  obtain ⟨a, c, rfl, -⟩ := open_strs K
  intro u hu
  simp only [List.mem_cons, List.not_mem_nil, or_false] at hu
  rcases hu with rfl | rfl | rfl | rfl <;> rfl

set_option maxHeartbeats 2000000 in
theorem spec_l7IsS (cs : List Value) (x : Tok) (fp : List Nat) (w : World) (s : ByteArray) (H : sTok.R w cs x fp) :
    Calls Try.prog 63 #[.agg cs.toArray, .string s] w (Says (decide (x.kind = 4) && (x.text.toList == s.toList)) w) := by
  obtain ⟨h, rfl, hk, hok, K⟩ := H
  obtain ⟨a0, cap0, rfl, -⟩ := open_strs K
  have hb := alloc_below' w (.cells #[.int .i64 x.kind, .string x.text, .bool x.spaced, .slice a0 x.hidden.length cap0] 35)
  clear K
  go_enter Try.func63, Try.ntmps63
  by_cases h4 : x.kind = 4
  · have e0 : (x.kind == 4) = true := by simp [h4]
    have HF : Hid ((decide (x.kind = 4) && (x.text.toList == s.toList)) = (x.text.toList == s.toList)) := by show _ = _; rw [decide_eq_true h4]; rfl
    clear h4
    go_wp2
    go_ret
    exact ⟨ret_bool (by rw [HF.out]), hb⟩
  · have e0 : (x.kind == 4) = false := by simpa using h4
    have HF : Hid ((decide (x.kind = 4) && (x.text.toList == s.toList)) = false) := by show _ = _; rw [decide_eq_false h4]; rfl
    clear h4
    go_wp2
    go_ret
    exact ⟨ret_bool (by rw [HF.out]), hb⟩

/-- A row of tokens of the call's own, over what stood before. -/
def SpcOf (l : List Tok) (fp : List Nat) (w : World) (e : Ending) (w' : World) : Prop :=
  ∃ (v : Value) (L : List (Elem Tok)), e = .returned v ∧ RowN sTok w.heap.size 35 v L w' ∧ L.map (·.d) = l ∧ (∀ x ∈ L, ∀ b ∈ x.fp, b ∈ fp) ∧ Below w.heap.size w w'

set_option maxHeartbeats 4000000 in
set_option maxRecDepth 100000 in
theorem spec_l10Spaced (v : Value) (l : List Tok) (fp : List Nat) (w : World) (b : Bool) (hl : l.length ≤ 1000000) (H : (sSlice sTok).R w [v] l fp) :
    Calls Try.prog 83 #[v, .bool b] w (SpcOf (spc b l) fp w) := by
  have hlt := (sSlice sTok).lt H
  obtain ⟨a, cap, rfl, hc, hm, -⟩ := open_rows H
  have hba := alloc_below' w (.cells #[] 35)
  have HA := Lib.hid ((sSlice sTok).below H hba)
  have HG := Lib.hid (RowN.lit0 sTok 35 w (Nat.le_refl _))
  have HLT := Lib.hid hlt
  have hbs := hba.size
  clear H hlt
  go_enter Try.func83, Try.ntmps83
  go_upto_region 2 with (at_builtin; refine wp_append_anyN ti_tok rfl (by decide) tok_one1 _ rfl (.tmp 6) (.tmp 7) rfl w.heap.size (.slice (some ⟨w.heap.size, 0, none⟩) 0 0) (.slice a l.length cap) l fp rfl HG.out rfl HA.out (fun b hb e => by simp only [Value.ownBlock, Option.some.injEq] at e; have := HLT.out b hb; omega) (by simp [maxLen]; omega) (by simp; omega) hbs ?_; intro v5 X w1 hX hXf hR hg _
                         have hb1 : Below w.heap.size w w1 := hba.grown hg hbs (fun b hb => by simp [Value.ownBlock] at hb; omega)
                         rw [List.nil_append] at hR
                         have HR := Lib.hid hR
                         have HXX := Lib.hid (And.intro hX hXf)
                         obtain ⟨a1, c1, rfl, -⟩ := hR.val
                         have hXl : Hid (X.length = l.length) := by show _ = _; rw [← hX, List.length_map]
                         obtain ⟨n, HN⟩ : ∃ n : Nat, Hid (n = X.length) := ⟨X.length, Lib.hid rfl⟩
                         rw [show X.length = n from HN.out.symm] at ⊢
                         clear hX hXf hR hg)
  by_cases h0 : n = 0
  · have hl0 : l = [] := List.length_eq_zero_iff.1 (by have := HN.out; have := hXl.out; omega)
    have HF : Hid (X.map (·.d) = spc b l) := by show _ = _; rw [HXX.out.1, hl0]; rfl
    have e0 : ¬ (0 : Int) < (n : Int) := by omega
    clear h0 hl0
    go_wp2
    go_ret
    refine ⟨_, X, rfl, ?_, HF.out, HXX.out.2, hb1⟩
    rw [HN.out]; exact HR.out
  · obtain ⟨x, X', rfl⟩ : ∃ x X', X = x :: X' := by
      cases X with
      | nil => exact absurd HN.out h0
      | cons x X' => exact ⟨x, X', rfl⟩
    obtain ⟨g, hg1, hg2, hg3⟩ : ∃ g, a1 = some ⟨g, 0, none⟩ ∧ w.heap.size ≤ g ∧ g < w1.heap.size := by
      obtain ⟨a9, c9, e, -, -, h⟩ := HR.out.val
      simp only [Value.slice.injEq] at e
      obtain ⟨rfl, -, -⟩ := e
      exact h (by simp)
    subst hg1
    obtain ⟨h, hcs, okk, oks, K⟩ := HR.out.el x (by simp)
    obtain ⟨ah, ch, rfl, -⟩ := open_strs K
    have hgx : g ∉ x.fp := fun hx => HR.out.ap x (by simp) g hx rfl
    have HR2 := HR.out
    rw [show (x :: X').length = n from HN.out.symm] at HR2
    have c2 : w1.cell? ⟨g, 2, none⟩ = some (.bool x.d.spaced) := by
      have := HR2.cellAt (k := 0) (by simp) (j := 2) (by decide) (u := .bool x.d.spaced) (by show x.cells[2]? = _; rw [hcs]; rfl)
      simpa using this
    have f2 : w1.frozen? ⟨g, 2, none⟩ = false := HR2.frozen 2
    have HS : Hid (RowN sTok w.heap.size 35 (.slice (some ⟨g, 0, none⟩) n c1) (⟨[.int .i64 x.d.kind, .string x.d.text, .bool b, .slice ah x.d.hidden.length ch], ⟨x.d.kind, x.d.text, b, x.d.hidden⟩, x.fp⟩ :: X') (w1.setCell ⟨g, 2, none⟩ (.bool b))) := by
      show RowN _ _ _ _ _ _
      have := HR2.set (k := 0) (by simp) (j := 2) (by decide) (.bool b) ⟨[.int .i64 x.d.kind, .string x.d.text, .bool b, .slice ah x.d.hidden.length ch], ⟨x.d.kind, x.d.text, b, x.d.hidden⟩, x.fp⟩ (by show _ = x.cells.set 2 _; rw [hcs]; rfl) ⟨_, rfl, okk, oks, K⟩ hgx
      simpa using this
    have HF : Hid (((⟨[.int .i64 x.d.kind, .string x.d.text, .bool b, .slice ah x.d.hidden.length ch], ⟨x.d.kind, x.d.text, b, x.d.hidden⟩, x.fp⟩ : Elem Tok) :: X').map (·.d) = spc b l) := by
      show _ = _; rw [← HXX.out.1]; rfl
    have HFF : Hid (∀ y ∈ ((⟨[.int .i64 x.d.kind, .string x.d.text, .bool b, .slice ah x.d.hidden.length ch], ⟨x.d.kind, x.d.text, b, x.d.hidden⟩, x.fp⟩ : Elem Tok) :: X'), ∀ b ∈ y.fp, b ∈ fp) := fun y hy => by
      rcases List.mem_cons.1 hy with rfl | hy
      · exact HXX.out.2 x (by simp)
      · exact HXX.out.2 y (by simp [hy])
    have hb2 := hb1.setCell (p := ⟨g, 2, none⟩) hg2 (.bool b)
    have e0 : (0 : Int) < (n : Int) := by omega
    have e1 : 0 < n := by omega
    clear K hcs HR2 HR h0 hg2 hg3
    go_wp2
    go_ret
    exact ⟨_, _, rfl, HS.out, HF.out, HFF.out, hb2⟩

end Go.Proofs.Ytflbdanlcpojbaa

/- A text of tokens has nothing behind it. -/
namespace Go.Proofs.Ytflbdanlcpojbaa
open Go.RowKit

/-- A text of tokens has nothing behind it. -/
theorem txt_bare (l : List Tok) : ∃ k s b, txtRes l = (⟨k, s, false, []⟩, b) ∧ 0 ≤ k ∧ k ≤ 4 ∧ s.size ≤ 200 := by
  rcases h : txtRes l with ⟨t, b⟩
  unfold txtRes at h
  split at h
  · split at h
    · simp only [Prod.mk.injEq] at h; exact ⟨0, ⟨#[]⟩, b, by rw [← h.1]; rfl, by omega, by omega, by decide⟩
    · simp only [Prod.mk.injEq] at h; exact ⟨3, quoted (joinTo l l.length), b, by rw [← h.1], by omega, by omega, by omega⟩
  · simp only [Prod.mk.injEq] at h; exact ⟨0, ⟨#[]⟩, b, by rw [← h.1]; rfl, by omega, by omega, by decide⟩
theorem TextOf.bare {l : List Tok} {w w' : World} {e : Ending} (h : TextOf l w e w') : ∃ (k : Int) (s : ByteArray) (b : Bool) (ao : Option Addr) (c : Nat), txtRes l = (⟨k, s, false, []⟩, b) ∧ e = .returned (.tuple #[.agg #[.int .i64 k, .string s, .bool false, .slice ao 0 c], .bool b]) ∧ 0 ≤ k ∧ k ≤ 4 ∧ s.size ≤ 200 ∧ c ≤ maxLen ∧ Below w.heap.size w w' := by
  obtain ⟨cs, fp, rfl, hR, -, hb⟩ := h
  obtain ⟨k, s, b, e, h1, h2, h3⟩ := txt_bare l
  rw [e] at hR ⊢
  obtain ⟨h', rfl, -, -, K⟩ := hR
  obtain ⟨ao, c, rfl, -, hc, -⟩ := open_rows K
  exact ⟨k, s, b, ao, c, rfl, rfl, h1, h2, h3, hc, hb⟩
theorem tok_bareA (k : Int) (s : ByteArray) (b : Bool) (ao : Option Addr) (c : Nat) (w : World) (h0 : 0 ≤ k) (h1 : k ≤ 4) (h2 : s.size ≤ 1000) (h3 : c ≤ maxLen) : sTok.R w [.int .i64 k, .string s, .bool b, .slice ao 0 c] ⟨k, s, b, []⟩ [] :=
  ⟨_, rfl, (show okInt k from ⟨by omega, by omega⟩), (show s.size ≤ maxLen by unfold maxLen; omega), slice_empty sStr _ _ _ h3⟩

end Go.Proofs.Ytflbdanlcpojbaa
