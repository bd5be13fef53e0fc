/- Texts that the proof of U stands on, in one file. -/
import Derived.Test.YthbojipdhgidlaaZU9
import Derived.Test.YthbojipdhgidlaaZU6
import Derived.Test.YthbojipdhgidlaaZU8
set_option linter.unusedVariables false
set_option linter.unusedSimpArgs false
/- Of the program: brackets, the closing place, a token's copy. -/
namespace Go.Proofs.Ythbojipdhgidlaa
open Go.RowKit

set_option maxHeartbeats 2000000 in
theorem impl_opening (cs : List Value) (x : Tok) (fp : List Nat) (w : World) (H : sTok.R w cs x fp) :
    Calls Try.prog 69 #[.agg cs.toArray] w fun e w' => e = .returned (.int .i64 (opn x)) ∧ Below w.heap.size w w' := by
  obtain ⟨h, rfl, hk, hok, K⟩ := H
  obtain ⟨a0, cap0, rfl, -⟩ := open_strs K
  have hb := alloc_below' w (.cells #[.int .i64 x.kind, .string x.text, .bool x.spaced, .slice a0 x.hidden.length cap0] 56)
  clear K
  go_enter Try.func69, Try.ntmps69
  cases h1 : isOpen x
  · have e1 : (x.text.toList == [40]) = false := h1
    cases h2 : isShut x
    · have e2 : (x.text.toList == [41]) = false := h2
      have HF := Lib.hid (opn_else h1 h2)
      clear h1 h2
      go_wp2
      go_ret
      exact ⟨by rw [HF.out]; rfl, hb⟩
    · have e2 : (x.text.toList == [41]) = true := h2
      have HF := Lib.hid (opn_shut h1 h2)
      clear h1 h2
      go_wp2
      go_ret
      exact ⟨by rw [HF.out]; rfl, hb⟩
  · have e1 : (x.text.toList == [40]) = true := h1
    have HF := Lib.hid (opn_open h1)
    clear h1
    go_wp2
    go_ret
    exact ⟨by rw [HF.out]; rfl, hb⟩

theorem clGo_step {l : List Tok} {k : Nat} (hk : k < l.length) (d : Int) : clGo (l.drop k) d k = if d + opn l[k] = 0 then some k else clGo (l.drop (k + 1)) (d + opn l[k]) (k + 1) := by
  rw [List.drop_eq_getElem_cons hk]; rfl
theorem clGo_end {l : List Tok} {k : Nat} (hk : l.length ≤ k) (d : Int) : clGo (l.drop k) d k = none := by rw [List.drop_of_length_le hk]; rfl
def clRes (o : Option Nat) : Int := match o with | some e => (e : Int) | none => -1

set_option maxHeartbeats 4000000 in
set_option maxRecDepth 100000 in
theorem impl_closingPlace (v : Value) (l : List Tok) (fp : List Nat) (n : Nat) (w : World) (hl : l.length ≤ 60) (hn : n ≤ l.length) (H : (sSlice sTok).R w [v] l fp) :
    Calls Try.prog 50 #[v, .int .i64 n] w fun e w' => e = .returned (.int .i64 (clRes (clGo (l.drop n) 0 n))) ∧ Below w.heap.size w w' := by
  obtain ⟨a, cap, rfl, hc, hm, hrow⟩ := open_rows H
  unfold maxLen at hm
  clear H
  obtain ⟨r, HR⟩ : ∃ r, Hid (r = clGo (l.drop n) 0 n) := ⟨_, rfl⟩
  rw [← HR.out]
  go_enter Try.func50, Try.ntmps50
  go_wp2
  go_loopw [5, 6] (fun d i wr => ∃ (k : Nat) (dd : Int), n ≤ k ∧ k ≤ l.length ∧ i = .int .i64 k ∧ d = .int .i64 dd ∧ -(k : Int) ≤ dd ∧ dd ≤ k ∧ Hid (clGo (l.drop k) dd k = r) ∧ Below w.heap.size w wr) (fun _ i _ => l.length - (intOf i).toNat)
  case atStart => exact ⟨n, 0, Nat.le_refl _, hn, rfl, rfl, by omega, by omega, HR.out.symm, Below.refl _ _⟩
  case round =>
    obtain ⟨k, dd, hnk, hk, rfl, rfl, hd1, hd2, HI, hb⟩ := hrel
    by_cases hlt : k < l.length
    · obtain ⟨b1, off1, fps1, rfl, hb1, -, he1⟩ := hrow (by omega)
      obtain ⟨es1, hE1, hR1⟩ := he1 k hlt
      clear hrow he1
      have hR2 := sTok.below hR1 hb
      obtain ⟨h1', rfl, _, _, _⟩ := hR1
      have HC := Lib.hid (impl_opening _ _ _ wr hR2)
      clear hR2
      replace hE1 := hE1.frame (hb.block b1 hb1)
      have c10 : wr.cell? ⟨b1, off1 + k * 4, none⟩ = some _ := elem_cell0 hE1 (by decide) rfl
      have c11 : wr.cell? ⟨b1, off1 + k * 4 + 1, none⟩ = some _ := elem_cell (j := 1) hE1 (by decide) rfl
      have c12 : wr.cell? ⟨b1, off1 + k * 4 + 2, none⟩ = some _ := elem_cell (j := 2) hE1 (by decide) rfl
      have c13 : wr.cell? ⟨b1, off1 + k * 4 + 3, none⟩ = some _ := elem_cell (j := 3) hE1 (by decide) rfl
      clear hE1
      have hst := HI.out
      rw [clGo_step hlt] at hst
      have ho := opn_ge l[k]
      have hwr : IntKind.i64.wrap (dd + opn l[k]) = dd + opn l[k] := IntWalk.i64_in _ (by omega)
      generalize hon : opn l[k] = on at *
      go_wp2_with fail
      refine HC.out.mono ?_
      rintro e w2 ⟨rfl, hb2⟩
      clear c10 c11 c12 c13 HC
      have hb' := hb.trans (hb2.mono hb.size)
      by_cases h0 : dd + on = 0
      · rw [if_pos h0] at hst
        have e0 : ((dd + on : Int) == 0) = true := by simpa using h0
        have HF := Lib.hid hst
        clear hst h0 hon
        go_wp2
        go_ret
        exact ⟨by rw [← HF.out]; rfl, hb'⟩
      · rw [if_neg h0] at hst
        have e0 : ((dd + on : Int) == 0) = false := by simpa using h0
        have HF := Lib.hid hst
        clear hst h0 hon
        go_wp2
        go_roundw
        case rel => exact ⟨k + 1, dd + on, by omega, by omega, by go_num, rfl, by omega, by omega, HF, hb'⟩
        case measure => simp [intOf]; omega
    · have HF := Lib.hid ((clGo_end (by omega : l.length ≤ k) dd).symm.trans HI.out)
      clear HI
      go_wp2
      go_ret
      exact ⟨by rw [← HF.out]; rfl, hb⟩

/-- A token's copy in memory of the call's own. -/
def CopyTok (x : Tok) (w : World) (e : Ending) (w' : World) : Prop :=
  ∃ (ao : Option Addr) (c : Nat) (fp : List Nat), e = .returned (.agg #[.int .i64 x.kind, .string x.text, .bool x.spaced, .slice ao x.hidden.length c]) ∧ sTok.R w' [.int .i64 x.kind, .string x.text, .bool x.spaced, .slice ao x.hidden.length c] x fp ∧
    Own w' w.heap.size fp ∧ (∀ b ∈ fp, ∃ cur t fr, w'.heap[b]? = some (.cells cur t fr) ∧ t = 9) ∧ Below w.heap.size w w'

set_option maxHeartbeats 4000000 in
set_option maxRecDepth 100000 in
theorem impl_copyToken (cs : List Value) (x : Tok) (fp : List Nat) (w : World) (hx : x.hidden.length ≤ 2000000) (H : sTok.R w cs x fp) : Calls Try.prog 70 #[.agg cs.toArray] w (CopyTok x w) := by
  obtain ⟨h, rfl, hk, hok, K⟩ := H
  obtain ⟨a0, cap0, rfl, -, -, -, hsz⟩ := open_strs K
  have b0 := alloc_below' w (.cells #[.int .i64 x.kind, .string x.text, .bool x.spaced, .slice a0 x.hidden.length cap0] 56)
  have hb2 := b0.trans ((alloc_below' (w.alloc (.cells #[.int .i64 x.kind, .string x.text, .bool x.spaced, .slice a0 x.hidden.length cap0] 56)) (.cells #[.int .i64 0, .string ⟨#[]⟩, .bool false, .slice none 0 0] 56)).mono b0.size)
  obtain ⟨g0, g1⟩ := alloc2_blk w #[.int .i64 x.kind, .string x.text, .bool x.spaced, .slice a0 x.hidden.length cap0] #[.int .i64 0, .string ⟨#[]⟩, .bool false, .slice none 0 0] 56 56
  have hs2 : ((w.alloc (.cells #[.int .i64 x.kind, .string x.text, .bool x.spaced, .slice a0 x.hidden.length cap0] 56)).alloc (.cells #[.int .i64 0, .string ⟨#[]⟩, .bool false, .slice none 0 0] 56)).heap.size = w.heap.size + 2 := by
    show ((w.heap.push _).push _).size = _
    simp
  have HK := Lib.hid ((sSlice sStr).below K hb2)
  have HSZ := Lib.hid hsz
  clear K hsz b0
  obtain ⟨hv, HV⟩ : ∃ hv : Value, Hid (hv = Value.slice a0 x.hidden.length cap0) := ⟨_, rfl⟩
  go_enter Try.func70, Try.ntmps70
  go_upto_region 2 with fail
  generalize ((w.alloc (.cells #[.int .i64 x.kind, .string x.text, .bool x.spaced, .slice a0 x.hidden.length cap0] 56)).alloc (.cells #[.int .i64 0, .string ⟨#[]⟩, .bool false, .slice none 0 0] 56)) = W3 at *
  have c03 : W3.cell? ⟨w.heap.size, 3, none⟩ = some hv := by
    rw [HV.out]
    exact cell_of_row _ _ 3 _ _ _ g0
  have HKV : Hid ((sSlice sStr).R W3 [hv] x.hidden fp) := by show (sSlice sStr).R _ _ _ _; rw [HV.out]; exact HK.out
  have HG := Lib.hid (And.intro g0 (And.intro g1 hs2))
  have hb4 := Lib.hid hb2
  clear g0 g1 hs2 HK hb2
  go_wp2_with (
    at_builtin
    refine wp_append_strsR rfl (.tmp 4) (.tmp 6) rfl W3.heap.size (.slice none 0 0) hv [] x.hidden _ rfl (World.ownsRow_nil _ _ _ _) rfl HKV.out (by simp; omega) (Nat.le_refl _) ?_
    intro v5 w1 hown hgrow
    rw [List.nil_append] at hown
    obtain ⟨fp1, R1, O1, hfp⟩ := own_flat (ok := okStr) hown HSZ.out
    have hs3 := HG.out.2.2
    have hblk : ∀ k, k < W3.heap.size → w1.heap[k]? = W3.heap[k]? := fun k hk => hgrow.block k hk (by simp [Value.ownBlock])
    have HG1 : Hid (w1.heap[w.heap.size]? = some (.cells #[.int .i64 x.kind, .string x.text, .bool x.spaced, .slice a0 x.hidden.length cap0] 56 (0, 0)) ∧ w1.heap[w.heap.size + 1]? = some (.cells #[.int .i64 0, .string ⟨#[]⟩, .bool false, .slice none 0 0] 56 (0, 0))) :=
      ⟨(hblk _ (by omega)).trans HG.out.1, (hblk _ (by omega)).trans HG.out.2.1⟩
    have hb : Below w.heap.size w w1 := hb4.out.grown hgrow (by omega) (fun b hb => by simp [Value.ownBlock] at hb)
    have hty : ∀ b ∈ fp1, ∃ cur t fr, w1.heap[b]? = some (.cells cur t fr) ∧ t = 9 := fun b hb' => by
      have hv := hfp b hb'
      rcases hown.2 with ⟨rfl, _⟩ | ⟨g, cap, cur, rfl, _, hg, _⟩
      · simp [Value.ownBlock] at hv
      · simp only [Value.ownBlock, Option.some.injEq] at hv
        subst hv
        exact ⟨_, _, _, hg, rfl⟩
    have hlo : ∀ b ∈ fp1, w.heap.size + 2 ≤ b := fun b hb => by have := (O1.2 b hb).1; omega
    have HOW : Hid (Own w1 w.heap.size fp1) := O1.lower (by omega)
    clear HG hblk hgrow hown hfp O1 c03 hb4 HKV hs3
    obtain ⟨a1, cap1, rfl, hq⟩ := open_rows R1
    clear hq
    have c10 : w1.cell? ⟨w.heap.size + 1, 0, none⟩ = some (.int .i64 0) := cell_of_row w1 (w.heap.size + 1) 0 _ _ _ HG1.out.2
    have c11 : w1.cell? ⟨w.heap.size + 1, 1, none⟩ = some (.string ⟨#[]⟩) := cell_of_row w1 (w.heap.size + 1) 1 _ _ _ HG1.out.2
    have c12 : w1.cell? ⟨w.heap.size + 1, 2, none⟩ = some (.bool false) := cell_of_row w1 (w.heap.size + 1) 2 _ _ _ HG1.out.2
    have c13 : w1.cell? ⟨w.heap.size + 1, 3, none⟩ = some (.slice none 0 0) := cell_of_row w1 (w.heap.size + 1) 3 _ _ _ HG1.out.2
    have c20 : w1.cell? ⟨w.heap.size, 0, none⟩ = some (.int .i64 x.kind) := cell_of_row w1 (w.heap.size) 0 _ _ _ HG1.out.1
    have c21 : w1.cell? ⟨w.heap.size, 1, none⟩ = some (.string x.text) := cell_of_row w1 (w.heap.size) 1 _ _ _ HG1.out.1
    have c22 : w1.cell? ⟨w.heap.size, 2, none⟩ = some (.bool x.spaced) := cell_of_row w1 (w.heap.size) 2 _ _ _ HG1.out.1
    have c23 : w1.cell? ⟨w.heap.size, 3, none⟩ = some (.slice a0 x.hidden.length cap0) := cell_of_row w1 (w.heap.size) 3 _ _ _ HG1.out.1
    have f10 : w1.frozen? ⟨w.heap.size + 1, 0, none⟩ = false := frozen_of_row w1 (w.heap.size + 1) 0 _ _ HG1.out.2
    have f11 : w1.frozen? ⟨w.heap.size + 1, 1, none⟩ = false := frozen_of_row w1 (w.heap.size + 1) 1 _ _ HG1.out.2
    have f12 : w1.frozen? ⟨w.heap.size + 1, 2, none⟩ = false := frozen_of_row w1 (w.heap.size + 1) 2 _ _ HG1.out.2
    have f13 : w1.frozen? ⟨w.heap.size + 1, 3, none⟩ = false := frozen_of_row w1 (w.heap.size + 1) 3 _ _ HG1.out.2
    have f23 : w1.frozen? ⟨w.heap.size, 3, none⟩ = false := frozen_of_row w1 (w.heap.size) 3 _ _ HG1.out.1
    have hn1 : w.heap.size + 1 ∉ fp1 := fun hx => by have := hlo _ hx; omega
    have hn2 : w.heap.size ∉ fp1 := fun hx => by have := hlo _ hx; omega
    have HR := Lib.hid ((sSlice sStr).setB ((sSlice sStr).setB ((sSlice sStr).setB ((sSlice sStr).setB ((sSlice sStr).setB R1 hn2 3 (.slice a1 x.hidden.length cap1)) hn1 0 (.int .i64 x.kind)) hn1 1 (.string x.text)) hn1 2 (.bool x.spaced)) hn1 3 (.slice a1 x.hidden.length cap1))
    have HOF := Lib.hid (((((HOW.out.setCell ⟨w.heap.size, 3, none⟩ (.slice a1 x.hidden.length cap1)).setCell ⟨w.heap.size + 1, 0, none⟩ (.int .i64 x.kind)).setCell ⟨w.heap.size + 1, 1, none⟩ (.string x.text)).setCell ⟨w.heap.size + 1, 2, none⟩ (.bool x.spaced)).setCell ⟨w.heap.size + 1, 3, none⟩ (.slice a1 x.hidden.length cap1))
    have HT : Hid (∀ b ∈ fp1, ∃ cur t fr, (((((w1.setCell ⟨w.heap.size, 3, none⟩ (.slice a1 x.hidden.length cap1)).setCell ⟨w.heap.size + 1, 0, none⟩ (.int .i64 x.kind)).setCell ⟨w.heap.size + 1, 1, none⟩ (.string x.text)).setCell ⟨w.heap.size + 1, 2, none⟩ (.bool x.spaced)).setCell ⟨w.heap.size + 1, 3, none⟩ (.slice a1 x.hidden.length cap1)).heap[b]? = some (.cells cur t fr) ∧ t = 9) := fun b hb => by
      obtain ⟨cur, t, fr, q1, q2⟩ := hty b hb
      have e1 : b ≠ w.heap.size + 1 := fun e => hn1 (e ▸ hb)
      have e2 : b ≠ w.heap.size := fun e => hn2 (e ▸ hb)
      exact ⟨cur, t, fr, blk_other (blk_other (blk_other (blk_other (blk_other q1 e2 _ _) e1 _ _) e1 _ _) e1 _ _) e1 _ _, q2⟩
    have HB := Lib.hid (((((hb.setCell (p := ⟨w.heap.size, 3, none⟩) (by simp) (.slice a1 x.hidden.length cap1)).setCell (p := ⟨w.heap.size + 1, 0, none⟩) (by simp) (.int .i64 x.kind)).setCell (p := ⟨w.heap.size + 1, 1, none⟩) (by simp) (.string x.text)).setCell (p := ⟨w.heap.size + 1, 2, none⟩) (by simp) (.bool x.spaced)).setCell (p := ⟨w.heap.size + 1, 3, none⟩) (by simp) (.slice a1 x.hidden.length cap1))
    have HS := Lib.hid (blk_set (blk_set (blk_set (blk_set (blk_other HG1.out.2 (by omega : w.heap.size + 1 ≠ w.heap.size) 3 (.slice a1 x.hidden.length cap1)) 0 (.int .i64 x.kind)) 1 (.string x.text)) 2 (.bool x.spaced)) 3 (.slice a1 x.hidden.length cap1))
    clear HG1 hty hlo HOW)
  refine bodyPost_ret (results_cell_row rfl _ _ (w.heap.size + 1) _ _ _ _ rfl HS.out Try.underlying56 rfl (by kernel_rfl)) rfl ?_
  exact ⟨a1, cap1, fp1, rfl, ⟨_, rfl, hk, hok, HR.out⟩, HOF.out, HT.out, HB.out⟩

end Go.Proofs.Ythbojipdhgidlaa

/- divideArguments and SplitArguments of the program. (Made by gen_spld.py.) -/
namespace Go.Proofs.Ythbojipdhgidlaa
open Go.RowKit

/-- append at an operation of a drawn region, behind a row of the call's own. -/
theorem step_append_rowE {α : Type} {S : Shape α} {P : Program} {t e : TypeId} {z : Value} {bytes : Nat} (ti : TI P t e z S.m bytes) (hzs : z.cells.size = S.m) (h0 : 0 < S.m) (w : World) {L X : List (Elem α)} {ops : Array Oper} {o : Oper} {a : Act} {K : Act → World → Prop} {Q : Exit → Act → World → Prop} {E : Prop}
    (d : Nat) (hdst : o.dst = some d) (hg : o.guard = none) (s y : Operand) (ho : o.op = .call { callee := .builtin .append, args := #[s, y], argTypes := #[t, t] })
    (base : Nat) (v : Value) (hs : a.eval s = v) (hown : RowE S base e v L w) (g m c : Nat) (hy : a.eval y = .slice (some ⟨g, 0, none⟩) m c) (hm : X.length = m)
    (hlen : ∀ x ∈ X, x.cells.length = S.m) (h1 : ∀ x ∈ X, ∀ u ∈ x.cells, u.oneCell' = true) (hcell : ∀ j u, (X.flatMap (·.cells))[j]? = some u → w.cell? ⟨g, j, none⟩ = some u)
    (hR : ∀ x ∈ X, S.R w x.cells x.d x.fp) (hlo : ∀ x ∈ X, ∀ b ∈ x.fp, base ≤ b) (hty : ∀ x ∈ X, ∀ b ∈ x.fp, ∃ cur t fr, w.heap[b]? = some (.cells cur t fr) ∧ t ≠ e)
    (h63 : L.length + m ≤ maxLen) (hbytes : (L.length + m) * bytes ≤ 140737488355328) (hbase : base ≤ w.heap.size)
    (h : ∀ v' w', RowE S base e v' (L ++ X) w' → w.grownBy w' v.ownBlock → K (a.put (some d) v') w') : if Region.wanted o (yielded ops a.tmps) = true then Oper.wp P o a w K Q else E := by
  rw [← hdst] at h
  have hwt : Region.wanted o (yielded ops a.tmps) = true := by simp [Region.wanted, hg]
  obtain ⟨i, hi, hz0, hz1, hz2⟩ := info_parts ti.2
  subst hm
  rw [if_pos hwt]
  refine wp_append_own w s y t ho base e i z S.m bytes ti.1 hi hz0 hz1 hz2 hzs h0 v L.length _ hs hown.row ⟨g, 0, none⟩ X.length c (X.flatMap (·.cells)) hy (flatMap_len hlen) ?_ ?_ h63 hbytes hbase fun v' w' r1 r2 _ => h v' w' ?_ r2
  · intro j u hj
    rw [addr_add, Nat.zero_add]
    exact hcell j u hj
  · intro u hu
    obtain ⟨x, hx, hu⟩ := List.mem_flatMap.1 hu
    exact h1 x hx u hu
  · refine hown.appended ?_ r2 hlen hR hlo hty
    rw [List.length_append, List.flatMap_append]
    exact r1

/-- What divideArguments has made: the arguments done, the one under way. -/
structure DivSt (B : Nat) (va u : Value) (A : List (Elem (List Tok))) (M : List (Elem Tok)) (w : World) : Prop where
  row : w.ownsRow B 30 1 va (A.length + 1) (A.flatMap (·.cells) ++ [u])
  len : ∀ x ∈ A, x.cells.length = 1
  el : ∀ x ∈ A, sToks.R w x.cells x.d x.fp
  inn : ∃ top, RowE sTok top 56 u M w ∧ B ≤ top ∧ top ≤ w.heap.size ∧ ∀ x ∈ A, ∀ b ∈ x.fp, b < top
  ownA : Own w B (A.flatMap (·.fp))
  ownM : Own w B (M.flatMap (·.fp))
  tyA : TokTy w (A.flatMap (·.fp))
  tyM : TokTy w (M.flatMap (·.fp))
section
variable {B : Nat} {va u : Value} {A : List (Elem (List Tok))} {M : List (Elem Tok)} {w w' : World}
theorem DivSt.same (h : DivSt B va u A M w) (hs : w.heap.size ≤ w'.heap.size) (hr : ∀ g, va.ownBlock = some g → w'.heap[g]? = w.heap[g]?) (hu : ∀ g, u.ownBlock = some g → w'.heap[g]? = w.heap[g]?) (hA : ∀ b ∈ A.flatMap (·.fp), w'.heap[b]? = w.heap[b]?) (hM : ∀ b ∈ M.flatMap (·.fp), w'.heap[b]? = w.heap[b]?) : DivSt B va u A M w' := by
  obtain ⟨top, g1, g2, g3, g4⟩ := h.inn
  have mA : ∀ x ∈ A, ∀ b ∈ x.fp, w'.heap[b]? = w.heap[b]? := fun x hx b hb => hA b (List.mem_flatMap.2 ⟨x, hx, hb⟩)
  have mM : ∀ x ∈ M, ∀ b ∈ x.fp, w'.heap[b]? = w.heap[b]? := fun x hx b hb => hM b (List.mem_flatMap.2 ⟨x, hx, hb⟩)
  refine ⟨ownsRow_same h.row hr, h.len, fun x hx => sToks.frame (mA x hx) (h.el x hx), ⟨top, g1.same2 hu mM, g2, Nat.le_trans g3 hs, g4⟩, ⟨h.ownA.1, fun b hb => ?_⟩, ⟨h.ownM.1, fun b hb => ?_⟩, h.tyA.same fun b hb _ => hA b hb, h.tyM.same fun b hb _ => hM b hb⟩
  · obtain ⟨q1, cur, e, q2⟩ := h.ownA.2 b hb
    exact ⟨q1, cur, e, (hA b hb).trans q2⟩
  · obtain ⟨q1, cur, e, q2⟩ := h.ownM.2 b hb
    exact ⟨q1, cur, e, (hM b hb).trans q2⟩
theorem DivSt.ult (h : DivSt B va u A M w) : ∀ g, u.ownBlock = some g → g < w.heap.size := fun g hg => by
  obtain ⟨top, g1, -⟩ := h.inn
  exact (g1.row.lt g hg).2
theorem DivSt.umine (h : DivSt B va u A M w) : ∀ g, u.ownBlock = some g → B ≤ g := fun g hg => by
  obtain ⟨top, g1, g2, -⟩ := h.inn
  have := (g1.row.lt g hg).1
  omega
theorem DivSt.below (h : DivSt B va u A M w) (hb : Below w.heap.size w w') : DivSt B va u A M w' :=
  h.same hb.size (fun g hg => hb.block g (h.row.lt g hg).2) (fun g hg => hb.block g (h.ult g hg)) (fun b hb' => hb.block b (h.ownA.lt b hb')) (fun b hb' => hb.block b (h.ownM.lt b hb'))
theorem DivSt.val (h : DivSt B va u A M w) : ∃ g cap, va = .slice (some ⟨g, 0, none⟩) (A.length + 1) cap ∧ B ≤ g ∧ g < w.heap.size ∧ A.length + 1 ≤ cap ∧ cap ≤ maxLen := by
  rcases h.row.2 with ⟨_, h0⟩ | ⟨g, cap, cur, rfl, hb, hg, hn, hc, _⟩
  · omega
  · exact ⟨g, cap, rfl, hb, (Array.getElem?_eq_some_iff.1 hg).1, hn, hc⟩
theorem DivSt.uval (h : DivSt B va u A M w) : ∃ a c, u = .slice a M.length c := by
  obtain ⟨top, g1, -⟩ := h.inn
  obtain ⟨a, c, h1, -⟩ := g1.val
  exact ⟨a, c, h1⟩
theorem DivSt.flen (h : DivSt B va u A M w) : (A.flatMap (·.cells)).length = A.length := by
  have := flatMap_len (f := Elem.cells) h.len
  rwa [Nat.mul_one] at this
theorem DivSt.cell {g n cap : Nat} (h : DivSt B (.slice (some ⟨g, 0, none⟩) n cap) u A M w) : w.cell? ⟨g, A.length, none⟩ = some u := by
  have hn : A.length + 1 = n := by
    rcases h.row.2 with ⟨h', _⟩ | ⟨g', cap', cur, h', _⟩
    · cases h'
    · simp only [Value.slice.injEq] at h'; exact h'.2.1.symm
  have hrow := h.row
  rw [hn] at hrow
  rw [hrow.cellAt A.length (by omega), List.getElem?_append_right (by rw [h.flen]; omega), h.flen, Nat.sub_self]; rfl
theorem DivSt.frozen {g n cap : Nat} (h : DivSt B (.slice (some ⟨g, 0, none⟩) n cap) u A M w) (o : Nat) : w.frozen? ⟨g, o, none⟩ = false := by
  rcases h.row.2 with ⟨h', _⟩ | ⟨g', cap', cur, h', _, hg, _⟩
  · cases h'
  · simp only [Value.slice.injEq, Option.some.injEq, Addr.mk.injEq, and_true] at h'
    obtain ⟨rfl, _⟩ := h'
    exact frozen_of_row w g o cur _ hg
/-- The row's block holds lists: nothing else of it does. -/
theorem DivSt.rowne (h : DivSt B va u A M w) {fp : List Nat} (ht : TokTy w fp) : ∀ b ∈ fp, some b ≠ va.ownBlock := fun b hb e => by
  obtain ⟨cur, t, fr, h1, h2⟩ := ht b hb
  rcases h.row.2 with ⟨h', _⟩ | ⟨g, cap, cur', h', _, hg, _⟩
  · rw [h'] at e; simp [Value.ownBlock] at e
  · rw [h'] at e
    simp only [Value.ownBlock, Option.some.injEq] at e
    subst e
    rw [h1] at hg
    simp only [Option.some.injEq, Obj.cells.injEq] at hg
    have := hg.2.1
    rcases h2 with rfl | rfl <;> exact absurd this (by decide)
/-- The argument under way as a list that can be read. -/
theorem DivSt.arg (h : DivSt B va u A M w) : ∃ fp, sToks.R w [u] (M.map (·.d)) fp ∧ Own w B fp ∧ TokTy w fp ∧ (∀ b ∈ fp, b ∉ A.flatMap (·.fp)) := by
  obtain ⟨top, g1, g2, g3, g4⟩ := h.inn
  obtain ⟨fp, h1, h2, h3⟩ := slice_of_row g1.row fun x hx => ⟨g1.len x hx, g1.el x hx⟩
  have hM : Own w top (M.flatMap (·.fp)) := ⟨h.ownM.1, fun b hb => by
    obtain ⟨x, hx, hb'⟩ := List.mem_flatMap.1 hb
    exact ⟨g1.lo x hx b hb', (h.ownM.2 b hb).2⟩⟩
  have hO := h3 hM fun g hg hm => by
    obtain ⟨x, hx, hb'⟩ := List.mem_flatMap.1 hm
    exact g1.ap hx hb' hg
  refine ⟨fp, h1, hO.lower g2, fun b hb => ?_, fun b hb hx => ?_⟩
  · rcases h2 b hb with h0 | h0
    · rcases g1.row.2 with ⟨h', _⟩ | ⟨g, cap, cur, q1, q2, q3, -⟩
      · rw [h'] at h0; simp [Value.ownBlock] at h0
      · rw [q1] at h0
        simp only [Value.ownBlock, Option.some.injEq] at h0
        subst h0
        exact ⟨_, _, _, q3, .inl rfl⟩
    · exact h.tyM b h0
  · obtain ⟨x, hx', hb'⟩ := List.mem_flatMap.1 hx
    have := g4 x hx' b hb'
    have := (hO.2 b hb).1
    omega
theorem TokTy.app {fp fp' : List Nat} (h : TokTy w fp) (h' : TokTy w fp') : TokTy w (fp ++ fp') := fun b hb => by
  rcases List.mem_append.1 hb with hb | hb
  · exact h b hb
  · exact h' b hb
theorem flat_app {α : Type} (A : List (Elem α)) (x : Elem α) : (A ++ [x]).flatMap (·.fp) = A.flatMap (·.fp) ++ x.fp := by rw [List.flatMap_append]; simp
/-- The argument is done: another begins. -/
theorem DivSt.next {va' : Value} (h : DivSt B va u A M w) {fp : List Nat} (h1 : sToks.R w [u] (M.map (·.d)) fp) (h2 : Own w B fp) (h3 : TokTy w fp) (h4 : ∀ b ∈ fp, b ∉ A.flatMap (·.fp)) (hB : B ≤ w.heap.size)
    (hrow : w'.ownsRow B 30 1 va' (A.length + 1 + 1) (A.flatMap (·.cells) ++ [u] ++ [.slice none 0 0])) (hg : w.grownBy w' va.ownBlock) : DivSt B va' (.slice none 0 0) (A ++ [⟨[u], M.map (·.d), fp⟩]) [] w' := by
  have hA : ∀ b ∈ A.flatMap (·.fp), w'.heap[b]? = w.heap[b]? := fun b hb => hg.block b (h.ownA.lt b hb) (h.rowne h.tyA b hb)
  have hF : ∀ b ∈ fp, w'.heap[b]? = w.heap[b]? := fun b hb => hg.block b (h2.lt b hb) (h.rowne h3 b hb)
  have hO : Own w B (A.flatMap (·.fp) ++ fp) := h.ownA.app h2 fun b hb hx => h4 b hx hb
  refine ⟨?_, fun x hx => ?_, fun x hx => ?_, ⟨w'.heap.size, RowE.nil _ _ _ _, Nat.le_trans hB hg.size, Nat.le_refl _, fun x hx b hb => ?_⟩, ⟨?_, fun b hb => ?_⟩, Own.nil _ _, ?_, (show TokTy w' [] from fun b hb => by simp at hb)⟩
  · rw [List.length_append, List.flatMap_append]
    simpa using hrow
  · rcases List.mem_append.1 hx with hx | hx
    · exact h.len x hx
    · obtain rfl := List.mem_singleton.1 hx; rfl
  · rcases List.mem_append.1 hx with hx | hx
    · exact sToks.frame (fun b hb => hA b (List.mem_flatMap.2 ⟨x, hx, hb⟩)) (h.el x hx)
    · obtain rfl := List.mem_singleton.1 hx; exact sToks.frame hF h1
  · have : b < w.heap.size := by
      rcases List.mem_append.1 hx with hx | hx
      · exact sToks.lt (h.el x hx) b hb
      · obtain rfl := List.mem_singleton.1 hx; exact sToks.lt h1 b hb
    exact Nat.lt_of_lt_of_le this hg.size
  · rw [flat_app]; exact hO.1
  · rw [flat_app] at hb
    obtain ⟨q1, cur, e, q2⟩ := hO.2 b hb
    refine ⟨q1, cur, e, ?_⟩
    rcases List.mem_append.1 hb with hb | hb
    · exact (hA b hb).trans q2
    · exact (hF b hb).trans q2
  · rw [flat_app]
    exact (h.tyA.app h3).same fun b hb _ => by
      rcases List.mem_append.1 hb with hb | hb
      · exact hA b hb
      · exact hF b hb
/-- A token more: the row under way has grown, ... -/
theorem DivSt.more {g n cap top : Nat} {u' : Value} {x : Elem Tok} (h : DivSt B (.slice (some ⟨g, 0, none⟩) n cap) u A M w) (g1 : RowE sTok top 56 u M w) (g2 : B ≤ top) (g3 : top ≤ w.heap.size) (g4 : ∀ x ∈ A, ∀ b ∈ x.fp, b < top)
    (hx1 : Own w top x.fp) (hx2 : ∀ b ∈ x.fp, ∃ cur t fr, w.heap[b]? = some (.cells cur t fr) ∧ t = 9) (hx3 : ∀ b ∈ x.fp, b ∉ M.flatMap (·.fp))
    (hG : RowE sTok top 56 u' (M ++ [x]) w') (hg : w.grownBy w' u.ownBlock) : DivSt B (.slice (some ⟨g, 0, none⟩) n cap) u' A (M ++ [x]) (w'.setCell ⟨g, A.length, none⟩ u') := by
  have hn : A.length + 1 = n := by
    rcases h.row.2 with ⟨h', _⟩ | ⟨g', cap', cur, h', _⟩
    · cases h'
    · simp only [Value.slice.injEq] at h'; exact h'.2.1.symm
  have hgl : g < w.heap.size := (h.row.lt g rfl).2
  have hgu : some g ≠ u.ownBlock := fun e => by
    rcases own_ne h.row g1.row (by decide) with h0 | h0
    · cases h0
    · exact h0 (by rw [← e]; rfl)
  have hA1 : ∀ b ∈ A.flatMap (·.fp), w'.heap[b]? = w.heap[b]? := fun b hb => hg.block b (h.ownA.lt b hb) fun e => by
    obtain ⟨y, hy, hb'⟩ := List.mem_flatMap.1 hb
    have := g4 y hy b hb'
    have := g1.mine b e.symm
    omega
  have hM1 : ∀ b ∈ M.flatMap (·.fp), w'.heap[b]? = w.heap[b]? := fun b hb => hg.block b (h.ownM.lt b hb) fun e => by
    obtain ⟨y, hy, hb'⟩ := List.mem_flatMap.1 hb
    exact g1.ap hy hb' e.symm
  have hX1 : ∀ b ∈ x.fp, w'.heap[b]? = w.heap[b]? := fun b hb => hg.block b (hx1.lt b hb) fun e => by
    obtain ⟨cur, t, fr, q1, q2⟩ := hx2 b hb
    rcases g1.row.2 with ⟨h', _⟩ | ⟨g', cap', cur', h', _, hg', _⟩
    · rw [h'] at e; simp [Value.ownBlock] at e
    · rw [h'] at e
      simp only [Value.ownBlock, Option.some.injEq] at e
      subst e
      rw [q1] at hg'
      simp only [Option.some.injEq, Obj.cells.injEq] at hg'
      exact absurd (q2.symm.trans hg'.2.1) (by decide)
  have hTX : TokTy w x.fp := fun b hb => by obtain ⟨cur, t, fr, q1, q2⟩ := hx2 b hb; exact ⟨cur, t, fr, q1, .inr q2⟩
  have hne : ∀ fp, TokTy w fp → ∀ b ∈ fp, b ≠ g := fun fp ht b hb e => h.rowne ht b hb (by rw [e]; rfl)
  have hfar : ∀ b, b ≠ g → (w'.setCell ⟨g, A.length, none⟩ u').heap[b]? = w'.heap[b]? := fun b hb => Below.heap_setCell _ _ _ _ hb
  have hgb : w'.heap[g]? = w.heap[g]? := hg.block g hgl hgu
  have hrow' : w'.ownsRow B 30 1 (.slice (some ⟨g, 0, none⟩) n cap) n (A.flatMap (·.cells) ++ [u]) := by
    have := ownsRow_same (w' := w') h.row fun g' hg' => by
      simp only [Value.ownBlock, Option.some.injEq] at hg'; subst hg'; exact hgb
    rwa [hn] at this
  have hOM : Own w B (M.flatMap (·.fp) ++ x.fp) := h.ownM.app (hx1.lower g2) fun b hb hx => hx3 b hx hb
  have hug : ∀ b, u'.ownBlock = some b → b ≠ g := fun b hb e => by
    subst e
    rcases own_ne hrow' hG.row (by decide) with h0 | h0
    · cases h0
    · exact h0 (by rw [hb]; rfl)
  refine ⟨?_, h.len, fun y hy => ?_, ⟨top, ?_, g2, by rw [size_setCell]; exact Nat.le_trans g3 hg.size, g4⟩, ⟨h.ownA.1, fun b hb => ?_⟩, ⟨by rw [flat_app]; exact hOM.1, fun b hb => ?_⟩, ?_, ?_⟩
  · have := (hrow'.stored A.length u').1
    rw [List.set_append_right _ _ (by rw [h.flen]; omega), h.flen, Nat.sub_self] at this
    rw [hn]
    exact this
  · refine sToks.frame (fun b hb => ?_) (h.el y hy)
    have hm : b ∈ A.flatMap (·.fp) := List.mem_flatMap.2 ⟨y, hy, hb⟩
    exact (hfar b (hne _ h.tyA b hm)).trans (hA1 b hm)
  · refine hG.same2 (fun b hb => hfar b (hug b hb)) (fun y hy b hb => hfar b ?_)
    rcases List.mem_append.1 hy with hy | hy
    · exact hne _ h.tyM b (List.mem_flatMap.2 ⟨y, hy, hb⟩)
    · obtain rfl := List.mem_singleton.1 hy; exact hne _ hTX b hb
  · obtain ⟨q1, cur, e, q2⟩ := h.ownA.2 b hb
    exact ⟨q1, cur, e, ((hfar b (hne _ h.tyA b hb)).trans (hA1 b hb)).trans q2⟩
  · rw [flat_app] at hb
    obtain ⟨q1, cur, e, q2⟩ := hOM.2 b hb
    refine ⟨q1, cur, e, ?_⟩
    rcases List.mem_append.1 hb with hb | hb
    · exact ((hfar b (hne _ h.tyM b hb)).trans (hM1 b hb)).trans q2
    · exact ((hfar b (hne _ hTX b hb)).trans (hX1 b hb)).trans q2
  · exact h.tyA.same fun b hb _ => (hfar b (hne _ h.tyA b hb)).trans (hA1 b hb)
  · rw [flat_app]
    exact (h.tyM.app hTX).same fun b hb _ => by
      rcases List.mem_append.1 hb with hb | hb
      · exact (hfar b (hne _ h.tyM b hb)).trans (hM1 b hb)
      · exact (hfar b (hne _ hTX b hb)).trans (hX1 b hb)
/-- In the end all arguments can be read, in memory of the call's own. -/
theorem DivSt.done (h : DivSt B va u A M w) : ∃ fp, (sSlice sToks).R w [va] (A.map (·.d) ++ [M.map (·.d)]) fp ∧ Own w B fp := by
  obtain ⟨fpu, h1, h2, h3, h4⟩ := h.arg
  have hO : Own w B ((A ++ [(⟨[u], M.map (·.d), fpu⟩ : Elem (List Tok))]).flatMap (·.fp)) := by rw [flat_app]; exact h.ownA.app h2 fun b hb hx => h4 b hx hb
  have hT : TokTy w ((A ++ [(⟨[u], M.map (·.d), fpu⟩ : Elem (List Tok))]).flatMap (·.fp)) := by rw [flat_app]; exact h.tyA.app h3
  obtain ⟨fp, r1, -, r3⟩ := slice_of_row (S := sToks) (w := w) (base := B) (e := 30) (v := va) (L := A ++ [⟨[u], M.map (·.d), fpu⟩]) (by
    rw [List.length_append, List.flatMap_append]
    change w.ownsRow B 30 1 va _ _
    simpa using h.row) (fun x hx => by
    rcases List.mem_append.1 hx with hx | hx
    · exact ⟨h.len x hx, h.el x hx⟩
    · obtain rfl := List.mem_singleton.1 hx; exact ⟨rfl, h1⟩)
  refine ⟨fp, by rw [List.map_append] at r1; exact r1, r3 hO fun g hg hm => ?_⟩
  exact h.rowne hT g hm hg.symm
end
theorem dvGo_step {l : List Tok} {k : Nat} (hk : k < l.length) (d : Int) (A : Args) (M : List Tok) :
    dvGo (l.drop k) d A M = if d = 0 ∧ isCom l[k] = true then dvGo (l.drop (k + 1)) d (A ++ [M]) [] else dvGo (l.drop (k + 1)) (d + opn l[k]) A (M ++ [l[k]]) := by
  rw [List.drop_eq_getElem_cons hk]; rfl
theorem dvGo_end {l : List Tok} {k : Nat} (hk : l.length ≤ k) (d : Int) (A : Args) (M : List Tok) : dvGo (l.drop k) d A M = A ++ [M] := by rw [List.drop_of_length_le hk]; rfl

set_option maxHeartbeats 16000000 in
set_option maxRecDepth 100000 in
theorem impl_divideArguments (v : Value) (l : List Tok) (fp : List Nat) (w : World) (hl : l.length ≤ 60) (hx : ∀ k, (hk : k < l.length) → l[k].hidden.length ≤ 2000000) (H : (sSlice sTok).R w [v] l fp) :
    Calls Try.prog 51 #[v] w fun e w' => ∃ v' fp', e = .returned v' ∧ (sSlice sToks).R w' [v'] (dvGo l 0 [] []) fp' ∧ Own w' w.heap.size fp' ∧ Below w.heap.size w w' := by
  obtain ⟨a, cap, rfl, hc, hm, hrow⟩ := open_rows H
  unfold maxLen at hm
  clear H
  have HX := Lib.hid hx
  clear hx
  obtain ⟨r, HR⟩ : ∃ r, Hid (r = dvGo l 0 [] []) := ⟨_, rfl⟩
  rw [← HR.out]
  go_enter Try.func51, Try.ntmps51
  go_wp2_with (at_make; refine wp_make_full ti_toks _ rfl _ _ rfl w.heap.size 1 rfl rfl (by omega) (by unfold maxLen; omega) (Nat.le_refl _) ?_; intro w1 hown hgrow)
  have hbel := (Below.refl w.heap.size w).grown hgrow (Nat.le_refl _) (by simp)
  rw [show (madeCells (Value.slice none 0 0).cells (1 * 1)).toList = [.slice none 0 0] by kernel_rfl] at hown
  have HS0 : Hid (DivSt w.heap.size (.slice (some ⟨w.heap.size, 0, none⟩) 1 1) (.slice none 0 0) [] [] w1) :=
    ⟨hown, by simp, by simp, ⟨w1.heap.size, RowE.nil _ _ _ _, hgrow.size, Nat.le_refl _, by simp⟩, Own.nil _ _, Own.nil _ _, (show TokTy w1 [] from fun b hb => by simp at hb), (show TokTy w1 [] from fun b hb => by simp at hb)⟩
  clear hgrow hown
  go_loopw [3, 4, 11] (fun va d i wr => ∃ (k : Nat) (dd : Int) (u : Value) (A : List (Elem (List Tok))) (M : List (Elem Tok)), k ≤ l.length ∧ i = .int .i64 k ∧ d = .int .i64 dd ∧ -(k : Int) ≤ dd ∧ dd ≤ k ∧ A.length ≤ k ∧ M.length ≤ k ∧ Hid (DivSt w.heap.size va u A M wr) ∧ Hid (dvGo (l.drop k) dd (A.map (·.d)) (M.map (·.d)) = r) ∧ Below w.heap.size w wr) (fun _ _ i _ => l.length - (intOf i).toNat)
  case atStart => exact ⟨0, 0, _, [], [], by omega, rfl, rfl, by omega, by omega, by simp, by simp, HS0, HR.out.symm, hbel⟩
  case round =>
    clear HS0 hbel HR
    obtain ⟨k, dd, u, A, M, hk, rfl, rfl, hd1, hd2, hAk, hMk, HS, HI, hb⟩ := hrel
    obtain ⟨ga, ca, rfl, hga, hgs, hca, hcm⟩ := HS.out.val
    unfold maxLen at hcm
    obtain ⟨au, cu, rfl⟩ := HS.out.uval
    by_cases hlt : k < l.length
    · obtain ⟨b1, off1, fps1, rfl, hb1, -, he1⟩ := hrow (by omega)
      obtain ⟨es1, hE1, hR1⟩ := he1 k hlt
      clear hrow he1
      have hR2 := sTok.below hR1 hb
      obtain ⟨h1', rfl, _, _, hK1⟩ := hR1
      obtain ⟨ah, ch, rfl, -⟩ := open_strs hK1
      clear hK1
      replace hE1 := hE1.frame (hb.block b1 hb1)
      have c10 : wr.cell? ⟨b1, off1 + k * 4, none⟩ = some _ := elem_cell0 hE1 (by decide) rfl
      have c11 : wr.cell? ⟨b1, off1 + k * 4 + 1, none⟩ = some _ := elem_cell (j := 1) hE1 (by decide) rfl
      have c12 : wr.cell? ⟨b1, off1 + k * 4 + 2, none⟩ = some _ := elem_cell (j := 2) hE1 (by decide) rfl
      have c13 : wr.cell? ⟨b1, off1 + k * 4 + 3, none⟩ = some _ := elem_cell (j := 3) hE1 (by decide) rfl
      clear hE1
      have hbx := alloc_below' wr (.cells #[.int .i64 l[k].kind, .string l[k].text, .bool l[k].spaced, .slice ah l[k].hidden.length ch] 56)
      have HX0 := Lib.hid (heap_alloc_new wr (.cells #[.int .i64 l[k].kind, .string l[k].text, .bool l[k].spaced, .slice ah l[k].hidden.length ch] 56))
      have HS1 := Lib.hid (HS.out.below hbx)
      have HRT := Lib.hid hR2
      have hbw := hb.trans (hbx.mono hb.size)
      have hst := HI.out
      rw [dvGo_step hlt] at hst
      have hsz : (wr.alloc (.cells #[.int .i64 l[k].kind, .string l[k].text, .bool l[k].spaced, .slice ah l[k].hidden.length ch] 56)).heap.size = wr.heap.size + 1 := Array.size_push _
      have HUL := Lib.hid HS.out.ult
      have HML := Lib.hid HS.out.ownM.lt
      clear hR2 HI HS
      by_cases hcomma : dd = 0 ∧ isCom l[k] = true
      · -- another argument
        rw [if_pos hcomma] at hst
        obtain ⟨hd0, hcm2⟩ := hcomma
        have e0 : (dd == 0) = true := by simpa using hd0
        have e1 : (l[k].text.toList == [44]) = true := hcm2
        have HF := Lib.hid hst
        obtain ⟨fpu, q1, q2, q3, q4⟩ := HS1.out.arg
        have HQ := Lib.hid (And.intro q1 (And.intro q2 (And.intro q3 q4)))
        have hrow1 := Lib.hid HS1.out.row
        clear hst hcm2 q1 q2 q3 q4
        subst hd0
        go_wp2_with (at_builtin; refine wp_append_cells ti_toks rfl (by decide) _ (A.flatMap (·.cells) ++ [.slice au M.length cu]) [.slice none 0 0] rfl (by simp [Value.oneCell']) rfl (.tmp 22) (.tmp 23) rfl w.heap.size (.slice (some ⟨ga, 0, none⟩) (A.length + 1) ca) (A.length + 1) rfl hrow1.out (by rw [hsz]; rfl) (by unfold maxLen; omega) (by omega) hbw.size ?_; intro v3 w3 hown3 hg3; have hb3 := hbw.grown hg3 hbw.size (fun b hb => by simp only [Value.ownBlock, Option.some.injEq] at hb; omega); have HN := Lib.hid (HS1.out.next HQ.out.1 HQ.out.2.1 HQ.out.2.2.1 HQ.out.2.2.2 hbw.size hown3 hg3); clear hown3 hg3)
        go_roundw
        case rel => exact ⟨k + 1, 0, _, A ++ [(⟨[.slice au M.length cu], M.map (·.d), fpu⟩ : Elem (List Tok))], [], by omega, by go_num, rfl, by omega, by omega, by simp; omega, by simp, HN, by show _ = _; rw [← HF.out, List.map_append]; rfl, hb3⟩
        case measure => simp [intOf]; omega
      · rw [if_neg hcomma] at hst
        have HF := Lib.hid hst
        have ho := opn_ge l[k]
        have hwr : IntKind.i64.wrap (dd + opn l[k]) = dd + opn l[k] := IntWalk.i64_in _ (by omega)
        have hwl : IntKind.i64.wrap (((A.length + 1 : Nat) : Int) - 1) = (A.length : Int) := by rw [IntWalk.i64_in _ (by omega)]; omega
        have hwl2 : IntKind.i64.wrap ((A.length : Int) + 1 - 1) = (A.length : Int) := by rw [IntWalk.i64_in _ (by omega)]; omega
        have HOP := Lib.hid (fun W (hW : Below wr.heap.size wr W) => impl_opening _ l[k] _ W (sTok.below HRT.out hW))
        have HCP := Lib.hid (fun W (hW : Below wr.heap.size wr W) => impl_copyToken _ l[k] _ W (HX.out k hlt) (sTok.below HRT.out hW))
        clear hst HRT
        obtain ⟨cm, HCM⟩ : ∃ cm : Bool, Hid (cm = isCom l[k]) := ⟨isCom l[k], rfl⟩
        generalize hon : opn l[k] = on at *
        have hnc : ∀ b : Bool, b = (decide (dd = 0) && cm) → b = false := by
          rintro b rfl
          rw [Bool.and_eq_false_iff]
          by_cases h0 : dd = 0
          · right
            rw [HCM.out]
            cases e : isCom l[k]
            · rfl
            · exact absurd ⟨h0, e⟩ hcomma
          · left; exact decide_eq_false h0
        have HULT : Hid (∀ g, (Value.slice au M.length cu).ownBlock = some g → g < wr.heap.size) := HUL.out
        have HOLD : Hid (∀ b ∈ M.flatMap (·.fp), b < wr.heap.size) := HML.out
        by_cases h0 : dd = 0
        · have e0 : (dd == 0) = true := by simpa using h0
          have hcf : cm = false := hnc cm (by rw [decide_eq_true h0]; rfl)
          have e1 : (l[k].text.toList == [44]) = false := by rw [hcf] at HCM; exact HCM.out.symm
          clear hcomma hnc hcf HCM hsz HUL HML
          subst h0
          rw [Int.zero_add] at HF
          go_wp2_with fail
          refine (HOP.out _ hbx).mono ?_
          rintro e w2 ⟨rfl, g2⟩
          have hc2 := hbx.trans (g2.mono hbx.size)
          have HX2 := Lib.hid ((g2.block _ (Array.getElem?_eq_some_iff.1 HX0.out).1).trans HX0.out)
          have HS2 := Lib.hid (HS1.out.below g2)
          have hb2 := hbw.trans (g2.mono hbw.size)
          have hi1 : (0 : Int) ≤ (A.length : Int) := by omega
          have hi2 : (A.length : Int) < (A.length : Int) + 1 := by omega
          have hgs2 := hc2.size
          clear c10 c11 c12 c13 HOP HS1 HX0 hbw hbx g2 hb
          go_wp2_with fail
          refine wp_region_noPanic ?_
          refine wp_region_held_drew (S := fun w' => w'.heap[wr.heap.size]? = some (.cells #[.int .i64 l[k].kind, .string l[k].text, .bool l[k].spaced, .slice ah l[k].hidden.length ch] 56 (0, 0))) (by kernel_rfl) (by exact HX2.out) (fun hHeld => ?_)
          have hdr : Below w2.heap.size w2 w2.drew := belowN (Below.refl _ _) 1
          have HSd := Lib.hid (HS2.out.below hdr)
          have hbd := hb2.trans (hdr.mono hb2.size)
          have hcd := hc2.trans (hdr.mono hc2.size)
          have hwd := hcd.size
          obtain ⟨top, t1, t2, t3, t4⟩ := HSd.out.inn
          have HTD := Lib.hid t1
          have HTOP := Lib.hid t4
          clear t1 t4
          clear HS2 HX2 hdr
          generalize w2.drew = wd at *
          refine takeH 0 32 (v := ?_) rfl rfl (by kernel_rfl) (by kernel_rfl) (by kernel_rfl) (fun _ _ _ h => h) (by rfl) (by assumption) ?_ ?_
          rotate_left
          · intro w hSw; have s0 := cell_of_row _ _ 0 _ _ _ hSw; have s1 := cell_of_row _ _ 1 _ _ _ hSw; have s2 := cell_of_row _ _ 2 _ _ _ hSw; have s3 := cell_of_row _ _ 3 _ _ _ hSw; go_simp; (first | done | with_reducible rfl | rfl)
          try simp only [Act.put, List.setIfInBounds_toArray, List.set_cons_zero, List.set_cons_succ]
          refine takeH 1 33 (v := ?_) rfl rfl (by kernel_rfl) (by kernel_rfl) (by kernel_rfl) (fun _ _ _ h => h) (by rfl) (by assumption) ?_ ?_
          rotate_left
          · intro w hSw; have s0 := cell_of_row _ _ 0 _ _ _ hSw; have s1 := cell_of_row _ _ 1 _ _ _ hSw; have s2 := cell_of_row _ _ 2 _ _ _ hSw; have s3 := cell_of_row _ _ 3 _ _ _ hSw; go_simp; (first | done | with_reducible rfl | rfl)
          try simp only [Act.put, List.setIfInBounds_toArray, List.set_cons_zero, List.set_cons_succ]
          refine takeH 2 34 (v := ?_) rfl rfl (by kernel_rfl) (by kernel_rfl) (by kernel_rfl) (fun _ _ _ h => h) (by rfl) (by assumption) ?_ ?_
          rotate_left
          · intro w hSw; have s0 := cell_of_row _ _ 0 _ _ _ hSw; have s1 := cell_of_row _ _ 1 _ _ _ hSw; have s2 := cell_of_row _ _ 2 _ _ _ hSw; have s3 := cell_of_row _ _ 3 _ _ _ hSw; go_simp; (first | done | with_reducible rfl | rfl)
          try simp only [Act.put, List.setIfInBounds_toArray, List.set_cons_zero, List.set_cons_succ]
          refine takeH 3 35 (v := ?_) rfl rfl (by kernel_rfl) (by kernel_rfl) (by kernel_rfl) (fun _ _ _ h => h) (by rfl) (by assumption) ?_ ?_
          rotate_left
          · intro w hSw; have s0 := cell_of_row _ _ 0 _ _ _ hSw; have s1 := cell_of_row _ _ 1 _ _ _ hSw; have s2 := cell_of_row _ _ 2 _ _ _ hSw; have s3 := cell_of_row _ _ 3 _ _ _ hSw; go_simp; (first | done | with_reducible rfl | rfl)
          try simp only [Act.put, List.setIfInBounds_toArray, List.set_cons_zero, List.set_cons_succ]
          refine takeH 4 36 (v := ?_) rfl rfl (by kernel_rfl) (by kernel_rfl) (by kernel_rfl) (fun _ _ _ h => h) (by rfl) (by assumption) ?_ ?_
          rotate_left
          · intro w hSw; have s0 := cell_of_row _ _ 0 _ _ _ hSw; have s1 := cell_of_row _ _ 1 _ _ _ hSw; have s2 := cell_of_row _ _ 2 _ _ _ hSw; have s3 := cell_of_row _ _ 3 _ _ _ hSw; go_simp; (first | done | with_reducible rfl | rfl)
          try simp only [Act.put, List.setIfInBounds_toArray, List.set_cons_zero, List.set_cons_succ]
          refine takeH 6 38 (v := ?_) rfl rfl (by kernel_rfl) (by kernel_rfl) (by kernel_rfl) (fun _ _ _ h => h) (by rfl) (by assumption) ?_ ?_
          rotate_left
          · intro w hSw; have s0 := cell_of_row _ _ 0 _ _ _ hSw; have s1 := cell_of_row _ _ 1 _ _ _ hSw; have s2 := cell_of_row _ _ 2 _ _ _ hSw; have s3 := cell_of_row _ _ 3 _ _ _ hSw; go_simp; (first | done | with_reducible rfl | rfl)
          try simp only [Act.put, List.setIfInBounds_toArray, List.set_cons_zero, List.set_cons_succ]
          refine wpAnyH_ready (rs := [5, 7]) (by decide +kernel) (by simp) ?_
          refine AllReadyH.cons rfl (fun K hK => ?_) ?_
          · have hcell := HSd.out.cell
            go_simp
            refine hK.out _ _ hHeld (fun hHeld => ?_)
            clear hK K
            try simp only [Act.put, List.setIfInBounds_toArray, List.set_cons_zero, List.set_cons_succ]
            refine wpAnyH_ready (rs := [7]) (by decide +kernel) (by simp) ?_
            refine AllReadyH.cons rfl (fun K hK => ?_) AllReadyH.nil
            go_simp
            refine (HCP.out _ hcd).mono ?_
            rintro e w4 ⟨ao, c2, fp2, rfl, R2, O2, T2, hb4⟩
            have HS4 := Lib.hid (HSd.out.below hb4)
            have hb4t := hbd.trans (hb4.mono hbd.size)
            have hs4 := hb4.size
            have HTE := Lib.hid (HTD.out.below hb4)
            have HT4 := Lib.hid (And.intro R2 (And.intro O2 T2))
            clear R2 O2 T2
            refine hK.out _ _ ((hb4.block _ (Array.getElem?_eq_some_iff.1 hHeld).1).trans hHeld) (fun hHeld => ?_)
            clear hK K
            try simp only [Act.put, List.setIfInBounds_toArray, List.set_cons_zero, List.set_cons_succ]
            refine wpAnyH_ready (rs := [8]) (by decide +kernel) (by simp) ?_
            refine AllReadyH.cons rfl (fun K hK => ?_) AllReadyH.nil
            have bl := alloc_below' w4 (.cells #[.int .i64 l[k].kind, .string l[k].text, .bool l[k].spaced, .slice ao l[k].hidden.length c2] 56)
            have HL5 := Lib.hid (heap_alloc_new w4 (.cells #[.int .i64 l[k].kind, .string l[k].text, .bool l[k].spaced, .slice ao l[k].hidden.length c2] 56))
            have HS5 := Lib.hid (HS4.out.below bl)
            have HT1 := Lib.hid (HTE.out.below bl)
            have hb5t := hb4t.trans (bl.mono hb4t.size)
            have hs5 : (w4.alloc (.cells #[.int .i64 l[k].kind, .string l[k].text, .bool l[k].spaced, .slice ao l[k].hidden.length c2] 56)).heap.size = w4.heap.size + 1 := Array.size_push _
            have HT5 := Lib.hid (And.intro (sTok.below HT4.out.1 bl) (And.intro (HT4.out.2.1.grow bl) (show ∀ b ∈ fp2, ∃ cur t fr, (w4.alloc (.cells #[.int .i64 l[k].kind, .string l[k].text, .bool l[k].spaced, .slice ao l[k].hidden.length c2] 56)).heap[b]? = some (.cells cur t fr) ∧ t = 9 from fun b hb => by obtain ⟨cur, t, fr, z1, z2⟩ := HT4.out.2.2 b hb; exact ⟨cur, t, fr, (bl.block b (Array.getElem?_eq_some_iff.1 z1).1).trans z1, z2⟩)))
            have hH5 := (bl.block _ (Array.getElem?_eq_some_iff.1 hHeld).1).trans hHeld
            go_simp
            refine hK.out _ _ hH5 (fun hHeld => ?_)
            clear hK K bl
            try simp only [Act.put, List.setIfInBounds_toArray, List.set_cons_zero, List.set_cons_succ]
            generalize hw5 : (w4.alloc (.cells #[.int .i64 l[k].kind, .string l[k].text, .bool l[k].spaced, .slice ao l[k].hidden.length c2] 56)) = w5 at *
            clear hw5
            refine wpAnyH_ready (rs := [9]) (by decide +kernel) (by simp) ?_
            refine AllReadyH.cons rfl (fun K hK => ?_) AllReadyH.nil
            refine step_append_rowE (X := [(⟨[.int .i64 l[k].kind, .string l[k].text, .bool l[k].spaced, .slice ao l[k].hidden.length c2], l[k], fp2⟩ : Elem Tok)]) ti_tok rfl (by decide) _ 41 rfl rfl (.tmp 37) (.tmp 40) rfl top (.slice au M.length cu) rfl HT1.out w4.heap.size 1 1 rfl rfl (fun x hx => by obtain rfl := List.mem_singleton.1 hx; rfl) (fun x hx => by obtain rfl := List.mem_singleton.1 hx; simp [Value.oneCell']) (fun j u hj => by rw [cell_of_row _ _ _ _ _ _ HL5.out]; simpa using hj) (fun x hx => by obtain rfl := List.mem_singleton.1 hx; exact HT5.out.1) (fun x hx b hb => by obtain rfl := List.mem_singleton.1 hx; have := (HT5.out.2.1.2 b hb).1; omega) (fun x hx b hb => by obtain rfl := List.mem_singleton.1 hx; obtain ⟨cur, t, fr, z1, z2⟩ := HT5.out.2.2 b hb; exact ⟨cur, t, fr, z1, by rw [z2]; decide⟩) (by unfold maxLen; omega) (by omega) (by omega) ?_
            intro v6 w6 hG6 hg6
            have HN := Lib.hid (HS5.out.more (x := ⟨[.int .i64 l[k].kind, .string l[k].text, .bool l[k].spaced, .slice ao l[k].hidden.length c2], l[k], fp2⟩) HT1.out t2 (by omega) HTOP.out (HT5.out.2.1.lower (by omega)) HT5.out.2.2 (fun b hb hx => by have h1 := (HT5.out.2.1.2 b hb).1; have h2 := HOLD.out b hx; omega) hG6 hg6)
            have hb6 := hb5t.grown hg6 hb5t.size HS5.out.umine
            have hH6 := (hg6.block _ (Array.getElem?_eq_some_iff.1 hHeld).1 (fun e => by have := HULT.out _ e.symm; omega)).trans hHeld
            have hcell6 : w6.cell? ⟨ga, A.length, none⟩ = some (.slice au M.length cu) := (World.cell?_of_block (hg6.block ga (by have := hb5t.size; omega) (fun e => by rcases own_ne HS5.out.row HT1.out.row (by decide) with h0 | h0; cases h0; exact h0 (by rw [← e]; rfl)))).trans HS5.out.cell
            have hfr6 : w6.frozen? ⟨ga, A.length, none⟩ = false := (World.frozen?_of_block (hg6.block ga (by have := hb5t.size; omega) (fun e => by rcases own_ne HS5.out.row HT1.out.row (by decide) with h0 | h0; cases h0; exact h0 (by rw [← e]; rfl)))).trans (HS5.out.frozen _)
            obtain ⟨a6, c6, rfl, -⟩ := hG6.val
            clear hG6 hg6
            refine hK.out _ _ hH6 (fun hHeld => ?_)
            clear hK K
            try simp only [Act.put, List.setIfInBounds_toArray, List.set_cons_zero, List.set_cons_succ]
            refine takeH 10 42 (v := ?_) rfl rfl (by kernel_rfl) (by kernel_rfl) (by kernel_rfl) (fun _ _ _ h => h) (by rfl) (by assumption) ?_ ?_
            rotate_left
            · intro w hSw; have s0 := cell_of_row _ _ 0 _ _ _ hSw; have s1 := cell_of_row _ _ 1 _ _ _ hSw; have s2 := cell_of_row _ _ 2 _ _ _ hSw; have s3 := cell_of_row _ _ 3 _ _ _ hSw; go_simp; (first | done | with_reducible rfl | rfl)
            try simp only [Act.put, List.setIfInBounds_toArray, List.set_cons_zero, List.set_cons_succ]
            refine wpAnyH_ready (rs := [11]) (by decide +kernel) (by simp) ?_
            refine AllReadyH.cons rfl (fun K hK => ?_) AllReadyH.nil
            have hbne : wr.heap.size ≠ ga := by omega
            have hb7 := hb6.setCell (p := ⟨ga, A.length, none⟩) (by show w.heap.size ≤ ga; omega) (.slice a6 (M ++ [(⟨[.int .i64 l[k].kind, .string l[k].text, .bool l[k].spaced, .slice ao l[k].hidden.length c2], l[k], fp2⟩ : Elem Tok)]).length c6)
            have hH7 := blk_other hHeld hbne A.length (.slice a6 (M ++ [(⟨[.int .i64 l[k].kind, .string l[k].text, .bool l[k].spaced, .slice ao l[k].hidden.length c2], l[k], fp2⟩ : Elem Tok)]).length c6)
            simp only [List.length_append, List.length_cons, List.length_nil, Nat.zero_add] at hb7 hH7 HN ⊢
            go_simp
            refine hK.out _ _ hH7 (fun hHeld => ?_)
            clear hK K
            try simp only [Act.put, List.setIfInBounds_toArray, List.set_cons_zero, List.set_cons_succ]
            refine wpAnyH_done (by kernel_rfl) ?_ _
            refine NoPanic.normal ?_
            clear hHeld
            go_wp2
            go_roundw
            case rel => exact ⟨k + 1, _, _, A, M ++ [(⟨[.int .i64 l[k].kind, .string l[k].text, .bool l[k].spaced, .slice ao l[k].hidden.length c2], l[k], fp2⟩ : Elem Tok)], by omega, by go_num, rfl, by omega, by omega, by omega, by simp; omega, HN, by show _ = _; rw [← HF.out, List.map_append]; rfl, hb7⟩
            case measure => simp [intOf]; omega
          refine AllReadyH.cons rfl (fun K hK => ?_) AllReadyH.nil
          go_simp
          refine (HCP.out _ hcd).mono ?_
          rintro e w4 ⟨ao, c2, fp2, rfl, R2, O2, T2, hb4⟩
          have HS4 := Lib.hid (HSd.out.below hb4)
          have hb4t := hbd.trans (hb4.mono hbd.size)
          have hs4 := hb4.size
          have HTE := Lib.hid (HTD.out.below hb4)
          have HT4 := Lib.hid (And.intro R2 (And.intro O2 T2))
          clear R2 O2 T2
          refine hK.out _ _ ((hb4.block _ (Array.getElem?_eq_some_iff.1 hHeld).1).trans hHeld) (fun hHeld => ?_)
          clear hK K
          try simp only [Act.put, List.setIfInBounds_toArray, List.set_cons_zero, List.set_cons_succ]
          refine wpAnyH_ready (rs := [5, 8]) (by decide +kernel) (by simp) ?_
          refine AllReadyH.cons rfl (fun K hK => ?_) ?_
          · have hcell := HS4.out.cell
            go_simp
            refine hK.out _ _ hHeld (fun hHeld => ?_)
            clear hK K
            try simp only [Act.put, List.setIfInBounds_toArray, List.set_cons_zero, List.set_cons_succ]
            refine wpAnyH_ready (rs := [8]) (by decide +kernel) (by simp) ?_
            refine AllReadyH.cons rfl (fun K hK => ?_) AllReadyH.nil
            have bl := alloc_below' w4 (.cells #[.int .i64 l[k].kind, .string l[k].text, .bool l[k].spaced, .slice ao l[k].hidden.length c2] 56)
            have HL5 := Lib.hid (heap_alloc_new w4 (.cells #[.int .i64 l[k].kind, .string l[k].text, .bool l[k].spaced, .slice ao l[k].hidden.length c2] 56))
            have HS5 := Lib.hid (HS4.out.below bl)
            have HT1 := Lib.hid (HTE.out.below bl)
            have hb5t := hb4t.trans (bl.mono hb4t.size)
            have hs5 : (w4.alloc (.cells #[.int .i64 l[k].kind, .string l[k].text, .bool l[k].spaced, .slice ao l[k].hidden.length c2] 56)).heap.size = w4.heap.size + 1 := Array.size_push _
            have HT5 := Lib.hid (And.intro (sTok.below HT4.out.1 bl) (And.intro (HT4.out.2.1.grow bl) (show ∀ b ∈ fp2, ∃ cur t fr, (w4.alloc (.cells #[.int .i64 l[k].kind, .string l[k].text, .bool l[k].spaced, .slice ao l[k].hidden.length c2] 56)).heap[b]? = some (.cells cur t fr) ∧ t = 9 from fun b hb => by obtain ⟨cur, t, fr, z1, z2⟩ := HT4.out.2.2 b hb; exact ⟨cur, t, fr, (bl.block b (Array.getElem?_eq_some_iff.1 z1).1).trans z1, z2⟩)))
            have hH5 := (bl.block _ (Array.getElem?_eq_some_iff.1 hHeld).1).trans hHeld
            go_simp
            refine hK.out _ _ hH5 (fun hHeld => ?_)
            clear hK K bl
            try simp only [Act.put, List.setIfInBounds_toArray, List.set_cons_zero, List.set_cons_succ]
            generalize hw5 : (w4.alloc (.cells #[.int .i64 l[k].kind, .string l[k].text, .bool l[k].spaced, .slice ao l[k].hidden.length c2] 56)) = w5 at *
            clear hw5
            refine wpAnyH_ready (rs := [9]) (by decide +kernel) (by simp) ?_
            refine AllReadyH.cons rfl (fun K hK => ?_) AllReadyH.nil
            refine step_append_rowE (X := [(⟨[.int .i64 l[k].kind, .string l[k].text, .bool l[k].spaced, .slice ao l[k].hidden.length c2], l[k], fp2⟩ : Elem Tok)]) ti_tok rfl (by decide) _ 41 rfl rfl (.tmp 37) (.tmp 40) rfl top (.slice au M.length cu) rfl HT1.out w4.heap.size 1 1 rfl rfl (fun x hx => by obtain rfl := List.mem_singleton.1 hx; rfl) (fun x hx => by obtain rfl := List.mem_singleton.1 hx; simp [Value.oneCell']) (fun j u hj => by rw [cell_of_row _ _ _ _ _ _ HL5.out]; simpa using hj) (fun x hx => by obtain rfl := List.mem_singleton.1 hx; exact HT5.out.1) (fun x hx b hb => by obtain rfl := List.mem_singleton.1 hx; have := (HT5.out.2.1.2 b hb).1; omega) (fun x hx b hb => by obtain rfl := List.mem_singleton.1 hx; obtain ⟨cur, t, fr, z1, z2⟩ := HT5.out.2.2 b hb; exact ⟨cur, t, fr, z1, by rw [z2]; decide⟩) (by unfold maxLen; omega) (by omega) (by omega) ?_
            intro v6 w6 hG6 hg6
            have HN := Lib.hid (HS5.out.more (x := ⟨[.int .i64 l[k].kind, .string l[k].text, .bool l[k].spaced, .slice ao l[k].hidden.length c2], l[k], fp2⟩) HT1.out t2 (by omega) HTOP.out (HT5.out.2.1.lower (by omega)) HT5.out.2.2 (fun b hb hx => by have h1 := (HT5.out.2.1.2 b hb).1; have h2 := HOLD.out b hx; omega) hG6 hg6)
            have hb6 := hb5t.grown hg6 hb5t.size HS5.out.umine
            have hH6 := (hg6.block _ (Array.getElem?_eq_some_iff.1 hHeld).1 (fun e => by have := HULT.out _ e.symm; omega)).trans hHeld
            have hcell6 : w6.cell? ⟨ga, A.length, none⟩ = some (.slice au M.length cu) := (World.cell?_of_block (hg6.block ga (by have := hb5t.size; omega) (fun e => by rcases own_ne HS5.out.row HT1.out.row (by decide) with h0 | h0; cases h0; exact h0 (by rw [← e]; rfl)))).trans HS5.out.cell
            have hfr6 : w6.frozen? ⟨ga, A.length, none⟩ = false := (World.frozen?_of_block (hg6.block ga (by have := hb5t.size; omega) (fun e => by rcases own_ne HS5.out.row HT1.out.row (by decide) with h0 | h0; cases h0; exact h0 (by rw [← e]; rfl)))).trans (HS5.out.frozen _)
            obtain ⟨a6, c6, rfl, -⟩ := hG6.val
            clear hG6 hg6
            refine hK.out _ _ hH6 (fun hHeld => ?_)
            clear hK K
            try simp only [Act.put, List.setIfInBounds_toArray, List.set_cons_zero, List.set_cons_succ]
            refine takeH 10 42 (v := ?_) rfl rfl (by kernel_rfl) (by kernel_rfl) (by kernel_rfl) (fun _ _ _ h => h) (by rfl) (by assumption) ?_ ?_
            rotate_left
            · intro w hSw; have s0 := cell_of_row _ _ 0 _ _ _ hSw; have s1 := cell_of_row _ _ 1 _ _ _ hSw; have s2 := cell_of_row _ _ 2 _ _ _ hSw; have s3 := cell_of_row _ _ 3 _ _ _ hSw; go_simp; (first | done | with_reducible rfl | rfl)
            try simp only [Act.put, List.setIfInBounds_toArray, List.set_cons_zero, List.set_cons_succ]
            refine wpAnyH_ready (rs := [11]) (by decide +kernel) (by simp) ?_
            refine AllReadyH.cons rfl (fun K hK => ?_) AllReadyH.nil
            have hbne : wr.heap.size ≠ ga := by omega
            have hb7 := hb6.setCell (p := ⟨ga, A.length, none⟩) (by show w.heap.size ≤ ga; omega) (.slice a6 (M ++ [(⟨[.int .i64 l[k].kind, .string l[k].text, .bool l[k].spaced, .slice ao l[k].hidden.length c2], l[k], fp2⟩ : Elem Tok)]).length c6)
            have hH7 := blk_other hHeld hbne A.length (.slice a6 (M ++ [(⟨[.int .i64 l[k].kind, .string l[k].text, .bool l[k].spaced, .slice ao l[k].hidden.length c2], l[k], fp2⟩ : Elem Tok)]).length c6)
            simp only [List.length_append, List.length_cons, List.length_nil, Nat.zero_add] at hb7 hH7 HN ⊢
            go_simp
            refine hK.out _ _ hH7 (fun hHeld => ?_)
            clear hK K
            try simp only [Act.put, List.setIfInBounds_toArray, List.set_cons_zero, List.set_cons_succ]
            refine wpAnyH_done (by kernel_rfl) ?_ _
            refine NoPanic.normal ?_
            clear hHeld
            go_wp2
            go_roundw
            case rel => exact ⟨k + 1, _, _, A, M ++ [(⟨[.int .i64 l[k].kind, .string l[k].text, .bool l[k].spaced, .slice ao l[k].hidden.length c2], l[k], fp2⟩ : Elem Tok)], by omega, by go_num, rfl, by omega, by omega, by omega, by simp; omega, HN, by show _ = _; rw [← HF.out, List.map_append]; rfl, hb7⟩
            case measure => simp [intOf]; omega
          refine AllReadyH.cons rfl (fun K hK => ?_) AllReadyH.nil
          have bl := alloc_below' w4 (.cells #[.int .i64 l[k].kind, .string l[k].text, .bool l[k].spaced, .slice ao l[k].hidden.length c2] 56)
          have HL5 := Lib.hid (heap_alloc_new w4 (.cells #[.int .i64 l[k].kind, .string l[k].text, .bool l[k].spaced, .slice ao l[k].hidden.length c2] 56))
          have HS5 := Lib.hid (HS4.out.below bl)
          have HT1 := Lib.hid (HTE.out.below bl)
          have hb5t := hb4t.trans (bl.mono hb4t.size)
          have hs5 : (w4.alloc (.cells #[.int .i64 l[k].kind, .string l[k].text, .bool l[k].spaced, .slice ao l[k].hidden.length c2] 56)).heap.size = w4.heap.size + 1 := Array.size_push _
          have HT5 := Lib.hid (And.intro (sTok.below HT4.out.1 bl) (And.intro (HT4.out.2.1.grow bl) (show ∀ b ∈ fp2, ∃ cur t fr, (w4.alloc (.cells #[.int .i64 l[k].kind, .string l[k].text, .bool l[k].spaced, .slice ao l[k].hidden.length c2] 56)).heap[b]? = some (.cells cur t fr) ∧ t = 9 from fun b hb => by obtain ⟨cur, t, fr, z1, z2⟩ := HT4.out.2.2 b hb; exact ⟨cur, t, fr, (bl.block b (Array.getElem?_eq_some_iff.1 z1).1).trans z1, z2⟩)))
          have hH5 := (bl.block _ (Array.getElem?_eq_some_iff.1 hHeld).1).trans hHeld
          go_simp
          refine hK.out _ _ hH5 (fun hHeld => ?_)
          clear hK K bl
          try simp only [Act.put, List.setIfInBounds_toArray, List.set_cons_zero, List.set_cons_succ]
          generalize hw5 : (w4.alloc (.cells #[.int .i64 l[k].kind, .string l[k].text, .bool l[k].spaced, .slice ao l[k].hidden.length c2] 56)) = w5 at *
          clear hw5
          refine wpAnyH_ready (rs := [5]) (by decide +kernel) (by simp) ?_
          refine AllReadyH.cons rfl (fun K hK => ?_) AllReadyH.nil
          have hcell := HS5.out.cell
          go_simp
          refine hK.out _ _ hHeld (fun hHeld => ?_)
          clear hK K
          try simp only [Act.put, List.setIfInBounds_toArray, List.set_cons_zero, List.set_cons_succ]
          refine wpAnyH_ready (rs := [9]) (by decide +kernel) (by simp) ?_
          refine AllReadyH.cons rfl (fun K hK => ?_) AllReadyH.nil
          refine step_append_rowE (X := [(⟨[.int .i64 l[k].kind, .string l[k].text, .bool l[k].spaced, .slice ao l[k].hidden.length c2], l[k], fp2⟩ : Elem Tok)]) ti_tok rfl (by decide) _ 41 rfl rfl (.tmp 37) (.tmp 40) rfl top (.slice au M.length cu) rfl HT1.out w4.heap.size 1 1 rfl rfl (fun x hx => by obtain rfl := List.mem_singleton.1 hx; rfl) (fun x hx => by obtain rfl := List.mem_singleton.1 hx; simp [Value.oneCell']) (fun j u hj => by rw [cell_of_row _ _ _ _ _ _ HL5.out]; simpa using hj) (fun x hx => by obtain rfl := List.mem_singleton.1 hx; exact HT5.out.1) (fun x hx b hb => by obtain rfl := List.mem_singleton.1 hx; have := (HT5.out.2.1.2 b hb).1; omega) (fun x hx b hb => by obtain rfl := List.mem_singleton.1 hx; obtain ⟨cur, t, fr, z1, z2⟩ := HT5.out.2.2 b hb; exact ⟨cur, t, fr, z1, by rw [z2]; decide⟩) (by unfold maxLen; omega) (by omega) (by omega) ?_
          intro v6 w6 hG6 hg6
          have HN := Lib.hid (HS5.out.more (x := ⟨[.int .i64 l[k].kind, .string l[k].text, .bool l[k].spaced, .slice ao l[k].hidden.length c2], l[k], fp2⟩) HT1.out t2 (by omega) HTOP.out (HT5.out.2.1.lower (by omega)) HT5.out.2.2 (fun b hb hx => by have h1 := (HT5.out.2.1.2 b hb).1; have h2 := HOLD.out b hx; omega) hG6 hg6)
          have hb6 := hb5t.grown hg6 hb5t.size HS5.out.umine
          have hH6 := (hg6.block _ (Array.getElem?_eq_some_iff.1 hHeld).1 (fun e => by have := HULT.out _ e.symm; omega)).trans hHeld
          have hcell6 : w6.cell? ⟨ga, A.length, none⟩ = some (.slice au M.length cu) := (World.cell?_of_block (hg6.block ga (by have := hb5t.size; omega) (fun e => by rcases own_ne HS5.out.row HT1.out.row (by decide) with h0 | h0; cases h0; exact h0 (by rw [← e]; rfl)))).trans HS5.out.cell
          have hfr6 : w6.frozen? ⟨ga, A.length, none⟩ = false := (World.frozen?_of_block (hg6.block ga (by have := hb5t.size; omega) (fun e => by rcases own_ne HS5.out.row HT1.out.row (by decide) with h0 | h0; cases h0; exact h0 (by rw [← e]; rfl)))).trans (HS5.out.frozen _)
          obtain ⟨a6, c6, rfl, -⟩ := hG6.val
          clear hG6 hg6
          refine hK.out _ _ hH6 (fun hHeld => ?_)
          clear hK K
          try simp only [Act.put, List.setIfInBounds_toArray, List.set_cons_zero, List.set_cons_succ]
          refine takeH 10 42 (v := ?_) rfl rfl (by kernel_rfl) (by kernel_rfl) (by kernel_rfl) (fun _ _ _ h => h) (by rfl) (by assumption) ?_ ?_
          rotate_left
          · intro w hSw; have s0 := cell_of_row _ _ 0 _ _ _ hSw; have s1 := cell_of_row _ _ 1 _ _ _ hSw; have s2 := cell_of_row _ _ 2 _ _ _ hSw; have s3 := cell_of_row _ _ 3 _ _ _ hSw; go_simp; (first | done | with_reducible rfl | rfl)
          try simp only [Act.put, List.setIfInBounds_toArray, List.set_cons_zero, List.set_cons_succ]
          refine wpAnyH_ready (rs := [11]) (by decide +kernel) (by simp) ?_
          refine AllReadyH.cons rfl (fun K hK => ?_) AllReadyH.nil
          have hbne : wr.heap.size ≠ ga := by omega
          have hb7 := hb6.setCell (p := ⟨ga, A.length, none⟩) (by show w.heap.size ≤ ga; omega) (.slice a6 (M ++ [(⟨[.int .i64 l[k].kind, .string l[k].text, .bool l[k].spaced, .slice ao l[k].hidden.length c2], l[k], fp2⟩ : Elem Tok)]).length c6)
          have hH7 := blk_other hHeld hbne A.length (.slice a6 (M ++ [(⟨[.int .i64 l[k].kind, .string l[k].text, .bool l[k].spaced, .slice ao l[k].hidden.length c2], l[k], fp2⟩ : Elem Tok)]).length c6)
          simp only [List.length_append, List.length_cons, List.length_nil, Nat.zero_add] at hb7 hH7 HN ⊢
          go_simp
          refine hK.out _ _ hH7 (fun hHeld => ?_)
          clear hK K
          try simp only [Act.put, List.setIfInBounds_toArray, List.set_cons_zero, List.set_cons_succ]
          refine wpAnyH_done (by kernel_rfl) ?_ _
          refine NoPanic.normal ?_
          clear hHeld
          go_wp2
          go_roundw
          case rel => exact ⟨k + 1, _, _, A, M ++ [(⟨[.int .i64 l[k].kind, .string l[k].text, .bool l[k].spaced, .slice ao l[k].hidden.length c2], l[k], fp2⟩ : Elem Tok)], by omega, by go_num, rfl, by omega, by omega, by omega, by simp; omega, HN, by show _ = _; rw [← HF.out, List.map_append]; rfl, hb7⟩
          case measure => simp [intOf]; omega
        · have e0 : (dd == 0) = false := by simpa using h0
          clear hcomma hnc HCM hsz HUL HML
          go_wp2_with fail
          refine (HOP.out _ hbx).mono ?_
          rintro e w2 ⟨rfl, g2⟩
          have hc2 := hbx.trans (g2.mono hbx.size)
          have HX2 := Lib.hid ((g2.block _ (Array.getElem?_eq_some_iff.1 HX0.out).1).trans HX0.out)
          have HS2 := Lib.hid (HS1.out.below g2)
          have hb2 := hbw.trans (g2.mono hbw.size)
          have hi1 : (0 : Int) ≤ (A.length : Int) := by omega
          have hi2 : (A.length : Int) < (A.length : Int) + 1 := by omega
          have hgs2 := hc2.size
          clear c10 c11 c12 c13 HOP HS1 HX0 hbw hbx g2 hb
          go_wp2_with fail
          refine wp_region_noPanic ?_
          refine wp_region_held_drew (S := fun w' => w'.heap[wr.heap.size]? = some (.cells #[.int .i64 l[k].kind, .string l[k].text, .bool l[k].spaced, .slice ah l[k].hidden.length ch] 56 (0, 0))) (by kernel_rfl) (by exact HX2.out) (fun hHeld => ?_)
          have hdr : Below w2.heap.size w2 w2.drew := belowN (Below.refl _ _) 1
          have HSd := Lib.hid (HS2.out.below hdr)
          have hbd := hb2.trans (hdr.mono hb2.size)
          have hcd := hc2.trans (hdr.mono hc2.size)
          have hwd := hcd.size
          obtain ⟨top, t1, t2, t3, t4⟩ := HSd.out.inn
          have HTD := Lib.hid t1
          have HTOP := Lib.hid t4
          clear t1 t4
          clear HS2 HX2 hdr
          generalize w2.drew = wd at *
          refine takeH 0 32 (v := ?_) rfl rfl (by kernel_rfl) (by kernel_rfl) (by kernel_rfl) (fun _ _ _ h => h) (by rfl) (by assumption) ?_ ?_
          rotate_left
          · intro w hSw; have s0 := cell_of_row _ _ 0 _ _ _ hSw; have s1 := cell_of_row _ _ 1 _ _ _ hSw; have s2 := cell_of_row _ _ 2 _ _ _ hSw; have s3 := cell_of_row _ _ 3 _ _ _ hSw; go_simp; (first | done | with_reducible rfl | rfl)
          try simp only [Act.put, List.setIfInBounds_toArray, List.set_cons_zero, List.set_cons_succ]
          refine takeH 1 33 (v := ?_) rfl rfl (by kernel_rfl) (by kernel_rfl) (by kernel_rfl) (fun _ _ _ h => h) (by rfl) (by assumption) ?_ ?_
          rotate_left
          · intro w hSw; have s0 := cell_of_row _ _ 0 _ _ _ hSw; have s1 := cell_of_row _ _ 1 _ _ _ hSw; have s2 := cell_of_row _ _ 2 _ _ _ hSw; have s3 := cell_of_row _ _ 3 _ _ _ hSw; go_simp; (first | done | with_reducible rfl | rfl)
          try simp only [Act.put, List.setIfInBounds_toArray, List.set_cons_zero, List.set_cons_succ]
          refine takeH 2 34 (v := ?_) rfl rfl (by kernel_rfl) (by kernel_rfl) (by kernel_rfl) (fun _ _ _ h => h) (by rfl) (by assumption) ?_ ?_
          rotate_left
          · intro w hSw; have s0 := cell_of_row _ _ 0 _ _ _ hSw; have s1 := cell_of_row _ _ 1 _ _ _ hSw; have s2 := cell_of_row _ _ 2 _ _ _ hSw; have s3 := cell_of_row _ _ 3 _ _ _ hSw; go_simp; (first | done | with_reducible rfl | rfl)
          try simp only [Act.put, List.setIfInBounds_toArray, List.set_cons_zero, List.set_cons_succ]
          refine takeH 3 35 (v := ?_) rfl rfl (by kernel_rfl) (by kernel_rfl) (by kernel_rfl) (fun _ _ _ h => h) (by rfl) (by assumption) ?_ ?_
          rotate_left
          · intro w hSw; have s0 := cell_of_row _ _ 0 _ _ _ hSw; have s1 := cell_of_row _ _ 1 _ _ _ hSw; have s2 := cell_of_row _ _ 2 _ _ _ hSw; have s3 := cell_of_row _ _ 3 _ _ _ hSw; go_simp; (first | done | with_reducible rfl | rfl)
          try simp only [Act.put, List.setIfInBounds_toArray, List.set_cons_zero, List.set_cons_succ]
          refine takeH 4 36 (v := ?_) rfl rfl (by kernel_rfl) (by kernel_rfl) (by kernel_rfl) (fun _ _ _ h => h) (by rfl) (by assumption) ?_ ?_
          rotate_left
          · intro w hSw; have s0 := cell_of_row _ _ 0 _ _ _ hSw; have s1 := cell_of_row _ _ 1 _ _ _ hSw; have s2 := cell_of_row _ _ 2 _ _ _ hSw; have s3 := cell_of_row _ _ 3 _ _ _ hSw; go_simp; (first | done | with_reducible rfl | rfl)
          try simp only [Act.put, List.setIfInBounds_toArray, List.set_cons_zero, List.set_cons_succ]
          refine takeH 6 38 (v := ?_) rfl rfl (by kernel_rfl) (by kernel_rfl) (by kernel_rfl) (fun _ _ _ h => h) (by rfl) (by assumption) ?_ ?_
          rotate_left
          · intro w hSw; have s0 := cell_of_row _ _ 0 _ _ _ hSw; have s1 := cell_of_row _ _ 1 _ _ _ hSw; have s2 := cell_of_row _ _ 2 _ _ _ hSw; have s3 := cell_of_row _ _ 3 _ _ _ hSw; go_simp; (first | done | with_reducible rfl | rfl)
          try simp only [Act.put, List.setIfInBounds_toArray, List.set_cons_zero, List.set_cons_succ]
          refine wpAnyH_ready (rs := [5, 7]) (by decide +kernel) (by simp) ?_
          refine AllReadyH.cons rfl (fun K hK => ?_) ?_
          · have hcell := HSd.out.cell
            go_simp
            refine hK.out _ _ hHeld (fun hHeld => ?_)
            clear hK K
            try simp only [Act.put, List.setIfInBounds_toArray, List.set_cons_zero, List.set_cons_succ]
            refine wpAnyH_ready (rs := [7]) (by decide +kernel) (by simp) ?_
            refine AllReadyH.cons rfl (fun K hK => ?_) AllReadyH.nil
            go_simp
            refine (HCP.out _ hcd).mono ?_
            rintro e w4 ⟨ao, c2, fp2, rfl, R2, O2, T2, hb4⟩
            have HS4 := Lib.hid (HSd.out.below hb4)
            have hb4t := hbd.trans (hb4.mono hbd.size)
            have hs4 := hb4.size
            have HTE := Lib.hid (HTD.out.below hb4)
            have HT4 := Lib.hid (And.intro R2 (And.intro O2 T2))
            clear R2 O2 T2
            refine hK.out _ _ ((hb4.block _ (Array.getElem?_eq_some_iff.1 hHeld).1).trans hHeld) (fun hHeld => ?_)
            clear hK K
            try simp only [Act.put, List.setIfInBounds_toArray, List.set_cons_zero, List.set_cons_succ]
            refine wpAnyH_ready (rs := [8]) (by decide +kernel) (by simp) ?_
            refine AllReadyH.cons rfl (fun K hK => ?_) AllReadyH.nil
            have bl := alloc_below' w4 (.cells #[.int .i64 l[k].kind, .string l[k].text, .bool l[k].spaced, .slice ao l[k].hidden.length c2] 56)
            have HL5 := Lib.hid (heap_alloc_new w4 (.cells #[.int .i64 l[k].kind, .string l[k].text, .bool l[k].spaced, .slice ao l[k].hidden.length c2] 56))
            have HS5 := Lib.hid (HS4.out.below bl)
            have HT1 := Lib.hid (HTE.out.below bl)
            have hb5t := hb4t.trans (bl.mono hb4t.size)
            have hs5 : (w4.alloc (.cells #[.int .i64 l[k].kind, .string l[k].text, .bool l[k].spaced, .slice ao l[k].hidden.length c2] 56)).heap.size = w4.heap.size + 1 := Array.size_push _
            have HT5 := Lib.hid (And.intro (sTok.below HT4.out.1 bl) (And.intro (HT4.out.2.1.grow bl) (show ∀ b ∈ fp2, ∃ cur t fr, (w4.alloc (.cells #[.int .i64 l[k].kind, .string l[k].text, .bool l[k].spaced, .slice ao l[k].hidden.length c2] 56)).heap[b]? = some (.cells cur t fr) ∧ t = 9 from fun b hb => by obtain ⟨cur, t, fr, z1, z2⟩ := HT4.out.2.2 b hb; exact ⟨cur, t, fr, (bl.block b (Array.getElem?_eq_some_iff.1 z1).1).trans z1, z2⟩)))
            have hH5 := (bl.block _ (Array.getElem?_eq_some_iff.1 hHeld).1).trans hHeld
            go_simp
            refine hK.out _ _ hH5 (fun hHeld => ?_)
            clear hK K bl
            try simp only [Act.put, List.setIfInBounds_toArray, List.set_cons_zero, List.set_cons_succ]
            generalize hw5 : (w4.alloc (.cells #[.int .i64 l[k].kind, .string l[k].text, .bool l[k].spaced, .slice ao l[k].hidden.length c2] 56)) = w5 at *
            clear hw5
            refine wpAnyH_ready (rs := [9]) (by decide +kernel) (by simp) ?_
            refine AllReadyH.cons rfl (fun K hK => ?_) AllReadyH.nil
            refine step_append_rowE (X := [(⟨[.int .i64 l[k].kind, .string l[k].text, .bool l[k].spaced, .slice ao l[k].hidden.length c2], l[k], fp2⟩ : Elem Tok)]) ti_tok rfl (by decide) _ 41 rfl rfl (.tmp 37) (.tmp 40) rfl top (.slice au M.length cu) rfl HT1.out w4.heap.size 1 1 rfl rfl (fun x hx => by obtain rfl := List.mem_singleton.1 hx; rfl) (fun x hx => by obtain rfl := List.mem_singleton.1 hx; simp [Value.oneCell']) (fun j u hj => by rw [cell_of_row _ _ _ _ _ _ HL5.out]; simpa using hj) (fun x hx => by obtain rfl := List.mem_singleton.1 hx; exact HT5.out.1) (fun x hx b hb => by obtain rfl := List.mem_singleton.1 hx; have := (HT5.out.2.1.2 b hb).1; omega) (fun x hx b hb => by obtain rfl := List.mem_singleton.1 hx; obtain ⟨cur, t, fr, z1, z2⟩ := HT5.out.2.2 b hb; exact ⟨cur, t, fr, z1, by rw [z2]; decide⟩) (by unfold maxLen; omega) (by omega) (by omega) ?_
            intro v6 w6 hG6 hg6
            have HN := Lib.hid (HS5.out.more (x := ⟨[.int .i64 l[k].kind, .string l[k].text, .bool l[k].spaced, .slice ao l[k].hidden.length c2], l[k], fp2⟩) HT1.out t2 (by omega) HTOP.out (HT5.out.2.1.lower (by omega)) HT5.out.2.2 (fun b hb hx => by have h1 := (HT5.out.2.1.2 b hb).1; have h2 := HOLD.out b hx; omega) hG6 hg6)
            have hb6 := hb5t.grown hg6 hb5t.size HS5.out.umine
            have hH6 := (hg6.block _ (Array.getElem?_eq_some_iff.1 hHeld).1 (fun e => by have := HULT.out _ e.symm; omega)).trans hHeld
            have hcell6 : w6.cell? ⟨ga, A.length, none⟩ = some (.slice au M.length cu) := (World.cell?_of_block (hg6.block ga (by have := hb5t.size; omega) (fun e => by rcases own_ne HS5.out.row HT1.out.row (by decide) with h0 | h0; cases h0; exact h0 (by rw [← e]; rfl)))).trans HS5.out.cell
            have hfr6 : w6.frozen? ⟨ga, A.length, none⟩ = false := (World.frozen?_of_block (hg6.block ga (by have := hb5t.size; omega) (fun e => by rcases own_ne HS5.out.row HT1.out.row (by decide) with h0 | h0; cases h0; exact h0 (by rw [← e]; rfl)))).trans (HS5.out.frozen _)
            obtain ⟨a6, c6, rfl, -⟩ := hG6.val
            clear hG6 hg6
            refine hK.out _ _ hH6 (fun hHeld => ?_)
            clear hK K
            try simp only [Act.put, List.setIfInBounds_toArray, List.set_cons_zero, List.set_cons_succ]
            refine takeH 10 42 (v := ?_) rfl rfl (by kernel_rfl) (by kernel_rfl) (by kernel_rfl) (fun _ _ _ h => h) (by rfl) (by assumption) ?_ ?_
            rotate_left
            · intro w hSw; have s0 := cell_of_row _ _ 0 _ _ _ hSw; have s1 := cell_of_row _ _ 1 _ _ _ hSw; have s2 := cell_of_row _ _ 2 _ _ _ hSw; have s3 := cell_of_row _ _ 3 _ _ _ hSw; go_simp; (first | done | with_reducible rfl | rfl)
            try simp only [Act.put, List.setIfInBounds_toArray, List.set_cons_zero, List.set_cons_succ]
            refine wpAnyH_ready (rs := [11]) (by decide +kernel) (by simp) ?_
            refine AllReadyH.cons rfl (fun K hK => ?_) AllReadyH.nil
            have hbne : wr.heap.size ≠ ga := by omega
            have hb7 := hb6.setCell (p := ⟨ga, A.length, none⟩) (by show w.heap.size ≤ ga; omega) (.slice a6 (M ++ [(⟨[.int .i64 l[k].kind, .string l[k].text, .bool l[k].spaced, .slice ao l[k].hidden.length c2], l[k], fp2⟩ : Elem Tok)]).length c6)
            have hH7 := blk_other hHeld hbne A.length (.slice a6 (M ++ [(⟨[.int .i64 l[k].kind, .string l[k].text, .bool l[k].spaced, .slice ao l[k].hidden.length c2], l[k], fp2⟩ : Elem Tok)]).length c6)
            simp only [List.length_append, List.length_cons, List.length_nil, Nat.zero_add] at hb7 hH7 HN ⊢
            go_simp
            refine hK.out _ _ hH7 (fun hHeld => ?_)
            clear hK K
            try simp only [Act.put, List.setIfInBounds_toArray, List.set_cons_zero, List.set_cons_succ]
            refine wpAnyH_done (by kernel_rfl) ?_ _
            refine NoPanic.normal ?_
            clear hHeld
            go_wp2
            go_roundw
            case rel => exact ⟨k + 1, _, _, A, M ++ [(⟨[.int .i64 l[k].kind, .string l[k].text, .bool l[k].spaced, .slice ao l[k].hidden.length c2], l[k], fp2⟩ : Elem Tok)], by omega, by go_num, rfl, by omega, by omega, by omega, by simp; omega, HN, by show _ = _; rw [← HF.out, List.map_append]; rfl, hb7⟩
            case measure => simp [intOf]; omega
          refine AllReadyH.cons rfl (fun K hK => ?_) AllReadyH.nil
          go_simp
          refine (HCP.out _ hcd).mono ?_
          rintro e w4 ⟨ao, c2, fp2, rfl, R2, O2, T2, hb4⟩
          have HS4 := Lib.hid (HSd.out.below hb4)
          have hb4t := hbd.trans (hb4.mono hbd.size)
          have hs4 := hb4.size
          have HTE := Lib.hid (HTD.out.below hb4)
          have HT4 := Lib.hid (And.intro R2 (And.intro O2 T2))
          clear R2 O2 T2
          refine hK.out _ _ ((hb4.block _ (Array.getElem?_eq_some_iff.1 hHeld).1).trans hHeld) (fun hHeld => ?_)
          clear hK K
          try simp only [Act.put, List.setIfInBounds_toArray, List.set_cons_zero, List.set_cons_succ]
          refine wpAnyH_ready (rs := [5, 8]) (by decide +kernel) (by simp) ?_
          refine AllReadyH.cons rfl (fun K hK => ?_) ?_
          · have hcell := HS4.out.cell
            go_simp
            refine hK.out _ _ hHeld (fun hHeld => ?_)
            clear hK K
            try simp only [Act.put, List.setIfInBounds_toArray, List.set_cons_zero, List.set_cons_succ]
            refine wpAnyH_ready (rs := [8]) (by decide +kernel) (by simp) ?_
            refine AllReadyH.cons rfl (fun K hK => ?_) AllReadyH.nil
            have bl := alloc_below' w4 (.cells #[.int .i64 l[k].kind, .string l[k].text, .bool l[k].spaced, .slice ao l[k].hidden.length c2] 56)
            have HL5 := Lib.hid (heap_alloc_new w4 (.cells #[.int .i64 l[k].kind, .string l[k].text, .bool l[k].spaced, .slice ao l[k].hidden.length c2] 56))
            have HS5 := Lib.hid (HS4.out.below bl)
            have HT1 := Lib.hid (HTE.out.below bl)
            have hb5t := hb4t.trans (bl.mono hb4t.size)
            have hs5 : (w4.alloc (.cells #[.int .i64 l[k].kind, .string l[k].text, .bool l[k].spaced, .slice ao l[k].hidden.length c2] 56)).heap.size = w4.heap.size + 1 := Array.size_push _
            have HT5 := Lib.hid (And.intro (sTok.below HT4.out.1 bl) (And.intro (HT4.out.2.1.grow bl) (show ∀ b ∈ fp2, ∃ cur t fr, (w4.alloc (.cells #[.int .i64 l[k].kind, .string l[k].text, .bool l[k].spaced, .slice ao l[k].hidden.length c2] 56)).heap[b]? = some (.cells cur t fr) ∧ t = 9 from fun b hb => by obtain ⟨cur, t, fr, z1, z2⟩ := HT4.out.2.2 b hb; exact ⟨cur, t, fr, (bl.block b (Array.getElem?_eq_some_iff.1 z1).1).trans z1, z2⟩)))
            have hH5 := (bl.block _ (Array.getElem?_eq_some_iff.1 hHeld).1).trans hHeld
            go_simp
            refine hK.out _ _ hH5 (fun hHeld => ?_)
            clear hK K bl
            try simp only [Act.put, List.setIfInBounds_toArray, List.set_cons_zero, List.set_cons_succ]
            generalize hw5 : (w4.alloc (.cells #[.int .i64 l[k].kind, .string l[k].text, .bool l[k].spaced, .slice ao l[k].hidden.length c2] 56)) = w5 at *
            clear hw5
            refine wpAnyH_ready (rs := [9]) (by decide +kernel) (by simp) ?_
            refine AllReadyH.cons rfl (fun K hK => ?_) AllReadyH.nil
            refine step_append_rowE (X := [(⟨[.int .i64 l[k].kind, .string l[k].text, .bool l[k].spaced, .slice ao l[k].hidden.length c2], l[k], fp2⟩ : Elem Tok)]) ti_tok rfl (by decide) _ 41 rfl rfl (.tmp 37) (.tmp 40) rfl top (.slice au M.length cu) rfl HT1.out w4.heap.size 1 1 rfl rfl (fun x hx => by obtain rfl := List.mem_singleton.1 hx; rfl) (fun x hx => by obtain rfl := List.mem_singleton.1 hx; simp [Value.oneCell']) (fun j u hj => by rw [cell_of_row _ _ _ _ _ _ HL5.out]; simpa using hj) (fun x hx => by obtain rfl := List.mem_singleton.1 hx; exact HT5.out.1) (fun x hx b hb => by obtain rfl := List.mem_singleton.1 hx; have := (HT5.out.2.1.2 b hb).1; omega) (fun x hx b hb => by obtain rfl := List.mem_singleton.1 hx; obtain ⟨cur, t, fr, z1, z2⟩ := HT5.out.2.2 b hb; exact ⟨cur, t, fr, z1, by rw [z2]; decide⟩) (by unfold maxLen; omega) (by omega) (by omega) ?_
            intro v6 w6 hG6 hg6
            have HN := Lib.hid (HS5.out.more (x := ⟨[.int .i64 l[k].kind, .string l[k].text, .bool l[k].spaced, .slice ao l[k].hidden.length c2], l[k], fp2⟩) HT1.out t2 (by omega) HTOP.out (HT5.out.2.1.lower (by omega)) HT5.out.2.2 (fun b hb hx => by have h1 := (HT5.out.2.1.2 b hb).1; have h2 := HOLD.out b hx; omega) hG6 hg6)
            have hb6 := hb5t.grown hg6 hb5t.size HS5.out.umine
            have hH6 := (hg6.block _ (Array.getElem?_eq_some_iff.1 hHeld).1 (fun e => by have := HULT.out _ e.symm; omega)).trans hHeld
            have hcell6 : w6.cell? ⟨ga, A.length, none⟩ = some (.slice au M.length cu) := (World.cell?_of_block (hg6.block ga (by have := hb5t.size; omega) (fun e => by rcases own_ne HS5.out.row HT1.out.row (by decide) with h0 | h0; cases h0; exact h0 (by rw [← e]; rfl)))).trans HS5.out.cell
            have hfr6 : w6.frozen? ⟨ga, A.length, none⟩ = false := (World.frozen?_of_block (hg6.block ga (by have := hb5t.size; omega) (fun e => by rcases own_ne HS5.out.row HT1.out.row (by decide) with h0 | h0; cases h0; exact h0 (by rw [← e]; rfl)))).trans (HS5.out.frozen _)
            obtain ⟨a6, c6, rfl, -⟩ := hG6.val
            clear hG6 hg6
            refine hK.out _ _ hH6 (fun hHeld => ?_)
            clear hK K
            try simp only [Act.put, List.setIfInBounds_toArray, List.set_cons_zero, List.set_cons_succ]
            refine takeH 10 42 (v := ?_) rfl rfl (by kernel_rfl) (by kernel_rfl) (by kernel_rfl) (fun _ _ _ h => h) (by rfl) (by assumption) ?_ ?_
            rotate_left
            · intro w hSw; have s0 := cell_of_row _ _ 0 _ _ _ hSw; have s1 := cell_of_row _ _ 1 _ _ _ hSw; have s2 := cell_of_row _ _ 2 _ _ _ hSw; have s3 := cell_of_row _ _ 3 _ _ _ hSw; go_simp; (first | done | with_reducible rfl | rfl)
            try simp only [Act.put, List.setIfInBounds_toArray, List.set_cons_zero, List.set_cons_succ]
            refine wpAnyH_ready (rs := [11]) (by decide +kernel) (by simp) ?_
            refine AllReadyH.cons rfl (fun K hK => ?_) AllReadyH.nil
            have hbne : wr.heap.size ≠ ga := by omega
            have hb7 := hb6.setCell (p := ⟨ga, A.length, none⟩) (by show w.heap.size ≤ ga; omega) (.slice a6 (M ++ [(⟨[.int .i64 l[k].kind, .string l[k].text, .bool l[k].spaced, .slice ao l[k].hidden.length c2], l[k], fp2⟩ : Elem Tok)]).length c6)
            have hH7 := blk_other hHeld hbne A.length (.slice a6 (M ++ [(⟨[.int .i64 l[k].kind, .string l[k].text, .bool l[k].spaced, .slice ao l[k].hidden.length c2], l[k], fp2⟩ : Elem Tok)]).length c6)
            simp only [List.length_append, List.length_cons, List.length_nil, Nat.zero_add] at hb7 hH7 HN ⊢
            go_simp
            refine hK.out _ _ hH7 (fun hHeld => ?_)
            clear hK K
            try simp only [Act.put, List.setIfInBounds_toArray, List.set_cons_zero, List.set_cons_succ]
            refine wpAnyH_done (by kernel_rfl) ?_ _
            refine NoPanic.normal ?_
            clear hHeld
            go_wp2
            go_roundw
            case rel => exact ⟨k + 1, _, _, A, M ++ [(⟨[.int .i64 l[k].kind, .string l[k].text, .bool l[k].spaced, .slice ao l[k].hidden.length c2], l[k], fp2⟩ : Elem Tok)], by omega, by go_num, rfl, by omega, by omega, by omega, by simp; omega, HN, by show _ = _; rw [← HF.out, List.map_append]; rfl, hb7⟩
            case measure => simp [intOf]; omega
          refine AllReadyH.cons rfl (fun K hK => ?_) AllReadyH.nil
          have bl := alloc_below' w4 (.cells #[.int .i64 l[k].kind, .string l[k].text, .bool l[k].spaced, .slice ao l[k].hidden.length c2] 56)
          have HL5 := Lib.hid (heap_alloc_new w4 (.cells #[.int .i64 l[k].kind, .string l[k].text, .bool l[k].spaced, .slice ao l[k].hidden.length c2] 56))
          have HS5 := Lib.hid (HS4.out.below bl)
          have HT1 := Lib.hid (HTE.out.below bl)
          have hb5t := hb4t.trans (bl.mono hb4t.size)
          have hs5 : (w4.alloc (.cells #[.int .i64 l[k].kind, .string l[k].text, .bool l[k].spaced, .slice ao l[k].hidden.length c2] 56)).heap.size = w4.heap.size + 1 := Array.size_push _
          have HT5 := Lib.hid (And.intro (sTok.below HT4.out.1 bl) (And.intro (HT4.out.2.1.grow bl) (show ∀ b ∈ fp2, ∃ cur t fr, (w4.alloc (.cells #[.int .i64 l[k].kind, .string l[k].text, .bool l[k].spaced, .slice ao l[k].hidden.length c2] 56)).heap[b]? = some (.cells cur t fr) ∧ t = 9 from fun b hb => by obtain ⟨cur, t, fr, z1, z2⟩ := HT4.out.2.2 b hb; exact ⟨cur, t, fr, (bl.block b (Array.getElem?_eq_some_iff.1 z1).1).trans z1, z2⟩)))
          have hH5 := (bl.block _ (Array.getElem?_eq_some_iff.1 hHeld).1).trans hHeld
          go_simp
          refine hK.out _ _ hH5 (fun hHeld => ?_)
          clear hK K bl
          try simp only [Act.put, List.setIfInBounds_toArray, List.set_cons_zero, List.set_cons_succ]
          generalize hw5 : (w4.alloc (.cells #[.int .i64 l[k].kind, .string l[k].text, .bool l[k].spaced, .slice ao l[k].hidden.length c2] 56)) = w5 at *
          clear hw5
          refine wpAnyH_ready (rs := [5]) (by decide +kernel) (by simp) ?_
          refine AllReadyH.cons rfl (fun K hK => ?_) AllReadyH.nil
          have hcell := HS5.out.cell
          go_simp
          refine hK.out _ _ hHeld (fun hHeld => ?_)
          clear hK K
          try simp only [Act.put, List.setIfInBounds_toArray, List.set_cons_zero, List.set_cons_succ]
          refine wpAnyH_ready (rs := [9]) (by decide +kernel) (by simp) ?_
          refine AllReadyH.cons rfl (fun K hK => ?_) AllReadyH.nil
          refine step_append_rowE (X := [(⟨[.int .i64 l[k].kind, .string l[k].text, .bool l[k].spaced, .slice ao l[k].hidden.length c2], l[k], fp2⟩ : Elem Tok)]) ti_tok rfl (by decide) _ 41 rfl rfl (.tmp 37) (.tmp 40) rfl top (.slice au M.length cu) rfl HT1.out w4.heap.size 1 1 rfl rfl (fun x hx => by obtain rfl := List.mem_singleton.1 hx; rfl) (fun x hx => by obtain rfl := List.mem_singleton.1 hx; simp [Value.oneCell']) (fun j u hj => by rw [cell_of_row _ _ _ _ _ _ HL5.out]; simpa using hj) (fun x hx => by obtain rfl := List.mem_singleton.1 hx; exact HT5.out.1) (fun x hx b hb => by obtain rfl := List.mem_singleton.1 hx; have := (HT5.out.2.1.2 b hb).1; omega) (fun x hx b hb => by obtain rfl := List.mem_singleton.1 hx; obtain ⟨cur, t, fr, z1, z2⟩ := HT5.out.2.2 b hb; exact ⟨cur, t, fr, z1, by rw [z2]; decide⟩) (by unfold maxLen; omega) (by omega) (by omega) ?_
          intro v6 w6 hG6 hg6
          have HN := Lib.hid (HS5.out.more (x := ⟨[.int .i64 l[k].kind, .string l[k].text, .bool l[k].spaced, .slice ao l[k].hidden.length c2], l[k], fp2⟩) HT1.out t2 (by omega) HTOP.out (HT5.out.2.1.lower (by omega)) HT5.out.2.2 (fun b hb hx => by have h1 := (HT5.out.2.1.2 b hb).1; have h2 := HOLD.out b hx; omega) hG6 hg6)
          have hb6 := hb5t.grown hg6 hb5t.size HS5.out.umine
          have hH6 := (hg6.block _ (Array.getElem?_eq_some_iff.1 hHeld).1 (fun e => by have := HULT.out _ e.symm; omega)).trans hHeld
          have hcell6 : w6.cell? ⟨ga, A.length, none⟩ = some (.slice au M.length cu) := (World.cell?_of_block (hg6.block ga (by have := hb5t.size; omega) (fun e => by rcases own_ne HS5.out.row HT1.out.row (by decide) with h0 | h0; cases h0; exact h0 (by rw [← e]; rfl)))).trans HS5.out.cell
          have hfr6 : w6.frozen? ⟨ga, A.length, none⟩ = false := (World.frozen?_of_block (hg6.block ga (by have := hb5t.size; omega) (fun e => by rcases own_ne HS5.out.row HT1.out.row (by decide) with h0 | h0; cases h0; exact h0 (by rw [← e]; rfl)))).trans (HS5.out.frozen _)
          obtain ⟨a6, c6, rfl, -⟩ := hG6.val
          clear hG6 hg6
          refine hK.out _ _ hH6 (fun hHeld => ?_)
          clear hK K
          try simp only [Act.put, List.setIfInBounds_toArray, List.set_cons_zero, List.set_cons_succ]
          refine takeH 10 42 (v := ?_) rfl rfl (by kernel_rfl) (by kernel_rfl) (by kernel_rfl) (fun _ _ _ h => h) (by rfl) (by assumption) ?_ ?_
          rotate_left
          · intro w hSw; have s0 := cell_of_row _ _ 0 _ _ _ hSw; have s1 := cell_of_row _ _ 1 _ _ _ hSw; have s2 := cell_of_row _ _ 2 _ _ _ hSw; have s3 := cell_of_row _ _ 3 _ _ _ hSw; go_simp; (first | done | with_reducible rfl | rfl)
          try simp only [Act.put, List.setIfInBounds_toArray, List.set_cons_zero, List.set_cons_succ]
          refine wpAnyH_ready (rs := [11]) (by decide +kernel) (by simp) ?_
          refine AllReadyH.cons rfl (fun K hK => ?_) AllReadyH.nil
          have hbne : wr.heap.size ≠ ga := by omega
          have hb7 := hb6.setCell (p := ⟨ga, A.length, none⟩) (by show w.heap.size ≤ ga; omega) (.slice a6 (M ++ [(⟨[.int .i64 l[k].kind, .string l[k].text, .bool l[k].spaced, .slice ao l[k].hidden.length c2], l[k], fp2⟩ : Elem Tok)]).length c6)
          have hH7 := blk_other hHeld hbne A.length (.slice a6 (M ++ [(⟨[.int .i64 l[k].kind, .string l[k].text, .bool l[k].spaced, .slice ao l[k].hidden.length c2], l[k], fp2⟩ : Elem Tok)]).length c6)
          simp only [List.length_append, List.length_cons, List.length_nil, Nat.zero_add] at hb7 hH7 HN ⊢
          go_simp
          refine hK.out _ _ hH7 (fun hHeld => ?_)
          clear hK K
          try simp only [Act.put, List.setIfInBounds_toArray, List.set_cons_zero, List.set_cons_succ]
          refine wpAnyH_done (by kernel_rfl) ?_ _
          refine NoPanic.normal ?_
          clear hHeld
          go_wp2
          go_roundw
          case rel => exact ⟨k + 1, _, _, A, M ++ [(⟨[.int .i64 l[k].kind, .string l[k].text, .bool l[k].spaced, .slice ao l[k].hidden.length c2], l[k], fp2⟩ : Elem Tok)], by omega, by go_num, rfl, by omega, by omega, by omega, by simp; omega, HN, by show _ = _; rw [← HF.out, List.map_append]; rfl, hb7⟩
          case measure => simp [intOf]; omega
    · have HF := Lib.hid ((dvGo_end (by omega : l.length ≤ k) dd _ _).symm.trans HI.out)
      obtain ⟨fpr, hr, ho⟩ := HS.out.done
      have HRR := Lib.hid hr
      have HOO := Lib.hid ho
      clear HI hr ho
      go_wp2
      go_ret
      exact ⟨_, fpr, rfl, by rw [← HF.out]; exact HRR.out, HOO.out, hb⟩

/-- What SplitArguments of the program answers. -/
def MineArgs (r : Args × Int × Bool) (w : World) (e : Ending) (w' : World) : Prop :=
  ∃ (v : Value) (fp : List Nat), e = .returned (.tuple #[v, .int .i64 r.2.1, .bool r.2.2]) ∧ (sSlice sToks).R w' [v] r.1 fp ∧ Own w' w.heap.size fp ∧ Below w.heap.size w w'
theorem clGo_start {l : List Tok} {n : Nat} (hn : n < l.length) (h : isOpen l[n] = true) : clGo (l.drop n) 0 n = clGo (l.drop (n + 1)) 1 (n + 1) := by
  rw [clGo_step hn, opn_open h, if_neg (by omega)]; rfl

set_option maxHeartbeats 8000000 in
set_option maxRecDepth 100000 in
theorem impl_SplitArguments (v : Value) (l : List Tok) (fp : List Nat) (i : Int) (w : World) (hx : ∀ k, (hk : k < l.length) → l[k].hidden.length ≤ 2000000) (H : (sSlice sTok).R w [v] l fp) :
    Calls Try.prog 21 #[v, .int .i64 i] w (MineArgs (splitA l i) w) := by
  have HV := Lib.hid (impl_TokensValid v l fp w H)
  have HR1 := Lib.hid H
  obtain ⟨a1, c1, rfl, hc1, hm1, hrow⟩ := open_rows H
  unfold maxLen at hm1
  clear H
  have hNo : ∀ (W : World), Below w.heap.size w W → splitA l i = ([], 0, false) → MineArgs (splitA l i) w (.returned (.tuple #[.slice none 0 0, .int .i64 0, .bool false])) W := fun W hW h => by
    rw [h]
    exact ⟨_, [], rfl, slice_empty sToks _ _ 0 (by simp), Own.nil _ _, hW⟩
  have HNO := Lib.hid hNo
  clear hNo
  go_enter Try.func21, Try.ntmps21
  cases hv : toksOk l
  · rw [hv] at HV
    have HF := Lib.hid (splitA_bad (a := i) hv)
    clear hv hrow
    go_wp2_with fail
    refine HV.out.mono ?_
    rintro e w2 ⟨rfl, hb2⟩
    go_wp2
    go_ret3
    exact HNO.out _ hb2 HF.out
  have hl60 : l.length ≤ 60 := (toksOk_facts hv).1
  rw [hv] at HV
  have HVV := Lib.hid hv
  clear hv
  go_wp2_with fail
  refine HV.out.mono ?_
  rintro e w2 ⟨rfl, hb2⟩
  by_cases h0 : i < 0
  · have HF := Lib.hid (splitA_out (l := l) (a := i) (by omega))
    have e0 : decide (i < 0) = true := decide_eq_true h0
    clear hrow
    go_wp2
    go_ret3
    exact HNO.out _ hb2 HF.out
  by_cases h1 : (l.length : Int) ≤ i
  · have HF := Lib.hid (splitA_out (l := l) (a := i) (by omega))
    have e0 : decide (i < 0) = false := decide_eq_false h0
    have e1 : decide ((l.length : Int) ≤ i) = true := decide_eq_true h1
    clear hrow
    go_wp2
    go_ret3
    exact HNO.out _ hb2 HF.out
  obtain ⟨n, rfl⟩ : ∃ n : Nat, i = (n : Int) := ⟨i.toNat, by omega⟩
  have hn : n < l.length := by omega
  have e0 : decide ((n : Int) < 0) = false := decide_eq_false h0
  have e1 : decide ((l.length : Int) ≤ (n : Int)) = false := decide_eq_false h1
  have e2 : decide (l.length ≤ n) = false := decide_eq_false (by omega)
  obtain ⟨b1, off1, fps1, rfl, hb1, -, he1⟩ := hrow (by omega)
  obtain ⟨es1, hE1, hR1⟩ := he1 n hn
  clear hrow he1
  obtain ⟨h1', rfl, _, _, hK1⟩ := hR1
  clear hK1
  replace hE1 := hE1.frame (hb2.block b1 hb1)
  have c11 : w2.cell? ⟨b1, off1 + n * 4 + 1, none⟩ = some _ := elem_cell (j := 1) hE1 (by decide) rfl
  clear hE1
  cases ho : isOpen l[n]
  · have g : (l[n].text.toList == [40]) = false := ho
    have g' : (l[n].text.toList != [40]) = true := by rw [bne, g]; rfl
    have HF := Lib.hid (splitA_no hn ho)
    clear ho
    go_wp2
    go_ret3
    exact HNO.out _ hb2 HF.out
  have g : (l[n].text.toList == [40]) = true := ho
  have g' : (l[n].text.toList != [40]) = false := by rw [bne, g]; rfl
  have HCL := Lib.hid (impl_closingPlace _ l fp n w2 hl60 (by omega) ((sSlice sTok).below HR1.out hb2))
  rw [clGo_start hn ho] at HCL
  cases hcl : clGo (l.drop (n + 1)) 1 (n + 1) with
  | none =>
    have HF := Lib.hid (splitA_none HVV.out hn ho hcl)
    rw [hcl] at HCL
    clear hcl ho
    go_wp2_with fail
    refine HCL.out.mono ?_
    rintro e w3 ⟨rfl, hb3⟩
    have hbx := hb2.trans (hb3.mono hb2.size)
    unfold clRes
    go_wp2
    go_ret3
    exact HNO.out _ hbx HF.out
  | some e =>
    have HF := Lib.hid (splitA_some HVV.out hn ho hcl)
    have hge := clGo_ge _ _ _ _ hcl
    rw [List.length_drop] at hge
    rw [hcl] at HCL
    clear hcl ho
    obtain ⟨hge1, hge2⟩ := hge
    have hel : e < l.length := by omega
    go_wp2_with fail
    refine HCL.out.mono ?_
    rintro ee w3 ⟨rfl, hb3⟩
    have hbx := hb2.trans (hb3.mono hb2.size)
    have hcr : clRes (some e) = (e : Int) := rfl
    rw [hcr]
    obtain ⟨ft, RT, -⟩ := slice_take e (by omega) HR1.out
    obtain ⟨fd, RD, -⟩ := slice_drop (n + 1) (by rw [List.length_take]; omega) RT
    rw [if_neg (by omega), Option.map_some, Addr.add_lit, List.drop_take] at RD
    have HLX : Hid (∀ k, (hk : k < ((l.drop (n + 1)).take (e - (n + 1))).length) → ((l.drop (n + 1)).take (e - (n + 1)))[k].hidden.length ≤ 2000000) := fun k hk => by
      rw [List.getElem_take, List.getElem_drop]
      exact hx _ _
    have HDV := Lib.hid (impl_divideArguments _ ((l.drop (n + 1)).take (e - (n + 1))) fd w3 (by rw [List.length_take, List.length_drop]; omega) HLX.out ((sSlice sTok).below RD hbx))
    have hwr : IntKind.i64.wrap ((n : Int) + 1) = (n : Int) + 1 := IntWalk.i64_in _ (by omega)
    have hwr2 : IntKind.i64.wrap ((e : Int) + 1) = (e : Int) + 1 := IntWalk.i64_in _ (by omega)
    have hne : ¬ c1 = n + 1 := by omega
    have hp0 : ¬ (e : Int) < 0 := by omega
    have hp1 : (0 : Int) ≤ (n : Int) + 1 := by omega
    have hp2 : (n : Int) + 1 ≤ (e : Int) := by omega
    have hp3 : (e : Int) ≤ (c1 : Int) := by omega
    have hp4 : n + 1 ≤ c1 := by omega
    have hp5 : ((n : Int) + 1).toNat = n + 1 := by omega
    have hm4 : sTok.m = 4 := rfl
    rw [hm4] at HDV
    clear RT RD HLX c11 g g'
    go_wp2_with fail
    refine HDV.out.mono ?_
    rintro ee w4 ⟨v4, fp4, rfl, hR4, hO4, hb4⟩
    have HRR := Lib.hid hR4
    have HOO := Lib.hid hO4
    have hb5 := hbx.trans (hb4.mono hbx.size)
    have hs5 := hbx.size
    clear hR4 hO4
    go_wp2
    go_ret3
    rw [HF.out]
    exact ⟨_, fp4, rfl, HRR.out, HOO.out.lower hs5, hb5⟩

end Go.Proofs.Ythbojipdhgidlaa

/- SplitArguments of both, as the exact law calls them. -/
namespace Go.Proofs.Ythbojipdhgidlaa
open Go.RowKit

theorem cntTokenS_app (a b : List Tok) : cntTokenS (a ++ b) = cntTokenS a + cntTokenS b := by unfold cntTokenS cntAll; rw [List.map_append, List.sum_append]
theorem cntTokenSS_app (a b : Args) : cntTokenSS (a ++ b) = cntTokenSS a + cntTokenSS b := by unfold cntTokenSS cntAll; rw [List.map_append, List.sum_append]
theorem cntTokenSS_one (a : List Tok) : cntTokenSS [a] = cntTokenS a := by unfold cntTokenSS cntAll; simp
theorem cntTokenS_cons (t : Tok) (l : List Tok) : cntTokenS (t :: l) = cntToken t + cntTokenS l := by unfold cntTokenS cntAll; simp
theorem dvGo_cnt : ∀ (l : List Tok) (d : Int) (A : Args) (M : List Tok), cntTokenSS (dvGo l d A M) ≤ cntTokenSS A + cntTokenS M + cntTokenS l
  | [], d, A, M => by
    unfold dvGo
    rw [cntTokenSS_app, cntTokenSS_one]
    omega
  | t :: r, d, A, M => by
    unfold dvGo
    rw [cntTokenS_cons]
    split
    · have := dvGo_cnt r d (A ++ [M]) []
      rw [cntTokenSS_app, cntTokenSS_one] at this
      have h0 : cntTokenS [] = 0 := rfl
      omega
    · have := dvGo_cnt r (d + opn t) A (M ++ [t])
      rw [cntTokenS_app, cntTokenS_cons] at this
      have h0 : cntTokenS [] = 0 := rfl
      omega
theorem tokOk_hid {t : Tok} (h : tokOk t = true) : t.hidden.length ≤ 60 := by
  unfold tokOk at h
  have h2 := (Bool.and_eq_true_iff.1 h).2
  unfold hidOk at h2
  exact of_decide_eq_true (Bool.and_eq_true_iff.1 h2).1
theorem cnt_toks : ∀ {l : List Tok}, (∀ t ∈ l, tokOk t = true) → cntTokenS l ≤ 63 * l.length
  | [], _ => Nat.le_refl _
  | t :: l, h => by
    have ih := cnt_toks (l := l) (fun t ht => h t (by simp [ht]))
    have h1 := tokOk_hid (h t (by simp))
    have h2 : cntToken t = 3 + t.hidden.length := rfl
    rw [cntTokenS_cons, List.length_cons]
    omega
theorem SplitArguments_cnt (l : List Tok) (i : Int) : cntTokenSS (splitA l i).1 ≤ 5000 := by
  by_cases hin : 0 ≤ i ∧ i < l.length
  rotate_left
  · rw [splitA_out hin]; exact Nat.zero_le _
  obtain ⟨n, rfl⟩ : ∃ n : Nat, i = (n : Int) := ⟨i.toNat, by omega⟩
  have hn : n < l.length := by omega
  cases hv : toksOk l
  · rw [splitA_bad hv]; exact Nat.zero_le _
  cases ho : isOpen l[n]
  · rw [splitA_no hn ho]; exact Nat.zero_le _
  cases hc : clGo (l.drop (n + 1)) 1 (n + 1) with
  | none => rw [splitA_none hv hn ho hc]; exact Nat.zero_le _
  | some e =>
    rw [splitA_some hv hn ho hc]
    have h1 := dvGo_cnt ((l.drop (n + 1)).take (e - (n + 1))) 0 [] []
    have hf := toksOk_facts hv
    have h2 := cnt_toks (l := (l.drop (n + 1)).take (e - (n + 1))) (fun t ht => by
      have hm := List.mem_of_mem_drop (List.mem_of_mem_take ht)
      obtain ⟨k, hk, rfl⟩ := List.getElem_of_mem hm
      exact hf.2 k hk)
    rw [List.length_take, List.length_drop] at h2
    have h3 : cntTokenSS [] = 0 := rfl
    have h4 : cntTokenS [] = 0 := rfl
    have h5 := hf.1
    show cntTokenSS (dvGo _ _ _ _) ≤ 5000
    omega
theorem spec_SplitArguments_w (v : Value) (l : List Tok) (fp : List Nat) (i : Int) (w : World) (hw : wtTokenS l ≤ 1048576) (H : (sSlice sTok).R w [v] l fp) (hok : okInt i) :
    Calls Try.prog 19 #[v, .int .i64 i] w (RetArgs (splitA l i) w) := spec_SplitArguments v l fp i w (wtTokenS_len hw) (wtTokenS_hid hw) H
theorem impl_SplitArguments_w (v : Value) (l : List Tok) (fp : List Nat) (i : Int) (w : World) (hw : wtTokenS l ≤ 1048576) (H : (sSlice sTok).R w [v] l fp) (hok : okInt i) :
    Calls Try.prog 21 #[v, .int .i64 i] w (MineArgs (splitA l i) w) := impl_SplitArguments v l fp i w (wtTokenS_hid hw) H

end Go.Proofs.Ythbojipdhgidlaa
