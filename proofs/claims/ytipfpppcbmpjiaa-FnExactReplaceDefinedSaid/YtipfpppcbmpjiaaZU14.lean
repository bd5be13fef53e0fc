/- Texts that the proof of U stands on, in one file. -/
import Derived.Test.YtipfpppcbmpjiaaZU13
import Derived.Test.YtipfpppcbmpjiaaZU9
import Derived.Test.YtipfpppcbmpjiaaZU12
import Derived.Test.YtipfpppcbmpjiaaZU10
import Derived.Test.YtipfpppcbmpjiaaZU5
import Derived.Test.YtipfpppcbmpjiaaZU3
import Derived.Test.YtipfpppcbmpjiaaShelf
import Derived.Test.YtipfpppcbmpjiaaZU1
import Derived.Lib.FrozenHead2
import Derived.Lib.OthersKept
import Derived.Lib.Builder
import Derived.Laws.Externs
set_option linter.unusedVariables false
set_option linter.unusedSimpArgs false
/- ReplaceDefined of the model, as the exact law calls it: under a weight; the marks of what comes out. -/
namespace Go.Proofs.Ytipfpppcbmpjiaa
open Go.RowKit

theorem cntR_at {B : Nat} : ∀ {l : List Tok}, (∀ t ∈ l, t.hidden.length ≤ B) → cntTokenS l ≤ (B + 3) * l.length
  | [], _ => Nat.le_refl _
  | t :: r, h => by
    have h1 := h t (by simp)
    have h2 := cntR_at (l := r) fun u hu => h u (by simp [hu])
    have e : cntTokenS (t :: r) = (3 + t.hidden.length) + cntTokenS r := rfl
    rw [e, List.length_cons, Nat.mul_add, Nat.mul_one]
    omega
theorem ReplaceDefined_cnt (T : List DMacro) (l : List Tok) : cntTokenS (repRes T l).1 ≤ 310000 := by
  rcases hr : repRes T l with ⟨x, ok⟩
  cases ok
  · rw [repRes_no hr]; exact Nat.zero_le _
  · unfold repRes at hr
    split at hr
    · rename_i hv
      have h1 := rep_valid (T := T) hv.2
      rw [hr] at h1
      have h2 : x.length ≤ 60 := (toksOk_facts h1).1
      have h3 : ∀ t ∈ x, t.hidden.length ≤ 60 := fun t ht => by
        obtain ⟨k, hk, rfl⟩ := List.getElem_of_mem ht
        exact (hid_parts (tok_hidOk ((toksOk_facts h1).2 k hk))).1
      have h4 := cntR_at h3
      show cntTokenS x ≤ 310000
      omega
    · simp at hr
theorem spec_ReplaceDefined_w (vT : Value) (T : List DMacro) (fpT : List Nat) (v : Value) (l : List Tok) (fp : List Nat) (w : World) (hT : wtMacroS T ≤ 1048576) (hl : wtTokenS l ≤ 1048576) (HT : (sSlice sMacro).R w [vT] T fpT) (H : (sSlice sTok).R w [v] l fp) :
    Calls Try.prog 7 #[vT, v] w (RetRep (repRes T l) w) := spec_ReplaceDefined vT T fpT v l fp w (wtMacroS_sm hT).1 (wtMacroS_sm hT).2 (wtTokenS_len hl) (wtTokenS_hid hl) HT H

end Go.Proofs.Ytipfpppcbmpjiaa

/- Of the program: brackets, the closing place, a token's copy. -/
namespace Go.Proofs.Ytipfpppcbmpjiaa
open Go.RowKit
/-- A token's copy in memory of the call's own. -/
def CopyTok (x : Tok) (w : World) (e : Ending) (w' : World) : Prop :=
  ∃ (ao : Option Addr) (c : Nat) (fp : List Nat), e = .returned (.agg #[.int .i64 x.kind, .string x.text, .bool x.spaced, .slice ao x.hidden.length c]) ∧ sTok.R w' [.int .i64 x.kind, .string x.text, .bool x.spaced, .slice ao x.hidden.length c] x fp ∧
    Own w' w.heap.size fp ∧ (∀ b ∈ fp, ∃ cur t fr, w'.heap[b]? = some (.cells cur t fr) ∧ t = 9) ∧ Below w.heap.size w w'

set_option maxHeartbeats 4000000 in
set_option maxRecDepth 100000 in
theorem impl_copyToken (cs : List Value) (x : Tok) (fp : List Nat) (w : World) (hx : x.hidden.length ≤ 2000000) (H : sTok.R w cs x fp) : Calls Try.prog 26 #[.agg cs.toArray] w (CopyTok x w) := by
  obtain ⟨h, rfl, hk, hok, K⟩ := H
  obtain ⟨a0, cap0, rfl, -, -, -, hsz⟩ := open_strs K
  have b0 := alloc_below' w (.cells #[.int .i64 x.kind, .string x.text, .bool x.spaced, .slice a0 x.hidden.length cap0] 33)
  have hb2 := b0.trans ((alloc_below' (w.alloc (.cells #[.int .i64 x.kind, .string x.text, .bool x.spaced, .slice a0 x.hidden.length cap0] 33)) (.cells #[.int .i64 0, .string ⟨#[]⟩, .bool false, .slice none 0 0] 33)).mono b0.size)
  obtain ⟨g0, g1⟩ := alloc2_blk w #[.int .i64 x.kind, .string x.text, .bool x.spaced, .slice a0 x.hidden.length cap0] #[.int .i64 0, .string ⟨#[]⟩, .bool false, .slice none 0 0] 33 33
  have hs2 : ((w.alloc (.cells #[.int .i64 x.kind, .string x.text, .bool x.spaced, .slice a0 x.hidden.length cap0] 33)).alloc (.cells #[.int .i64 0, .string ⟨#[]⟩, .bool false, .slice none 0 0] 33)).heap.size = w.heap.size + 2 := by
    show ((w.heap.push _).push _).size = _
    simp
  have HK := Lib.hid ((sSlice sStr).below K hb2)
  have HSZ := Lib.hid hsz
  clear K hsz b0
  obtain ⟨hv, HV⟩ : ∃ hv : Value, Hid (hv = Value.slice a0 x.hidden.length cap0) := ⟨_, rfl⟩
  go_enter Try.func26, Try.ntmps26
  go_upto_region 2 with fail
  generalize ((w.alloc (.cells #[.int .i64 x.kind, .string x.text, .bool x.spaced, .slice a0 x.hidden.length cap0] 33)).alloc (.cells #[.int .i64 0, .string ⟨#[]⟩, .bool false, .slice none 0 0] 33)) = W3 at *
  have c03 : W3.cell? ⟨w.heap.size, 3, none⟩ = some hv := by
    rw [HV.out]
    exact cell_of_row _ _ 3 _ _ _ g0
  have HKV : Hid ((sSlice sStr).R W3 [hv] x.hidden fp) := by show (sSlice sStr).R _ _ _ _; rw [HV.out]; exact HK.out
  have HG := Lib.hid (And.intro g0 (And.intro g1 hs2))
  have hb4 := Lib.hid hb2
  clear g0 g1 hs2 HK hb2
  go_wp2_with (
    at_builtin
    refine wp_append_strsR rfl (.tmp 4) (.tmp 6) rfl W3.heap.size (.slice none 0 0) hv [] x.hidden _ rfl (World.ownsRow_nil _ _ _ _) rfl HKV.out (by simp; omega) (Nat.le_refl _) ?_
    intro v5 w1 hown hgrow
    rw [List.nil_append] at hown
    obtain ⟨fp1, R1, O1, hfp⟩ := own_flat (ok := okStr) hown HSZ.out
    have hs3 := HG.out.2.2
    have hblk : ∀ k, k < W3.heap.size → w1.heap[k]? = W3.heap[k]? := fun k hk => hgrow.block k hk (by simp [Value.ownBlock])
    have HG1 : Hid (w1.heap[w.heap.size]? = some (.cells #[.int .i64 x.kind, .string x.text, .bool x.spaced, .slice a0 x.hidden.length cap0] 33 (0, 0)) ∧ w1.heap[w.heap.size + 1]? = some (.cells #[.int .i64 0, .string ⟨#[]⟩, .bool false, .slice none 0 0] 33 (0, 0))) :=
      ⟨(hblk _ (by omega)).trans HG.out.1, (hblk _ (by omega)).trans HG.out.2.1⟩
    have hb : Below w.heap.size w w1 := hb4.out.grown hgrow (by omega) (fun b hb => by simp [Value.ownBlock] at hb)
    have hty : ∀ b ∈ fp1, ∃ cur t fr, w1.heap[b]? = some (.cells cur t fr) ∧ t = 9 := fun b hb' => by
      have hv := hfp b hb'
      rcases hown.2 with ⟨rfl, _⟩ | ⟨g, cap, cur, rfl, _, hg, _⟩
      · simp [Value.ownBlock] at hv
      · simp only [Value.ownBlock, Option.some.injEq] at hv
        subst hv
        exact ⟨_, _, _, hg, rfl⟩
    have hlo : ∀ b ∈ fp1, w.heap.size + 2 ≤ b := fun b hb => by have := (O1.2 b hb).1; omega
    have HOW : Hid (Own w1 w.heap.size fp1) := O1.lower (by omega)
    clear HG hblk hgrow hown hfp O1 c03 hb4 HKV hs3
    obtain ⟨a1, cap1, rfl, hq⟩ := open_rows R1
    clear hq
    have c10 : w1.cell? ⟨w.heap.size + 1, 0, none⟩ = some (.int .i64 0) := cell_of_row w1 (w.heap.size + 1) 0 _ _ _ HG1.out.2
    have c11 : w1.cell? ⟨w.heap.size + 1, 1, none⟩ = some (.string ⟨#[]⟩) := cell_of_row w1 (w.heap.size + 1) 1 _ _ _ HG1.out.2
    have c12 : w1.cell? ⟨w.heap.size + 1, 2, none⟩ = some (.bool false) := cell_of_row w1 (w.heap.size + 1) 2 _ _ _ HG1.out.2
    have c13 : w1.cell? ⟨w.heap.size + 1, 3, none⟩ = some (.slice none 0 0) := cell_of_row w1 (w.heap.size + 1) 3 _ _ _ HG1.out.2
    have c20 : w1.cell? ⟨w.heap.size, 0, none⟩ = some (.int .i64 x.kind) := cell_of_row w1 (w.heap.size) 0 _ _ _ HG1.out.1
    have c21 : w1.cell? ⟨w.heap.size, 1, none⟩ = some (.string x.text) := cell_of_row w1 (w.heap.size) 1 _ _ _ HG1.out.1
    have c22 : w1.cell? ⟨w.heap.size, 2, none⟩ = some (.bool x.spaced) := cell_of_row w1 (w.heap.size) 2 _ _ _ HG1.out.1
    have c23 : w1.cell? ⟨w.heap.size, 3, none⟩ = some (.slice a0 x.hidden.length cap0) := cell_of_row w1 (w.heap.size) 3 _ _ _ HG1.out.1
    have f10 : w1.frozen? ⟨w.heap.size + 1, 0, none⟩ = false := frozen_of_row w1 (w.heap.size + 1) 0 _ _ HG1.out.2
    have f11 : w1.frozen? ⟨w.heap.size + 1, 1, none⟩ = false := frozen_of_row w1 (w.heap.size + 1) 1 _ _ HG1.out.2
    have f12 : w1.frozen? ⟨w.heap.size + 1, 2, none⟩ = false := frozen_of_row w1 (w.heap.size + 1) 2 _ _ HG1.out.2
    have f13 : w1.frozen? ⟨w.heap.size + 1, 3, none⟩ = false := frozen_of_row w1 (w.heap.size + 1) 3 _ _ HG1.out.2
    have f23 : w1.frozen? ⟨w.heap.size, 3, none⟩ = false := frozen_of_row w1 (w.heap.size) 3 _ _ HG1.out.1
    have hn1 : w.heap.size + 1 ∉ fp1 := fun hx => by have := hlo _ hx; omega
    have hn2 : w.heap.size ∉ fp1 := fun hx => by have := hlo _ hx; omega
    have HR := Lib.hid ((sSlice sStr).setB ((sSlice sStr).setB ((sSlice sStr).setB ((sSlice sStr).setB ((sSlice sStr).setB R1 hn2 3 (.slice a1 x.hidden.length cap1)) hn1 0 (.int .i64 x.kind)) hn1 1 (.string x.text)) hn1 2 (.bool x.spaced)) hn1 3 (.slice a1 x.hidden.length cap1))
    have HOF := Lib.hid (((((HOW.out.setCell ⟨w.heap.size, 3, none⟩ (.slice a1 x.hidden.length cap1)).setCell ⟨w.heap.size + 1, 0, none⟩ (.int .i64 x.kind)).setCell ⟨w.heap.size + 1, 1, none⟩ (.string x.text)).setCell ⟨w.heap.size + 1, 2, none⟩ (.bool x.spaced)).setCell ⟨w.heap.size + 1, 3, none⟩ (.slice a1 x.hidden.length cap1))
    have HT : Hid (∀ b ∈ fp1, ∃ cur t fr, (((((w1.setCell ⟨w.heap.size, 3, none⟩ (.slice a1 x.hidden.length cap1)).setCell ⟨w.heap.size + 1, 0, none⟩ (.int .i64 x.kind)).setCell ⟨w.heap.size + 1, 1, none⟩ (.string x.text)).setCell ⟨w.heap.size + 1, 2, none⟩ (.bool x.spaced)).setCell ⟨w.heap.size + 1, 3, none⟩ (.slice a1 x.hidden.length cap1)).heap[b]? = some (.cells cur t fr) ∧ t = 9) := fun b hb => by
      obtain ⟨cur, t, fr, q1, q2⟩ := hty b hb
      have e1 : b ≠ w.heap.size + 1 := fun e => hn1 (e ▸ hb)
      have e2 : b ≠ w.heap.size := fun e => hn2 (e ▸ hb)
      exact ⟨cur, t, fr, blk_other (blk_other (blk_other (blk_other (blk_other q1 e2 _ _) e1 _ _) e1 _ _) e1 _ _) e1 _ _, q2⟩
    have HB := Lib.hid (((((hb.setCell (p := ⟨w.heap.size, 3, none⟩) (by simp) (.slice a1 x.hidden.length cap1)).setCell (p := ⟨w.heap.size + 1, 0, none⟩) (by simp) (.int .i64 x.kind)).setCell (p := ⟨w.heap.size + 1, 1, none⟩) (by simp) (.string x.text)).setCell (p := ⟨w.heap.size + 1, 2, none⟩) (by simp) (.bool x.spaced)).setCell (p := ⟨w.heap.size + 1, 3, none⟩) (by simp) (.slice a1 x.hidden.length cap1))
    have HS := Lib.hid (blk_set (blk_set (blk_set (blk_set (blk_other HG1.out.2 (by omega : w.heap.size + 1 ≠ w.heap.size) 3 (.slice a1 x.hidden.length cap1)) 0 (.int .i64 x.kind)) 1 (.string x.text)) 2 (.bool x.spaced)) 3 (.slice a1 x.hidden.length cap1))
    clear HG1 hty hlo HOW)
  refine bodyPost_ret (results_cell_row rfl _ _ (w.heap.size + 1) _ _ _ _ rfl HS.out Try.underlying33 rfl (by kernel_rfl)) rfl ?_
  exact ⟨a1, cap1, fp1, rfl, ⟨_, rfl, hk, hok, HR.out⟩, HOF.out, HT.out, HB.out⟩

end Go.Proofs.Ytipfpppcbmpjiaa

/- ReplaceDefined of the program. -/
namespace Go.Proofs.Ytipfpppcbmpjiaa
open Go.RowKit

theorem con_toL {x : ByteArray} {l : List UInt8} (h : x.toList = l) : x = ⟨l.toArray⟩ := by
  rw [ByteArray.toList_eq] at h
  subst h
  simp
theorem con_head {t : Tok} (h : tokOk t = true) {c : UInt8} {l : List UInt8} (e : t.text.toList = c :: l) : t.kind = cutKind c := by
  have e2 := con_toL e
  obtain ⟨h0, hk⟩ := (tokOk_facts h).1
  obtain ⟨k, x, s, hd⟩ := t
  obtain rfl : x = ⟨(c :: l).toArray⟩ := e2
  exact hk
theorem con_mk {t : Tok} (h : tokOk t = true) {c : UInt8} (hc : cutKind c = 4) : isMk t [c] = (t.text.toList == [c]) := by
  unfold isMk
  cases e : (t.text.toList == [c])
  · rw [Bool.and_false]
  · rw [con_head h (beq_iff_eq.1 e), hc]; rfl
theorem con_dfn {t : Tok} (h : tokOk t = true) : isDfn t = (t.text.toList == [100, 101, 102, 105, 110, 101, 100]) := by
  unfold isDfn
  cases e : (t.text.toList == [100, 101, 102, 105, 110, 101, 100])
  · rw [Bool.and_false]
  · rw [con_head h (beq_iff_eq.1 e), show cutKind 100 = 1 from by decide]; rfl
theorem con_has {T : List DMacro} (hT : tabOk T = true) (nm : ByteArray) : hasT T nm = isIn T nm := by
  unfold hasT
  rw [place_in hT]
  cases isIn T nm
  · simp
  · simp
/-- What is asked behind 'defined': the name, and the place behind it all. -/
def askR (W : List Tok) : ByteArray × Nat :=
  if nmAt W 1 = true then (txAt W 1, 2)
  else if mkAt W 1 [40] = true ∧ nmAt W 2 = true ∧ mkAt W 3 [41] = true then (txAt W 2, 4)
  else (⟨#[]⟩, 0)
theorem ask_one {W : List Tok} (h : nmAt W 1 = true) : askR W = (txAt W 1, 2) := by unfold askR; rw [if_pos h]
theorem ask_in {W : List Tok} (h : nmAt W 1 = false) (h1 : mkAt W 1 [40] = true) (h2 : nmAt W 2 = true) (h3 : mkAt W 3 [41] = true) : askR W = (txAt W 2, 4) := by unfold askR; rw [if_neg (by rw [h]; simp), if_pos ⟨h1, h2, h3⟩]
theorem ask_no {W : List Tok} (h : nmAt W 1 = false) (h1 : ¬ (mkAt W 1 [40] = true ∧ nmAt W 2 = true ∧ mkAt W 3 [41] = true)) : askR W = (⟨#[]⟩, 0) := by unfold askR; rw [if_neg (by rw [h]; simp), if_neg h1]
theorem mkAt_drop {l : List Tok} {k j : Nat} {s : List UInt8} : mkAt (l.drop k) j s = mkAt l (k + j) s := by
  unfold mkAt
  by_cases h : k + j < l.length
  · rw [dif_pos h, dif_pos (by rw [List.length_drop]; omega), List.getElem_drop]
  · rw [dif_neg h, dif_neg (by rw [List.length_drop]; omega)]
theorem nmAt_drop {l : List Tok} {k j : Nat} : nmAt (l.drop k) j = nmAt l (k + j) := by
  unfold nmAt
  by_cases h : k + j < l.length
  · rw [dif_pos h, dif_pos (by rw [List.length_drop]; omega)]; simp only [List.getElem_drop]
  · rw [dif_neg h, dif_neg (by rw [List.length_drop]; omega)]
theorem txAt_drop {l : List Tok} {k j : Nat} : txAt (l.drop k) j = txAt l (k + j) := by
  unfold txAt
  by_cases h : k + j < l.length
  · rw [dif_pos h, dif_pos (by rw [List.length_drop]; omega), List.getElem_drop]
  · rw [dif_neg h, dif_neg (by rw [List.length_drop]; omega)]
theorem nm_mk {l : List Tok} {k : Nat} {s : List UInt8} (h : nmAt l k = true) : mkAt l k s = false := by
  unfold nmAt at h
  split at h
  · rename_i hk
    rw [mkAt_at hk]
    have := of_decide_eq_true h
    unfold isMk
    rw [this]; rfl
  · cases h
theorem nm_lt {l : List Tok} {k : Nat} (h : nmAt l k = true) : k < l.length := by
  unfold nmAt at h
  split at h
  · assumption
  · cases h
theorem mk_lt {l : List Tok} {k : Nat} {s : List UInt8} (h : mkAt l k s = true) : k < l.length := by
  unfold mkAt at h
  split at h
  · assumption
  · cases h
theorem ask_len (W : List Tok) : (askR W).2 = 0 ∨ (2 ≤ (askR W).2 ∧ (askR W).2 ≤ W.length) := by
  unfold askR
  split
  · rename_i h; have := nm_lt h; exact .inr ⟨Nat.le_refl _, this⟩
  · split
    · rename_i h; have := mk_lt h.2.2; exact .inr ⟨by show 2 ≤ 4; omega, this⟩
    · exact .inl rfl
theorem rep_ask {T : List DMacro} {l acc : List Tok} {k : Nat} (h : k < l.length) (hd : isDfn l[k] = true) :
    repG T l k acc = if (askR (l.drop k)).2 = 0 then ([], false) else repG T l (k + (askR (l.drop k)).2) (acc ++ [numTk (hasT T (askR (l.drop k)).1) l[k].spaced]) := by
  cases h1 : nmAt l (k + 1)
  · cases h2 : mkAt l (k + 1) [40]
    · rw [ask_no (by rw [nmAt_drop]; exact h1) (by rw [mkAt_drop, h2]; simp), if_pos rfl, rep_none h hd h2 h1]
    · by_cases h3 : mkAt l (k + 3) [41] = true ∧ nmAt l (k + 2) = true
      · rw [ask_in (by rw [nmAt_drop]; exact h1) (by rw [mkAt_drop]; exact h2) (by rw [nmAt_drop]; exact h3.2) (by rw [mkAt_drop]; exact h3.1), if_neg (by simp), rep_in h hd h2 h3.1 h3.2, txAt_drop]
      · rw [ask_no (by rw [nmAt_drop]; exact h1) (by rw [nmAt_drop, mkAt_drop, mkAt_drop]; exact fun h => h3 ⟨h.2.2, h.2.1⟩), if_pos rfl, rep_open h hd h2 h3]
  · rw [ask_one (by rw [nmAt_drop]; exact h1), if_neg (by simp), rep_plain h hd (nm_mk h1) h1, txAt_drop]
/-- What ReplaceDefined of the program hands back. -/
def MineRep (r : List Tok × Bool) (w : World) (e : Ending) (w' : World) : Prop :=
  ∃ (v : Value) (fp : List Nat), e = .returned (.tuple #[v, .bool r.2]) ∧ (sSlice sTok).R w' [v] r.1 fp ∧ Own w' w.heap.size fp ∧ Below w.heap.size w w'
theorem mineRep_no {r : List Tok × Bool} {w W : World} (h : r = ([], false)) (hb : Below w.heap.size w W) : MineRep r w (.returned (.tuple #[.slice none 0 0, .bool false])) W :=
  ⟨_, [], by rw [h], by rw [h]; exact slice_empty _ _ _ _ (by simp), Own.nil _ _, hb⟩

theorem ask_ret {W : List Tok} {x : ByteArray} {n : Nat} {w : World} (h : askR W = (x, n)) : (Ending.returned (.tuple #[.string x, .int .i64 (n : Nat)]) = .returned (.tuple #[.string (askR W).1, .int .i64 ((askR W).2 : Nat)])) ∧ w = w := ⟨by rw [h], rfl⟩

set_option maxHeartbeats 8000000 in
set_option maxRecDepth 100000 in
theorem impl_askedName (v : Value) (W : List Tok) (fp : List Nat) (w : World) (h0 : 0 < W.length) (hl : W.length ≤ 1000000) (hok : ∀ t ∈ W, tokOk t = true) (H : (sSlice sTok).R w [v] W fp) :
    Calls Try.prog 27 #[v] w fun e w' => e = .returned (.tuple #[.string (askR W).1, .int .i64 ((askR W).2 : Nat)]) ∧ w' = w := by
  have H0 := Lib.hid H
  obtain ⟨a, cap, rfl, hc, hm, hrow⟩ := open_rows H
  unfold maxLen at hm
  obtain ⟨b, o, -, rfl, -, -, -⟩ := hrow h0
  have HA := Lib.hid (fun j (hj : j < W.length) => tok_at H hj)
  have HOK := Lib.hid (fun j (hj : j < W.length) => hok W[j] (List.getElem_mem hj))
  clear H hrow hok
  go_enter Try.func27, Try.ntmps27
  by_cases h1 : 1 < W.length
  rotate_left
  · have HF : Hid (askR W = (⟨#[]⟩, 0)) := ask_no (nmAt_no (by omega)) (fun h => by rw [mkAt_no (by omega)] at h; exact absurd h.1 (by simp))
    have i1 : ¬ (1 : Int) < (W.length : Int) := by omega
    have i3 : ¬ (3 : Int) < (W.length : Int) := by omega
    go_wp2
    go_ret2
    exact ask_ret HF.out
  have i1 : (1 : Int) < (W.length : Int) := by omega
  obtain ⟨-, -, -, p0, p1, -, -, -, -, -⟩ := HA.out 1 h1
  simp only [Nat.one_mul] at p0 p1
  obtain ⟨x1, HX1⟩ : ∃ x : Tok, Hid (x = W[1]) := ⟨_, Lib.hid rfl⟩
  rw [show W[1] = x1 from HX1.out.symm] at p0 p1
  have HN1 : Hid (nmAt W 1 = decide (x1.kind = 1)) := by show _ = _; rw [nmAt_at h1, ← HX1.out]
  have HM1 : Hid (mkAt W 1 [40] = (x1.text.toList == [40])) := by show _ = _; rw [mkAt_at h1, ← HX1.out]; exact con_mk (by rw [HX1.out]; exact HOK.out 1 h1) (by decide)
  by_cases hk : x1.kind = 1
  · have HF : Hid (askR W = (x1.text, 2)) := by show _ = _; rw [ask_one (by rw [HN1.out]; exact decide_eq_true hk), txAt_at h1, ← HX1.out]
    have e1 : (x1.kind == 1) = true := by simp [hk]
    clear hk
    go_wp2
    go_ret2
    exact ask_ret HF.out
  have HN : Hid (nmAt W 1 = false) := by show _ = _; rw [HN1.out]; exact decide_eq_false hk
  have e1 : (x1.kind == 1) = false := by simp [hk]
  clear hk HN1
  by_cases h3 : 3 < W.length
  rotate_left
  · have HF : Hid (askR W = (⟨#[]⟩, 0)) := ask_no HN.out (fun h => by rw [mkAt_no (k := 3) (by omega)] at h; exact absurd h.2.2 (by simp))
    have i3 : ¬ (3 : Int) < (W.length : Int) := by omega
    go_wp2
    go_ret2
    exact ask_ret HF.out
  have i3 : (3 : Int) < (W.length : Int) := by omega
  have i2 : (2 : Int) < (W.length : Int) := by omega
  have h2 : 2 < W.length := by omega
  obtain ⟨-, -, -, q0, q1, -, -, -, -, -⟩ := HA.out 2 h2
  obtain ⟨-, -, -, r0, r1, -, -, -, -, -⟩ := HA.out 3 h3
  simp only [show 2 * 4 = 8 from rfl, show 3 * 4 = 12 from rfl] at q0 q1 r0 r1
  obtain ⟨x2, HX2⟩ : ∃ x : Tok, Hid (x = W[2]) := ⟨_, Lib.hid rfl⟩
  obtain ⟨x3, HX3⟩ : ∃ x : Tok, Hid (x = W[3]) := ⟨_, Lib.hid rfl⟩
  rw [show W[2] = x2 from HX2.out.symm] at q0 q1
  rw [show W[3] = x3 from HX3.out.symm] at r0 r1
  have HN2 : Hid (nmAt W 2 = decide (x2.kind = 1)) := by show _ = _; rw [nmAt_at h2, ← HX2.out]
  have HM3 : Hid (mkAt W 3 [41] = (x3.text.toList == [41])) := by show _ = _; rw [mkAt_at h3, ← HX3.out]; exact con_mk (by rw [HX3.out]; exact HOK.out 3 h3) (by decide)
  cases hm1 : (x1.text.toList == [40])
  · have HF : Hid (askR W = (⟨#[]⟩, 0)) := ask_no HN.out (fun h => by rw [HM1.out, hm1] at h; exact absurd h.1 (by simp))
    go_wp2
    go_ret2
    exact ask_ret HF.out
  by_cases hk2 : x2.kind = 1
  rotate_left
  · have HF : Hid (askR W = (⟨#[]⟩, 0)) := ask_no HN.out (fun h => by rw [HN2.out, decide_eq_false hk2] at h; exact absurd h.2.1 (by simp))
    have e2 : (x2.kind == 1) = false := by simp [hk2]
    clear hk2
    go_wp2
    go_ret2
    exact ask_ret HF.out
  have e2 : (x2.kind == 1) = true := by simp [hk2]
  have HK2 := Lib.hid hk2
  clear hk2
  cases hm3 : (x3.text.toList == [41])
  · have HF : Hid (askR W = (⟨#[]⟩, 0)) := ask_no HN.out (fun h => by rw [HM3.out, hm3] at h; exact absurd h.2.2 (by simp))
    go_wp2
    go_ret2
    exact ask_ret HF.out
  have HF : Hid (askR W = (x2.text, 4)) := by show _ = _; rw [ask_in HN.out (by rw [HM1.out]; exact hm1) (by rw [HN2.out]; exact decide_eq_true HK2.out) (by rw [HM3.out]; exact hm3), txAt_at h2, ← HX2.out]
  go_wp2
  go_ret2
  exact ask_ret HF.out

def AnsOf (b sp : Bool) (w : World) (e : Ending) (w' : World) : Prop := e = .returned (.agg #[.int .i64 2, .string (if b = true then ⟨#[49]⟩ else ⟨#[48]⟩), .bool sp, .slice none 0 0]) ∧ Below w.heap.size w w'
set_option maxHeartbeats 8000000 in
set_option maxRecDepth 100000 in
theorem impl_answer (vT : Value) (T : List DMacro) (fpT : List Nat) (nm : ByteArray) (sp : Bool) (w : World) (hT : tabOk T = true) (HT : (sSlice sMacro).R w [vT] T fpT) :
    Calls Try.prog 28 #[vT, .string nm, .bool sp] w (AnsOf (isIn T nm) sp w) := by
  have b0 := alloc_below' w (.cells #[.int .i64 0, .string ⟨#[]⟩, .bool false, .slice none 0 0] 33)
  have HX := Lib.hid (heap_alloc_new w (.cells #[.int .i64 0, .string ⟨#[]⟩, .bool false, .slice none 0 0] 33))
  have HPL := Lib.hid (impl_placeOf vT T nm fpT _ hT ((sSlice sMacro).below HT b0))
  obtain ⟨lo, HLO⟩ : ∃ lo : Nat, Hid (lo = lowAt T nm) := ⟨_, Lib.hid rfl⟩
  rw [show lowAt T nm = lo from HLO.out.symm] at HPL
  clear HT hT
  go_enter Try.func28, Try.ntmps28
  go_upto_region 1 with fail
  generalize (w.alloc (.cells #[.int .i64 0, .string ⟨#[]⟩, .bool false, .slice none 0 0] 33)) = W1 at *
  cases hin : isIn T nm
  · rw [hin] at HPL
    have HIN := Lib.hid hin
    clear hin
    go_wp2_with fail
    refine HPL.out.mono ?_
    rintro e w3 ⟨rfl, hb3⟩
    have HX3 := Lib.hid (mbox HX.out hb3)
    have hB3 := b0.trans (hb3.mono b0.size)
    clear HPL
    have z0 := cell_of_row w3 w.heap.size 0 _ _ _ HX3.out
    have z1 := cell_of_row w3 w.heap.size 1 _ _ _ HX3.out
    have z2 := cell_of_row w3 w.heap.size 2 _ _ _ HX3.out
    have z3 := cell_of_row w3 w.heap.size 3 _ _ _ HX3.out
    have zf0 : w3.frozen? ⟨w.heap.size, 0, none⟩ = false := frozen_of_row _ _ 0 _ _ HX3.out
    have zf1 : w3.frozen? ⟨w.heap.size, 1, none⟩ = false := frozen_of_row _ _ 1 _ _ HX3.out
    have zf2 : w3.frozen? ⟨w.heap.size, 2, none⟩ = false := frozen_of_row _ _ 2 _ _ HX3.out
    have zf3 : w3.frozen? ⟨w.heap.size, 3, none⟩ = false := frozen_of_row _ _ 3 _ _ HX3.out
    have HS := Lib.hid (set4_at HX3.out (.int .i64 2) (.string ⟨#[48]⟩) (.bool sp) (.slice none 0 0))
    have HB := Lib.hid (set4_below (g := w.heap.size) hB3 (Nat.le_refl _) (.int .i64 2) (.string ⟨#[48]⟩) (.bool sp) (.slice none 0 0))
    unfold set4 at HS HB
    go_wp2
    refine bodyPost_ret (results_cell_row rfl _ _ (w.heap.size) _ _ _ _ rfl HS.out Try.underlying33 rfl (by kernel_rfl)) rfl ?_
    exact ⟨by rw [HIN.out]; rfl, HB.out⟩
  · rw [hin] at HPL
    have HIN := Lib.hid hin
    clear hin
    go_wp2_with fail
    refine HPL.out.mono ?_
    rintro e w3 ⟨rfl, hb3⟩
    have HX3 := Lib.hid (mbox HX.out hb3)
    have hB3 := b0.trans (hb3.mono b0.size)
    clear HPL
    have z0 := cell_of_row w3 w.heap.size 0 _ _ _ HX3.out
    have z1 := cell_of_row w3 w.heap.size 1 _ _ _ HX3.out
    have z2 := cell_of_row w3 w.heap.size 2 _ _ _ HX3.out
    have z3 := cell_of_row w3 w.heap.size 3 _ _ _ HX3.out
    have zf0 : w3.frozen? ⟨w.heap.size, 0, none⟩ = false := frozen_of_row _ _ 0 _ _ HX3.out
    have zf1 : w3.frozen? ⟨w.heap.size, 1, none⟩ = false := frozen_of_row _ _ 1 _ _ HX3.out
    have zf2 : w3.frozen? ⟨w.heap.size, 2, none⟩ = false := frozen_of_row _ _ 2 _ _ HX3.out
    have zf3 : w3.frozen? ⟨w.heap.size, 3, none⟩ = false := frozen_of_row _ _ 3 _ _ HX3.out
    have HS := Lib.hid (set4_at HX3.out (.int .i64 2) (.string ⟨#[49]⟩) (.bool sp) (.slice none 0 0))
    have HB := Lib.hid (set4_below (g := w.heap.size) hB3 (Nat.le_refl _) (.int .i64 2) (.string ⟨#[49]⟩) (.bool sp) (.slice none 0 0))
    unfold set4 at HS HB
    go_wp2
    refine bodyPost_ret (results_cell_row rfl _ _ (w.heap.size) _ _ _ _ rfl HS.out Try.underlying33 rfl (by kernel_rfl)) rfl ?_
    exact ⟨by rw [HIN.out]; rfl, HB.out⟩

def lenC : Value → Nat
  | .slice _ n _ => n
  | _ => 0

set_option maxHeartbeats 16000000 in
set_option maxRecDepth 100000 in
theorem impl_ReplaceDefined (vT : Value) (T : List DMacro) (fpT : List Nat) (v : Value) (l : List Tok) (fp : List Nat) (w : World) (HT : (sSlice sMacro).R w [vT] T fpT) (H : (sSlice sTok).R w [v] l fp) :
    Calls Try.prog 6 #[vT, v] w (MineRep (repRes T l) w) := by
  have HVT := Lib.hid (impl_TableValid vT T fpT w HT)
  have HVL := Lib.hid (fun (U : World) (hU : Below w.heap.size w U) => impl_TokensValid v l fp U ((sSlice sTok).below H hU))
  have HT0 := Lib.hid HT
  have HL0 := Lib.hid H
  have HLL := Lib.hid ((sSlice sTok).lt H)
  obtain ⟨aT, cT, rfl, -⟩ := open_rows HT
  obtain ⟨al, cl, rfl, -⟩ := open_rows H
  clear HT H
  go_enter Try.func6, Try.ntmps6
  cases ht : tabOk T
  · have HF := Lib.hid (repRes_bad (T := T) (l := l) (fun h => by rw [ht] at h; exact absurd h.1 (by simp)))
    rw [ht] at HVT
    clear ht HVL
    go_wp2_with fail
    refine HVT.out.mono ?_
    rintro e w3 ⟨rfl, hb3⟩
    go_wp2
    go_ret2
    exact mineRep_no HF.out hb3
  cases hv : toksOk l
  · have HF := Lib.hid (repRes_bad (T := T) (l := l) (fun h => by rw [hv] at h; exact absurd h.2 (by simp)))
    rw [ht] at HVT
    rw [hv] at HVL
    clear ht hv
    go_wp2_with fail
    refine HVT.out.mono ?_
    rintro e w3 ⟨rfl, hb3⟩
    go_wp2_with fail
    refine (HVL.out w3 hb3).mono ?_
    rintro e w4 ⟨rfl, hb4⟩
    go_wp2
    go_ret2
    exact mineRep_no HF.out (hb3.trans (hb4.mono hb3.size))
  have hl60 := (toksOk_facts hv).1
  have HOK : Hid (∀ t ∈ l, tokOk t = true) := fun t ht => by obtain ⟨k, hk, rfl⟩ := List.getElem_of_mem ht; exact (toksOk_facts hv).2 k hk
  have HTAB := Lib.hid ht
  obtain ⟨r, HR⟩ : ∃ r, Hid (r = repG T l 0 []) := ⟨_, Lib.hid rfl⟩
  have HF : Hid (repRes T l = r) := by show _ = _; unfold repRes; rw [if_pos ⟨ht, hv⟩]; exact HR.out.symm
  rw [ht] at HVT
  rw [hv] at HVL
  clear ht hv
  go_wp2_with fail
  refine HVT.out.mono ?_
  rintro e w3 ⟨rfl, hb3⟩
  go_wp2_with fail
  refine (HVL.out w3 hb3).mono ?_
  rintro e w4 ⟨rfl, hb4⟩
  have hb04 := hb3.trans (hb4.mono hb3.size)
  have HL4 := Lib.hid ((sSlice sTok).below HL0.out hb04)
  clear hb3 hb4 HVT HVL
  go_wp2
  go_loopw [6, 7] (fun vo vw wr => ∃ (k : Nat) (L : List (Elem Tok)) (fpw : List Nat), k ≤ l.length ∧ L.length ≤ k ∧ Hid ((sSlice sTok).R wr [vw] (l.drop k) fpw) ∧ Hid (∀ b ∈ fpw, b < w.heap.size) ∧ Hid (RowN sTok w.heap.size 33 vo L wr) ∧ Hid (Own wr w.heap.size (L.flatMap (·.fp))) ∧ Hid (repG T l k (L.map (·.d)) = r) ∧ Below w.heap.size w wr) (fun _ vw _ => lenC vw)
  case atStart => exact ⟨0, [], fp, by omega, by simp, HL4.out, HLL.out, RowN.nil _ _ _ _, Own.nil _ _, Lib.hid HR.out.symm, hb04⟩
  case round =>
    clear HL4 HR hb04
    obtain ⟨k, L, fpw, hk, hLk, HW, HWL, HG, HO, HI, hb⟩ := hrel
    obtain ⟨ao, co, hvo, -⟩ := HG.out.val
    subst hvo
    obtain ⟨aw, cw, hvw, hcw, hmw, hroww⟩ := open_rows HW.out
    subst hvw
    unfold maxLen at hmw
    have HROW : Hid (0 < (l.drop k).length → ∃ bb ob, aw = some ⟨bb, ob, none⟩) := fun h => by obtain ⟨b, o, -, e, -⟩ := hroww h; exact ⟨b, o, e⟩
    clear hroww
    obtain ⟨NW, HNW⟩ : ∃ NW : Nat, Hid (NW = (l.drop k).length) := ⟨_, Lib.hid rfl⟩
    rw [show (l.drop k).length = NW from HNW.out.symm] at HW hcw ⊢
    have HNW2 : Hid (NW = l.length - k) := by show _ = _; rw [HNW.out, List.length_drop]
    obtain ⟨NL, HNL⟩ : ∃ NL : Nat, Hid (NL = L.length) := ⟨L.length, Lib.hid rfl⟩
    rw [show L.length = NL from HNL.out.symm] at HG hLk ⊢
    by_cases hlt : k < l.length
    rotate_left
    · have HE : Hid (repRes T l = (L.map (·.d), true)) := by show _ = _; rw [HF.out, ← HI.out, rep_end (by omega)]
      obtain ⟨fx, rx, -, ox⟩ := HG.out.read
      have HRX := Lib.hid rx
      have HOX := Lib.hid (ox HO.out)
      have i0 : ¬ (0 : Int) < (NW : Int) := by have := HNW2.out; omega
      clear HI HF rx ox
      go_wp2
      go_ret2
      exact ⟨_, fx, by rw [HE.out]; rfl, by rw [HE.out]; exact HRX.out, HOX.out, hb⟩
    obtain ⟨bw, ow, rfl⟩ := HROW.out (by rw [List.length_drop]; omega)
    have i0 : (0 : Int) < (NW : Int) := by have := HNW2.out; omega
    have hd0 : 0 < (l.drop k).length := by rw [List.length_drop]; omega
    obtain ⟨xa, xc, xf, x0, x1, x2, x3, xR, hbb, hxf⟩ := tok_at HW.out hd0
    obtain ⟨tk, HTK⟩ : ∃ tk : Tok, Hid (tk = l[k]) := ⟨_, Lib.hid rfl⟩
    have e0 : (l.drop k)[0] = tk := by rw [HTK.out]; simp
    rw [e0] at x0 x1 x2 x3 xR
    simp only [Nat.zero_mul, Nat.add_zero] at x0 x1 x2 x3
    have bx := alloc_below' wr (.cells #[.int .i64 tk.kind, .string tk.text, .bool tk.spaced, .slice xa tk.hidden.length xc] 33)
    have HX := Lib.hid (heap_alloc_new wr (.cells #[.int .i64 tk.kind, .string tk.text, .bool tk.spaced, .slice xa tk.hidden.length xc] 33))
    have HXR := Lib.hid (sTok.below xR bx)
    have HGX := Lib.hid (HG.out.below bx)
    have HOX := Lib.hid (HO.out.grow bx)
    have HWX := Lib.hid ((sSlice sTok).below HW.out bx)
    have hbX := hb.trans (bx.mono hb.size)
    have hwr := hb.size
    have HMI := Lib.hid HG.out.mine
    have HTO : Hid (tokOk tk = true) := by show _ = _; rw [HTK.out]; exact HOK.out _ (List.getElem_mem hlt)
    have HDF : Hid (isDfn l[k] = (tk.text.toList == [100, 101, 102, 105, 110, 101, 100])) := by show _ = _; rw [← HTK.out]; exact con_dfn HTO.out
    have HHL : tk.hidden.length ≤ 2000000 := by have := (hid_parts (tok_hidOk HTO.out)).1; omega
    have HLTO := Lib.hid (fun b hb => HO.out.lt b hb)
    clear xR hxf hbb e0 HG HO HW hd0
    go_upto_region 7 with fail
    clear x0 x1 x2 x3
    generalize (wr.alloc (.cells #[.int .i64 tk.kind, .string tk.text, .bool tk.spaced, .slice xa tk.hidden.length xc] 33)) = W1 at *
    have hW1 := bx.size
    have p0 := cell_of_row W1 (wr.heap.size) 0 _ _ _ HX.out
    have p1 := cell_of_row W1 (wr.heap.size) 1 _ _ _ HX.out
    have p2 := cell_of_row W1 (wr.heap.size) 2 _ _ _ HX.out
    have p3 := cell_of_row W1 (wr.heap.size) 3 _ _ _ HX.out
    cases hd : (tk.text.toList == [100, 101, 102, 105, 110, 101, 100])
    · have HE : Hid (repG T l (k + 1) (L.map (·.d) ++ [tk]) = r) := by show _ = _; rw [HTK.out, ← rep_else hlt (by rw [HDF.out]; exact hd)]; exact HI.out
      have HC := Lib.hid (impl_copyToken _ tk _ W1 HHL HXR.out)
      clear HDF HI HTK HTO
      go_wp2_with fail
      refine HC.out.mono ?_
      rintro e w3 ⟨a3, c3, f3, rfl, R3, O3, -, hb3⟩
      clear p0 p1 p2 p3 HC
      have hb23 := bx.trans (hb3.mono bx.size)
      have hW3 := hb23.size
      have hb13 := hb.trans (hb23.mono hb.size)
      have bl := alloc_below' w3 (.cells #[.int .i64 tk.kind, .string tk.text, .bool tk.spaced, .slice a3 tk.hidden.length c3] 33)
      have HL4 := Lib.hid (heap_alloc_new w3 (.cells #[.int .i64 tk.kind, .string tk.text, .bool tk.spaced, .slice a3 tk.hidden.length c3] 33))
      have HR4 := Lib.hid ((HGX.out.below hb3).below bl)
      have HO4 := Lib.hid ((HOX.out.grow hb3).grow bl)
      have HW4 := Lib.hid ((sSlice sTok).below ((sSlice sTok).below HWX.out hb3) bl)
      have RX := Lib.hid (sTok.below R3 bl)
      have OX := Lib.hid (O3.grow bl)
      have hb14 := hb13.trans (bl.mono hb13.size)
      have HXN : Hid (∀ b ∈ f3, (Value.slice ao NL co).ownBlock ≠ some b) := fun b hb h => by
        have h1 := (HMI.out b h).2
        have h2 := (O3.2 b hb).1
        omega
      clear R3 O3 HGX HOX HWX HXR HX bx hb3 hb23 hbX
      clear hd
      go_upto_region 9 with (at_builtin; refine wp_append_rowN (X := [(⟨[.int .i64 tk.kind, .string tk.text, .bool tk.spaced, .slice a3 tk.hidden.length c3], tk, f3⟩ : Elem Tok)]) ti_tok rfl (by decide) _ rfl (.tmp 29) (.tmp 32) rfl w.heap.size (.slice ao NL co) rfl HR4.out ⟨w3.heap.size, 0, none⟩ 1 1 rfl rfl (fun x hx => by obtain rfl := List.mem_singleton.1 hx; exact ⟨rfl, RX.out, HXN.out⟩) (fun x hx => by obtain rfl := List.mem_singleton.1 hx; exact tok_one1 _ _ _ _ RX.out) (fun j u hj => by rw [addr_add, Nat.zero_add, cell_of_row _ _ _ _ _ _ HL4.out]; simpa using hj) (by have := HNL.out; unfold maxLen; omega) (by have := HNL.out; omega) hb14.size ?_; intro v5 w5 hR5 hg5 hp5)
      have hb5 : Below w.heap.size w w5 := hb14.grown hg5 hb14.size (fun b hb => (HMI.out b hb).1)
      have HO5 : Hid (Own w5 w.heap.size ((L ++ [(⟨[.int .i64 tk.kind, .string tk.text, .bool tk.spaced, .slice a3 tk.hidden.length c3], tk, f3⟩ : Elem Tok)]).flatMap (·.fp))) := by
        show Own _ _ _
        rw [flat_more]
        have e1 : ([(⟨[.int .i64 tk.kind, .string tk.text, .bool tk.spaced, .slice a3 tk.hidden.length c3], tk, f3⟩ : Elem Tok)]).flatMap (·.fp) = f3 := by simp
        rw [e1]
        refine own_grownN (HO4.out.app (OX.out.lower (by omega)) fun b hb hx => ?_) (fun b hb => ?_) hg5
        · have h1 := HLTO.out b hb
          have h2 := (OX.out.2 b hx).1
          omega
        · rcases List.mem_append.1 hb with hb | hb
          · obtain ⟨x, hx, hb'⟩ := List.mem_flatMap.1 hb
            exact HR4.out.ap x hx b hb'
          · exact HXN.out b hb
      have HW5 : Hid ((sSlice sTok).R w5 [.slice (some ⟨bw, ow, none⟩) NW cw] (l.drop k) fpw) := (sSlice sTok).frame (fun b hb' => hg5.block b ((sSlice sTok).lt HW4.out b hb') (fun e => by have := HWL.out b hb'; have := (HMI.out b e.symm).1; omega)) HW4.out
      have HR5 := Lib.hid hR5
      obtain ⟨a5, c5, hv5, -⟩ := hR5.val
      rw [show (L ++ [(⟨[.int .i64 tk.kind, .string tk.text, .bool tk.spaced, .slice a3 tk.hidden.length c3], tk, f3⟩ : Elem Tok)]).length = NL + 1 by rw [List.length_append, HNL.out]; rfl] at hv5
      subst hv5
      have hL5 : (L ++ [(⟨[.int .i64 tk.kind, .string tk.text, .bool tk.spaced, .slice a3 tk.hidden.length c3], tk, f3⟩ : Elem Tok)]).length ≤ k + 1 := by rw [List.length_append, ← HNL.out]; simp; omega
      clear hR5 hg5 hp5 HR4 HO4 HW4 RX HL4
      have o1 : (1 : Int) ≤ (NW : Int) := by have := HNW2.out; omega
      have o2 : 1 ≤ NW := by have := HNW2.out; omega
      have o3 : 1 ≤ cw := by omega
      have o4 : (1 : Int) ≤ (cw : Int) := by omega
      obtain ⟨fps, RS0, hfs⟩ := slice_drop 1 (by rw [← HNW.out]; exact o2 : 1 ≤ (l.drop k).length) HW5.out
      rw [Option.map_some, Addr.add_lit, show sTok.m = 4 from rfl, Nat.one_mul, List.drop_drop] at RS0
      have HFS : Hid (∀ b ∈ fps, b < w.heap.size) := fun b hb' => HWL.out b (hfs b hb')
      have HRS := Lib.hid RS0
      clear RS0 hfs HW5
      by_cases h1 : cw = 1
      · have HRS1 : Hid ((sSlice sTok).R w5 [.slice (some ⟨bw, ow, none⟩) (NW - 1) (cw - 1)] (l.drop (k + 1)) fps) := by have := HRS.out; rw [if_pos h1] at this; exact this
        subst h1
        obtain rfl : NW = 1 := by omega
        clear o3 o4
        go_wp2
        go_roundw
        case rel => exact ⟨k + 1, _, fps, by have := HNW2.out; omega, hL5, HRS1, HFS.out, HR5, HO5, by show _ = _; rw [List.map_append]; exact HE.out, hb5⟩
        case measure => simp [lenC] <;> omega
      · have HRS1 : Hid ((sSlice sTok).R w5 [.slice (some ⟨bw, ow + 4, none⟩) (NW - 1) (cw - 1)] (l.drop (k + 1)) fps) := by have := HRS.out; rw [if_neg h1] at this; exact this
        go_wp2
        go_roundw
        case rel => exact ⟨k + 1, _, fps, by have := HNW2.out; omega, hL5, HRS1, HFS.out, HR5, HO5, by show _ = _; rw [List.map_append]; exact HE.out, hb5⟩
        case measure => simp [lenC] <;> omega
    have HD : Hid (isDfn l[k] = true) := by show _ = _; rw [HDF.out]; exact hd
    have HAS := Lib.hid (impl_askedName _ (l.drop k) fpw W1 (by rw [List.length_drop]; omega) (by rw [List.length_drop]; omega) (fun t ht => HOK.out t (List.mem_of_mem_drop ht)) HWX.out)
    have HAL := Lib.hid (ask_len (l.drop k))
    have HRA := Lib.hid (rep_ask (T := T) (acc := L.map (·.d)) hlt HD.out)
    rcases ha : askR (l.drop k) with ⟨nm, bh⟩
    rw [ha] at HAS HAL HRA
    try dsimp only at HAS HAL HRA
    clear ha HDF HD p0 p3 HXR
    go_wp2_with fail
    refine HAS.out.mono ?_
    rintro e w3 ⟨rfl, rfl⟩
    clear HAS p1
    by_cases hb0 : bh = 0
    · have HE : Hid (repRes T l = ([], false)) := by show _ = _; rw [HF.out, ← HI.out, HRA.out, if_pos hb0]
      subst hb0
      go_wp2
      go_ret2
      exact mineRep_no HE.out hbX
    have HE0 : Hid (repG T l (k + bh) (L.map (·.d) ++ [numTk (hasT T nm) tk.spaced]) = r) := by show _ = _; rw [← HI.out, HRA.out, if_neg hb0, HTK.out]
    have e2 : ((bh : Int) == 0) = false := by simp; omega
    obtain ⟨hb2, hbl⟩ : 2 ≤ bh ∧ bh ≤ NW := by
      rcases HAL.out with h | h
      · exact absurd h hb0
      · rw [HNW.out]; exact h
    have HAN := Lib.hid (impl_answer _ T fpT nm tk.spaced w3 HTAB.out ((sSlice sMacro).below HT0.out hbX))
    rw [con_has HTAB.out] at HE0
    generalize isIn T nm = yes at *
    clear HI HRA HAL hb0 HTK HTO
    go_wp2_with fail
    refine HAN.out.mono ?_
    rintro e w6 ⟨rfl, hb6⟩
    obtain ⟨tx, HTX⟩ : ∃ tx : ByteArray, Hid (tx = if yes = true then ⟨#[49]⟩ else ⟨#[48]⟩) := ⟨_, Lib.hid rfl⟩
    rw [show (if yes = true then (⟨#[49]⟩ : ByteArray) else ⟨#[48]⟩) = tx from HTX.out.symm]
    have hb16 := hbX.trans (hb6.mono hbX.size)
    have hW6 := hb6.size
    have bl := alloc_below' w6 (.cells #[.int .i64 2, .string tx, .bool tk.spaced, .slice none 0 0] 33)
    have HL4 := Lib.hid (heap_alloc_new w6 (.cells #[.int .i64 2, .string tx, .bool tk.spaced, .slice none 0 0] 33))
    have HR4 := Lib.hid ((HGX.out.below hb6).below bl)
    have HO4 := Lib.hid ((HOX.out.grow hb6).grow bl)
    have HW4 := Lib.hid ((sSlice sTok).below ((sSlice sTok).below HWX.out hb6) bl)
    have RX : Hid (sTok.R (w6.alloc (.cells #[.int .i64 2, .string tx, .bool tk.spaced, .slice none 0 0] 33)) [.int .i64 2, .string tx, .bool tk.spaced, .slice none 0 0] (numTk yes tk.spaced) []) := by rw [HTX.out]; exact num_R _ yes tk.spaced
    have hb14 := hb16.trans (bl.mono hb16.size)
    have HXN : Hid (∀ b ∈ ([] : List Nat), (Value.slice ao NL co).ownBlock ≠ some b) := fun b hb => by simp at hb
    have HE := HE0
    clear HGX HOX HWX HX bx hb6 hbX HAN p2 hd HE0 HTX
    go_upto_region 14 with (at_builtin; refine wp_append_rowN (X := [(⟨[.int .i64 2, .string tx, .bool tk.spaced, .slice none 0 0], numTk yes tk.spaced, []⟩ : Elem Tok)]) ti_tok rfl (by decide) _ rfl (.tmp 43) (.tmp 49) rfl w.heap.size (.slice ao NL co) rfl HR4.out ⟨w6.heap.size, 0, none⟩ 1 1 rfl rfl (fun x hx => by obtain rfl := List.mem_singleton.1 hx; exact ⟨rfl, RX.out, HXN.out⟩) (fun x hx => by obtain rfl := List.mem_singleton.1 hx; exact tok_one1 _ _ _ _ RX.out) (fun j u hj => by rw [addr_add, Nat.zero_add, cell_of_row _ _ _ _ _ _ HL4.out]; simpa using hj) (by have := HNL.out; unfold maxLen; omega) (by have := HNL.out; omega) hb14.size ?_; intro v5 w5 hR5 hg5 hp5)
    have hb5 : Below w.heap.size w w5 := hb14.grown hg5 hb14.size (fun b hb => (HMI.out b hb).1)
    have HO5 : Hid (Own w5 w.heap.size ((L ++ [(⟨[.int .i64 2, .string tx, .bool tk.spaced, .slice none 0 0], numTk yes tk.spaced, []⟩ : Elem Tok)]).flatMap (·.fp))) := by
      show Own _ _ _
      rw [flat_more]
      have e1 : ([(⟨[.int .i64 2, .string tx, .bool tk.spaced, .slice none 0 0], numTk yes tk.spaced, []⟩ : Elem Tok)]).flatMap (·.fp) = [] := by simp
      rw [e1]
      rw [List.append_nil]
      refine own_grownN HO4.out (fun b hb => ?_) hg5
      obtain ⟨x, hx, hb'⟩ := List.mem_flatMap.1 hb
      exact HR4.out.ap x hx b hb'
    have HW5 : Hid ((sSlice sTok).R w5 [.slice (some ⟨bw, ow, none⟩) NW cw] (l.drop k) fpw) := (sSlice sTok).frame (fun b hb' => hg5.block b ((sSlice sTok).lt HW4.out b hb') (fun e => by have := HWL.out b hb'; have := (HMI.out b e.symm).1; omega)) HW4.out
    have HR5 := Lib.hid hR5
    obtain ⟨a5, c5, hv5, -⟩ := hR5.val
    rw [show (L ++ [(⟨[.int .i64 2, .string tx, .bool tk.spaced, .slice none 0 0], numTk yes tk.spaced, []⟩ : Elem Tok)]).length = NL + 1 by rw [List.length_append, HNL.out]; rfl] at hv5
    subst hv5
    have hL5 : (L ++ [(⟨[.int .i64 2, .string tx, .bool tk.spaced, .slice none 0 0], numTk yes tk.spaced, []⟩ : Elem Tok)]).length ≤ k + bh := by rw [List.length_append, ← HNL.out]; simp; omega
    clear hR5 hg5 hp5 HR4 HO4 HW4 RX HL4
    have o1 : (bh : Int) ≤ (NW : Int) := by have := HNW2.out; omega
    have o2 : bh ≤ NW := by have := HNW2.out; omega
    have o3 : bh ≤ cw := by omega
    have o4 : (bh : Int) ≤ (cw : Int) := by omega
    obtain ⟨fps, RS0, hfs⟩ := slice_drop bh (by rw [← HNW.out]; exact o2 : bh ≤ (l.drop k).length) HW5.out
    rw [Option.map_some, Addr.add_lit, show sTok.m = 4 from rfl, List.drop_drop] at RS0
    have HFS : Hid (∀ b ∈ fps, b < w.heap.size) := fun b hb' => HWL.out b (hfs b hb')
    have HRS := Lib.hid RS0
    clear RS0 hfs HW5
    by_cases h1 : cw = bh
    · have HRS1 : Hid ((sSlice sTok).R w5 [.slice (some ⟨bw, ow, none⟩) (NW - bh) 0] (l.drop (k + bh)) fps) := by have := HRS.out; rw [if_pos h1, show cw - bh = 0 by omega] at this; exact this
      have HC1 := Lib.hid h1
      go_wp2
      go_roundw
      case rel => exact ⟨k + bh, _, fps, by have := HNW2.out; omega, hL5, HRS1, HFS.out, HR5, HO5, by show _ = _; rw [List.map_append]; exact HE.out, hb5⟩
      case measure => simp [lenC] <;> omega
    · have HRS1 : Hid ((sSlice sTok).R w5 [.slice (some ⟨bw, ow + bh * 4, none⟩) (NW - bh) (cw - bh)] (l.drop (k + bh)) fps) := by have := HRS.out; rw [if_neg h1] at this; exact this
      go_wp2
      go_roundw
      case rel => exact ⟨k + bh, _, fps, by have := HNW2.out; omega, hL5, HRS1, HFS.out, HR5, HO5, by show _ = _; rw [List.map_append]; exact HE.out, hb5⟩
      case measure => simp [lenC] <;> omega

theorem impl_ReplaceDefined_w (vT : Value) (T : List DMacro) (fpT : List Nat) (v : Value) (l : List Tok) (fp : List Nat) (w : World) (hT : wtMacroS T ≤ 1048576) (hl : wtTokenS l ≤ 1048576) (HT : (sSlice sMacro).R w [vT] T fpT) (H : (sSlice sTok).R w [v] l fp) :
    Calls Try.prog 6 #[vT, v] w (MineRep (repRes T l) w) := impl_ReplaceDefined vT T fpT v l fp w HT H

end Go.Proofs.Ytipfpppcbmpjiaa

/- SameMacro of both. -/
namespace Go.Proofs.Ytipfpppcbmpjiaa
open Go.RowKit

/-! ### Lists that agree at every place -/
def EqU {α β : Type} (f : α → β) (a b : List α) (k : Nat) : Prop := ∀ j, (h : j < a.length) → (h' : j < b.length) → j < k → f a[j] = f b[j]
section
variable {α β : Type} {f : α → β} {a b : List α} {k : Nat}
theorem EqU.zero (f : α → β) (a b : List α) : EqU f a b 0 := by intro j _ _ h; omega
theorem EqU.succ (h : EqU f a b k) (h1 : k < a.length) (h2 : k < b.length) (e : f a[k] = f b[k]) : EqU f a b (k + 1) := by
  intro j hj hj' hjk
  by_cases e' : j = k
  · subst e'; exact e
  · exact h j hj hj' (by omega)
theorem EqU.yes (h : EqU f a b k) (hl : a.length = b.length) (hk : a.length ≤ k) : a.map f = b.map f := by
  refine List.ext_getElem (by simpa using hl) fun i h1 h2 => ?_
  simp only [List.length_map] at h1 h2
  rw [List.getElem_map, List.getElem_map]
  exact h i h1 h2 (by omega)
theorem eqU_no (h1 : k < a.length) (h2 : k < b.length) (e : f a[k] ≠ f b[k]) : a.map f ≠ b.map f := by
  intro e'
  have := List.getElem_of_eq e' (i := k) (by simpa using h1)
  rw [List.getElem_map, List.getElem_map] at this
  exact e this
end

def spOf (t : Tok) : Bool := t.spaced
def bodySame (a b : List Tok) : Bool := sameTx a b && decide (a.map spOf = b.map spOf)
def sameMac (x y : DMacro) : Bool := decide (x.name = y.name) && decide (x.function = y.function) && decide (x.params = y.params) && bodySame x.body y.body
theorem sameTx_len {a b : List Tok} (h : sameTx a b = true) : a.length = b.length := by
  by_cases e : a.length = b.length
  · exact e
  · rw [same_len e] at h; simp at h
theorem sameMac_name {x y : DMacro} (h : x.name ≠ y.name) : sameMac x y = false := by unfold sameMac; rw [decide_eq_false h]; rfl
theorem sameMac_fun {x y : DMacro} (h : x.function ≠ y.function) : sameMac x y = false := by unfold sameMac; rw [decide_eq_false h, Bool.and_false]; rfl
theorem sameMac_par {x y : DMacro} (h : x.params ≠ y.params) : sameMac x y = false := by unfold sameMac; rw [decide_eq_false h, Bool.and_false]; rfl
theorem sameMac_bod {x y : DMacro} (h : bodySame x.body y.body = false) : sameMac x y = false := by unfold sameMac; rw [h, Bool.and_false]
theorem sameMac_yes {x y : DMacro} (h0 : x.name = y.name) (h1 : x.function = y.function) (h2 : x.params = y.params) (h3 : bodySame x.body y.body = true) : sameMac x y = true := by
  unfold sameMac; rw [h3, decide_eq_true h0, decide_eq_true h1, decide_eq_true h2]; rfl
theorem bodySame_tx {a b : List Tok} (h : sameTx a b = false) : bodySame a b = false := by unfold bodySame; rw [h]; rfl
theorem bodySame_sp {a b : List Tok} (h : a.map spOf ≠ b.map spOf) : bodySame a b = false := by unfold bodySame; rw [decide_eq_false h, Bool.and_false]
theorem bodySame_yes {a b : List Tok} (h : sameTx a b = true) (h2 : a.map spOf = b.map spOf) : bodySame a b = true := by unfold bodySame; rw [h, decide_eq_true h2]; rfl

/-! ### slices.Equal at texts -/
theorem blk2 {w w' : World} {a b : Nat} {x y : Obj} (h : w.heap[a]? = some x ∧ w.heap[b]? = some y) (hb : Below w.heap.size w w') : w'.heap[a]? = some x ∧ w'.heap[b]? = some y :=
  ⟨(hb.block _ (Array.getElem?_eq_some_iff.1 h.1).1).trans h.1, (hb.block _ (Array.getElem?_eq_some_iff.1 h.2).1).trans h.2⟩

set_option maxHeartbeats 8000000 in
set_option maxRecDepth 100000 in
theorem spec_SameMacro (cs1 cs2 : List Value) (x y : DMacro) (fp1 fp2 : List Nat) (w : World) (H1 : sMacro.R w cs1 x fp1) (H2 : sMacro.R w cs2 y fp2) :
    Calls Try.prog 62 #[.agg cs1.toArray, .agg cs2.toArray] w (Says (sameMac x y) w) := by
  obtain ⟨h2, h3, fpa2, fpa3, rfl, -, K2, K3, rfl⟩ := H1
  obtain ⟨g2, g3, fpb2, fpb3, rfl, -, L2, L3, rfl⟩ := H2
  have HS := Lib.hid (fun W (hW : Below w.heap.size w W) => spec_SameTexts _ _ x.body y.body _ _ W ((sSlice sTok).below K3 hW) ((sSlice sTok).below L3 hW))
  obtain ⟨a2, ca2, rfl, hc2, hm2, hr2, -⟩ := open_strs K2
  obtain ⟨a3, ca3, rfl, hc3, hm3, hr3⟩ := open_rows K3
  obtain ⟨d2, cd2, rfl, hcd2, hmd2, hs2, -⟩ := open_strs L2
  obtain ⟨d3, cd3, rfl, hcd3, hmd3, hs3⟩ := open_rows L3
  unfold maxLen at hm2 hm3 hmd2 hmd3
  have b0 := alloc_below' w (.cells #[.string x.name, .bool x.function, .slice a2 x.params.length ca2, .slice a3 x.body.length ca3] 70)
  have b1 := b0.trans ((alloc_below' (w.alloc (.cells #[.string x.name, .bool x.function, .slice a2 x.params.length ca2, .slice a3 x.body.length ca3] 70)) (.cells #[.string y.name, .bool y.function, .slice d2 y.params.length cd2, .slice d3 y.body.length cd3] 70)).mono b0.size)
  have HX := Lib.hid (alloc2_blk w #[.string x.name, .bool x.function, .slice a2 x.params.length ca2, .slice a3 x.body.length ca3] #[.string y.name, .bool y.function, .slice d2 y.params.length cd2, .slice d3 y.body.length cd3] 70 70)
  clear K2 K3 L2 L3 b0
  by_cases e0 : x.name = y.name
  rotate_left
  · have g0 := bytes_bne e0
    have HF := Lib.hid (sameMac_name e0)
    clear e0
    go_enter Try.func62, Try.ntmps62
    go_wp2
    go_ret
    exact ⟨ret_bool HF.out.symm, b1⟩
  have g0 := bytes_beq e0
  by_cases e1 : x.function = y.function
  rotate_left
  · have g1 : (x.function == y.function) = false := by simp [e1]
    have HF := Lib.hid (sameMac_fun e1)
    clear e0 e1
    go_enter Try.func62, Try.ntmps62
    go_wp2
    go_ret
    exact ⟨ret_bool HF.out.symm, b1⟩
  have g1 : (x.function == y.function) = true := by simp [e1]
  by_cases e2 : x.params.length = y.params.length
  rotate_left
  · have g2 : ((x.params.length : Int) != (y.params.length : Int)) = true := by simp; omega
    have HF := Lib.hid (sameMac_par (fun h => e2 (by rw [h]) : x.params ≠ y.params))
    clear e0 e1 e2
    go_enter Try.func62, Try.ntmps62
    go_wp2
    go_ret
    exact ⟨ret_bool HF.out.symm, b1⟩
  have g2 : ((x.params.length : Int) != (y.params.length : Int)) = false := by simp [e2]
  cases e3 : sameTx x.body y.body
  · rw [e3] at HS
    have HF := Lib.hid (sameMac_bod (bodySame_tx e3))
    clear e0 e1 e2 e3
    go_enter Try.func62, Try.ntmps62
    go_wp2_with fail
    refine (HS.out _ b1).mono ?_
    rintro e w2 ⟨rfl, c2⟩
    go_wp2
    go_ret
    exact ⟨ret_bool HF.out.symm, b1.trans (c2.mono b1.size)⟩
  rw [e3] at HS
  have HL2 := Lib.hid e2
  have HL3 := Lib.hid (sameTx_len e3)
  have HY : Hid (x.params = y.params → x.body.map spOf = y.body.map spOf → sameMac x y = true) := fun h h' => sameMac_yes e0 e1 h (bodySame_yes e3 h')
  clear e0 e1 e2 e3
  go_enter Try.func62, Try.ntmps62
  go_wp2_with fail
  refine (HS.out _ b1).mono ?_
  rintro e w2 ⟨rfl, c2⟩
  have d2' := b1.trans (c2.mono b1.size)
  replace HX := Lib.hid (blk2 HX.out c2)
  clear c2 HS b1 g0 g1 g2
  go_wp2_with fail
  go_loopw [5] (fun i wr => ∃ k : Nat, k ≤ x.params.length ∧ i = .int .i64 k ∧ Hid (EqU id x.params y.params k) ∧ Below w2.heap.size w2 wr) (fun i _ => x.params.length - (intOf i).toNat)
  case atStart => exact ⟨0, by omega, rfl, EqU.zero _ _ _, Below.refl _ _⟩
  case round =>
    obtain ⟨k, hk, rfl, hall, hb⟩ := hrel
    have HXr := Lib.hid (blk2 HX.out hb)
    have qa2 : wr.cell? ⟨w.heap.size, 2, none⟩ = some (.slice a2 x.params.length ca2) := cell_of_row _ _ 2 _ _ _ HXr.out.1
    have qb2 : wr.cell? ⟨w.heap.size + 1, 2, none⟩ = some (.slice d2 y.params.length cd2) := cell_of_row _ _ 2 _ _ _ HXr.out.2
    have d2r := d2'.trans (hb.mono d2'.size)
    by_cases hlt : k < x.params.length
    · have hlt2 : k < y.params.length := by have := HL2.out; omega
      obtain ⟨p1, o1, rfl, hp1, -, he1⟩ := hr2 (by omega)
      obtain ⟨p2, o2, rfl, hp2, -, he2⟩ := hs2 (by omega)
      have c1 : wr.cell? ⟨p1, o1 + k, none⟩ = some (.string x.params[k]) := (World.cell?_of_block (d2r.block p1 hp1)).trans (he1 k hlt)
      have c2 : wr.cell? ⟨p2, o2 + k, none⟩ = some (.string y.params[k]) := (World.cell?_of_block (d2r.block p2 hp2)).trans (he2 k hlt2)
      clear hr2 hs2 he1 he2
      by_cases e : x.params[k] = y.params[k]
      · have q := bytes_beq e
        have hn := Lib.hid (hall.out.succ hlt hlt2 e)
        clear e hall
        go_wp2
        go_quiet (fail)
        go_wp2
        go_roundw
        case rel => exact ⟨k + 1, by omega, by go_num, hn, belowN hb _⟩
        case measure => simp [intOf]; omega
      · have q := bytes_bne e
        have HF := Lib.hid (sameMac_par (fun h => eqU_no (f := id) hlt hlt2 e (by rw [h])))
        clear e hall
        go_wp2
        go_quiet (fail)
        go_wp2
        go_ret
        exact ⟨ret_bool HF.out.symm, belowN d2r _⟩
    · have hpar : x.params.map id = y.params.map id := hall.out.yes HL2.out (by omega)
      rw [List.map_id, List.map_id] at hpar
      replace HY := Lib.hid (HY.out hpar)
      clear hall hpar hr2 hs2
      go_wp2
      go_loopw [6] (fun i w3 => ∃ k : Nat, k ≤ x.body.length ∧ i = .int .i64 k ∧ Hid (EqU spOf x.body y.body k) ∧ Below wr.heap.size wr w3) (fun i _ => x.body.length - (intOf i).toNat)
      case atStart => exact ⟨0, by omega, rfl, EqU.zero _ _ _, Below.refl _ _⟩
      case round =>
        clear qa2 qb2
        obtain ⟨j, hj, rfl, hall, hb2⟩ := hrel
        have HX3 := Lib.hid (blk2 HXr.out hb2)
        have qa3 : wr.cell? ⟨w.heap.size, 3, none⟩ = some (.slice a3 x.body.length ca3) := cell_of_row _ _ 3 _ _ _ HX3.out.1
        have qb3 : wr.cell? ⟨w.heap.size + 1, 3, none⟩ = some (.slice d3 y.body.length cd3) := cell_of_row _ _ 3 _ _ _ HX3.out.2
        have d3r := d2r.trans (hb2.mono d2r.size)
        by_cases hlt : j < x.body.length
        · have hlt2 : j < y.body.length := by have := HL3.out; omega
          obtain ⟨b1, off1, fps1, rfl, hb1, -, he1⟩ := hr3 (by omega)
          obtain ⟨b2, off2, fps2, rfl, hb2', -, he2⟩ := hs3 (by omega)
          obtain ⟨es1, hE1, hR1⟩ := he1 j hlt
          obtain ⟨es2, hE2, hR2⟩ := he2 j hlt2
          clear hr3 hs3 he1 he2
          obtain ⟨h1, rfl, _, _, _⟩ := hR1
          obtain ⟨h2, rfl, _, _, _⟩ := hR2
          replace hE1 := hE1.frame (d3r.block b1 hb1)
          replace hE2 := hE2.frame (d3r.block b2 hb2')
          have c12 : wr.cell? ⟨b1, off1 + j * 4 + 2, none⟩ = some _ := elem_cell (j := 2) hE1 (by decide) rfl
          have c22 : wr.cell? ⟨b2, off2 + j * 4 + 2, none⟩ = some _ := elem_cell (j := 2) hE2 (by decide) rfl
          clear hE1 hE2
          by_cases e : x.body[j].spaced = y.body[j].spaced
          · have q1 : (x.body[j].spaced == y.body[j].spaced) = true := by simp [e]
            have hn := Lib.hid (hall.out.succ hlt hlt2 e)
            clear e hall
            go_wp2
            go_quiet (fail)
            go_wp2
            go_roundw
            case rel => exact ⟨j + 1, by omega, by go_num, hn, belowN hb2 _⟩
            case measure => simp [intOf]; omega
          · have q1 : (x.body[j].spaced == y.body[j].spaced) = false := by simp [e]
            have HF := Lib.hid (sameMac_bod (bodySame_sp (eqU_no (f := spOf) hlt hlt2 e)))
            clear e hall
            go_wp2
            go_quiet (fail)
            go_wp2
            go_ret
            exact ⟨ret_bool HF.out.symm, belowN d3r _⟩
        · have HF := Lib.hid (HY.out (hall.out.yes HL3.out (by omega)))
          clear hall
          go_wp2
          go_ret
          exact ⟨ret_bool HF.out.symm, d3r⟩

end Go.Proofs.Ytipfpppcbmpjiaa

/- append in a drawn region that is taken by hand (as RowG's laws, at one operation). Over any program. -/
namespace Go.Proofs.Ytipfpppcbmpjiaa
open Go.RowKit

/-- append of elements that stand somewhere. -/
theorem step_append_rowG {α : Type} {S : Shape α} {P : Program} {t e : TypeId} {z : Value} {bytes : Nat} (ti : TI P t e z S.m bytes) (hzs : z.cells.size = S.m) (h0 : 0 < S.m) (w : World) {L X : List (Elem α)} {ops : Array Oper} {o : Oper} {a : Act} {K : Act → World → Prop} {Q : Exit → Act → World → Prop} {E : Prop}
    (d : Nat) (hdst : o.dst = some d) (hg : o.guard = none) (s y : Operand) (ho : o.op = .call { callee := .builtin .append, args := #[s, y], argTypes := #[t, t] })
    (base : Nat) (v : Value) (hs : a.eval s = v) (hown : RowG S base e v L w) (g off m c : Nat) (hy : a.eval y = .slice (some ⟨g, off, none⟩) m c) (hm : X.length = m)
    (hX : ∀ x ∈ X, x.cells.length = S.m ∧ S.R w x.cells x.d x.fp ∧ ∀ b ∈ x.fp, b < base) (h1 : ∀ x ∈ X, ∀ u ∈ x.cells, u.oneCell' = true) (hcell : ∀ j u, (X.flatMap (·.cells))[j]? = some u → w.cell? ⟨g, off + j, none⟩ = some u)
    (h63 : L.length + m ≤ maxLen) (hbytes : (L.length + m) * bytes ≤ 140737488355328) (hbase : base ≤ w.heap.size)
    (h : ∀ v' w', RowG S base e v' (L ++ X) w' → w.grownBy w' v.ownBlock → K (a.put (some d) v') w') : if Region.wanted o (yielded ops a.tmps) = true then Oper.wp P o a w K Q else E := by
  rw [← hdst] at h
  have hwt : Region.wanted o (yielded ops a.tmps) = true := by simp [Region.wanted, hg]
  obtain ⟨i, hi, hz0, hz1, hz2⟩ := info_parts ti.2
  subst hm
  rw [if_pos hwt]
  refine wp_append_own w s y t ho base e i z S.m bytes ti.1 hi hz0 hz1 hz2 hzs h0 v L.length _ hs hown.row ⟨g, off, none⟩ X.length c (X.flatMap (·.cells)) hy (flatMap_len (f := Elem.cells) fun x hx => (hX x hx).1) ?_ ?_ h63 hbytes hbase fun v' w' r1 r2 _ => h v' w' ?_ r2
  · intro j u hj
    rw [Addr.add_lit]
    exact hcell j u hj
  · intro u hu
    obtain ⟨x, hx, hu⟩ := List.mem_flatMap.1 hu
    exact h1 x hx u hu
  · refine hown.appended ?_ r2 hX
    rw [List.length_append, List.flatMap_append]
    exact r1
theorem run_append_empty' {P : Program} {w : World} (base : Nat) (t ty e : TypeId) (i : TypeInfo) (size c : Nat) (ht : P.underlying t = some (.slice e)) (hi : P.info? e = some i)
    (v : Value) (n : Nat) (xs : List Value) (hown : w.ownsRow base e size v n xs) : (Builtin.append_ #[t, t] ty #[v, .slice none 0 c]).run P w = .ok v w := by
  rcases hown.2 with ⟨rfl, rfl⟩ | ⟨g, cap, cur, rfl, _, _, hnc, _⟩
  · simp [Builtin.append_, run_underlying ht, sizeOf, typeInfo, hi, Builtin.lenOf, Builtin.firstCells]
  · simp [Builtin.append_, run_underlying ht, sizeOf, typeInfo, hi, Builtin.lenOf, Builtin.firstCells, hnc, storeCells]
/-- append(s, row...), the row any that can be read, of blocks before the own row's. -/
theorem step_append_anyG {α : Type} {S : Shape α} {P : Program} {t e : TypeId} {z : Value} {bytes : Nat} (ti : TI P t e z S.m bytes) (hzs : z.cells.size = S.m) (h0 : 0 < S.m) (hone : ∀ w cs x fp, S.R w cs x fp → ∀ u ∈ cs, u.oneCell' = true) (w : World) {L : List (Elem α)} {ops : Array Oper} {o : Oper} {a : Act} {K : Act → World → Prop} {Q : Exit → Act → World → Prop} {E : Prop}
    (d : Nat) (hdst : o.dst = some d) (hg : o.guard = none) (s y : Operand) (ho : o.op = .call { callee := .builtin .append, args := #[s, y], argTypes := #[t, t] })
    (base : Nat) (v u : Value) (M : List α) (fp : List Nat) (hs : a.eval s = v) (hown : RowG S base e v L w) (hy : a.eval y = u) (HM : (sSlice S).R w [u] M fp) (hfp : ∀ b ∈ fp, b < base)
    (h63 : L.length + M.length ≤ maxLen) (hbytes : (L.length + M.length) * bytes ≤ 140737488355328) (hbase : base ≤ w.heap.size)
    (h : ∀ v' X w', X.map (·.d) = M → (∀ x ∈ X, ∀ b ∈ x.fp, b ∈ fp) → RowG S base e v' (L ++ X) w' → w.grownBy w' v.ownBlock → K (a.put (some d) v') w') : if Region.wanted o (yielded ops a.tmps) = true then Oper.wp P o a w K Q else E := by
  rw [← hdst] at h
  have hwt : Region.wanted o (yielded ops a.tmps) = true := by simp [Region.wanted, hg]
  obtain ⟨X, ad, cap, hXM, hXl, rfl, hmm, hX, hat⟩ := elems_of HM
  rw [← hXl] at h63 hbytes
  by_cases hM : 0 < M.length
  · obtain ⟨b, off, rfl, hb, hE⟩ := hat hM
    refine step_append_rowG ti hzs h0 w (X := X) d hdst hg s y ho base v hs hown b off M.length cap hy hXl (fun x hx => ⟨(hX x hx).1, (hX x hx).2.1, fun c hc => hfp c ((hX x hx).2.2 c hc)⟩) (fun x hx => hone _ _ _ _ (hX x hx).2.1) ?_ (by rw [← hXl]; exact h63) (by rw [← hXl]; exact hbytes) hbase fun v' w' r1 r2 => by rw [← hdst]; exact h v' X w' hXM (fun x hx => (hX x hx).2.2) r1 r2
    intro j u hj
    have hjl : j < X.length * S.m := by
      have := (List.getElem?_eq_some_iff.1 hj).1
      rwa [flatMap_len (f := Elem.cells) fun x hx => (hX x hx).1] at this
    have hk : j / S.m < X.length := Nat.div_lt_of_lt_mul (by rw [Nat.mul_comm]; exact hjl)
    have hr : j % S.m < S.m := Nat.mod_lt _ h0
    have hj2 : j / S.m * S.m + j % S.m = j := Nat.div_add_mod' _ _
    rw [← hj2, flatMap_at (f := Elem.cells) (fun x hx => (hX x hx).1) hk hr] at hj
    have := (hE (j / S.m) hk).2 (j % S.m) hr
    rw [Nat.add_assoc, hj2] at this
    rw [this]
    exact hj
  · have hX0 : X = [] := List.length_eq_zero_iff.1 (by omega)
    have hM0 : M.length = 0 := by omega
    subst hX0
    obtain ⟨i, hi, hz0, hz1, hz2⟩ := info_parts ti.2
    have hdone : K (a.put o.dst v) w := h v [] w (by simpa using hXM) (by simp) (by simpa using hown) ⟨rfl, rfl, rfl, Nat.le_refl _, fun _ _ _ => rfl⟩
    rw [hM0] at hy
    cases ad with
    | none =>
      have hrun := run_append_empty' (P := P) (w := w) base _ o.type _ i S.m cap ti.1 hi v L.length _ hown.row
      rw [if_pos hwt]
      unfold Oper.wp
      simp [execOp, ho, resolve, invoke, builtin, hs, hy, hrun, Result.andThen]
      exact hdone
    | some ad =>
      rw [if_pos hwt]
      refine wp_append_own w s y t ho base e i z S.m bytes ti.1 hi hz0 hz1 hz2 hzs h0 v L.length _ hs hown.row ad 0 cap [] hy (by simp) (by simp) (by simp) (by omega) (by simpa using hbytes) hbase fun v' w' r1 r2 _ => h v' [] w' (by simpa using hXM) (by simp) ?_ r2
      exact hown.appended (X := []) (by have h1' := r1; simp only [Nat.add_zero, List.append_nil] at h1' ⊢; exact h1') r2 (by simp)

end Go.Proofs.Ytipfpppcbmpjiaa

/- Define (spec). (Made by gen_tab7.py.) -/
namespace Go.Proofs.Ytipfpppcbmpjiaa
open Go.RowKit

def putAt (l : List DMacro) (m : DMacro) (k : Nat) : List DMacro := l.take k ++ [m] ++ l.drop k
def defM (l : List DMacro) (m : DMacro) : List DMacro × Bool :=
  if tabOk l = true then
    (if macOk m = true then
      (if isIn l m.name = true then (l, (if h : lowAt l m.name < l.length then sameMac l[lowAt l m.name] m else false))
       else if l.length = 10 then (l, false) else (putAt l m (lowAt l m.name), true))
     else (l, false))
  else ([], false)
theorem isIn_lt2 {l : List DMacro} {nm : ByteArray} (hi : isIn l nm = true) : lowAt l nm < l.length := by
  by_cases h : lowAt l nm < l.length
  · exact h
  · unfold isIn at hi; rw [dif_neg h] at hi; exact absurd hi (by simp)
/-- What Define returns: a row of the call's own. -/
def RetDef (r : List DMacro × Bool) (w : World) (e : Ending) (w' : World) : Prop :=
  ∃ (v : Value) (L : List (Elem DMacro)) (top : Nat), e = .returned (.tuple #[v, .bool r.2]) ∧ RowG sMacro top 70 v L w' ∧ L.map (·.d) = r.1 ∧ w.heap.size ≤ top ∧ top ≤ w'.heap.size ∧ (∀ x ∈ L, ∀ b ∈ x.fp, w.heap.size ≤ b) ∧ Below w.heap.size w w'

set_option maxHeartbeats 16000000 in
set_option maxRecDepth 100000 in
theorem spec_Define (v : Value) (l : List DMacro) (fp : List Nat) (cs : List Value) (m : DMacro) (fpm : List Nat) (w : World) (hl : l.length ≤ 1048576) (hx : ∀ k, (hk : k < l.length) → MacSm l[k]) (hm : MacSm m) (H : (sSlice sMacro).R w [v] l fp) (Hm : sMacro.R w cs m fpm) :
    Calls Try.prog 48 #[v, .agg cs.toArray] w (RetDef (defM l m) w) := by
  have HM0 := Hm
  obtain ⟨h2, h3, q2, q3, rfl, -, K2, K3, -⟩ := Hm
  obtain ⟨a2, c2, rfl, -⟩ := open_strs K2
  obtain ⟨a3, c3, rfl, -⟩ := open_rows K3
  clear K2 K3
  have b0 := alloc_below' w (.cells #[.string m.name, .bool m.function, .slice a2 m.params.length c2, .slice a3 m.body.length c3] 70)
  have HX0 := Lib.hid (heap_alloc_new w (.cells #[.string m.name, .bool m.function, .slice a2 m.params.length c2, .slice a3 m.body.length c3] 70))
  have hs0 : (w.alloc (.cells #[.string m.name, .bool m.function, .slice a2 m.params.length c2, .slice a3 m.body.length c3] 70)).heap.size = w.heap.size + 1 := Array.size_push _
  have HC := Lib.hid (spec_l1OwnMacroList v l fp _ hl hx ((sSlice sMacro).below H b0))
  have HM1 := sMacro.below HM0 b0
  have HS := Lib.hid hs0
  clear hs0 H HM0
  go_enter Try.func48, Try.ntmps48
  go_wp2_with fail
  refine HC.out.mono ?_
  rintro e w1 ⟨v1, f1, rfl, R1, lo1, hb1⟩
  have hs1 := hb1.size
  rw [HS.out] at hs1
  have HX1 := Lib.hid ((hb1.block w.heap.size (by rw [HS.out]; omega)).trans HX0.out)
  have HM2 := sMacro.below HM1 hb1
  have hB1 := b0.trans (hb1.mono b0.size)
  have LO1 : Hid (∀ b ∈ f1, w.heap.size + 1 ≤ b ∧ b < w1.heap.size) := fun b hb => ⟨by have := lo1 b hb; rw [HS.out] at this; exact this, (sSlice sMacro).lt R1 b hb⟩
  clear HC HX0 HM1 b0 lo1 hb1 HS
  have y0 : w1.cell? ⟨w.heap.size, 0, none⟩ = some (.string m.name) := cell_of_row _ _ 0 _ _ _ HX1.out
  have y1 : w1.cell? ⟨w.heap.size, 1, none⟩ = some (.bool m.function) := cell_of_row _ _ 1 _ _ _ HX1.out
  have y2 : w1.cell? ⟨w.heap.size, 2, none⟩ = some (.slice a2 m.params.length c2) := cell_of_row _ _ 2 _ _ _ HX1.out
  have y3 : w1.cell? ⟨w.heap.size, 3, none⟩ = some (.slice a3 m.body.length c3) := cell_of_row _ _ 3 _ _ _ HX1.out
  go_wp2_with fail
  refine (spec_l1OwnMacro _ m _ w1 hm.1 hm.2.1 hm.2.2 HM2).mono ?_
  rintro e w2 ⟨b2, b3, d2, d3, f2, rfl, R2, lo2, -, hb2⟩
  have hs2 := hb2.size
  have HX2 := Lib.hid ((hb2.block w.heap.size (by omega)).trans HX1.out)
  have hB2 := hB1.trans (hb2.mono hB1.size)
  have HR1 : Hid ((sSlice sMacro).R (setM w2 w.heap.size (.string m.name) (.bool m.function) (.slice b2 m.params.length d2) (.slice b3 m.body.length d3)) [v1] l f1) := (sSlice sMacro).frame (fun b hb => setM_far (by have := (LO1.out b hb).1; omega) _ _ _ _) ((sSlice sMacro).below R1 hb2)
  have HR2 : Hid (sMacro.R (setM w2 w.heap.size (.string m.name) (.bool m.function) (.slice b2 m.params.length d2) (.slice b3 m.body.length d3)) [.string m.name, .bool m.function, .slice b2 m.params.length d2, .slice b3 m.body.length d3] m f2) := sMacro.frame (fun b hb => setM_far (by have := lo2 b hb; omega) _ _ _ _) R2
  have HX3 : Hid ((setM w2 w.heap.size (.string m.name) (.bool m.function) (.slice b2 m.params.length d2) (.slice b3 m.body.length d3)).heap[w.heap.size]? = some (.cells #[.string m.name, .bool m.function, .slice b2 m.params.length d2, .slice b3 m.body.length d3] 70 (0, 0))) := setM_at HX2.out _ _ _ _
  have HB3 := Lib.hid (setM_below hB2 (Nat.le_refl w.heap.size) (.string m.name) (.bool m.function) (.slice b2 m.params.length d2) (.slice b3 m.body.length d3))
  have LO2 : Hid (∀ b ∈ f2, w1.heap.size ≤ b ∧ b < w2.heap.size) := fun b hb => ⟨lo2 b hb, sMacro.lt R2 b hb⟩
  have HS3 : Hid ((setM w2 w.heap.size (.string m.name) (.bool m.function) (.slice b2 m.params.length d2) (.slice b3 m.body.length d3)).heap.size = w2.heap.size) := by show _ = _; unfold setM; simp
  clear y0 y1 y2 y3 HX1 HM2 hB1 R1 R2 lo2 hb2 hB2
  have z0 : w2.cell? ⟨w.heap.size, 0, none⟩ = some (.string m.name) := cell_of_row _ _ 0 _ _ _ HX2.out
  have zf0 : w2.frozen? ⟨w.heap.size, 0, none⟩ = false := frozen_of_row _ _ 0 _ _ HX2.out
  have z1 : w2.cell? ⟨w.heap.size, 1, none⟩ = some (.bool m.function) := cell_of_row _ _ 1 _ _ _ HX2.out
  have zf1 : w2.frozen? ⟨w.heap.size, 1, none⟩ = false := frozen_of_row _ _ 1 _ _ HX2.out
  have z2 : w2.cell? ⟨w.heap.size, 2, none⟩ = some (.slice a2 m.params.length c2) := cell_of_row _ _ 2 _ _ _ HX2.out
  have zf2 : w2.frozen? ⟨w.heap.size, 2, none⟩ = false := frozen_of_row _ _ 2 _ _ HX2.out
  have z3 : w2.cell? ⟨w.heap.size, 3, none⟩ = some (.slice a3 m.body.length c3) := cell_of_row _ _ 3 _ _ _ HX2.out
  have zf3 : w2.frozen? ⟨w.heap.size, 3, none⟩ = false := frozen_of_row _ _ 3 _ _ HX2.out
  go_wp2_with fail
  change Calls _ _ _ (setM w2 w.heap.size (.string m.name) (.bool m.function) (.slice b2 m.params.length d2) (.slice b3 m.body.length d3)) _
  have hs3 := HS3.out
  generalize setM w2 w.heap.size (.string m.name) (.bool m.function) (.slice b2 m.params.length d2) (.slice b3 m.body.length d3) = w3 at *
  clear z0 z1 z2 z3 zf0 zf1 zf2 zf3 HX2 HS3
  refine (spec_TableValid v1 l f1 w3 HR1.out).mono ?_
  rintro e w4 ⟨rfl, hb4⟩
  have hs4 := hb4.size
  have HX4 := Lib.hid ((hb4.block w.heap.size (by omega)).trans HX3.out)
  have HR4 := Lib.hid ((sSlice sMacro).below HR1.out hb4)
  have HM4 := Lib.hid (sMacro.below HR2.out hb4)
  have HB4 := Lib.hid (HB3.out.trans (hb4.mono HB3.out.size))
  clear HX3 HR1 HR2 HB3 hb4
  by_cases ht : tabOk l = true
  rotate_left
  · have HD : Hid (defM l m = ([], false)) := by show _ = _; unfold defM; rw [if_neg ht]
    rw [Bool.eq_false_iff.2 ht]
    have hlit := Lib.hid (RowG.lit0 sMacro 70 w4)
    have hba := alloc_below' w4 (.cells #[] 70)
    have HF := Lib.hid (HB4.out.trans (hba.mono HB4.out.size))
    have hba2 := hba.size
    clear ht hba
    go_wp2
    go_ret2
    exact ⟨_, [], w4.heap.size, by rw [HD.out]; rfl, hlit.out, by rw [HD.out]; rfl, by omega, hba2, by simp, HF.out⟩
  rw [ht]
  have HTK := Lib.hid ht
  clear ht
  obtain ⟨a1, cap1, rfl, hc1, hm1, -⟩ := open_rows HR4.out
  have hl10 : l.length ≤ 10 := (tabOk_at HTK.out).1
  have hlit := Lib.hid (RowG.lit0 sMacro 70 w4)
  have hba := alloc_below' w4 (.cells #[] 70)
  have HR4' := Lib.hid ((sSlice sMacro).below HR4.out hba)
  have HX4' := Lib.hid ((hba.block w.heap.size (by omega)).trans HX4.out)
  have HM4' := Lib.hid (sMacro.below HM4.out hba)
  have HB4' := Lib.hid (HB4.out.trans (hba.mono HB4.out.size))
  have HBA := Lib.hid hba.size
  clear hba HX4 HM4 HB4 HR4
  go_wp2_with (at_builtin; refine wp_append_anyG ti_mac rfl (by decide) mac_one _ rfl (.tmp 16) (.tmp 17) rfl w4.heap.size (.slice (some ⟨w4.heap.size, 0, none⟩) 0 0) (.slice a1 l.length cap1) l f1 rfl hlit.out rfl HR4'.out (fun b hb => by have := (LO1.out b hb).2; omega) (by simp [maxLen]; omega) (by simp; omega) HBA.out ?_; intro v6 X w6 hXd hXf hG hgr; have hb6 : Below w4.heap.size (w4.alloc (.cells #[] 70)) w6 := (Below.refl w4.heap.size (w4.alloc (.cells #[] 70))).grown hgr HBA.out (fun b hb => by have e : w4.heap.size = b := (by simpa [Value.ownBlock] using hb); omega); have HX6 := Lib.hid ((hb6.block w.heap.size (by omega)).trans HX4'.out); have n0 : w6.cell? ⟨w.heap.size, 0, none⟩ = some (.string m.name) := cell_of_row _ _ 0 _ _ _ HX6.out; have HALL := Lib.hid (And.intro hXd (And.intro hXf (And.intro hG hb6))); obtain ⟨av, cv, rfl, hq⟩ := hG.val; clear hq hXd hXf hG hgr hb6)

  obtain ⟨hXd, hXf, hG, hb6⟩ := HALL.out
  have hs6 := hb6.size
  have hba1 := HBA.out
  have LOX : Hid (∀ x ∈ X, ∀ b ∈ x.fp, w.heap.size ≤ b) := fun x hx b hb => by have := (LO1.out b (hXf x hx b hb)).1; omega
  have hR6 := (sSlice sMacro).frame (w' := w6) (fun b hb => hb6.block b (by have := (LO1.out b hb).2; omega)) HR4'.out
  have HM6 := Lib.hid (sMacro.frame (w' := w6) (fun b hb => hb6.block b (by have := (LO2.out b hb).2; omega)) HM4'.out)
  have HR6 := Lib.hid hR6
  have HG6 := Lib.hid (show RowG sMacro w4.heap.size 70 (.slice av X.length cv) X w6 from hG)
  have HXD := Lib.hid hXd
  have HB6 := Lib.hid (HB4'.out.trans (hb6.mono (by omega)))
  clear hXd hXf hG hb6 hR6 HALL HR4' HM4' HX4' HB4' hlit HBA
  refine (spec_l6Place (.slice a1 l.length cap1) l m.name f1 w6 HR6.out).mono ?_
  rintro e w7 ⟨rfl, hb7⟩
  have hs7 := hb7.size
  have HX7 := Lib.hid ((hb7.block w.heap.size (by omega)).trans HX6.out)
  have HR7 := Lib.hid ((sSlice sMacro).below HR6.out hb7)
  have HM7 := Lib.hid (sMacro.below HM6.out hb7)
  have HG7 := Lib.hid (HG6.out.below hb7)
  have HB7 := Lib.hid (HB6.out.trans (hb7.mono HB6.out.size))
  clear hb7 HX6 HR6 HM6 HG6 HB6 n0
  have HPL := Lib.hid (place_in HTK.out m.name)
  have p0 : w7.cell? ⟨w.heap.size, 0, none⟩ = some (.string m.name) := cell_of_row _ _ 0 _ _ _ HX7.out
  have p1 : w7.cell? ⟨w.heap.size, 1, none⟩ = some (.bool m.function) := cell_of_row _ _ 1 _ _ _ HX7.out
  have p2 : w7.cell? ⟨w.heap.size, 2, none⟩ = some (.slice b2 m.params.length d2) := cell_of_row _ _ 2 _ _ _ HX7.out
  have p3 : w7.cell? ⟨w.heap.size, 3, none⟩ = some (.slice b3 m.body.length d3) := cell_of_row _ _ 3 _ _ _ HX7.out
  have HV7 := Lib.hid (fun W (hW : Below w7.heap.size w7 W) => spec_MacroValid [.string m.name, .bool m.function, .slice b2 m.params.length d2, .slice b3 m.body.length d3] m f2 W (sMacro.below HM7.out hW))
  have LEN : Hid ((l.length : Int) = 10 ↔ l.length = 10) := by show _ ↔ _; omega
  cases hv : macOk m
  · -- the macro is not valid
    have HD : Hid (defM l m = (l, false)) := by show _ = _; unfold defM; rw [if_pos HTK.out, if_neg (by rw [hv]; simp)]
    rw [hv] at HV7
    generalize place l m.name = pp at *
    clear hv HPL
    go_wp2_with fail
    refine (HV7.out _ (Below.refl _ _)).mono ?_
    rintro e w8 ⟨rfl, hb8⟩
    have hs8 := hb8.size
    have HX8 := Lib.hid ((hb8.block w.heap.size (by omega)).trans HX7.out)
    have HM8 := Lib.hid (sMacro.below HM7.out hb8)
    have HG8 := Lib.hid (HG7.out.below hb8)
    have HB8 := Lib.hid (HB7.out.trans (hb8.mono HB7.out.size))
    have hR8 := (sSlice sMacro).below HR7.out hb8
    have HV8 := Lib.hid (fun W (hW : Below w8.heap.size w8 W) => HV7.out W (hb8.trans (hW.mono hb8.size)))
    clear p0 p1 p2 p3 HX7 HM7 HG7 HB7 HR7 HV7 hb8
    go_wp2_with fail
    have hd : Below w8.heap.size w8 w8.drew := belowN (Below.refl _ _) 1
    refine wp_region_noPanic ?_
    refine wp_region_held_drew (S := fun w' => w'.heap[w.heap.size]? = some (.cells #[.string m.name, .bool m.function, .slice b2 m.params.length d2, .slice b3 m.body.length d3] 70 (0, 0))) (by kernel_rfl) (by exact HX8.out) (fun hHeld => ?_)
    refine takeH 0 35 (v := ?_) rfl rfl (by kernel_rfl) (by kernel_rfl) (by kernel_rfl) (fun _ _ _ h => h) (by rfl) (by assumption) ?_ ?_
    rotate_left
    · intro w hSw; have sb := hSw; have s0 := cell_of_row _ _ 0 _ _ _ sb; have s1 := cell_of_row _ _ 1 _ _ _ sb; have s2 := cell_of_row _ _ 2 _ _ _ sb; have s3 := cell_of_row _ _ 3 _ _ _ sb; go_simp; (first | done | with_reducible rfl)
    try simp only [Act.put, List.setIfInBounds_toArray, List.set_cons_zero, List.set_cons_succ]
    refine takeH 1 36 (v := ?_) rfl rfl (by kernel_rfl) (by kernel_rfl) (by kernel_rfl) (fun _ _ _ h => h) (by rfl) (by assumption) ?_ ?_
    rotate_left
    · intro w hSw; have sb := hSw; have s0 := cell_of_row _ _ 0 _ _ _ sb; have s1 := cell_of_row _ _ 1 _ _ _ sb; have s2 := cell_of_row _ _ 2 _ _ _ sb; have s3 := cell_of_row _ _ 3 _ _ _ sb; go_simp; (first | done | with_reducible rfl)
    try simp only [Act.put, List.setIfInBounds_toArray, List.set_cons_zero, List.set_cons_succ]
    refine wpAnyH_ready (rs := [2]) (by kernel_rfl) (by simp) ?_
    refine AllReadyH.cons rfl (fun K hK => ?_) AllReadyH.nil
    go_simp
    refine (HV8.out _ hd).mono ?_
    rintro e w9 ⟨rfl, hb9⟩
    have hb89 := hd.trans (hb9.mono hd.size)
    refine hK.out _ _ ((hb89.block w.heap.size (by omega)).trans HX8.out) (fun hHeld => ?_)
    clear hK K
    try simp only [Act.put, List.setIfInBounds_toArray, List.set_cons_zero, List.set_cons_succ]
    refine takeH 3 38 (v := ?_) rfl rfl (by kernel_rfl) (by kernel_rfl) (by kernel_rfl) (fun _ _ _ h => h) (by rfl) (by assumption) ?_ ?_
    rotate_left
    · intro w hSw; have sb := hSw; have s0 := cell_of_row _ _ 0 _ _ _ sb; have s1 := cell_of_row _ _ 1 _ _ _ sb; have s2 := cell_of_row _ _ 2 _ _ _ sb; have s3 := cell_of_row _ _ 3 _ _ _ sb; go_simp; (first | done | with_reducible rfl)
    try simp only [Act.put, List.setIfInBounds_toArray, List.set_cons_zero, List.set_cons_succ]
    refine skipH 4 39 rfl rfl (by kernel_rfl) (by kernel_rfl) (by kernel_rfl) (fun _ _ _ h => h) (by rfl) (by assumption) ?_
    try simp only [Act.put, List.setIfInBounds_toArray, List.set_cons_zero, List.set_cons_succ]
    refine skipH 5 40 rfl rfl (by kernel_rfl) (by kernel_rfl) (by kernel_rfl) (fun _ _ _ h => h) (by rfl) (by assumption) ?_
    try simp only [Act.put, List.setIfInBounds_toArray, List.set_cons_zero, List.set_cons_succ]
    refine takeH 6 41 (v := ?_) rfl rfl (by kernel_rfl) (by kernel_rfl) (by kernel_rfl) (fun _ _ _ h => h) (by rfl) (by assumption) ?_ ?_
    rotate_left
    · intro w hSw; have sb := hSw; have s0 := cell_of_row _ _ 0 _ _ _ sb; have s1 := cell_of_row _ _ 1 _ _ _ sb; have s2 := cell_of_row _ _ 2 _ _ _ sb; have s3 := cell_of_row _ _ 3 _ _ _ sb; go_simp; (first | done | with_reducible rfl)
    try simp only [Act.put, List.setIfInBounds_toArray, List.set_cons_zero, List.set_cons_succ]
    refine takeH 7 42 (v := ?_) rfl rfl (by kernel_rfl) (by kernel_rfl) (by kernel_rfl) (fun _ _ _ h => h) (by rfl) (by assumption) ?_ ?_
    rotate_left
    · intro w hSw; have sb := hSw; have s0 := cell_of_row _ _ 0 _ _ _ sb; have s1 := cell_of_row _ _ 1 _ _ _ sb; have s2 := cell_of_row _ _ 2 _ _ _ sb; have s3 := cell_of_row _ _ 3 _ _ _ sb; go_simp; (first | done | with_reducible rfl)
    try simp only [Act.put, List.setIfInBounds_toArray, List.set_cons_zero, List.set_cons_succ]
    refine skipH 8 43 rfl rfl (by kernel_rfl) (by kernel_rfl) (by kernel_rfl) (fun _ _ _ h => h) (by rfl) (by assumption) ?_
    try simp only [Act.put, List.setIfInBounds_toArray, List.set_cons_zero, List.set_cons_succ]
    refine skipH 9 44 rfl rfl (by kernel_rfl) (by kernel_rfl) (by kernel_rfl) (fun _ _ _ h => h) (by rfl) (by assumption) ?_
    try simp only [Act.put, List.setIfInBounds_toArray, List.set_cons_zero, List.set_cons_succ]
    refine skipH 10 45 rfl rfl (by kernel_rfl) (by kernel_rfl) (by kernel_rfl) (fun _ _ _ h => h) (by rfl) (by assumption) ?_
    try simp only [Act.put, List.setIfInBounds_toArray, List.set_cons_zero, List.set_cons_succ]
    refine skipH 11 46 rfl rfl (by kernel_rfl) (by kernel_rfl) (by kernel_rfl) (fun _ _ _ h => h) (by rfl) (by assumption) ?_
    try simp only [Act.put, List.setIfInBounds_toArray, List.set_cons_zero, List.set_cons_succ]
    refine skipH 12 47 rfl rfl (by kernel_rfl) (by kernel_rfl) (by kernel_rfl) (fun _ _ _ h => h) (by rfl) (by assumption) ?_
    try simp only [Act.put, List.setIfInBounds_toArray, List.set_cons_zero, List.set_cons_succ]
    refine skipH 13 48 rfl rfl (by kernel_rfl) (by kernel_rfl) (by kernel_rfl) (fun _ _ _ h => h) (by rfl) (by assumption) ?_
    try simp only [Act.put, List.setIfInBounds_toArray, List.set_cons_zero, List.set_cons_succ]
    refine takeH 14 49 (v := ?_) rfl rfl (by kernel_rfl) (by kernel_rfl) (by kernel_rfl) (fun _ _ _ h => h) (by rfl) (by assumption) ?_ ?_
    rotate_left
    · intro w hSw; have sb := hSw; have s0 := cell_of_row _ _ 0 _ _ _ sb; have s1 := cell_of_row _ _ 1 _ _ _ sb; have s2 := cell_of_row _ _ 2 _ _ _ sb; have s3 := cell_of_row _ _ 3 _ _ _ sb; go_simp; (first | done | with_reducible rfl)
    try simp only [Act.put, List.setIfInBounds_toArray, List.set_cons_zero, List.set_cons_succ]
    refine takeH 15 4 (v := ?_) rfl rfl (by kernel_rfl) (by kernel_rfl) (by kernel_rfl) (fun _ _ _ h => h) (by rfl) (by assumption) ?_ ?_
    rotate_left
    · intro w hSw; have sb := hSw; have s0 := cell_of_row _ _ 0 _ _ _ sb; have s1 := cell_of_row _ _ 1 _ _ _ sb; have s2 := cell_of_row _ _ 2 _ _ _ sb; have s3 := cell_of_row _ _ 3 _ _ _ sb; go_simp; (first | done | with_reducible rfl)
    try simp only [Act.put, List.setIfInBounds_toArray, List.set_cons_zero, List.set_cons_succ]
    refine takeH 16 5 (v := ?_) rfl rfl (by kernel_rfl) (by kernel_rfl) (by kernel_rfl) (fun _ _ _ h => h) (by rfl) (by assumption) ?_ ?_
    rotate_left
    · intro w hSw; have sb := hSw; have s0 := cell_of_row _ _ 0 _ _ _ sb; have s1 := cell_of_row _ _ 1 _ _ _ sb; have s2 := cell_of_row _ _ 2 _ _ _ sb; have s3 := cell_of_row _ _ 3 _ _ _ sb; go_simp; (first | done | with_reducible rfl)
    try simp only [Act.put, List.setIfInBounds_toArray, List.set_cons_zero, List.set_cons_succ]
    have HF := Lib.hid (HB8.out.trans (hb89.mono HB8.out.size))
    have HGF := Lib.hid (HG8.out.below hb89)
    have hsF := hb89.size
    refine wpAnyH_done (by kernel_rfl) ?_ _
    refine NoPanic.normal ?_
    clear hHeld
    go_wp2
    go_ret2
    exact ⟨_, X, w4.heap.size, by rw [HD.out]; rfl, HGF.out, by rw [HD.out]; exact HXD.out, by omega, by omega, LOX.out, HF.out⟩
  rw [hv] at HV7
  have HVD := Lib.hid hv
  clear hv
  cases hi : isIn l m.name
  rotate_left
  · -- one with its name is there
    have hlow := isIn_lt2 hi
    have hpp : place l m.name = (lowAt l m.name : Nat) := by rw [HPL.out, hi]; rfl
    have HD : Hid (defM l m = (l, sameMac (l[lowAt l m.name]'hlow) m)) := by show _ = _; unfold defM; rw [if_pos HTK.out, if_pos HVD.out, if_pos hi, dif_pos hlow]
    rw [hpp]
    clear hi HPL hpp
    generalize lowAt l m.name = n at *
    have hi1 : (0 : Int) ≤ (n : Int) := by omega
    have hi2 : (n : Int) < (l.length : Int) := by omega
    go_wp2_with fail
    refine (HV7.out _ (Below.refl _ _)).mono ?_
    rintro e w8 ⟨rfl, hb8⟩
    have hs8 := hb8.size
    have HX8 := Lib.hid ((hb8.block w.heap.size (by omega)).trans HX7.out)
    have HM8 := Lib.hid (sMacro.below HM7.out hb8)
    have HG8 := Lib.hid (HG7.out.below hb8)
    have HB8 := Lib.hid (HB7.out.trans (hb8.mono HB7.out.size))
    have hR8 := (sSlice sMacro).below HR7.out hb8
    have HV8 := Lib.hid (fun W (hW : Below w8.heap.size w8 W) => HV7.out W (hb8.trans (hW.mono hb8.size)))
    clear p0 p1 p2 p3 HX7 HM7 HG7 HB7 HR7 HV7 hb8
    obtain ⟨aq, capq, hvq, -, -, hrow8⟩ := open_rows hR8
    simp only [Value.slice.injEq, true_and] at hvq
    obtain ⟨rfl, rfl⟩ := hvq
    clear hR8
    go_wp2_with fail
    obtain ⟨b1, off1, fps1, hat, hb1, hfp1, he1⟩ := hrow8 (by omega)
    subst hat
    obtain ⟨es1, hE1, hR1⟩ := he1 n (by omega)
    have HRE := Lib.hid hR1
    obtain ⟨u2, u3, r2, r3, rfl, _, K2, K3, _⟩ := hR1
    obtain ⟨e2, g2, rfl, -⟩ := open_strs K2
    obtain ⟨e3, g3, rfl, -⟩ := open_rows K3
    clear K2 K3
    have c10 : w8.cell? ⟨b1, off1 + n * 4, none⟩ = some _ := elem_cell0 hE1 (by decide) rfl
    have c11 : w8.cell? ⟨b1, off1 + n * 4 + 1, none⟩ = some _ := elem_cell (j := 1) hE1 (by decide) rfl
    have c12 : w8.cell? ⟨b1, off1 + n * 4 + 2, none⟩ = some _ := elem_cell (j := 2) hE1 (by decide) rfl
    have c13 : w8.cell? ⟨b1, off1 + n * 4 + 3, none⟩ = some _ := elem_cell (j := 3) hE1 (by decide) rfl
    clear hE1 he1 hrow8 hfp1
    have hd : Below w8.heap.size w8 w8.drew := belowN (Below.refl _ _) 1
    refine wp_region_noPanic ?_
    refine wp_region_held_drew (S := fun w' => w'.heap[w.heap.size]? = some (.cells #[.string m.name, .bool m.function, .slice b2 m.params.length d2, .slice b3 m.body.length d3] 70 (0, 0)) ∧ w'.cell? ⟨b1, off1 + n * 4, none⟩ = some (.string l[n].name) ∧ w'.cell? ⟨b1, off1 + n * 4 + 1, none⟩ = some (.bool l[n].function) ∧ w'.cell? ⟨b1, off1 + n * 4 + 2, none⟩ = some (.slice e2 l[n].params.length g2) ∧ w'.cell? ⟨b1, off1 + n * 4 + 3, none⟩ = some (.slice e3 l[n].body.length g3)) (by kernel_rfl) (by exact ⟨HX8.out, c10, c11, c12, c13⟩) (fun hHeld => ?_)
    refine takeH 0 35 (v := ?_) rfl rfl (by kernel_rfl) (by kernel_rfl) (by kernel_rfl) (fun _ _ _ h => h) (by rfl) (by assumption) ?_ ?_
    rotate_left
    · intro w hSw; obtain ⟨sb, t0, t1, t2, t3⟩ := hSw; have s0 := cell_of_row _ _ 0 _ _ _ sb; have s1 := cell_of_row _ _ 1 _ _ _ sb; have s2 := cell_of_row _ _ 2 _ _ _ sb; have s3 := cell_of_row _ _ 3 _ _ _ sb; go_simp; (first | done | with_reducible rfl)
    try simp only [Act.put, List.setIfInBounds_toArray, List.set_cons_zero, List.set_cons_succ]
    refine takeH 1 36 (v := ?_) rfl rfl (by kernel_rfl) (by kernel_rfl) (by kernel_rfl) (fun _ _ _ h => h) (by rfl) (by assumption) ?_ ?_
    rotate_left
    · intro w hSw; obtain ⟨sb, t0, t1, t2, t3⟩ := hSw; have s0 := cell_of_row _ _ 0 _ _ _ sb; have s1 := cell_of_row _ _ 1 _ _ _ sb; have s2 := cell_of_row _ _ 2 _ _ _ sb; have s3 := cell_of_row _ _ 3 _ _ _ sb; go_simp; (first | done | with_reducible rfl)
    try simp only [Act.put, List.setIfInBounds_toArray, List.set_cons_zero, List.set_cons_succ]
    refine wpAnyH_ready (rs := [2]) (by kernel_rfl) (by simp) ?_
    refine AllReadyH.cons rfl (fun K hK => ?_) AllReadyH.nil
    go_simp
    refine (HV8.out _ hd).mono ?_
    rintro e w9 ⟨rfl, hb9⟩
    have hb89 := hd.trans (hb9.mono hd.size)
    refine hK.out _ _ (⟨(hb89.block w.heap.size (by omega)).trans HX8.out, (hb89.cell (by show b1 < _; omega)).trans c10, (hb89.cell (by show b1 < _; omega)).trans c11, (hb89.cell (by show b1 < _; omega)).trans c12, (hb89.cell (by show b1 < _; omega)).trans c13⟩) (fun hHeld => ?_)
    clear hK K
    try simp only [Act.put, List.setIfInBounds_toArray, List.set_cons_zero, List.set_cons_succ]
    refine takeH 3 38 (v := ?_) rfl rfl (by kernel_rfl) (by kernel_rfl) (by kernel_rfl) (fun _ _ _ h => h) (by rfl) (by assumption) ?_ ?_
    rotate_left
    · intro w hSw; obtain ⟨sb, t0, t1, t2, t3⟩ := hSw; have s0 := cell_of_row _ _ 0 _ _ _ sb; have s1 := cell_of_row _ _ 1 _ _ _ sb; have s2 := cell_of_row _ _ 2 _ _ _ sb; have s3 := cell_of_row _ _ 3 _ _ _ sb; go_simp; (first | done | with_reducible rfl)
    try simp only [Act.put, List.setIfInBounds_toArray, List.set_cons_zero, List.set_cons_succ]
    refine takeH 4 39 (v := ?_) rfl rfl (by kernel_rfl) (by kernel_rfl) (by kernel_rfl) (fun _ _ _ h => h) (by rfl) (by assumption) ?_ ?_
    rotate_left
    · intro w hSw; obtain ⟨sb, t0, t1, t2, t3⟩ := hSw; have s0 := cell_of_row _ _ 0 _ _ _ sb; have s1 := cell_of_row _ _ 1 _ _ _ sb; have s2 := cell_of_row _ _ 2 _ _ _ sb; have s3 := cell_of_row _ _ 3 _ _ _ sb; go_simp; (first | done | with_reducible rfl)
    try simp only [Act.put, List.setIfInBounds_toArray, List.set_cons_zero, List.set_cons_succ]
    refine takeH 5 40 (v := ?_) rfl rfl (by kernel_rfl) (by kernel_rfl) (by kernel_rfl) (fun _ _ _ h => h) (by rfl) (by assumption) ?_ ?_
    rotate_left
    · intro w hSw; obtain ⟨sb, t0, t1, t2, t3⟩ := hSw; have s0 := cell_of_row _ _ 0 _ _ _ sb; have s1 := cell_of_row _ _ 1 _ _ _ sb; have s2 := cell_of_row _ _ 2 _ _ _ sb; have s3 := cell_of_row _ _ 3 _ _ _ sb; go_simp; (first | done | with_reducible rfl)
    try simp only [Act.put, List.setIfInBounds_toArray, List.set_cons_zero, List.set_cons_succ]
    refine takeH 6 41 (v := ?_) rfl rfl (by kernel_rfl) (by kernel_rfl) (by kernel_rfl) (fun _ _ _ h => h) (by rfl) (by assumption) ?_ ?_
    rotate_left
    · intro w hSw; obtain ⟨sb, t0, t1, t2, t3⟩ := hSw; have s0 := cell_of_row _ _ 0 _ _ _ sb; have s1 := cell_of_row _ _ 1 _ _ _ sb; have s2 := cell_of_row _ _ 2 _ _ _ sb; have s3 := cell_of_row _ _ 3 _ _ _ sb; go_simp; (first | done | with_reducible rfl)
    try simp only [Act.put, List.setIfInBounds_toArray, List.set_cons_zero, List.set_cons_succ]
    refine takeH 7 42 (v := ?_) rfl rfl (by kernel_rfl) (by kernel_rfl) (by kernel_rfl) (fun _ _ _ h => h) (by rfl) (by assumption) ?_ ?_
    rotate_left
    · intro w hSw; obtain ⟨sb, t0, t1, t2, t3⟩ := hSw; have s0 := cell_of_row _ _ 0 _ _ _ sb; have s1 := cell_of_row _ _ 1 _ _ _ sb; have s2 := cell_of_row _ _ 2 _ _ _ sb; have s3 := cell_of_row _ _ 3 _ _ _ sb; go_simp; (first | done | with_reducible rfl)
    try simp only [Act.put, List.setIfInBounds_toArray, List.set_cons_zero, List.set_cons_succ]
    refine takeH 8 43 (v := ?_) rfl rfl (by kernel_rfl) (by kernel_rfl) (by kernel_rfl) (fun _ _ _ h => h) (by rfl) (by assumption) ?_ ?_
    rotate_left
    · intro w hSw; obtain ⟨sb, t0, t1, t2, t3⟩ := hSw; have s0 := cell_of_row _ _ 0 _ _ _ sb; have s1 := cell_of_row _ _ 1 _ _ _ sb; have s2 := cell_of_row _ _ 2 _ _ _ sb; have s3 := cell_of_row _ _ 3 _ _ _ sb; go_simp; (first | done | with_reducible rfl)
    try simp only [Act.put, List.setIfInBounds_toArray, List.set_cons_zero, List.set_cons_succ]
    refine takeH 9 44 (v := ?_) rfl rfl (by kernel_rfl) (by kernel_rfl) (by kernel_rfl) (fun _ _ _ h => h) (by rfl) (by assumption) ?_ ?_
    rotate_left
    · intro w hSw; obtain ⟨sb, t0, t1, t2, t3⟩ := hSw; have s0 := cell_of_row _ _ 0 _ _ _ sb; have s1 := cell_of_row _ _ 1 _ _ _ sb; have s2 := cell_of_row _ _ 2 _ _ _ sb; have s3 := cell_of_row _ _ 3 _ _ _ sb; go_simp; (first | done | with_reducible rfl)
    try simp only [Act.put, List.setIfInBounds_toArray, List.set_cons_zero, List.set_cons_succ]
    refine takeH 10 45 (v := ?_) rfl rfl (by kernel_rfl) (by kernel_rfl) (by kernel_rfl) (fun _ _ _ h => h) (by rfl) (by assumption) ?_ ?_
    rotate_left
    · intro w hSw; obtain ⟨sb, t0, t1, t2, t3⟩ := hSw; have s0 := cell_of_row _ _ 0 _ _ _ sb; have s1 := cell_of_row _ _ 1 _ _ _ sb; have s2 := cell_of_row _ _ 2 _ _ _ sb; have s3 := cell_of_row _ _ 3 _ _ _ sb; go_simp; (first | done | with_reducible rfl)
    try simp only [Act.put, List.setIfInBounds_toArray, List.set_cons_zero, List.set_cons_succ]
    refine takeH 11 46 (v := ?_) rfl rfl (by kernel_rfl) (by kernel_rfl) (by kernel_rfl) (fun _ _ _ h => h) (by rfl) (by assumption) ?_ ?_
    rotate_left
    · intro w hSw; obtain ⟨sb, t0, t1, t2, t3⟩ := hSw; have s0 := cell_of_row _ _ 0 _ _ _ sb; have s1 := cell_of_row _ _ 1 _ _ _ sb; have s2 := cell_of_row _ _ 2 _ _ _ sb; have s3 := cell_of_row _ _ 3 _ _ _ sb; go_simp; (first | done | with_reducible rfl)
    try simp only [Act.put, List.setIfInBounds_toArray, List.set_cons_zero, List.set_cons_succ]
    refine takeH 12 47 (v := ?_) rfl rfl (by kernel_rfl) (by kernel_rfl) (by kernel_rfl) (fun _ _ _ h => h) (by rfl) (by assumption) ?_ ?_
    rotate_left
    · intro w hSw; obtain ⟨sb, t0, t1, t2, t3⟩ := hSw; have s0 := cell_of_row _ _ 0 _ _ _ sb; have s1 := cell_of_row _ _ 1 _ _ _ sb; have s2 := cell_of_row _ _ 2 _ _ _ sb; have s3 := cell_of_row _ _ 3 _ _ _ sb; go_simp; (first | done | with_reducible rfl)
    try simp only [Act.put, List.setIfInBounds_toArray, List.set_cons_zero, List.set_cons_succ]
    refine wpAnyH_ready (rs := [13]) (by kernel_rfl) (by simp) ?_
    refine AllReadyH.cons rfl (fun K hK => ?_) AllReadyH.nil
    go_simp
    refine (spec_SameMacro [.string l[n].name, .bool l[n].function, .slice e2 l[n].params.length g2, .slice e3 l[n].body.length g3] [.string m.name, .bool m.function, .slice b2 m.params.length d2, .slice b3 m.body.length d3] l[n] m _ f2 w9 (sMacro.below HRE.out hb89) (sMacro.below HM8.out hb89)).mono ?_
    rintro e wA ⟨rfl, hbA⟩
    have hbAA := hb89.trans (hbA.mono hb89.size)
    refine hK.out _ _ (⟨(hbAA.block w.heap.size (by omega)).trans HX8.out, (hbAA.cell (by show b1 < _; omega)).trans c10, (hbAA.cell (by show b1 < _; omega)).trans c11, (hbAA.cell (by show b1 < _; omega)).trans c12, (hbAA.cell (by show b1 < _; omega)).trans c13⟩) (fun hHeld => ?_)
    clear hK K
    try simp only [Act.put, List.setIfInBounds_toArray, List.set_cons_zero, List.set_cons_succ]
    refine takeH 14 49 (v := ?_) rfl rfl (by kernel_rfl) (by kernel_rfl) (by kernel_rfl) (fun _ _ _ h => h) (by rfl) (by assumption) ?_ ?_
    rotate_left
    · intro w hSw; obtain ⟨sb, t0, t1, t2, t3⟩ := hSw; have s0 := cell_of_row _ _ 0 _ _ _ sb; have s1 := cell_of_row _ _ 1 _ _ _ sb; have s2 := cell_of_row _ _ 2 _ _ _ sb; have s3 := cell_of_row _ _ 3 _ _ _ sb; go_simp; (first | done | with_reducible rfl)
    try simp only [Act.put, List.setIfInBounds_toArray, List.set_cons_zero, List.set_cons_succ]
    refine takeH 15 4 (v := ?_) rfl rfl (by kernel_rfl) (by kernel_rfl) (by kernel_rfl) (fun _ _ _ h => h) (by rfl) (by assumption) ?_ ?_
    rotate_left
    · intro w hSw; obtain ⟨sb, t0, t1, t2, t3⟩ := hSw; have s0 := cell_of_row _ _ 0 _ _ _ sb; have s1 := cell_of_row _ _ 1 _ _ _ sb; have s2 := cell_of_row _ _ 2 _ _ _ sb; have s3 := cell_of_row _ _ 3 _ _ _ sb; go_simp; (first | done | with_reducible rfl)
    try simp only [Act.put, List.setIfInBounds_toArray, List.set_cons_zero, List.set_cons_succ]
    refine takeH 16 5 (v := ?_) rfl rfl (by kernel_rfl) (by kernel_rfl) (by kernel_rfl) (fun _ _ _ h => h) (by rfl) (by assumption) ?_ ?_
    rotate_left
    · intro w hSw; obtain ⟨sb, t0, t1, t2, t3⟩ := hSw; have s0 := cell_of_row _ _ 0 _ _ _ sb; have s1 := cell_of_row _ _ 1 _ _ _ sb; have s2 := cell_of_row _ _ 2 _ _ _ sb; have s3 := cell_of_row _ _ 3 _ _ _ sb; go_simp; (first | done | with_reducible rfl)
    try simp only [Act.put, List.setIfInBounds_toArray, List.set_cons_zero, List.set_cons_succ]
    have HF := Lib.hid (HB8.out.trans (hbAA.mono HB8.out.size))
    have HGF := Lib.hid (HG8.out.below hbAA)
    have hsF := hbAA.size
    refine wpAnyH_done (by kernel_rfl) ?_ _
    refine NoPanic.normal ?_
    clear hHeld
    go_wp2
    go_ret2
    exact ⟨_, X, w4.heap.size, by rw [HD.out]; rfl, HGF.out, by rw [HD.out]; exact HXD.out, by omega, by omega, LOX.out, HF.out⟩
  have hpp : place l m.name = -1 := by rw [HPL.out, hi]; rfl
  rw [hpp]
  clear HPL hpp
  by_cases h10 : l.length = 10
  · have HD : Hid (defM l m = (l, false)) := by show _ = _; unfold defM; rw [if_pos HTK.out, if_pos HVD.out, if_neg (by rw [hi]; simp), if_pos h10]
    have hq10 : ((l.length : Int) == 10) = true := by simp [h10]
    have H10 := Lib.hid h10
    clear hi h10
    go_wp2_with fail
    refine (HV7.out _ (Below.refl _ _)).mono ?_
    rintro e w8 ⟨rfl, hb8⟩
    have hs8 := hb8.size
    have HX8 := Lib.hid ((hb8.block w.heap.size (by omega)).trans HX7.out)
    have HM8 := Lib.hid (sMacro.below HM7.out hb8)
    have HG8 := Lib.hid (HG7.out.below hb8)
    have HB8 := Lib.hid (HB7.out.trans (hb8.mono HB7.out.size))
    have hR8 := (sSlice sMacro).below HR7.out hb8
    have HV8 := Lib.hid (fun W (hW : Below w8.heap.size w8 W) => HV7.out W (hb8.trans (hW.mono hb8.size)))
    clear p0 p1 p2 p3 HX7 HM7 HG7 HB7 HR7 HV7 hb8
    go_wp2_with fail
    have hd : Below w8.heap.size w8 w8.drew := belowN (Below.refl _ _) 1
    refine wp_region_noPanic ?_
    refine wp_region_held_drew (S := fun w' => w'.heap[w.heap.size]? = some (.cells #[.string m.name, .bool m.function, .slice b2 m.params.length d2, .slice b3 m.body.length d3] 70 (0, 0))) (by kernel_rfl) (by exact HX8.out) (fun hHeld => ?_)
    refine takeH 0 35 (v := ?_) rfl rfl (by kernel_rfl) (by kernel_rfl) (by kernel_rfl) (fun _ _ _ h => h) (by rfl) (by assumption) ?_ ?_
    rotate_left
    · intro w hSw; have sb := hSw; have s0 := cell_of_row _ _ 0 _ _ _ sb; have s1 := cell_of_row _ _ 1 _ _ _ sb; have s2 := cell_of_row _ _ 2 _ _ _ sb; have s3 := cell_of_row _ _ 3 _ _ _ sb; go_simp; (first | done | with_reducible rfl)
    try simp only [Act.put, List.setIfInBounds_toArray, List.set_cons_zero, List.set_cons_succ]
    refine takeH 1 36 (v := ?_) rfl rfl (by kernel_rfl) (by kernel_rfl) (by kernel_rfl) (fun _ _ _ h => h) (by rfl) (by assumption) ?_ ?_
    rotate_left
    · intro w hSw; have sb := hSw; have s0 := cell_of_row _ _ 0 _ _ _ sb; have s1 := cell_of_row _ _ 1 _ _ _ sb; have s2 := cell_of_row _ _ 2 _ _ _ sb; have s3 := cell_of_row _ _ 3 _ _ _ sb; go_simp; (first | done | with_reducible rfl)
    try simp only [Act.put, List.setIfInBounds_toArray, List.set_cons_zero, List.set_cons_succ]
    refine wpAnyH_ready (rs := [2]) (by kernel_rfl) (by simp) ?_
    refine AllReadyH.cons rfl (fun K hK => ?_) AllReadyH.nil
    go_simp
    refine (HV8.out _ hd).mono ?_
    rintro e w9 ⟨rfl, hb9⟩
    have hb89 := hd.trans (hb9.mono hd.size)
    refine hK.out _ _ ((hb89.block w.heap.size (by omega)).trans HX8.out) (fun hHeld => ?_)
    clear hK K
    try simp only [Act.put, List.setIfInBounds_toArray, List.set_cons_zero, List.set_cons_succ]
    refine takeH 3 38 (v := ?_) rfl rfl (by kernel_rfl) (by kernel_rfl) (by kernel_rfl) (fun _ _ _ h => h) (by rfl) (by assumption) ?_ ?_
    rotate_left
    · intro w hSw; have sb := hSw; have s0 := cell_of_row _ _ 0 _ _ _ sb; have s1 := cell_of_row _ _ 1 _ _ _ sb; have s2 := cell_of_row _ _ 2 _ _ _ sb; have s3 := cell_of_row _ _ 3 _ _ _ sb; go_simp; (first | done | with_reducible rfl)
    try simp only [Act.put, List.setIfInBounds_toArray, List.set_cons_zero, List.set_cons_succ]
    refine takeH 4 39 (v := ?_) rfl rfl (by kernel_rfl) (by kernel_rfl) (by kernel_rfl) (fun _ _ _ h => h) (by rfl) (by assumption) ?_ ?_
    rotate_left
    · intro w hSw; have sb := hSw; have s0 := cell_of_row _ _ 0 _ _ _ sb; have s1 := cell_of_row _ _ 1 _ _ _ sb; have s2 := cell_of_row _ _ 2 _ _ _ sb; have s3 := cell_of_row _ _ 3 _ _ _ sb; go_simp; (first | done | with_reducible rfl)
    try simp only [Act.put, List.setIfInBounds_toArray, List.set_cons_zero, List.set_cons_succ]
    refine takeH 5 40 (v := ?_) rfl rfl (by kernel_rfl) (by kernel_rfl) (by kernel_rfl) (fun _ _ _ h => h) (by rfl) (by assumption) ?_ ?_
    rotate_left
    · intro w hSw; have sb := hSw; have s0 := cell_of_row _ _ 0 _ _ _ sb; have s1 := cell_of_row _ _ 1 _ _ _ sb; have s2 := cell_of_row _ _ 2 _ _ _ sb; have s3 := cell_of_row _ _ 3 _ _ _ sb; go_simp; (first | done | with_reducible rfl)
    try simp only [Act.put, List.setIfInBounds_toArray, List.set_cons_zero, List.set_cons_succ]
    refine takeH 6 41 (v := ?_) rfl rfl (by kernel_rfl) (by kernel_rfl) (by kernel_rfl) (fun _ _ _ h => h) (by rfl) (by assumption) ?_ ?_
    rotate_left
    · intro w hSw; have sb := hSw; have s0 := cell_of_row _ _ 0 _ _ _ sb; have s1 := cell_of_row _ _ 1 _ _ _ sb; have s2 := cell_of_row _ _ 2 _ _ _ sb; have s3 := cell_of_row _ _ 3 _ _ _ sb; go_simp; (first | done | with_reducible rfl)
    try simp only [Act.put, List.setIfInBounds_toArray, List.set_cons_zero, List.set_cons_succ]
    refine takeH 7 42 (v := ?_) rfl rfl (by kernel_rfl) (by kernel_rfl) (by kernel_rfl) (fun _ _ _ h => h) (by rfl) (by assumption) ?_ ?_
    rotate_left
    · intro w hSw; have sb := hSw; have s0 := cell_of_row _ _ 0 _ _ _ sb; have s1 := cell_of_row _ _ 1 _ _ _ sb; have s2 := cell_of_row _ _ 2 _ _ _ sb; have s3 := cell_of_row _ _ 3 _ _ _ sb; go_simp; (first | done | with_reducible rfl)
    try simp only [Act.put, List.setIfInBounds_toArray, List.set_cons_zero, List.set_cons_succ]
    refine skipH 8 43 rfl rfl (by kernel_rfl) (by kernel_rfl) (by kernel_rfl) (fun _ _ _ h => h) (by rfl) (by assumption) ?_
    try simp only [Act.put, List.setIfInBounds_toArray, List.set_cons_zero, List.set_cons_succ]
    refine skipH 9 44 rfl rfl (by kernel_rfl) (by kernel_rfl) (by kernel_rfl) (fun _ _ _ h => h) (by rfl) (by assumption) ?_
    try simp only [Act.put, List.setIfInBounds_toArray, List.set_cons_zero, List.set_cons_succ]
    refine skipH 10 45 rfl rfl (by kernel_rfl) (by kernel_rfl) (by kernel_rfl) (fun _ _ _ h => h) (by rfl) (by assumption) ?_
    try simp only [Act.put, List.setIfInBounds_toArray, List.set_cons_zero, List.set_cons_succ]
    refine skipH 11 46 rfl rfl (by kernel_rfl) (by kernel_rfl) (by kernel_rfl) (fun _ _ _ h => h) (by rfl) (by assumption) ?_
    try simp only [Act.put, List.setIfInBounds_toArray, List.set_cons_zero, List.set_cons_succ]
    refine skipH 12 47 rfl rfl (by kernel_rfl) (by kernel_rfl) (by kernel_rfl) (fun _ _ _ h => h) (by rfl) (by assumption) ?_
    try simp only [Act.put, List.setIfInBounds_toArray, List.set_cons_zero, List.set_cons_succ]
    refine skipH 13 48 rfl rfl (by kernel_rfl) (by kernel_rfl) (by kernel_rfl) (fun _ _ _ h => h) (by rfl) (by assumption) ?_
    try simp only [Act.put, List.setIfInBounds_toArray, List.set_cons_zero, List.set_cons_succ]
    refine takeH 14 49 (v := ?_) rfl rfl (by kernel_rfl) (by kernel_rfl) (by kernel_rfl) (fun _ _ _ h => h) (by rfl) (by assumption) ?_ ?_
    rotate_left
    · intro w hSw; have sb := hSw; have s0 := cell_of_row _ _ 0 _ _ _ sb; have s1 := cell_of_row _ _ 1 _ _ _ sb; have s2 := cell_of_row _ _ 2 _ _ _ sb; have s3 := cell_of_row _ _ 3 _ _ _ sb; go_simp; (first | done | with_reducible rfl)
    try simp only [Act.put, List.setIfInBounds_toArray, List.set_cons_zero, List.set_cons_succ]
    refine takeH 15 4 (v := ?_) rfl rfl (by kernel_rfl) (by kernel_rfl) (by kernel_rfl) (fun _ _ _ h => h) (by rfl) (by assumption) ?_ ?_
    rotate_left
    · intro w hSw; have sb := hSw; have s0 := cell_of_row _ _ 0 _ _ _ sb; have s1 := cell_of_row _ _ 1 _ _ _ sb; have s2 := cell_of_row _ _ 2 _ _ _ sb; have s3 := cell_of_row _ _ 3 _ _ _ sb; go_simp; (first | done | with_reducible rfl)
    try simp only [Act.put, List.setIfInBounds_toArray, List.set_cons_zero, List.set_cons_succ]
    refine takeH 16 5 (v := ?_) rfl rfl (by kernel_rfl) (by kernel_rfl) (by kernel_rfl) (fun _ _ _ h => h) (by rfl) (by assumption) ?_ ?_
    rotate_left
    · intro w hSw; have sb := hSw; have s0 := cell_of_row _ _ 0 _ _ _ sb; have s1 := cell_of_row _ _ 1 _ _ _ sb; have s2 := cell_of_row _ _ 2 _ _ _ sb; have s3 := cell_of_row _ _ 3 _ _ _ sb; go_simp; (first | done | with_reducible rfl)
    try simp only [Act.put, List.setIfInBounds_toArray, List.set_cons_zero, List.set_cons_succ]
    have HF := Lib.hid (HB8.out.trans (hb89.mono HB8.out.size))
    have HGF := Lib.hid (HG8.out.below hb89)
    have hsF := hb89.size
    refine wpAnyH_done (by kernel_rfl) ?_ _
    refine NoPanic.normal ?_
    clear hHeld
    go_wp2
    go_ret2
    exact ⟨_, X, w4.heap.size, by rw [HD.out]; rfl, HGF.out, by rw [HD.out]; exact HXD.out, by omega, by omega, LOX.out, HF.out⟩
  have HD : Hid (defM l m = (putAt l m (lowAt l m.name), true)) := by show _ = _; unfold defM; rw [if_pos HTK.out, if_pos HVD.out, if_neg (by rw [hi]; simp), if_neg h10]
  have hq10 : ((l.length : Int) == 10) = false := by simp; omega
  have HLW := Lib.hid (low_le l m.name)
  have HLI : Hid (∀ k, (hk : k < l.length) → sLess l[k].name m.name = decide (k < lowAt l m.name)) := fun k hk => low_iff HTK.out m.name hk
  have H10 := Lib.hid h10
  clear hi h10
  go_wp2_with fail
  refine (HV7.out _ (Below.refl _ _)).mono ?_
  rintro e w8 ⟨rfl, hb8⟩
  have hs8 := hb8.size
  have HX8 := Lib.hid ((hb8.block w.heap.size (by omega)).trans HX7.out)
  have HM8 := Lib.hid (sMacro.below HM7.out hb8)
  have HG8 := Lib.hid (HG7.out.below hb8)
  have HB8 := Lib.hid (HB7.out.trans (hb8.mono HB7.out.size))
  have hR8 := (sSlice sMacro).below HR7.out hb8
  have HV8 := Lib.hid (fun W (hW : Below w8.heap.size w8 W) => HV7.out W (hb8.trans (hW.mono hb8.size)))
  clear p0 p1 p2 p3 HX7 HM7 HG7 HB7 HR7 HV7 hb8
  generalize lowAt l m.name = n at *
  obtain ⟨aq, capq, hvq, -, -, hrow8⟩ := open_rows hR8
  simp only [Value.slice.injEq, true_and] at hvq
  obtain ⟨rfl, rfl⟩ := hvq
  have HR8 := Lib.hid hR8
  clear hR8
  go_wp2
  go_loopw [7] (fun i wr => ∃ k : Nat, k ≤ n ∧ i = .int .i64 k ∧ Below w8.heap.size w8 wr) (fun i _ => n - (intOf i).toNat)
  case atStart => exact ⟨0, by omega, rfl, Below.refl _ _⟩
  case round =>
    obtain ⟨k, hk, rfl, hbr⟩ := hrel
    have hnl := HLW.out
    have hsr := hbr.size
    have HXr := Lib.hid ((hbr.block w.heap.size (by omega)).trans HX8.out)
    have p0 : wr.cell? ⟨w.heap.size, 0, none⟩ = some (.string m.name) := cell_of_row _ _ 0 _ _ _ HXr.out
    by_cases hlt : k < l.length
    · obtain ⟨b1, off1, fps1, hat, hb1, -, he1⟩ := hrow8 (by omega)
      subst hat
      obtain ⟨es1, hE1, hR1⟩ := he1 k hlt
      obtain ⟨u2, u3, r2, r3, rfl, _, _, _, _⟩ := hR1
      replace hE1 := hE1.frame (hbr.block b1 hb1)
      have c10 : wr.cell? ⟨b1, off1 + k * 4, none⟩ = some _ := elem_cell0 hE1 (by decide) rfl
      have h0 : decide ((k : Int) < (l.length : Int)) = true := decide_eq_true (by omega)
      have h1 : decide (k < l.length) = true := decide_eq_true hlt
      have hi1 : (0 : Int) ≤ (k : Int) := by omega
      have hi2 : (k : Int) < (l.length : Int) := by omega
      by_cases hkn : k < n
      · have hs : Op.bytesLess l[k].name.toList m.name.toList = true := by have := HLI.out k hlt; rw [decide_eq_true hkn] at this; exact this
        clear hE1 he1
        go_wp2_with fail
        go_quiet (fail)
        go_wp2
        go_roundw
        case rel => exact ⟨k + 1, by omega, by go_num, belowN hbr _⟩
        case measure => simp [intOf]; omega
      · have hs : Op.bytesLess l[k].name.toList m.name.toList = false := by have := HLI.out k hlt; rw [decide_eq_false hkn] at this; exact this
        clear hE1 he1
        go_wp2_with fail
        go_quiet (fail)
        go_wp2
        obtain rfl : n = k := by omega
        have hbq := belowN hbr nq
        generalize wr.drewN nq = wq at *
        have hsq := hbq.size
        have HXq := Lib.hid ((hbq.block w.heap.size (by omega)).trans HX8.out)
        have HRq := Lib.hid ((sSlice sMacro).below HR8.out hbq)
        have HMq := Lib.hid (sMacro.below HM8.out hbq)
        have HBq := Lib.hid (HB8.out.trans (hbq.mono HB8.out.size))
        clear HX8 HR8 HM8 HB8 HXr hbr hbq p0 hrow8 HG8 HXD LOX
        obtain ⟨fa, RA, hfa⟩ := slice_take n (by omega) HRq.out
        obtain ⟨fb, RB, hfb⟩ := slice_drop n (by omega) HRq.out
        have hd : Below wq.heap.size wq wq.drew := belowN (Below.refl _ _) 1
        have HRA := Lib.hid ((sSlice sMacro).below RA hd)
        obtain ⟨sv, HSV⟩ : ∃ sv : Value, Hid (sv = .slice (if cap1 = n then (some ⟨b1, off1, none⟩) else ((some ⟨b1, off1, none⟩) : Option Addr).map (·.add (n * sMacro.m))) (l.length - n) (cap1 - n)) := ⟨_, rfl⟩
        have HRB : Hid ((sSlice sMacro).R wq.drew [sv] (l.drop n) fb) := by show (sSlice sMacro).R _ _ _ _; rw [HSV.out]; exact (sSlice sMacro).below RB hd
        have HFA := Lib.hid hfa
        have HFB := Lib.hid hfb
        have HMd := Lib.hid (sMacro.below HMq.out hd)
        have HBd := Lib.hid (HBq.out.trans (hd.mono HBq.out.size))
        have hsd : wq.heap.size ≤ wq.drew.heap.size := hd.size
        clear RA RB hfa hfb HRq HMq HBq
        refine wp_region_noPanic ?_
        refine wp_region_held_drew (S := fun w' => w'.heap[w.heap.size]? = some (.cells #[.string m.name, .bool m.function, .slice b2 m.params.length d2, .slice b3 m.body.length d3] 70 (0, 0))) (by kernel_rfl) (by exact HXq.out) (fun hHeld => ?_)
        clear hd
        generalize wq.drew = wd at *
        have hp1 : (0 : Int) ≤ (n : Int) := by omega
        have hp2 : (n : Int) ≤ (l.length : Int) := by omega
        have hp3 : n ≤ l.length := by omega
        have hp4 : n ≤ cap1 := by omega
        have hp5 : (n : Int) ≤ (cap1 : Int) := by omega
        refine takeH 1 67 (v := ?_) rfl rfl (by kernel_rfl) (by kernel_rfl) (by kernel_rfl) (fun _ _ _ h => h) (by rfl) (by assumption) ?_ ?_
        rotate_left
        · intro w hSw; have s0 := cell_of_row _ _ 0 _ _ _ hSw; have s1 := cell_of_row _ _ 1 _ _ _ hSw; have s2 := cell_of_row _ _ 2 _ _ _ hSw; have s3 := cell_of_row _ _ 3 _ _ _ hSw; go_simp; (first | done | with_reducible rfl | rfl)
        try simp only [Act.put, List.setIfInBounds_toArray, List.set_cons_zero, List.set_cons_succ]
        refine takeH 2 68 (v := ?_) rfl rfl (by kernel_rfl) (by kernel_rfl) (by kernel_rfl) (fun _ _ _ h => h) (by rfl) (by assumption) ?_ ?_
        rotate_left
        · intro w hSw; have s0 := cell_of_row _ _ 0 _ _ _ hSw; have s1 := cell_of_row _ _ 1 _ _ _ hSw; have s2 := cell_of_row _ _ 2 _ _ _ hSw; have s3 := cell_of_row _ _ 3 _ _ _ hSw; go_simp; (first | done | with_reducible rfl | rfl)
        try simp only [Act.put, List.setIfInBounds_toArray, List.set_cons_zero, List.set_cons_succ]
        refine takeH 3 69 (v := .slice (some ⟨b1, off1, none⟩) n cap1) rfl rfl (by kernel_rfl) (by kernel_rfl) (by kernel_rfl) (fun _ _ _ h => h) (by rfl) (by assumption) ?_ ?_
        · intro w hSw; have s0 := cell_of_row _ _ 0 _ _ _ hSw; have s1 := cell_of_row _ _ 1 _ _ _ hSw; have s2 := cell_of_row _ _ 2 _ _ _ hSw; have s3 := cell_of_row _ _ 3 _ _ _ hSw; go_simp; (first | done | with_reducible rfl | rfl)
        try simp only [Act.put, List.setIfInBounds_toArray, List.set_cons_zero, List.set_cons_succ]
        refine takeH 5 71 (v := ?_) rfl rfl (by kernel_rfl) (by kernel_rfl) (by kernel_rfl) (fun _ _ _ h => h) (by rfl) (by assumption) ?_ ?_
        rotate_left
        · intro w hSw; have s0 := cell_of_row _ _ 0 _ _ _ hSw; have s1 := cell_of_row _ _ 1 _ _ _ hSw; have s2 := cell_of_row _ _ 2 _ _ _ hSw; have s3 := cell_of_row _ _ 3 _ _ _ hSw; go_simp; (first | done | with_reducible rfl | rfl)
        try simp only [Act.put, List.setIfInBounds_toArray, List.set_cons_zero, List.set_cons_succ]
        refine takeH 8 74 (v := ?_) rfl rfl (by kernel_rfl) (by kernel_rfl) (by kernel_rfl) (fun _ _ _ h => h) (by rfl) (by assumption) ?_ ?_
        rotate_left
        · intro w hSw; have s0 := cell_of_row _ _ 0 _ _ _ hSw; have s1 := cell_of_row _ _ 1 _ _ _ hSw; have s2 := cell_of_row _ _ 2 _ _ _ hSw; have s3 := cell_of_row _ _ 3 _ _ _ hSw; go_simp; (first | done | with_reducible rfl | rfl)
        try simp only [Act.put, List.setIfInBounds_toArray, List.set_cons_zero, List.set_cons_succ]
        refine takeH 9 75 (v := ?_) rfl rfl (by kernel_rfl) (by kernel_rfl) (by kernel_rfl) (fun _ _ _ h => h) (by rfl) (by assumption) ?_ ?_
        rotate_left
        · intro w hSw; have s0 := cell_of_row _ _ 0 _ _ _ hSw; have s1 := cell_of_row _ _ 1 _ _ _ hSw; have s2 := cell_of_row _ _ 2 _ _ _ hSw; have s3 := cell_of_row _ _ 3 _ _ _ hSw; go_simp; (first | done | with_reducible rfl | rfl)
        try simp only [Act.put, List.setIfInBounds_toArray, List.set_cons_zero, List.set_cons_succ]
        refine takeH 10 76 (v := sv) rfl rfl (by kernel_rfl) (by kernel_rfl) (by kernel_rfl) (fun _ _ _ h => h) (by rfl) (by assumption) ?_ ?_
        · intro w hSw; rw [HSV.out]; have s0 := cell_of_row _ _ 0 _ _ _ hSw; have s1 := cell_of_row _ _ 1 _ _ _ hSw; have s2 := cell_of_row _ _ 2 _ _ _ hSw; have s3 := cell_of_row _ _ 3 _ _ _ hSw; go_simp; (first | done | with_reducible rfl | rfl)
        try simp only [Act.put, List.setIfInBounds_toArray, List.set_cons_zero, List.set_cons_succ]
        have HXh := Lib.hid hHeld
        have hz0 : w.heap.size < wd.heap.size := by omega
        have HFP : Hid ((∀ b ∈ fa, b < wd.heap.size ∧ w.heap.size ≤ b) ∧ (∀ b ∈ fb, b < wd.heap.size ∧ w.heap.size ≤ b) ∧ (∀ b ∈ f2, b < wd.heap.size ∧ w.heap.size ≤ b)) := ⟨fun b hb => by have := LO1.out b (HFA.out b hb); omega, fun b hb => by have := LO1.out b (HFB.out b hb); omega, fun b hb => by have := LO2.out b hb; omega⟩
        have HTL : Hid ((l.take n).length = n ∧ (l.drop n).length = l.length - n) := ⟨by rw [List.length_take]; omega, List.length_drop⟩
        clear HFA HFB hHeld HXq
        have HXwd := HXh
        have HRAwd := HRA
        have HRBwd := HRB
        have HMwd := HMd
        have HBwd := HBd
        clear HXh HRA HRB HMd HBd
        refine wpAnyH_ready (rs := [0, 6]) (by decide +kernel) (by simp) ?_
        refine AllReadyH.cons rfl (fun K hK => ?_) (AllReadyH.cons rfl (fun K hK => ?_) AllReadyH.nil)
        · have bl := alloc_below' wd (.cells #[] 70)
          have hyx0 : wd.heap.size + 1 ≤ (wd.alloc (.cells #[] 70)).heap.size := Nat.le_of_eq (Array.size_push _).symm
          have HGx0 := Lib.hid (RowG.lit0 sMacro 70 wd)
          go_simp
          have HXx0 := Lib.hid ((bl.block w.heap.size (by omega)).trans HXwd.out)
          have HRAx0 := Lib.hid ((sSlice sMacro).below HRAwd.out bl)
          have HRBx0 := Lib.hid ((sSlice sMacro).below HRBwd.out bl)
          have HMx0 := Lib.hid (sMacro.below HMwd.out bl)
          have HBx0 := Lib.hid (HBwd.out.trans (bl.mono HBwd.out.size))
          refine hK.out _ _ HXx0.out (fun hHeld => ?_)
          clear hK K bl
          try simp only [Act.put, List.setIfInBounds_toArray, List.set_cons_zero, List.set_cons_succ]
          generalize (wd.alloc (.cells #[] 70)) = x0 at *
          refine wpAnyH_ready (rs := [4, 6]) (by decide +kernel) (by simp) ?_
          refine AllReadyH.cons rfl (fun K hK => ?_) (AllReadyH.cons rfl (fun K hK => ?_) AllReadyH.nil)
          · refine step_append_anyG ti_mac rfl (by decide) mac_one _ 70 rfl rfl (.tmp 66) (.tmp 69) rfl (wd.heap.size) (.slice (some ⟨wd.heap.size, 0, none⟩) 0 0) (.slice (some ⟨b1, off1, none⟩) n cap1) (l.take n) fa rfl HGx0.out rfl HRAx0.out (fun b hb => by have := (HFP.out.1 b hb).1; omega) (by rw [HTL.out.1]; simp [maxLen]; omega) (by rw [HTL.out.1]; simp; omega) (by omega) ?_
            intro vq X1 x1 hXd hXf hG hgr
            have hbw : Below wd.heap.size x0 x1 := (Below.refl wd.heap.size x0).grown hgr (by omega) (fun b hb => by have := HGx0.out.mine b hb; omega)
            have hyx1 := hbw.size
            have HXx1 := Lib.hid ((hbw.block w.heap.size (by omega)).trans HXx0.out)
            have HRBx1 := Lib.hid ((sSlice sMacro).frame (w' := x1) (fun b hb => hbw.block b (HFP.out.2.1 b hb).1) HRBx0.out)
            have HMx1 := Lib.hid (sMacro.frame (w' := x1) (fun b hb => hbw.block b (HFP.out.2.2 b hb).1) HMx0.out)
            have HRAx1 := Lib.hid ((sSlice sMacro).frame (w' := x1) (fun b hb => hbw.block b (HFP.out.1 b hb).1) HRAx0.out)
            have HN1 : Hid (X1.length = n) := by show _ = _; rw [← HTL.out.1, ← hXd, List.length_map]
            have HX1d := Lib.hid hXd
            have HX1f := Lib.hid hXf
            clear hXd hXf
            have HBx1 := Lib.hid (HBx0.out.trans (hbw.mono (by omega)))
            have HGx1 := Lib.hid (show RowG sMacro (wd.heap.size) 70 vq X1 x1 from hG)
            obtain ⟨aqx1, cqx1, rfl, hq⟩ := HGx1.out.val
            clear hq
            refine hK.out _ _ HXx1.out (fun hHeld => ?_)
            clear hK K hgr hG hbw
            try simp only [Act.put, List.setIfInBounds_toArray, List.set_cons_zero, List.set_cons_succ]
            refine wpAnyH_ready (rs := [6]) (by decide +kernel) (by simp) ?_
            refine AllReadyH.cons rfl (fun K hK => ?_) AllReadyH.nil
            have bl := alloc_below' x1 (.cells #[.string m.name, .bool m.function, .slice b2 m.params.length d2, .slice b3 m.body.length d3] 70)
            have hyx2 : x1.heap.size + 1 ≤ (x1.alloc (.cells #[.string m.name, .bool m.function, .slice b2 m.params.length d2, .slice b3 m.body.length d3] 70)).heap.size := Nat.le_of_eq (Array.size_push _).symm
            have HLx2 := Lib.hid (heap_alloc_new x1 (.cells #[.string m.name, .bool m.function, .slice b2 m.params.length d2, .slice b3 m.body.length d3] 70))
            have HGx2 := Lib.hid (HGx1.out.below bl)
            go_simp
            have HXx2 := Lib.hid ((bl.block w.heap.size (by omega)).trans HXx1.out)
            have HRAx2 := Lib.hid ((sSlice sMacro).below HRAx1.out bl)
            have HRBx2 := Lib.hid ((sSlice sMacro).below HRBx1.out bl)
            have HMx2 := Lib.hid (sMacro.below HMx1.out bl)
            have HBx2 := Lib.hid (HBx1.out.trans (bl.mono HBx1.out.size))
            refine hK.out _ _ HXx2.out (fun hHeld => ?_)
            clear hK K bl
            try simp only [Act.put, List.setIfInBounds_toArray, List.set_cons_zero, List.set_cons_succ]
            generalize (x1.alloc (.cells #[.string m.name, .bool m.function, .slice b2 m.params.length d2, .slice b3 m.body.length d3] 70)) = x2 at *
            refine wpAnyH_ready (rs := [7]) (by decide +kernel) (by simp) ?_
            refine AllReadyH.cons rfl (fun K hK => ?_) AllReadyH.nil
            refine step_append_rowG (X := [(⟨[.string m.name, .bool m.function, .slice b2 m.params.length d2, .slice b3 m.body.length d3], m, f2⟩ : Elem DMacro)]) ti_mac rfl (by decide) _ 73 rfl rfl (.tmp 70) (.tmp 72) rfl (wd.heap.size) (.slice aqx1 X1.length cqx1) rfl HGx2.out (x1.heap.size) 0 1 1 rfl rfl (fun x hx => by obtain rfl := List.mem_singleton.1 hx; exact ⟨rfl, HMx2.out, fun b hb => by have := (HFP.out.2.2 b hb).1; omega⟩) (fun x hx => by obtain rfl := List.mem_singleton.1 hx; simp [Value.oneCell']) (fun j u hj => by rw [Nat.zero_add, cell_of_row _ _ _ _ _ _ HLx2.out]; simpa using hj) (by unfold maxLen; have := HN1.out; omega) (by have := HN1.out; omega) (by omega) ?_
            intro vq x3 hG hgr
            have hbw : Below wd.heap.size x2 x3 := (Below.refl wd.heap.size x2).grown hgr (by omega) (fun b hb => by have := HGx2.out.mine b hb; omega)
            have hyx3 := hbw.size
            have HXx3 := Lib.hid ((hbw.block w.heap.size (by omega)).trans HXx2.out)
            have HRBx3 := Lib.hid ((sSlice sMacro).frame (w' := x3) (fun b hb => hbw.block b (HFP.out.2.1 b hb).1) HRBx2.out)
            have HBx3 := Lib.hid (HBx2.out.trans (hbw.mono (by omega)))
            have HGx3 := Lib.hid hG
            obtain ⟨aqx3, cqx3, rfl, hq⟩ := HGx3.out.val
            clear hq
            refine hK.out _ _ HXx3.out (fun hHeld => ?_)
            clear hK K hgr hG hbw
            try simp only [Act.put, List.setIfInBounds_toArray, List.set_cons_zero, List.set_cons_succ]
            refine wpAnyH_ready (rs := [11]) (by decide +kernel) (by simp) ?_
            refine AllReadyH.cons rfl (fun K hK => ?_) AllReadyH.nil
            refine step_append_anyG ti_mac rfl (by decide) mac_one _ 77 rfl rfl (.tmp 73) (.tmp 76) rfl (wd.heap.size) (.slice aqx3 (X1 ++ [(⟨[.string m.name, .bool m.function, .slice b2 m.params.length d2, .slice b3 m.body.length d3], m, f2⟩ : Elem DMacro)]).length cqx3) sv (l.drop n) fb rfl HGx3.out rfl HRBx3.out (fun b hb => by have := (HFP.out.2.1 b hb).1; omega) (by rw [HTL.out.2, List.length_append]; simp [maxLen]; have := HN1.out; omega) (by rw [HTL.out.2, List.length_append]; simp; have := HN1.out; omega) (by omega) ?_
            intro vq X3 x4 hXd hXf hG hgr
            have hbw : Below wd.heap.size x3 x4 := (Below.refl wd.heap.size x3).grown hgr (by omega) (fun b hb => by have := HGx3.out.mine b hb; omega)
            have hyx4 := hbw.size
            have HXx4 := Lib.hid ((hbw.block w.heap.size (by omega)).trans HXx3.out)
            have HBx4 := Lib.hid (HBx3.out.trans (hbw.mono (by omega)))
            have HGx4 := Lib.hid hG
            have HDD : Hid ((X1 ++ [(⟨[.string m.name, .bool m.function, .slice b2 m.params.length d2, .slice b3 m.body.length d3], m, f2⟩ : Elem DMacro)] ++ X3).map (·.d) = putAt l m n) := by show _ = _; rw [List.map_append, List.map_append, HX1d.out, hXd]; rfl
            have HLL : Hid (∀ x ∈ X1 ++ [(⟨[.string m.name, .bool m.function, .slice b2 m.params.length d2, .slice b3 m.body.length d3], m, f2⟩ : Elem DMacro)] ++ X3, ∀ b ∈ x.fp, w.heap.size ≤ b) := fun x hx b hb => by
              rcases List.mem_append.1 hx with hx | hx
              · rcases List.mem_append.1 hx with hx | hx
                · exact (HFP.out.1 b (HX1f.out x hx b hb)).2
                · obtain rfl := List.mem_singleton.1 hx; exact (HFP.out.2.2 b hb).2
              · exact (HFP.out.2.1 b (hXf x hx b hb)).2
            clear hXd hXf
            refine hK.out _ _ HXx4.out (fun hHeld => ?_)
            clear hK K hgr hG hbw
            try simp only [Act.put, List.setIfInBounds_toArray, List.set_cons_zero, List.set_cons_succ]
            refine takeH 12 4 (v := ?_) rfl rfl (by kernel_rfl) (by kernel_rfl) (by kernel_rfl) (fun _ _ _ h => h) (by rfl) (by assumption) ?_ ?_
            rotate_left
            · intro w hSw; go_simp; (first | done | with_reducible rfl | rfl)
            try simp only [Act.put, List.setIfInBounds_toArray, List.set_cons_zero, List.set_cons_succ]
            refine takeH 13 5 (v := ?_) rfl rfl (by kernel_rfl) (by kernel_rfl) (by kernel_rfl) (fun _ _ _ h => h) (by rfl) (by assumption) ?_ ?_
            rotate_left
            · intro w hSw; go_simp; (first | done | with_reducible rfl | rfl)
            try simp only [Act.put, List.setIfInBounds_toArray, List.set_cons_zero, List.set_cons_succ]
            refine wpAnyH_done (by kernel_rfl) ?_ _
            refine NoPanic.normal ?_
            clear hHeld
            go_wp2
            go_ret2
            exact ⟨_, _, _, by rw [HD.out]; rfl, HGx4.out, by rw [HD.out]; exact HDD.out, by omega, by omega, HLL.out, HBx4.out⟩
          · have bl := alloc_below' x0 (.cells #[.string m.name, .bool m.function, .slice b2 m.params.length d2, .slice b3 m.body.length d3] 70)
            have hyx5 : x0.heap.size + 1 ≤ (x0.alloc (.cells #[.string m.name, .bool m.function, .slice b2 m.params.length d2, .slice b3 m.body.length d3] 70)).heap.size := Nat.le_of_eq (Array.size_push _).symm
            have HLx5 := Lib.hid (heap_alloc_new x0 (.cells #[.string m.name, .bool m.function, .slice b2 m.params.length d2, .slice b3 m.body.length d3] 70))
            have HGx5 := Lib.hid (HGx0.out.below bl)
            go_simp
            have HXx5 := Lib.hid ((bl.block w.heap.size (by omega)).trans HXx0.out)
            have HRAx5 := Lib.hid ((sSlice sMacro).below HRAx0.out bl)
            have HRBx5 := Lib.hid ((sSlice sMacro).below HRBx0.out bl)
            have HMx5 := Lib.hid (sMacro.below HMx0.out bl)
            have HBx5 := Lib.hid (HBx0.out.trans (bl.mono HBx0.out.size))
            refine hK.out _ _ HXx5.out (fun hHeld => ?_)
            clear hK K bl
            try simp only [Act.put, List.setIfInBounds_toArray, List.set_cons_zero, List.set_cons_succ]
            generalize (x0.alloc (.cells #[.string m.name, .bool m.function, .slice b2 m.params.length d2, .slice b3 m.body.length d3] 70)) = x5 at *
            refine wpAnyH_ready (rs := [4]) (by decide +kernel) (by simp) ?_
            refine AllReadyH.cons rfl (fun K hK => ?_) AllReadyH.nil
            refine step_append_anyG ti_mac rfl (by decide) mac_one _ 70 rfl rfl (.tmp 66) (.tmp 69) rfl (wd.heap.size) (.slice (some ⟨wd.heap.size, 0, none⟩) 0 0) (.slice (some ⟨b1, off1, none⟩) n cap1) (l.take n) fa rfl HGx5.out rfl HRAx5.out (fun b hb => by have := (HFP.out.1 b hb).1; omega) (by rw [HTL.out.1]; simp [maxLen]; omega) (by rw [HTL.out.1]; simp; omega) (by omega) ?_
            intro vq X1 x6 hXd hXf hG hgr
            have hbw : Below wd.heap.size x5 x6 := (Below.refl wd.heap.size x5).grown hgr (by omega) (fun b hb => by have := HGx5.out.mine b hb; omega)
            have hyx6 := hbw.size
            have HXx6 := Lib.hid ((hbw.block w.heap.size (by omega)).trans HXx5.out)
            have HRBx6 := Lib.hid ((sSlice sMacro).frame (w' := x6) (fun b hb => hbw.block b (HFP.out.2.1 b hb).1) HRBx5.out)
            have HMx6 := Lib.hid (sMacro.frame (w' := x6) (fun b hb => hbw.block b (HFP.out.2.2 b hb).1) HMx5.out)
            have HRAx6 := Lib.hid ((sSlice sMacro).frame (w' := x6) (fun b hb => hbw.block b (HFP.out.1 b hb).1) HRAx5.out)
            have HLx6 := Lib.hid ((hgr.block (x0.heap.size) (by omega) (by simp [Value.ownBlock]; omega)).trans HLx5.out)
            have HN1 : Hid (X1.length = n) := by show _ = _; rw [← HTL.out.1, ← hXd, List.length_map]
            have HX1d := Lib.hid hXd
            have HX1f := Lib.hid hXf
            clear hXd hXf
            have HBx6 := Lib.hid (HBx5.out.trans (hbw.mono (by omega)))
            have HGx6 := Lib.hid (show RowG sMacro (wd.heap.size) 70 vq X1 x6 from hG)
            obtain ⟨aqx6, cqx6, rfl, hq⟩ := HGx6.out.val
            clear hq
            refine hK.out _ _ HXx6.out (fun hHeld => ?_)
            clear hK K hgr hG hbw
            try simp only [Act.put, List.setIfInBounds_toArray, List.set_cons_zero, List.set_cons_succ]
            refine wpAnyH_ready (rs := [7]) (by decide +kernel) (by simp) ?_
            refine AllReadyH.cons rfl (fun K hK => ?_) AllReadyH.nil
            refine step_append_rowG (X := [(⟨[.string m.name, .bool m.function, .slice b2 m.params.length d2, .slice b3 m.body.length d3], m, f2⟩ : Elem DMacro)]) ti_mac rfl (by decide) _ 73 rfl rfl (.tmp 70) (.tmp 72) rfl (wd.heap.size) (.slice aqx6 X1.length cqx6) rfl HGx6.out (x0.heap.size) 0 1 1 rfl rfl (fun x hx => by obtain rfl := List.mem_singleton.1 hx; exact ⟨rfl, HMx6.out, fun b hb => by have := (HFP.out.2.2 b hb).1; omega⟩) (fun x hx => by obtain rfl := List.mem_singleton.1 hx; simp [Value.oneCell']) (fun j u hj => by rw [Nat.zero_add, cell_of_row _ _ _ _ _ _ HLx6.out]; simpa using hj) (by unfold maxLen; have := HN1.out; omega) (by have := HN1.out; omega) (by omega) ?_
            intro vq x7 hG hgr
            have hbw : Below wd.heap.size x6 x7 := (Below.refl wd.heap.size x6).grown hgr (by omega) (fun b hb => by have := HGx6.out.mine b hb; omega)
            have hyx7 := hbw.size
            have HXx7 := Lib.hid ((hbw.block w.heap.size (by omega)).trans HXx6.out)
            have HRBx7 := Lib.hid ((sSlice sMacro).frame (w' := x7) (fun b hb => hbw.block b (HFP.out.2.1 b hb).1) HRBx6.out)
            have HBx7 := Lib.hid (HBx6.out.trans (hbw.mono (by omega)))
            have HGx7 := Lib.hid hG
            obtain ⟨aqx7, cqx7, rfl, hq⟩ := HGx7.out.val
            clear hq
            refine hK.out _ _ HXx7.out (fun hHeld => ?_)
            clear hK K hgr hG hbw
            try simp only [Act.put, List.setIfInBounds_toArray, List.set_cons_zero, List.set_cons_succ]
            refine wpAnyH_ready (rs := [11]) (by decide +kernel) (by simp) ?_
            refine AllReadyH.cons rfl (fun K hK => ?_) AllReadyH.nil
            refine step_append_anyG ti_mac rfl (by decide) mac_one _ 77 rfl rfl (.tmp 73) (.tmp 76) rfl (wd.heap.size) (.slice aqx7 (X1 ++ [(⟨[.string m.name, .bool m.function, .slice b2 m.params.length d2, .slice b3 m.body.length d3], m, f2⟩ : Elem DMacro)]).length cqx7) sv (l.drop n) fb rfl HGx7.out rfl HRBx7.out (fun b hb => by have := (HFP.out.2.1 b hb).1; omega) (by rw [HTL.out.2, List.length_append]; simp [maxLen]; have := HN1.out; omega) (by rw [HTL.out.2, List.length_append]; simp; have := HN1.out; omega) (by omega) ?_
            intro vq X3 x8 hXd hXf hG hgr
            have hbw : Below wd.heap.size x7 x8 := (Below.refl wd.heap.size x7).grown hgr (by omega) (fun b hb => by have := HGx7.out.mine b hb; omega)
            have hyx8 := hbw.size
            have HXx8 := Lib.hid ((hbw.block w.heap.size (by omega)).trans HXx7.out)
            have HBx8 := Lib.hid (HBx7.out.trans (hbw.mono (by omega)))
            have HGx8 := Lib.hid hG
            have HDD : Hid ((X1 ++ [(⟨[.string m.name, .bool m.function, .slice b2 m.params.length d2, .slice b3 m.body.length d3], m, f2⟩ : Elem DMacro)] ++ X3).map (·.d) = putAt l m n) := by show _ = _; rw [List.map_append, List.map_append, HX1d.out, hXd]; rfl
            have HLL : Hid (∀ x ∈ X1 ++ [(⟨[.string m.name, .bool m.function, .slice b2 m.params.length d2, .slice b3 m.body.length d3], m, f2⟩ : Elem DMacro)] ++ X3, ∀ b ∈ x.fp, w.heap.size ≤ b) := fun x hx b hb => by
              rcases List.mem_append.1 hx with hx | hx
              · rcases List.mem_append.1 hx with hx | hx
                · exact (HFP.out.1 b (HX1f.out x hx b hb)).2
                · obtain rfl := List.mem_singleton.1 hx; exact (HFP.out.2.2 b hb).2
              · exact (HFP.out.2.1 b (hXf x hx b hb)).2
            clear hXd hXf
            refine hK.out _ _ HXx8.out (fun hHeld => ?_)
            clear hK K hgr hG hbw
            try simp only [Act.put, List.setIfInBounds_toArray, List.set_cons_zero, List.set_cons_succ]
            refine takeH 12 4 (v := ?_) rfl rfl (by kernel_rfl) (by kernel_rfl) (by kernel_rfl) (fun _ _ _ h => h) (by rfl) (by assumption) ?_ ?_
            rotate_left
            · intro w hSw; go_simp; (first | done | with_reducible rfl | rfl)
            try simp only [Act.put, List.setIfInBounds_toArray, List.set_cons_zero, List.set_cons_succ]
            refine takeH 13 5 (v := ?_) rfl rfl (by kernel_rfl) (by kernel_rfl) (by kernel_rfl) (fun _ _ _ h => h) (by rfl) (by assumption) ?_ ?_
            rotate_left
            · intro w hSw; go_simp; (first | done | with_reducible rfl | rfl)
            try simp only [Act.put, List.setIfInBounds_toArray, List.set_cons_zero, List.set_cons_succ]
            refine wpAnyH_done (by kernel_rfl) ?_ _
            refine NoPanic.normal ?_
            clear hHeld
            go_wp2
            go_ret2
            exact ⟨_, _, _, by rw [HD.out]; rfl, HGx8.out, by rw [HD.out]; exact HDD.out, by omega, by omega, HLL.out, HBx8.out⟩
        · have bl := alloc_below' wd (.cells #[.string m.name, .bool m.function, .slice b2 m.params.length d2, .slice b3 m.body.length d3] 70)
          have hyx9 : wd.heap.size + 1 ≤ (wd.alloc (.cells #[.string m.name, .bool m.function, .slice b2 m.params.length d2, .slice b3 m.body.length d3] 70)).heap.size := Nat.le_of_eq (Array.size_push _).symm
          have HLx9 := Lib.hid (heap_alloc_new wd (.cells #[.string m.name, .bool m.function, .slice b2 m.params.length d2, .slice b3 m.body.length d3] 70))
          go_simp
          have HXx9 := Lib.hid ((bl.block w.heap.size (by omega)).trans HXwd.out)
          have HRAx9 := Lib.hid ((sSlice sMacro).below HRAwd.out bl)
          have HRBx9 := Lib.hid ((sSlice sMacro).below HRBwd.out bl)
          have HMx9 := Lib.hid (sMacro.below HMwd.out bl)
          have HBx9 := Lib.hid (HBwd.out.trans (bl.mono HBwd.out.size))
          refine hK.out _ _ HXx9.out (fun hHeld => ?_)
          clear hK K bl
          try simp only [Act.put, List.setIfInBounds_toArray, List.set_cons_zero, List.set_cons_succ]
          generalize (wd.alloc (.cells #[.string m.name, .bool m.function, .slice b2 m.params.length d2, .slice b3 m.body.length d3] 70)) = x9 at *
          refine wpAnyH_ready (rs := [0]) (by decide +kernel) (by simp) ?_
          refine AllReadyH.cons rfl (fun K hK => ?_) AllReadyH.nil
          have bl := alloc_below' x9 (.cells #[] 70)
          have hyx10 : x9.heap.size + 1 ≤ (x9.alloc (.cells #[] 70)).heap.size := Nat.le_of_eq (Array.size_push _).symm
          have HGx10 := Lib.hid (RowG.lit0 sMacro 70 x9)
          have HLx10 := Lib.hid ((bl.block _ (by omega)).trans HLx9.out)
          go_simp
          have HXx10 := Lib.hid ((bl.block w.heap.size (by omega)).trans HXx9.out)
          have HRAx10 := Lib.hid ((sSlice sMacro).below HRAx9.out bl)
          have HRBx10 := Lib.hid ((sSlice sMacro).below HRBx9.out bl)
          have HMx10 := Lib.hid (sMacro.below HMx9.out bl)
          have HBx10 := Lib.hid (HBx9.out.trans (bl.mono HBx9.out.size))
          refine hK.out _ _ HXx10.out (fun hHeld => ?_)
          clear hK K bl
          try simp only [Act.put, List.setIfInBounds_toArray, List.set_cons_zero, List.set_cons_succ]
          generalize (x9.alloc (.cells #[] 70)) = x10 at *
          refine wpAnyH_ready (rs := [4]) (by decide +kernel) (by simp) ?_
          refine AllReadyH.cons rfl (fun K hK => ?_) AllReadyH.nil
          refine step_append_anyG ti_mac rfl (by decide) mac_one _ 70 rfl rfl (.tmp 66) (.tmp 69) rfl (x9.heap.size) (.slice (some ⟨x9.heap.size, 0, none⟩) 0 0) (.slice (some ⟨b1, off1, none⟩) n cap1) (l.take n) fa rfl HGx10.out rfl HRAx10.out (fun b hb => by have := (HFP.out.1 b hb).1; omega) (by rw [HTL.out.1]; simp [maxLen]; omega) (by rw [HTL.out.1]; simp; omega) (by omega) ?_
          intro vq X1 x11 hXd hXf hG hgr
          have hbw : Below wd.heap.size x10 x11 := (Below.refl wd.heap.size x10).grown hgr (by omega) (fun b hb => by have := HGx10.out.mine b hb; omega)
          have hyx11 := hbw.size
          have HXx11 := Lib.hid ((hbw.block w.heap.size (by omega)).trans HXx10.out)
          have HRBx11 := Lib.hid ((sSlice sMacro).frame (w' := x11) (fun b hb => hbw.block b (HFP.out.2.1 b hb).1) HRBx10.out)
          have HMx11 := Lib.hid (sMacro.frame (w' := x11) (fun b hb => hbw.block b (HFP.out.2.2 b hb).1) HMx10.out)
          have HRAx11 := Lib.hid ((sSlice sMacro).frame (w' := x11) (fun b hb => hbw.block b (HFP.out.1 b hb).1) HRAx10.out)
          have HLx11 := Lib.hid ((hgr.block (wd.heap.size) (by omega) (by simp [Value.ownBlock]; omega)).trans HLx10.out)
          have HN1 : Hid (X1.length = n) := by show _ = _; rw [← HTL.out.1, ← hXd, List.length_map]
          have HX1d := Lib.hid hXd
          have HX1f := Lib.hid hXf
          clear hXd hXf
          have HBx11 := Lib.hid (HBx10.out.trans (hbw.mono (by omega)))
          have HGx11 := Lib.hid (show RowG sMacro (x9.heap.size) 70 vq X1 x11 from hG)
          obtain ⟨aqx11, cqx11, rfl, hq⟩ := HGx11.out.val
          clear hq
          refine hK.out _ _ HXx11.out (fun hHeld => ?_)
          clear hK K hgr hG hbw
          try simp only [Act.put, List.setIfInBounds_toArray, List.set_cons_zero, List.set_cons_succ]
          refine wpAnyH_ready (rs := [7]) (by decide +kernel) (by simp) ?_
          refine AllReadyH.cons rfl (fun K hK => ?_) AllReadyH.nil
          refine step_append_rowG (X := [(⟨[.string m.name, .bool m.function, .slice b2 m.params.length d2, .slice b3 m.body.length d3], m, f2⟩ : Elem DMacro)]) ti_mac rfl (by decide) _ 73 rfl rfl (.tmp 70) (.tmp 72) rfl (x9.heap.size) (.slice aqx11 X1.length cqx11) rfl HGx11.out (wd.heap.size) 0 1 1 rfl rfl (fun x hx => by obtain rfl := List.mem_singleton.1 hx; exact ⟨rfl, HMx11.out, fun b hb => by have := (HFP.out.2.2 b hb).1; omega⟩) (fun x hx => by obtain rfl := List.mem_singleton.1 hx; simp [Value.oneCell']) (fun j u hj => by rw [Nat.zero_add, cell_of_row _ _ _ _ _ _ HLx11.out]; simpa using hj) (by unfold maxLen; have := HN1.out; omega) (by have := HN1.out; omega) (by omega) ?_
          intro vq x12 hG hgr
          have hbw : Below wd.heap.size x11 x12 := (Below.refl wd.heap.size x11).grown hgr (by omega) (fun b hb => by have := HGx11.out.mine b hb; omega)
          have hyx12 := hbw.size
          have HXx12 := Lib.hid ((hbw.block w.heap.size (by omega)).trans HXx11.out)
          have HRBx12 := Lib.hid ((sSlice sMacro).frame (w' := x12) (fun b hb => hbw.block b (HFP.out.2.1 b hb).1) HRBx11.out)
          have HBx12 := Lib.hid (HBx11.out.trans (hbw.mono (by omega)))
          have HGx12 := Lib.hid hG
          obtain ⟨aqx12, cqx12, rfl, hq⟩ := HGx12.out.val
          clear hq
          refine hK.out _ _ HXx12.out (fun hHeld => ?_)
          clear hK K hgr hG hbw
          try simp only [Act.put, List.setIfInBounds_toArray, List.set_cons_zero, List.set_cons_succ]
          refine wpAnyH_ready (rs := [11]) (by decide +kernel) (by simp) ?_
          refine AllReadyH.cons rfl (fun K hK => ?_) AllReadyH.nil
          refine step_append_anyG ti_mac rfl (by decide) mac_one _ 77 rfl rfl (.tmp 73) (.tmp 76) rfl (x9.heap.size) (.slice aqx12 (X1 ++ [(⟨[.string m.name, .bool m.function, .slice b2 m.params.length d2, .slice b3 m.body.length d3], m, f2⟩ : Elem DMacro)]).length cqx12) sv (l.drop n) fb rfl HGx12.out rfl HRBx12.out (fun b hb => by have := (HFP.out.2.1 b hb).1; omega) (by rw [HTL.out.2, List.length_append]; simp [maxLen]; have := HN1.out; omega) (by rw [HTL.out.2, List.length_append]; simp; have := HN1.out; omega) (by omega) ?_
          intro vq X3 x13 hXd hXf hG hgr
          have hbw : Below wd.heap.size x12 x13 := (Below.refl wd.heap.size x12).grown hgr (by omega) (fun b hb => by have := HGx12.out.mine b hb; omega)
          have hyx13 := hbw.size
          have HXx13 := Lib.hid ((hbw.block w.heap.size (by omega)).trans HXx12.out)
          have HBx13 := Lib.hid (HBx12.out.trans (hbw.mono (by omega)))
          have HGx13 := Lib.hid hG
          have HDD : Hid ((X1 ++ [(⟨[.string m.name, .bool m.function, .slice b2 m.params.length d2, .slice b3 m.body.length d3], m, f2⟩ : Elem DMacro)] ++ X3).map (·.d) = putAt l m n) := by show _ = _; rw [List.map_append, List.map_append, HX1d.out, hXd]; rfl
          have HLL : Hid (∀ x ∈ X1 ++ [(⟨[.string m.name, .bool m.function, .slice b2 m.params.length d2, .slice b3 m.body.length d3], m, f2⟩ : Elem DMacro)] ++ X3, ∀ b ∈ x.fp, w.heap.size ≤ b) := fun x hx b hb => by
            rcases List.mem_append.1 hx with hx | hx
            · rcases List.mem_append.1 hx with hx | hx
              · exact (HFP.out.1 b (HX1f.out x hx b hb)).2
              · obtain rfl := List.mem_singleton.1 hx; exact (HFP.out.2.2 b hb).2
            · exact (HFP.out.2.1 b (hXf x hx b hb)).2
          clear hXd hXf
          refine hK.out _ _ HXx13.out (fun hHeld => ?_)
          clear hK K hgr hG hbw
          try simp only [Act.put, List.setIfInBounds_toArray, List.set_cons_zero, List.set_cons_succ]
          refine takeH 12 4 (v := ?_) rfl rfl (by kernel_rfl) (by kernel_rfl) (by kernel_rfl) (fun _ _ _ h => h) (by rfl) (by assumption) ?_ ?_
          rotate_left
          · intro w hSw; go_simp; (first | done | with_reducible rfl | rfl)
          try simp only [Act.put, List.setIfInBounds_toArray, List.set_cons_zero, List.set_cons_succ]
          refine takeH 13 5 (v := ?_) rfl rfl (by kernel_rfl) (by kernel_rfl) (by kernel_rfl) (fun _ _ _ h => h) (by rfl) (by assumption) ?_ ?_
          rotate_left
          · intro w hSw; go_simp; (first | done | with_reducible rfl | rfl)
          try simp only [Act.put, List.setIfInBounds_toArray, List.set_cons_zero, List.set_cons_succ]
          refine wpAnyH_done (by kernel_rfl) ?_ _
          refine NoPanic.normal ?_
          clear hHeld
          go_wp2
          go_ret2
          exact ⟨_, _, _, by rw [HD.out]; rfl, HGx13.out, by rw [HD.out]; exact HDD.out, by omega, by omega, HLL.out, HBx13.out⟩
    · have h0 : decide ((k : Int) < (l.length : Int)) = false := decide_eq_false (by omega)
      have h1 : decide (k < l.length) = false := decide_eq_false hlt
      go_wp2_with fail
      go_quiet (fail)
      go_wp2
      obtain rfl : n = k := by omega
      have hbq := belowN hbr nq
      generalize wr.drewN nq = wq at *
      have hsq := hbq.size
      have HXq := Lib.hid ((hbq.block w.heap.size (by omega)).trans HX8.out)
      have HRq := Lib.hid ((sSlice sMacro).below HR8.out hbq)
      have HMq := Lib.hid (sMacro.below HM8.out hbq)
      have HBq := Lib.hid (HB8.out.trans (hbq.mono HB8.out.size))
      clear HX8 HR8 HM8 HB8 HXr hbr hbq p0 hrow8 HG8 HXD LOX
      obtain ⟨fa, RA, hfa⟩ := slice_take n (by omega) HRq.out
      obtain ⟨fb, RB, hfb⟩ := slice_drop n (by omega) HRq.out
      have hd : Below wq.heap.size wq wq.drew := belowN (Below.refl _ _) 1
      have HRA := Lib.hid ((sSlice sMacro).below RA hd)
      obtain ⟨sv, HSV⟩ : ∃ sv : Value, Hid (sv = .slice (if cap1 = n then a1 else (a1 : Option Addr).map (·.add (n * sMacro.m))) (l.length - n) (cap1 - n)) := ⟨_, rfl⟩
      have HRB : Hid ((sSlice sMacro).R wq.drew [sv] (l.drop n) fb) := by show (sSlice sMacro).R _ _ _ _; rw [HSV.out]; exact (sSlice sMacro).below RB hd
      have HFA := Lib.hid hfa
      have HFB := Lib.hid hfb
      have HMd := Lib.hid (sMacro.below HMq.out hd)
      have HBd := Lib.hid (HBq.out.trans (hd.mono HBq.out.size))
      have hsd : wq.heap.size ≤ wq.drew.heap.size := hd.size
      clear RA RB hfa hfb HRq HMq HBq
      refine wp_region_noPanic ?_
      refine wp_region_held_drew (S := fun w' => w'.heap[w.heap.size]? = some (.cells #[.string m.name, .bool m.function, .slice b2 m.params.length d2, .slice b3 m.body.length d3] 70 (0, 0))) (by kernel_rfl) (by exact HXq.out) (fun hHeld => ?_)
      clear hd
      generalize wq.drew = wd at *
      have hp1 : (0 : Int) ≤ (n : Int) := by omega
      have hp2 : (n : Int) ≤ (l.length : Int) := by omega
      have hp3 : n ≤ l.length := by omega
      have hp4 : n ≤ cap1 := by omega
      have hp5 : (n : Int) ≤ (cap1 : Int) := by omega
      refine takeH 1 67 (v := ?_) rfl rfl (by kernel_rfl) (by kernel_rfl) (by kernel_rfl) (fun _ _ _ h => h) (by rfl) (by assumption) ?_ ?_
      rotate_left
      · intro w hSw; have s0 := cell_of_row _ _ 0 _ _ _ hSw; have s1 := cell_of_row _ _ 1 _ _ _ hSw; have s2 := cell_of_row _ _ 2 _ _ _ hSw; have s3 := cell_of_row _ _ 3 _ _ _ hSw; go_simp; (first | done | with_reducible rfl | rfl)
      try simp only [Act.put, List.setIfInBounds_toArray, List.set_cons_zero, List.set_cons_succ]
      refine takeH 2 68 (v := ?_) rfl rfl (by kernel_rfl) (by kernel_rfl) (by kernel_rfl) (fun _ _ _ h => h) (by rfl) (by assumption) ?_ ?_
      rotate_left
      · intro w hSw; have s0 := cell_of_row _ _ 0 _ _ _ hSw; have s1 := cell_of_row _ _ 1 _ _ _ hSw; have s2 := cell_of_row _ _ 2 _ _ _ hSw; have s3 := cell_of_row _ _ 3 _ _ _ hSw; go_simp; (first | done | with_reducible rfl | rfl)
      try simp only [Act.put, List.setIfInBounds_toArray, List.set_cons_zero, List.set_cons_succ]
      refine takeH 3 69 (v := .slice a1 n cap1) rfl rfl (by kernel_rfl) (by kernel_rfl) (by kernel_rfl) (fun _ _ _ h => h) (by rfl) (by assumption) ?_ ?_
      · intro w hSw; have s0 := cell_of_row _ _ 0 _ _ _ hSw; have s1 := cell_of_row _ _ 1 _ _ _ hSw; have s2 := cell_of_row _ _ 2 _ _ _ hSw; have s3 := cell_of_row _ _ 3 _ _ _ hSw; go_simp; (first | done | with_reducible rfl | rfl)
      try simp only [Act.put, List.setIfInBounds_toArray, List.set_cons_zero, List.set_cons_succ]
      refine takeH 5 71 (v := ?_) rfl rfl (by kernel_rfl) (by kernel_rfl) (by kernel_rfl) (fun _ _ _ h => h) (by rfl) (by assumption) ?_ ?_
      rotate_left
      · intro w hSw; have s0 := cell_of_row _ _ 0 _ _ _ hSw; have s1 := cell_of_row _ _ 1 _ _ _ hSw; have s2 := cell_of_row _ _ 2 _ _ _ hSw; have s3 := cell_of_row _ _ 3 _ _ _ hSw; go_simp; (first | done | with_reducible rfl | rfl)
      try simp only [Act.put, List.setIfInBounds_toArray, List.set_cons_zero, List.set_cons_succ]
      refine takeH 8 74 (v := ?_) rfl rfl (by kernel_rfl) (by kernel_rfl) (by kernel_rfl) (fun _ _ _ h => h) (by rfl) (by assumption) ?_ ?_
      rotate_left
      · intro w hSw; have s0 := cell_of_row _ _ 0 _ _ _ hSw; have s1 := cell_of_row _ _ 1 _ _ _ hSw; have s2 := cell_of_row _ _ 2 _ _ _ hSw; have s3 := cell_of_row _ _ 3 _ _ _ hSw; go_simp; (first | done | with_reducible rfl | rfl)
      try simp only [Act.put, List.setIfInBounds_toArray, List.set_cons_zero, List.set_cons_succ]
      refine takeH 9 75 (v := ?_) rfl rfl (by kernel_rfl) (by kernel_rfl) (by kernel_rfl) (fun _ _ _ h => h) (by rfl) (by assumption) ?_ ?_
      rotate_left
      · intro w hSw; have s0 := cell_of_row _ _ 0 _ _ _ hSw; have s1 := cell_of_row _ _ 1 _ _ _ hSw; have s2 := cell_of_row _ _ 2 _ _ _ hSw; have s3 := cell_of_row _ _ 3 _ _ _ hSw; go_simp; (first | done | with_reducible rfl | rfl)
      try simp only [Act.put, List.setIfInBounds_toArray, List.set_cons_zero, List.set_cons_succ]
      refine takeH 10 76 (v := sv) rfl rfl (by kernel_rfl) (by kernel_rfl) (by kernel_rfl) (fun _ _ _ h => h) (by rfl) (by assumption) ?_ ?_
      · intro w hSw; rw [HSV.out]; have s0 := cell_of_row _ _ 0 _ _ _ hSw; have s1 := cell_of_row _ _ 1 _ _ _ hSw; have s2 := cell_of_row _ _ 2 _ _ _ hSw; have s3 := cell_of_row _ _ 3 _ _ _ hSw; go_simp; (first | done | with_reducible rfl | rfl)
      try simp only [Act.put, List.setIfInBounds_toArray, List.set_cons_zero, List.set_cons_succ]
      have HXh := Lib.hid hHeld
      have hz0 : w.heap.size < wd.heap.size := by omega
      have HFP : Hid ((∀ b ∈ fa, b < wd.heap.size ∧ w.heap.size ≤ b) ∧ (∀ b ∈ fb, b < wd.heap.size ∧ w.heap.size ≤ b) ∧ (∀ b ∈ f2, b < wd.heap.size ∧ w.heap.size ≤ b)) := ⟨fun b hb => by have := LO1.out b (HFA.out b hb); omega, fun b hb => by have := LO1.out b (HFB.out b hb); omega, fun b hb => by have := LO2.out b hb; omega⟩
      have HTL : Hid ((l.take n).length = n ∧ (l.drop n).length = l.length - n) := ⟨by rw [List.length_take]; omega, List.length_drop⟩
      clear HFA HFB hHeld HXq
      have HXwd := HXh
      have HRAwd := HRA
      have HRBwd := HRB
      have HMwd := HMd
      have HBwd := HBd
      clear HXh HRA HRB HMd HBd
      refine wpAnyH_ready (rs := [0, 6]) (by decide +kernel) (by simp) ?_
      refine AllReadyH.cons rfl (fun K hK => ?_) (AllReadyH.cons rfl (fun K hK => ?_) AllReadyH.nil)
      · have bl := alloc_below' wd (.cells #[] 70)
        have hyx0 : wd.heap.size + 1 ≤ (wd.alloc (.cells #[] 70)).heap.size := Nat.le_of_eq (Array.size_push _).symm
        have HGx0 := Lib.hid (RowG.lit0 sMacro 70 wd)
        go_simp
        have HXx0 := Lib.hid ((bl.block w.heap.size (by omega)).trans HXwd.out)
        have HRAx0 := Lib.hid ((sSlice sMacro).below HRAwd.out bl)
        have HRBx0 := Lib.hid ((sSlice sMacro).below HRBwd.out bl)
        have HMx0 := Lib.hid (sMacro.below HMwd.out bl)
        have HBx0 := Lib.hid (HBwd.out.trans (bl.mono HBwd.out.size))
        refine hK.out _ _ HXx0.out (fun hHeld => ?_)
        clear hK K bl
        try simp only [Act.put, List.setIfInBounds_toArray, List.set_cons_zero, List.set_cons_succ]
        generalize (wd.alloc (.cells #[] 70)) = x0 at *
        refine wpAnyH_ready (rs := [4, 6]) (by decide +kernel) (by simp) ?_
        refine AllReadyH.cons rfl (fun K hK => ?_) (AllReadyH.cons rfl (fun K hK => ?_) AllReadyH.nil)
        · refine step_append_anyG ti_mac rfl (by decide) mac_one _ 70 rfl rfl (.tmp 66) (.tmp 69) rfl (wd.heap.size) (.slice (some ⟨wd.heap.size, 0, none⟩) 0 0) (.slice a1 n cap1) (l.take n) fa rfl HGx0.out rfl HRAx0.out (fun b hb => by have := (HFP.out.1 b hb).1; omega) (by rw [HTL.out.1]; simp [maxLen]; omega) (by rw [HTL.out.1]; simp; omega) (by omega) ?_
          intro vq X1 x1 hXd hXf hG hgr
          have hbw : Below wd.heap.size x0 x1 := (Below.refl wd.heap.size x0).grown hgr (by omega) (fun b hb => by have := HGx0.out.mine b hb; omega)
          have hyx1 := hbw.size
          have HXx1 := Lib.hid ((hbw.block w.heap.size (by omega)).trans HXx0.out)
          have HRBx1 := Lib.hid ((sSlice sMacro).frame (w' := x1) (fun b hb => hbw.block b (HFP.out.2.1 b hb).1) HRBx0.out)
          have HMx1 := Lib.hid (sMacro.frame (w' := x1) (fun b hb => hbw.block b (HFP.out.2.2 b hb).1) HMx0.out)
          have HRAx1 := Lib.hid ((sSlice sMacro).frame (w' := x1) (fun b hb => hbw.block b (HFP.out.1 b hb).1) HRAx0.out)
          have HN1 : Hid (X1.length = n) := by show _ = _; rw [← HTL.out.1, ← hXd, List.length_map]
          have HX1d := Lib.hid hXd
          have HX1f := Lib.hid hXf
          clear hXd hXf
          have HBx1 := Lib.hid (HBx0.out.trans (hbw.mono (by omega)))
          have HGx1 := Lib.hid (show RowG sMacro (wd.heap.size) 70 vq X1 x1 from hG)
          obtain ⟨aqx1, cqx1, rfl, hq⟩ := HGx1.out.val
          clear hq
          refine hK.out _ _ HXx1.out (fun hHeld => ?_)
          clear hK K hgr hG hbw
          try simp only [Act.put, List.setIfInBounds_toArray, List.set_cons_zero, List.set_cons_succ]
          refine wpAnyH_ready (rs := [6]) (by decide +kernel) (by simp) ?_
          refine AllReadyH.cons rfl (fun K hK => ?_) AllReadyH.nil
          have bl := alloc_below' x1 (.cells #[.string m.name, .bool m.function, .slice b2 m.params.length d2, .slice b3 m.body.length d3] 70)
          have hyx2 : x1.heap.size + 1 ≤ (x1.alloc (.cells #[.string m.name, .bool m.function, .slice b2 m.params.length d2, .slice b3 m.body.length d3] 70)).heap.size := Nat.le_of_eq (Array.size_push _).symm
          have HLx2 := Lib.hid (heap_alloc_new x1 (.cells #[.string m.name, .bool m.function, .slice b2 m.params.length d2, .slice b3 m.body.length d3] 70))
          have HGx2 := Lib.hid (HGx1.out.below bl)
          go_simp
          have HXx2 := Lib.hid ((bl.block w.heap.size (by omega)).trans HXx1.out)
          have HRAx2 := Lib.hid ((sSlice sMacro).below HRAx1.out bl)
          have HRBx2 := Lib.hid ((sSlice sMacro).below HRBx1.out bl)
          have HMx2 := Lib.hid (sMacro.below HMx1.out bl)
          have HBx2 := Lib.hid (HBx1.out.trans (bl.mono HBx1.out.size))
          refine hK.out _ _ HXx2.out (fun hHeld => ?_)
          clear hK K bl
          try simp only [Act.put, List.setIfInBounds_toArray, List.set_cons_zero, List.set_cons_succ]
          generalize (x1.alloc (.cells #[.string m.name, .bool m.function, .slice b2 m.params.length d2, .slice b3 m.body.length d3] 70)) = x2 at *
          refine wpAnyH_ready (rs := [7]) (by decide +kernel) (by simp) ?_
          refine AllReadyH.cons rfl (fun K hK => ?_) AllReadyH.nil
          refine step_append_rowG (X := [(⟨[.string m.name, .bool m.function, .slice b2 m.params.length d2, .slice b3 m.body.length d3], m, f2⟩ : Elem DMacro)]) ti_mac rfl (by decide) _ 73 rfl rfl (.tmp 70) (.tmp 72) rfl (wd.heap.size) (.slice aqx1 X1.length cqx1) rfl HGx2.out (x1.heap.size) 0 1 1 rfl rfl (fun x hx => by obtain rfl := List.mem_singleton.1 hx; exact ⟨rfl, HMx2.out, fun b hb => by have := (HFP.out.2.2 b hb).1; omega⟩) (fun x hx => by obtain rfl := List.mem_singleton.1 hx; simp [Value.oneCell']) (fun j u hj => by rw [Nat.zero_add, cell_of_row _ _ _ _ _ _ HLx2.out]; simpa using hj) (by unfold maxLen; have := HN1.out; omega) (by have := HN1.out; omega) (by omega) ?_
          intro vq x3 hG hgr
          have hbw : Below wd.heap.size x2 x3 := (Below.refl wd.heap.size x2).grown hgr (by omega) (fun b hb => by have := HGx2.out.mine b hb; omega)
          have hyx3 := hbw.size
          have HXx3 := Lib.hid ((hbw.block w.heap.size (by omega)).trans HXx2.out)
          have HRBx3 := Lib.hid ((sSlice sMacro).frame (w' := x3) (fun b hb => hbw.block b (HFP.out.2.1 b hb).1) HRBx2.out)
          have HBx3 := Lib.hid (HBx2.out.trans (hbw.mono (by omega)))
          have HGx3 := Lib.hid hG
          obtain ⟨aqx3, cqx3, rfl, hq⟩ := HGx3.out.val
          clear hq
          refine hK.out _ _ HXx3.out (fun hHeld => ?_)
          clear hK K hgr hG hbw
          try simp only [Act.put, List.setIfInBounds_toArray, List.set_cons_zero, List.set_cons_succ]
          refine wpAnyH_ready (rs := [11]) (by decide +kernel) (by simp) ?_
          refine AllReadyH.cons rfl (fun K hK => ?_) AllReadyH.nil
          refine step_append_anyG ti_mac rfl (by decide) mac_one _ 77 rfl rfl (.tmp 73) (.tmp 76) rfl (wd.heap.size) (.slice aqx3 (X1 ++ [(⟨[.string m.name, .bool m.function, .slice b2 m.params.length d2, .slice b3 m.body.length d3], m, f2⟩ : Elem DMacro)]).length cqx3) sv (l.drop n) fb rfl HGx3.out rfl HRBx3.out (fun b hb => by have := (HFP.out.2.1 b hb).1; omega) (by rw [HTL.out.2, List.length_append]; simp [maxLen]; have := HN1.out; omega) (by rw [HTL.out.2, List.length_append]; simp; have := HN1.out; omega) (by omega) ?_
          intro vq X3 x4 hXd hXf hG hgr
          have hbw : Below wd.heap.size x3 x4 := (Below.refl wd.heap.size x3).grown hgr (by omega) (fun b hb => by have := HGx3.out.mine b hb; omega)
          have hyx4 := hbw.size
          have HXx4 := Lib.hid ((hbw.block w.heap.size (by omega)).trans HXx3.out)
          have HBx4 := Lib.hid (HBx3.out.trans (hbw.mono (by omega)))
          have HGx4 := Lib.hid hG
          have HDD : Hid ((X1 ++ [(⟨[.string m.name, .bool m.function, .slice b2 m.params.length d2, .slice b3 m.body.length d3], m, f2⟩ : Elem DMacro)] ++ X3).map (·.d) = putAt l m n) := by show _ = _; rw [List.map_append, List.map_append, HX1d.out, hXd]; rfl
          have HLL : Hid (∀ x ∈ X1 ++ [(⟨[.string m.name, .bool m.function, .slice b2 m.params.length d2, .slice b3 m.body.length d3], m, f2⟩ : Elem DMacro)] ++ X3, ∀ b ∈ x.fp, w.heap.size ≤ b) := fun x hx b hb => by
            rcases List.mem_append.1 hx with hx | hx
            · rcases List.mem_append.1 hx with hx | hx
              · exact (HFP.out.1 b (HX1f.out x hx b hb)).2
              · obtain rfl := List.mem_singleton.1 hx; exact (HFP.out.2.2 b hb).2
            · exact (HFP.out.2.1 b (hXf x hx b hb)).2
          clear hXd hXf
          refine hK.out _ _ HXx4.out (fun hHeld => ?_)
          clear hK K hgr hG hbw
          try simp only [Act.put, List.setIfInBounds_toArray, List.set_cons_zero, List.set_cons_succ]
          refine takeH 12 4 (v := ?_) rfl rfl (by kernel_rfl) (by kernel_rfl) (by kernel_rfl) (fun _ _ _ h => h) (by rfl) (by assumption) ?_ ?_
          rotate_left
          · intro w hSw; go_simp; (first | done | with_reducible rfl | rfl)
          try simp only [Act.put, List.setIfInBounds_toArray, List.set_cons_zero, List.set_cons_succ]
          refine takeH 13 5 (v := ?_) rfl rfl (by kernel_rfl) (by kernel_rfl) (by kernel_rfl) (fun _ _ _ h => h) (by rfl) (by assumption) ?_ ?_
          rotate_left
          · intro w hSw; go_simp; (first | done | with_reducible rfl | rfl)
          try simp only [Act.put, List.setIfInBounds_toArray, List.set_cons_zero, List.set_cons_succ]
          refine wpAnyH_done (by kernel_rfl) ?_ _
          refine NoPanic.normal ?_
          clear hHeld
          go_wp2
          go_ret2
          exact ⟨_, _, _, by rw [HD.out]; rfl, HGx4.out, by rw [HD.out]; exact HDD.out, by omega, by omega, HLL.out, HBx4.out⟩
        · have bl := alloc_below' x0 (.cells #[.string m.name, .bool m.function, .slice b2 m.params.length d2, .slice b3 m.body.length d3] 70)
          have hyx5 : x0.heap.size + 1 ≤ (x0.alloc (.cells #[.string m.name, .bool m.function, .slice b2 m.params.length d2, .slice b3 m.body.length d3] 70)).heap.size := Nat.le_of_eq (Array.size_push _).symm
          have HLx5 := Lib.hid (heap_alloc_new x0 (.cells #[.string m.name, .bool m.function, .slice b2 m.params.length d2, .slice b3 m.body.length d3] 70))
          have HGx5 := Lib.hid (HGx0.out.below bl)
          go_simp
          have HXx5 := Lib.hid ((bl.block w.heap.size (by omega)).trans HXx0.out)
          have HRAx5 := Lib.hid ((sSlice sMacro).below HRAx0.out bl)
          have HRBx5 := Lib.hid ((sSlice sMacro).below HRBx0.out bl)
          have HMx5 := Lib.hid (sMacro.below HMx0.out bl)
          have HBx5 := Lib.hid (HBx0.out.trans (bl.mono HBx0.out.size))
          refine hK.out _ _ HXx5.out (fun hHeld => ?_)
          clear hK K bl
          try simp only [Act.put, List.setIfInBounds_toArray, List.set_cons_zero, List.set_cons_succ]
          generalize (x0.alloc (.cells #[.string m.name, .bool m.function, .slice b2 m.params.length d2, .slice b3 m.body.length d3] 70)) = x5 at *
          refine wpAnyH_ready (rs := [4]) (by decide +kernel) (by simp) ?_
          refine AllReadyH.cons rfl (fun K hK => ?_) AllReadyH.nil
          refine step_append_anyG ti_mac rfl (by decide) mac_one _ 70 rfl rfl (.tmp 66) (.tmp 69) rfl (wd.heap.size) (.slice (some ⟨wd.heap.size, 0, none⟩) 0 0) (.slice a1 n cap1) (l.take n) fa rfl HGx5.out rfl HRAx5.out (fun b hb => by have := (HFP.out.1 b hb).1; omega) (by rw [HTL.out.1]; simp [maxLen]; omega) (by rw [HTL.out.1]; simp; omega) (by omega) ?_
          intro vq X1 x6 hXd hXf hG hgr
          have hbw : Below wd.heap.size x5 x6 := (Below.refl wd.heap.size x5).grown hgr (by omega) (fun b hb => by have := HGx5.out.mine b hb; omega)
          have hyx6 := hbw.size
          have HXx6 := Lib.hid ((hbw.block w.heap.size (by omega)).trans HXx5.out)
          have HRBx6 := Lib.hid ((sSlice sMacro).frame (w' := x6) (fun b hb => hbw.block b (HFP.out.2.1 b hb).1) HRBx5.out)
          have HMx6 := Lib.hid (sMacro.frame (w' := x6) (fun b hb => hbw.block b (HFP.out.2.2 b hb).1) HMx5.out)
          have HRAx6 := Lib.hid ((sSlice sMacro).frame (w' := x6) (fun b hb => hbw.block b (HFP.out.1 b hb).1) HRAx5.out)
          have HLx6 := Lib.hid ((hgr.block (x0.heap.size) (by omega) (by simp [Value.ownBlock]; omega)).trans HLx5.out)
          have HN1 : Hid (X1.length = n) := by show _ = _; rw [← HTL.out.1, ← hXd, List.length_map]
          have HX1d := Lib.hid hXd
          have HX1f := Lib.hid hXf
          clear hXd hXf
          have HBx6 := Lib.hid (HBx5.out.trans (hbw.mono (by omega)))
          have HGx6 := Lib.hid (show RowG sMacro (wd.heap.size) 70 vq X1 x6 from hG)
          obtain ⟨aqx6, cqx6, rfl, hq⟩ := HGx6.out.val
          clear hq
          refine hK.out _ _ HXx6.out (fun hHeld => ?_)
          clear hK K hgr hG hbw
          try simp only [Act.put, List.setIfInBounds_toArray, List.set_cons_zero, List.set_cons_succ]
          refine wpAnyH_ready (rs := [7]) (by decide +kernel) (by simp) ?_
          refine AllReadyH.cons rfl (fun K hK => ?_) AllReadyH.nil
          refine step_append_rowG (X := [(⟨[.string m.name, .bool m.function, .slice b2 m.params.length d2, .slice b3 m.body.length d3], m, f2⟩ : Elem DMacro)]) ti_mac rfl (by decide) _ 73 rfl rfl (.tmp 70) (.tmp 72) rfl (wd.heap.size) (.slice aqx6 X1.length cqx6) rfl HGx6.out (x0.heap.size) 0 1 1 rfl rfl (fun x hx => by obtain rfl := List.mem_singleton.1 hx; exact ⟨rfl, HMx6.out, fun b hb => by have := (HFP.out.2.2 b hb).1; omega⟩) (fun x hx => by obtain rfl := List.mem_singleton.1 hx; simp [Value.oneCell']) (fun j u hj => by rw [Nat.zero_add, cell_of_row _ _ _ _ _ _ HLx6.out]; simpa using hj) (by unfold maxLen; have := HN1.out; omega) (by have := HN1.out; omega) (by omega) ?_
          intro vq x7 hG hgr
          have hbw : Below wd.heap.size x6 x7 := (Below.refl wd.heap.size x6).grown hgr (by omega) (fun b hb => by have := HGx6.out.mine b hb; omega)
          have hyx7 := hbw.size
          have HXx7 := Lib.hid ((hbw.block w.heap.size (by omega)).trans HXx6.out)
          have HRBx7 := Lib.hid ((sSlice sMacro).frame (w' := x7) (fun b hb => hbw.block b (HFP.out.2.1 b hb).1) HRBx6.out)
          have HBx7 := Lib.hid (HBx6.out.trans (hbw.mono (by omega)))
          have HGx7 := Lib.hid hG
          obtain ⟨aqx7, cqx7, rfl, hq⟩ := HGx7.out.val
          clear hq
          refine hK.out _ _ HXx7.out (fun hHeld => ?_)
          clear hK K hgr hG hbw
          try simp only [Act.put, List.setIfInBounds_toArray, List.set_cons_zero, List.set_cons_succ]
          refine wpAnyH_ready (rs := [11]) (by decide +kernel) (by simp) ?_
          refine AllReadyH.cons rfl (fun K hK => ?_) AllReadyH.nil
          refine step_append_anyG ti_mac rfl (by decide) mac_one _ 77 rfl rfl (.tmp 73) (.tmp 76) rfl (wd.heap.size) (.slice aqx7 (X1 ++ [(⟨[.string m.name, .bool m.function, .slice b2 m.params.length d2, .slice b3 m.body.length d3], m, f2⟩ : Elem DMacro)]).length cqx7) sv (l.drop n) fb rfl HGx7.out rfl HRBx7.out (fun b hb => by have := (HFP.out.2.1 b hb).1; omega) (by rw [HTL.out.2, List.length_append]; simp [maxLen]; have := HN1.out; omega) (by rw [HTL.out.2, List.length_append]; simp; have := HN1.out; omega) (by omega) ?_
          intro vq X3 x8 hXd hXf hG hgr
          have hbw : Below wd.heap.size x7 x8 := (Below.refl wd.heap.size x7).grown hgr (by omega) (fun b hb => by have := HGx7.out.mine b hb; omega)
          have hyx8 := hbw.size
          have HXx8 := Lib.hid ((hbw.block w.heap.size (by omega)).trans HXx7.out)
          have HBx8 := Lib.hid (HBx7.out.trans (hbw.mono (by omega)))
          have HGx8 := Lib.hid hG
          have HDD : Hid ((X1 ++ [(⟨[.string m.name, .bool m.function, .slice b2 m.params.length d2, .slice b3 m.body.length d3], m, f2⟩ : Elem DMacro)] ++ X3).map (·.d) = putAt l m n) := by show _ = _; rw [List.map_append, List.map_append, HX1d.out, hXd]; rfl
          have HLL : Hid (∀ x ∈ X1 ++ [(⟨[.string m.name, .bool m.function, .slice b2 m.params.length d2, .slice b3 m.body.length d3], m, f2⟩ : Elem DMacro)] ++ X3, ∀ b ∈ x.fp, w.heap.size ≤ b) := fun x hx b hb => by
            rcases List.mem_append.1 hx with hx | hx
            · rcases List.mem_append.1 hx with hx | hx
              · exact (HFP.out.1 b (HX1f.out x hx b hb)).2
              · obtain rfl := List.mem_singleton.1 hx; exact (HFP.out.2.2 b hb).2
            · exact (HFP.out.2.1 b (hXf x hx b hb)).2
          clear hXd hXf
          refine hK.out _ _ HXx8.out (fun hHeld => ?_)
          clear hK K hgr hG hbw
          try simp only [Act.put, List.setIfInBounds_toArray, List.set_cons_zero, List.set_cons_succ]
          refine takeH 12 4 (v := ?_) rfl rfl (by kernel_rfl) (by kernel_rfl) (by kernel_rfl) (fun _ _ _ h => h) (by rfl) (by assumption) ?_ ?_
          rotate_left
          · intro w hSw; go_simp; (first | done | with_reducible rfl | rfl)
          try simp only [Act.put, List.setIfInBounds_toArray, List.set_cons_zero, List.set_cons_succ]
          refine takeH 13 5 (v := ?_) rfl rfl (by kernel_rfl) (by kernel_rfl) (by kernel_rfl) (fun _ _ _ h => h) (by rfl) (by assumption) ?_ ?_
          rotate_left
          · intro w hSw; go_simp; (first | done | with_reducible rfl | rfl)
          try simp only [Act.put, List.setIfInBounds_toArray, List.set_cons_zero, List.set_cons_succ]
          refine wpAnyH_done (by kernel_rfl) ?_ _
          refine NoPanic.normal ?_
          clear hHeld
          go_wp2
          go_ret2
          exact ⟨_, _, _, by rw [HD.out]; rfl, HGx8.out, by rw [HD.out]; exact HDD.out, by omega, by omega, HLL.out, HBx8.out⟩
      · have bl := alloc_below' wd (.cells #[.string m.name, .bool m.function, .slice b2 m.params.length d2, .slice b3 m.body.length d3] 70)
        have hyx9 : wd.heap.size + 1 ≤ (wd.alloc (.cells #[.string m.name, .bool m.function, .slice b2 m.params.length d2, .slice b3 m.body.length d3] 70)).heap.size := Nat.le_of_eq (Array.size_push _).symm
        have HLx9 := Lib.hid (heap_alloc_new wd (.cells #[.string m.name, .bool m.function, .slice b2 m.params.length d2, .slice b3 m.body.length d3] 70))
        go_simp
        have HXx9 := Lib.hid ((bl.block w.heap.size (by omega)).trans HXwd.out)
        have HRAx9 := Lib.hid ((sSlice sMacro).below HRAwd.out bl)
        have HRBx9 := Lib.hid ((sSlice sMacro).below HRBwd.out bl)
        have HMx9 := Lib.hid (sMacro.below HMwd.out bl)
        have HBx9 := Lib.hid (HBwd.out.trans (bl.mono HBwd.out.size))
        refine hK.out _ _ HXx9.out (fun hHeld => ?_)
        clear hK K bl
        try simp only [Act.put, List.setIfInBounds_toArray, List.set_cons_zero, List.set_cons_succ]
        generalize (wd.alloc (.cells #[.string m.name, .bool m.function, .slice b2 m.params.length d2, .slice b3 m.body.length d3] 70)) = x9 at *
        refine wpAnyH_ready (rs := [0]) (by decide +kernel) (by simp) ?_
        refine AllReadyH.cons rfl (fun K hK => ?_) AllReadyH.nil
        have bl := alloc_below' x9 (.cells #[] 70)
        have hyx10 : x9.heap.size + 1 ≤ (x9.alloc (.cells #[] 70)).heap.size := Nat.le_of_eq (Array.size_push _).symm
        have HGx10 := Lib.hid (RowG.lit0 sMacro 70 x9)
        have HLx10 := Lib.hid ((bl.block _ (by omega)).trans HLx9.out)
        go_simp
        have HXx10 := Lib.hid ((bl.block w.heap.size (by omega)).trans HXx9.out)
        have HRAx10 := Lib.hid ((sSlice sMacro).below HRAx9.out bl)
        have HRBx10 := Lib.hid ((sSlice sMacro).below HRBx9.out bl)
        have HMx10 := Lib.hid (sMacro.below HMx9.out bl)
        have HBx10 := Lib.hid (HBx9.out.trans (bl.mono HBx9.out.size))
        refine hK.out _ _ HXx10.out (fun hHeld => ?_)
        clear hK K bl
        try simp only [Act.put, List.setIfInBounds_toArray, List.set_cons_zero, List.set_cons_succ]
        generalize (x9.alloc (.cells #[] 70)) = x10 at *
        refine wpAnyH_ready (rs := [4]) (by decide +kernel) (by simp) ?_
        refine AllReadyH.cons rfl (fun K hK => ?_) AllReadyH.nil
        refine step_append_anyG ti_mac rfl (by decide) mac_one _ 70 rfl rfl (.tmp 66) (.tmp 69) rfl (x9.heap.size) (.slice (some ⟨x9.heap.size, 0, none⟩) 0 0) (.slice a1 n cap1) (l.take n) fa rfl HGx10.out rfl HRAx10.out (fun b hb => by have := (HFP.out.1 b hb).1; omega) (by rw [HTL.out.1]; simp [maxLen]; omega) (by rw [HTL.out.1]; simp; omega) (by omega) ?_
        intro vq X1 x11 hXd hXf hG hgr
        have hbw : Below wd.heap.size x10 x11 := (Below.refl wd.heap.size x10).grown hgr (by omega) (fun b hb => by have := HGx10.out.mine b hb; omega)
        have hyx11 := hbw.size
        have HXx11 := Lib.hid ((hbw.block w.heap.size (by omega)).trans HXx10.out)
        have HRBx11 := Lib.hid ((sSlice sMacro).frame (w' := x11) (fun b hb => hbw.block b (HFP.out.2.1 b hb).1) HRBx10.out)
        have HMx11 := Lib.hid (sMacro.frame (w' := x11) (fun b hb => hbw.block b (HFP.out.2.2 b hb).1) HMx10.out)
        have HRAx11 := Lib.hid ((sSlice sMacro).frame (w' := x11) (fun b hb => hbw.block b (HFP.out.1 b hb).1) HRAx10.out)
        have HLx11 := Lib.hid ((hgr.block (wd.heap.size) (by omega) (by simp [Value.ownBlock]; omega)).trans HLx10.out)
        have HN1 : Hid (X1.length = n) := by show _ = _; rw [← HTL.out.1, ← hXd, List.length_map]
        have HX1d := Lib.hid hXd
        have HX1f := Lib.hid hXf
        clear hXd hXf
        have HBx11 := Lib.hid (HBx10.out.trans (hbw.mono (by omega)))
        have HGx11 := Lib.hid (show RowG sMacro (x9.heap.size) 70 vq X1 x11 from hG)
        obtain ⟨aqx11, cqx11, rfl, hq⟩ := HGx11.out.val
        clear hq
        refine hK.out _ _ HXx11.out (fun hHeld => ?_)
        clear hK K hgr hG hbw
        try simp only [Act.put, List.setIfInBounds_toArray, List.set_cons_zero, List.set_cons_succ]
        refine wpAnyH_ready (rs := [7]) (by decide +kernel) (by simp) ?_
        refine AllReadyH.cons rfl (fun K hK => ?_) AllReadyH.nil
        refine step_append_rowG (X := [(⟨[.string m.name, .bool m.function, .slice b2 m.params.length d2, .slice b3 m.body.length d3], m, f2⟩ : Elem DMacro)]) ti_mac rfl (by decide) _ 73 rfl rfl (.tmp 70) (.tmp 72) rfl (x9.heap.size) (.slice aqx11 X1.length cqx11) rfl HGx11.out (wd.heap.size) 0 1 1 rfl rfl (fun x hx => by obtain rfl := List.mem_singleton.1 hx; exact ⟨rfl, HMx11.out, fun b hb => by have := (HFP.out.2.2 b hb).1; omega⟩) (fun x hx => by obtain rfl := List.mem_singleton.1 hx; simp [Value.oneCell']) (fun j u hj => by rw [Nat.zero_add, cell_of_row _ _ _ _ _ _ HLx11.out]; simpa using hj) (by unfold maxLen; have := HN1.out; omega) (by have := HN1.out; omega) (by omega) ?_
        intro vq x12 hG hgr
        have hbw : Below wd.heap.size x11 x12 := (Below.refl wd.heap.size x11).grown hgr (by omega) (fun b hb => by have := HGx11.out.mine b hb; omega)
        have hyx12 := hbw.size
        have HXx12 := Lib.hid ((hbw.block w.heap.size (by omega)).trans HXx11.out)
        have HRBx12 := Lib.hid ((sSlice sMacro).frame (w' := x12) (fun b hb => hbw.block b (HFP.out.2.1 b hb).1) HRBx11.out)
        have HBx12 := Lib.hid (HBx11.out.trans (hbw.mono (by omega)))
        have HGx12 := Lib.hid hG
        obtain ⟨aqx12, cqx12, rfl, hq⟩ := HGx12.out.val
        clear hq
        refine hK.out _ _ HXx12.out (fun hHeld => ?_)
        clear hK K hgr hG hbw
        try simp only [Act.put, List.setIfInBounds_toArray, List.set_cons_zero, List.set_cons_succ]
        refine wpAnyH_ready (rs := [11]) (by decide +kernel) (by simp) ?_
        refine AllReadyH.cons rfl (fun K hK => ?_) AllReadyH.nil
        refine step_append_anyG ti_mac rfl (by decide) mac_one _ 77 rfl rfl (.tmp 73) (.tmp 76) rfl (x9.heap.size) (.slice aqx12 (X1 ++ [(⟨[.string m.name, .bool m.function, .slice b2 m.params.length d2, .slice b3 m.body.length d3], m, f2⟩ : Elem DMacro)]).length cqx12) sv (l.drop n) fb rfl HGx12.out rfl HRBx12.out (fun b hb => by have := (HFP.out.2.1 b hb).1; omega) (by rw [HTL.out.2, List.length_append]; simp [maxLen]; have := HN1.out; omega) (by rw [HTL.out.2, List.length_append]; simp; have := HN1.out; omega) (by omega) ?_
        intro vq X3 x13 hXd hXf hG hgr
        have hbw : Below wd.heap.size x12 x13 := (Below.refl wd.heap.size x12).grown hgr (by omega) (fun b hb => by have := HGx12.out.mine b hb; omega)
        have hyx13 := hbw.size
        have HXx13 := Lib.hid ((hbw.block w.heap.size (by omega)).trans HXx12.out)
        have HBx13 := Lib.hid (HBx12.out.trans (hbw.mono (by omega)))
        have HGx13 := Lib.hid hG
        have HDD : Hid ((X1 ++ [(⟨[.string m.name, .bool m.function, .slice b2 m.params.length d2, .slice b3 m.body.length d3], m, f2⟩ : Elem DMacro)] ++ X3).map (·.d) = putAt l m n) := by show _ = _; rw [List.map_append, List.map_append, HX1d.out, hXd]; rfl
        have HLL : Hid (∀ x ∈ X1 ++ [(⟨[.string m.name, .bool m.function, .slice b2 m.params.length d2, .slice b3 m.body.length d3], m, f2⟩ : Elem DMacro)] ++ X3, ∀ b ∈ x.fp, w.heap.size ≤ b) := fun x hx b hb => by
          rcases List.mem_append.1 hx with hx | hx
          · rcases List.mem_append.1 hx with hx | hx
            · exact (HFP.out.1 b (HX1f.out x hx b hb)).2
            · obtain rfl := List.mem_singleton.1 hx; exact (HFP.out.2.2 b hb).2
          · exact (HFP.out.2.1 b (hXf x hx b hb)).2
        clear hXd hXf
        refine hK.out _ _ HXx13.out (fun hHeld => ?_)
        clear hK K hgr hG hbw
        try simp only [Act.put, List.setIfInBounds_toArray, List.set_cons_zero, List.set_cons_succ]
        refine takeH 12 4 (v := ?_) rfl rfl (by kernel_rfl) (by kernel_rfl) (by kernel_rfl) (fun _ _ _ h => h) (by rfl) (by assumption) ?_ ?_
        rotate_left
        · intro w hSw; go_simp; (first | done | with_reducible rfl | rfl)
        try simp only [Act.put, List.setIfInBounds_toArray, List.set_cons_zero, List.set_cons_succ]
        refine takeH 13 5 (v := ?_) rfl rfl (by kernel_rfl) (by kernel_rfl) (by kernel_rfl) (fun _ _ _ h => h) (by rfl) (by assumption) ?_ ?_
        rotate_left
        · intro w hSw; go_simp; (first | done | with_reducible rfl | rfl)
        try simp only [Act.put, List.setIfInBounds_toArray, List.set_cons_zero, List.set_cons_succ]
        refine wpAnyH_done (by kernel_rfl) ?_ _
        refine NoPanic.normal ?_
        clear hHeld
        go_wp2
        go_ret2
        exact ⟨_, _, _, by rw [HD.out]; rfl, HGx13.out, by rw [HD.out]; exact HDD.out, by omega, by omega, HLL.out, HBx13.out⟩

end Go.Proofs.Ytipfpppcbmpjiaa

/- strings.Builder at this program, walked here: what its writers leave. (The library's own contracts don't fit this translation: a builder's copy check ends otherwise.) -/
namespace Go.Proofs.Ytipfpppcbmpjiaa
open Go.RowKit
end Go.Proofs.Ytipfpppcbmpjiaa

/- PrintTokens: the program. -/
namespace Go.Proofs.Ytipfpppcbmpjiaa
open Go.RowKit
end Go.Proofs.Ytipfpppcbmpjiaa
