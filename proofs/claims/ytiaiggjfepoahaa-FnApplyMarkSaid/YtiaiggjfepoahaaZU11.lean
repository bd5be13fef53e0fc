/- Texts that the proof of U stands on, in one file. -/
import Derived.Test.YtiaiggjfepoahaaZU3
import Derived.Deep.RegionHeld3
import Derived.Test.YtiaiggjfepoahaaZU10
import Derived.Test.YtiaiggjfepoahaaZU4
import Derived.Test.YtiaiggjfepoahaaZU2
import Derived.Test.YtiaiggjfepoahaaZU7
import Derived.Test.YtiaiggjfepoahaaZU8
import Derived.Test.YtiaiggjfepoahaaZU6
set_option linter.unusedVariables false
set_option linter.unusedSimpArgs false
/- Four cells stored into one block; an operation of a drawn region taken first; two structs as results. Over any program. -/
namespace Go.Proofs.Ytiaiggjfepoahaa
open Go.RowKit

def set4 (w : World) (g : Nat) (v0 v1 v2 v3 : Value) : World := (((w.setCell ⟨g, 0, none⟩ v0).setCell ⟨g, 1, none⟩ v1).setCell ⟨g, 2, none⟩ v2).setCell ⟨g, 3, none⟩ v3
section
variable {P : Program} {ops : Array Oper} {Q : Exit → Act → World → Prop} {md : Region.Mode} {S : World → Prop}
/-- An operation of a drawn region is taken first; its slot is written out. -/
theorem takeH2 (i d : Nat) {oi : Oper} {v : Value} {fuel : Nat} {listed : Array Bool} {a : Act} {w : World} (hi : ops[i]? = some oi) (hd : oi.dst = some d)
    (hs : Region.noSelect ops = true) (hf : Region.free md ops listed i = true) (hr : (Region.ready md ops listed).contains i = true)
    (hQ : ∀ c a w, Q (.panic c) (a.put (some d) v) w → Q (.panic c) a w) (hw : Region.wanted oi (yielded ops a.tmps) = true) (hS : S w)
    (hy : ∀ w, S w → (execOp a.eval oi).run P w = .ok (.value v) w)
    (h : wpAnyH P md ops Q S fuel (listed.setIfInBounds i true) (a.put (some d) v) w) : wpAnyH P md ops Q S (fuel + 1) listed a w :=
  wpAnyH_take hi hs hf hr (by rw [hd]; exact hQ) (.inl ⟨hw, hy⟩) hS (by rw [hd]; exact h)
end
theorem set4_at {w : World} {g : Nat} {z0 z1 z2 z3 : Value} {ty : TypeId} (h : w.heap[g]? = some (.cells #[z0, z1, z2, z3] ty (0, 0))) (v0 v1 v2 v3 : Value) :
    (set4 w g v0 v1 v2 v3).heap[g]? = some (.cells #[v0, v1, v2, v3] ty (0, 0)) := blk_set (blk_set (blk_set (blk_set h 0 _) 1 _) 2 _) 3 _
theorem set4_below {B : Nat} {w0 w : World} (hB : Below B w0 w) {g : Nat} (hg : B ≤ g) (v0 v1 v2 v3 : Value) : Below B w0 (set4 w g v0 v1 v2 v3) :=
  ((((hB).setCell (p := ⟨g, 0, none⟩) hg v0).setCell (p := ⟨g, 1, none⟩) hg v1).setCell (p := ⟨g, 2, none⟩) hg v2).setCell (p := ⟨g, 3, none⟩) hg v3
section
variable {α : Type} {S : Shape α} {w w7 : World} {g2 g3 : Nat} {T : TypeId} {z0 z1 z2 z3 y0 y1 y2 y3 : Value} {cs cs' : List Value} {d d' : α} {fp fp' : List Nat}
end

end Go.Proofs.Ytiaiggjfepoahaa

/- TokenBytes of the model. -/
namespace Go.Proofs.Ytiaiggjfepoahaa
open Go.RowKit
/-- Where the walk over a text is. -/
def OutAt (s : ByteArray) (k : Nat) (out : ByteArray) : Prop := out ++ outTo s k = outTo s 1 ∧ tClose s k = some s.size ∧ 1 ≤ k ∧ out.size ≤ k
theorem OutAt.back {s : ByteArray} {k : Nat} {out : ByteArray} (h : OutAt s k out) (hk : k + 1 < s.size) (hc : s[k].toNat = 92) : k + 3 ≤ s.size ∧ OutAt s (k + 2) (out ++ s.extract (k + 1) (k + 2)) := by
  obtain ⟨h1, h2, h3, h4⟩ := h
  rw [tClose_back (by omega) hc] at h2
  have := tClose_some h2
  refine ⟨by omega, ?_, h2, by omega, by rw [ByteArray.size_append, ByteArray.size_extract]; omega⟩
  rw [← h1, outTo_back hk hc, ByteArray.append_assoc]
theorem OutAt.byte {s : ByteArray} {k : Nat} {out : ByteArray} (h : OutAt s k out) (hk : k + 1 < s.size) (hc : ¬ s[k].toNat = 92) : OutAt s (k + 1) (out ++ s.extract k (k + 1)) := by
  obtain ⟨h1, h2, h3, h4⟩ := h
  by_cases hq : s[k].toNat = 34
  · rw [tClose_quote (by omega) hq, Option.some.injEq] at h2; omega
  rw [tClose_else (by omega) hq hc] at h2
  refine ⟨?_, h2, by omega, by rw [ByteArray.size_append, ByteArray.size_extract]; omega⟩
  rw [← h1, outTo_else hk hc, ByteArray.append_assoc]
theorem OutAt.done {s : ByteArray} {k : Nat} {out : ByteArray} (h : OutAt s k out) (hk : s.size ≤ k + 1) : out = outTo s 1 := by
  rw [← h.1, outTo_end hk]; exact ByteArray.append_empty.symm

end Go.Proofs.Ytiaiggjfepoahaa

/- A token by value: its marks. -/
namespace Go.Proofs.Ytiaiggjfepoahaa
open Go.RowKit
end Go.Proofs.Ytiaiggjfepoahaa

/- TextToken of the model. (Made by gen_txt.py.) -/
namespace Go.Proofs.Ytiaiggjfepoahaa
open Go.RowKit
end Go.Proofs.Ytiaiggjfepoahaa

/- Names of two lists, of both; slices.BinarySearch of strings. -/
namespace Go.Proofs.Ytiaiggjfepoahaa
open Go.RowKit

/-! ### Places of names -/
/-! ### The library's -/
/-! ### Names that are in both -/
end Go.Proofs.Ytiaiggjfepoahaa

/- PasteTokens of both. (Made by gen_pst2.py.) -/
namespace Go.Proofs.Ytiaiggjfepoahaa
open Go.RowKit
end Go.Proofs.Ytiaiggjfepoahaa

/- What stands for a place of a body: helpers of the model. -/
namespace Go.Proofs.Ytiaiggjfepoahaa
open Go.RowKit

theorem tok_one1 (w : World) (cs : List Value) (x : Tok) (fp : List Nat) (h : sTok.R w cs x fp) : ∀ u ∈ cs, u.oneCell' = true := by
  obtain ⟨hv, rfl, -, -, K⟩ := h
  obtain ⟨a, c, rfl, -⟩ := open_strs K
  intro u hu
  simp only [List.mem_cons, List.not_mem_nil, or_false] at hu
  rcases hu with rfl | rfl | rfl | rfl <;> rfl

set_option maxHeartbeats 2000000 in
theorem spec_l7IsS (cs : List Value) (x : Tok) (fp : List Nat) (w : World) (s : ByteArray) (H : sTok.R w cs x fp) :
    Calls Try.prog 38 #[.agg cs.toArray, .string s] w (Says (decide (x.kind = 4) && (x.text.toList == s.toList)) w) := by
  obtain ⟨h, rfl, hk, hok, K⟩ := H
  obtain ⟨a0, cap0, rfl, -⟩ := open_strs K
  have hb := alloc_below' w (.cells #[.int .i64 x.kind, .string x.text, .bool x.spaced, .slice a0 x.hidden.length cap0] 36)
  clear K
  go_enter Try.func38, Try.ntmps38
  by_cases h4 : x.kind = 4
  · have e0 : (x.kind == 4) = true := by simp [h4]
    have HF : Hid ((decide (x.kind = 4) && (x.text.toList == s.toList)) = (x.text.toList == s.toList)) := by show _ = _; rw [decide_eq_true h4]; rfl
    clear h4
    go_wp2
    go_ret
    exact ⟨ret_bool (by rw [HF.out]), hb⟩
  · have e0 : (x.kind == 4) = false := by simpa using h4
    have HF : Hid ((decide (x.kind = 4) && (x.text.toList == s.toList)) = false) := by show _ = _; rw [decide_eq_false h4]; rfl
    clear h4
    go_wp2
    go_ret
    exact ⟨ret_bool (by rw [HF.out]), hb⟩

end Go.Proofs.Ytiaiggjfepoahaa

/- Of the model: how strongly a mark binds. -/
namespace Go.Proofs.Ytiaiggjfepoahaa
open Go.RowKit

def rowsM : List (List (List UInt8)) := [[[124, 124]], [[38, 38]], [[61, 61], [33, 61]], [[60], [62], [60, 61], [62, 61]], [[43], [45]], [[42], [47], [37]]]
def rowM (k : Nat) : List (List UInt8) := rowsM.getD k []
def mkM (k j : Nat) : List UInt8 := (rowM k).getD j []
theorem rank_at : ∀ k, k < 6 → ∀ j, j < (rowM k).length → rankT (mkM k j) = k + 1 := by decide
theorem rank_hit {t : Tok} {k j : Nat} (hk : k < 6) (hj : j < (rowM k).length) (h : isMk t (mkM k j) = true) : rankM t = k + 1 := by
  unfold isMk at h
  rw [Bool.and_eq_true, decide_eq_true_eq, beq_iff_eq] at h
  unfold rankM
  rw [if_pos h.1, h.2]
  exact rank_at k hk j hj
theorem rank_miss {t : Tok} (h : ∀ k, k < 6 → ∀ j, j < (rowM k).length → isMk t (mkM k j) = false) : rankM t = 0 := by
  unfold rankM
  split
  · rename_i h4
    have key : ∀ k j, k < 6 → j < (rowM k).length → t.text.toList ≠ mkM k j := fun k j hk hj e => by
      have := h k hk j hj
      unfold isMk at this
      rw [decide_eq_true h4, e] at this
      simp at this
    have k00 : t.text.toList ≠ [124, 124] := key 0 0 (by decide) (by decide)
    have k10 : t.text.toList ≠ [38, 38] := key 1 0 (by decide) (by decide)
    have k20 : t.text.toList ≠ [61, 61] := key 2 0 (by decide) (by decide)
    have k21 : t.text.toList ≠ [33, 61] := key 2 1 (by decide) (by decide)
    have k30 : t.text.toList ≠ [60] := key 3 0 (by decide) (by decide)
    have k31 : t.text.toList ≠ [62] := key 3 1 (by decide) (by decide)
    have k32 : t.text.toList ≠ [60, 61] := key 3 2 (by decide) (by decide)
    have k33 : t.text.toList ≠ [62, 61] := key 3 3 (by decide) (by decide)
    have k40 : t.text.toList ≠ [43] := key 4 0 (by decide) (by decide)
    have k41 : t.text.toList ≠ [45] := key 4 1 (by decide) (by decide)
    have k50 : t.text.toList ≠ [42] := key 5 0 (by decide) (by decide)
    have k51 : t.text.toList ≠ [47] := key 5 1 (by decide) (by decide)
    have k52 : t.text.toList ≠ [37] := key 5 2 (by decide) (by decide)
    unfold rankT
    rw [if_neg k00, if_neg k10, if_neg (fun e => e.elim k20 k21), if_neg (fun e => e.elim k30 fun e => e.elim k31 fun e => e.elim k32 k33), if_neg (fun e => e.elim k40 k41), if_neg (fun e => e.elim k50 fun e => e.elim k51 k52)]
  · rfl
def litO (n : Nat) : List Obj := [.cells #[.string ⟨#[124, 124]⟩] 9 (0, 0), .cells #[.string ⟨#[38, 38]⟩] 9 (0, 0), .cells #[.string ⟨#[61, 61]⟩, .string ⟨#[33, 61]⟩] 9 (0, 0), .cells #[.string ⟨#[60]⟩, .string ⟨#[62]⟩, .string ⟨#[60, 61]⟩, .string ⟨#[62, 61]⟩] 9 (0, 0),
  .cells #[.string ⟨#[43]⟩, .string ⟨#[45]⟩] 9 (0, 0), .cells #[.string ⟨#[42]⟩, .string ⟨#[47]⟩, .string ⟨#[37]⟩] 9 (0, 0),
  .cells #[.slice (some ⟨n + 1, 0, none⟩) 1 1, .slice (some ⟨n + 2, 0, none⟩) 1 1, .slice (some ⟨n + 3, 0, none⟩) 2 2, .slice (some ⟨n + 4, 0, none⟩) 4 4, .slice (some ⟨n + 5, 0, none⟩) 2 2, .slice (some ⟨n + 6, 0, none⟩) 3 3] 34 (0, 0)]
/-- The rows of marks lie in w, from block n + 1 on; behind them the table. -/
structure RowsIn (n : Nat) (w : World) : Prop where
  tab : w.heap[n + 7]? = some (.cells #[.slice (some ⟨n + 1, 0, none⟩) 1 1, .slice (some ⟨n + 2, 0, none⟩) 1 1, .slice (some ⟨n + 3, 0, none⟩) 2 2, .slice (some ⟨n + 4, 0, none⟩) 4 4, .slice (some ⟨n + 5, 0, none⟩) 2 2, .slice (some ⟨n + 6, 0, none⟩) 3 3] 34 (0, 0))
  row : ∀ k, (hk : k < 6) → ∃ arr, w.heap[n + 1 + k]? = some (.cells arr 9 (0, 0)) ∧ ∀ j, j < (rowM k).length → arr[j]? = some (.string ⟨(mkM k j).toArray⟩)
theorem RowsIn.below {n : Nat} {w w' : World} (h : RowsIn n w) (hb : Below w.heap.size w w') : RowsIn n w' :=
  ⟨mbox h.tab hb, fun k hk => by obtain ⟨arr, h1, h2⟩ := h.row k hk; exact ⟨arr, mbox h1 hb, h2⟩⟩
theorem RowsIn.cellT {n : Nat} {w : World} (h : RowsIn n w) {k : Nat} (hk : k < 6) : w.cell? ⟨n + 7, k, none⟩ = some (.slice (some ⟨n + 1 + k, 0, none⟩) (rowM k).length (rowM k).length) := by
  have hc : ∀ k, k < 6 → (#[Value.slice (some ⟨n + 1, 0, none⟩) 1 1, .slice (some ⟨n + 2, 0, none⟩) 1 1, .slice (some ⟨n + 3, 0, none⟩) 2 2, .slice (some ⟨n + 4, 0, none⟩) 4 4, .slice (some ⟨n + 5, 0, none⟩) 2 2, .slice (some ⟨n + 6, 0, none⟩) 3 3] : Array Value)[k]? = some (.slice (some ⟨n + 1 + k, 0, none⟩) (rowM k).length (rowM k).length) := by
    intro k hk
    match k, hk with
    | 0, _ => rfl
    | 1, _ => rfl
    | 2, _ => rfl
    | 3, _ => rfl
    | 4, _ => rfl
    | 5, _ => rfl
  rw [cell_of_row _ _ k _ _ _ h.tab]
  exact hc k hk
theorem RowsIn.cellM {n : Nat} {w : World} (h : RowsIn n w) {k j : Nat} (hk : k < 6) (hj : j < (rowM k).length) : w.cell? ⟨n + 1 + k, j, none⟩ = some (.string ⟨(mkM k j).toArray⟩) := by
  obtain ⟨arr, h1, h2⟩ := h.row k hk
  rw [cell_of_row _ _ j _ _ _ h1]
  exact h2 j hj
theorem rows_made (w : World) (o : Obj) : RowsIn w.heap.size (allocs (w.alloc o) (litO w.heap.size)) := by
  have hs : (w.alloc o).heap.size = w.heap.size + 1 := Array.size_push _
  have hb := fun j hj => allocs_blk (w.alloc o) (litO w.heap.size) j hj
  rw [hs] at hb
  refine ⟨hb 6 (show (6 : Nat) < 7 by decide), fun k hk => ?_⟩
  match k, hk with
  | 0, _ => exact ⟨_, hb 0 (show (0 : Nat) < 7 by decide), fun j hj => match j, hj with
    | 0, _ => rfl⟩
  | 1, _ => exact ⟨_, hb 1 (show (1 : Nat) < 7 by decide), fun j hj => match j, hj with
    | 0, _ => rfl⟩
  | 2, _ => exact ⟨_, hb 2 (show (2 : Nat) < 7 by decide), fun j hj => match j, hj with
    | 0, _ => rfl
    | 1, _ => rfl⟩
  | 3, _ => exact ⟨_, hb 3 (show (3 : Nat) < 7 by decide), fun j hj => match j, hj with
    | 0, _ => rfl
    | 1, _ => rfl
    | 2, _ => rfl
    | 3, _ => rfl⟩
  | 4, _ => exact ⟨_, hb 4 (show (4 : Nat) < 7 by decide), fun j hj => match j, hj with
    | 0, _ => rfl
    | 1, _ => rfl⟩
  | 5, _ => exact ⟨_, hb 5 (show (5 : Nat) < 7 by decide), fun j hj => match j, hj with
    | 0, _ => rfl
    | 1, _ => rfl
    | 2, _ => rfl⟩
theorem rowM_le (k : Nat) : (rowM k).length ≤ 4 := by
  match k with
  | 0 => decide
  | 1 => decide
  | 2 => decide
  | 3 => decide
  | 4 => decide
  | 5 => decide
  | k + 6 => exact Nat.zero_le 4

set_option maxHeartbeats 8000000 in
set_option maxRecDepth 100000 in
theorem spec_l12Rank (cs : List Value) (t : Tok) (fp : List Nat) (w : World) (H : sTok.R w cs t fp) :
    Calls Try.prog 22 #[.agg cs.toArray] w fun e w' => e = .returned (.int .i64 (rankM t : Nat)) ∧ Below w.heap.size w w' := by
  have H0 := H
  obtain ⟨hv, rfl, -, -, KT⟩ := H
  obtain ⟨ah, ch, rfl, -⟩ := open_strs KT
  clear KT
  have b0 := alloc_below' w (.cells #[.int .i64 t.kind, .string t.text, .bool t.spaced, .slice ah t.hidden.length ch] 36)
  have HRI := Lib.hid (rows_made w (.cells #[.int .i64 t.kind, .string t.text, .bool t.spaced, .slice ah t.hidden.length ch] 36 (0, 0)))
  have HB : Hid (Below w.heap.size w (allocs (w.alloc (.cells #[.int .i64 t.kind, .string t.text, .bool t.spaced, .slice ah t.hidden.length ch] 36)) (litO w.heap.size))) := allocs_below _ _ b0 b0.size
  have HX : Hid ((allocs (w.alloc (.cells #[.int .i64 t.kind, .string t.text, .bool t.spaced, .slice ah t.hidden.length ch] 36)) (litO w.heap.size)).heap[w.heap.size]? = some (.cells #[.int .i64 t.kind, .string t.text, .bool t.spaced, .slice ah t.hidden.length ch] 36 (0, 0))) := by
    have h1 := heap_alloc_new w (.cells #[.int .i64 t.kind, .string t.text, .bool t.spaced, .slice ah t.hidden.length ch] 36)
    exact mbox h1 (allocs_below _ _ (Below.refl _ _) (Nat.le_refl _))
  have HSZ : Hid ((allocs (w.alloc (.cells #[.int .i64 t.kind, .string t.text, .bool t.spaced, .slice ah t.hidden.length ch] 36)) (litO w.heap.size)).heap.size = w.heap.size + 8) := by
    show _ = _
    rw [allocs_size, show (w.alloc (.cells #[.int .i64 t.kind, .string t.text, .bool t.spaced, .slice ah t.hidden.length ch] 36)).heap.size = w.heap.size + 1 from Array.size_push _]; rfl
  go_enter Try.func22, Try.ntmps22
  go_upto_region 2 with fail
  rw [show w.heap.size + 1 + 1 + 1 + 1 + 1 + 1 + 1 = w.heap.size + 7 from rfl]
  show Code.wp _ _ _ _ (allocs (w.alloc (.cells #[.int .i64 t.kind, .string t.text, .bool t.spaced, .slice ah t.hidden.length ch] 36)) (litO w.heap.size))
  generalize (allocs (w.alloc (.cells #[.int .i64 t.kind, .string t.text, .bool t.spaced, .slice ah t.hidden.length ch] 36)) (litO w.heap.size)) = W at *
  have HS : Hid (sTok.R W [.int .i64 t.kind, .string t.text, .bool t.spaced, .slice ah t.hidden.length ch] t fp) := sTok.below H0 HB.out
  clear H0 b0
  go_wp2
  go_loopw [4] (fun i wr => ∃ k : Nat, k ≤ 6 ∧ i = .int .i64 k ∧ Hid (∀ k', k' < k → ∀ j, j < (rowM k').length → isMk t (mkM k' j) = false) ∧ Below W.heap.size W wr) (fun i _ => 6 - (intOf i).toNat)
  case atStart => exact ⟨0, by omega, rfl, (fun k h => by omega), Below.refl _ _⟩
  case round =>
    obtain ⟨k, hk, rfl, HM, hb⟩ := hrel
    by_cases hlt : k < 6
    · have hlti : (k : Int) < 6 := by omega
      have hk0 : (0 : Int) ≤ (k : Int) := by omega
      have hlen := rowM_le k
      go_wp2
      obtain ⟨wo, hwo⟩ : ∃ x : World, x = wr := ⟨_, rfl⟩
      subst hwo
      go_loopw [5] (fun i wr => ∃ j : Nat, j ≤ (rowM k).length ∧ i = .int .i64 j ∧ Hid (∀ j', j' < j → isMk t (mkM k j') = false) ∧ Below W.heap.size W wr) (fun i _ => (rowM k).length - (intOf i).toNat)
      case atStart => exact ⟨0, by omega, rfl, (fun j h => by omega), hb⟩
      case round =>
        obtain ⟨j, hj, rfl, HJ, hbj⟩ := hrel
        have HRW := Lib.hid (HRI.out.below hbj)
        have q0 := HRW.out.cellT hlt
        obtain ⟨RL, HRL⟩ : ∃ RL : Nat, Hid (RL = (rowM k).length) := ⟨_, Lib.hid rfl⟩
        rw [show (rowM k).length = RL from HRL.out.symm] at q0 hj
        have hRL4 : RL ≤ 4 := by rw [HRL.out]; exact rowM_le k
        by_cases hj2 : j < RL
        · skip
          have q1 := HRW.out.cellM hlt (j := j) (by rw [← HRL.out]; exact hj2)
          have hj0 : (0 : Int) ≤ (j : Int) := by omega
          have hji : (j : Int) < (RL : Int) := by omega
          have HBX := Lib.hid (mbox HX.out hbj)
          have HSM : Hid (∀ Q : World, Below wr.heap.size wr Q → (fun w' => w'.heap[w.heap.size]? = some (.cells #[.int .i64 t.kind, .string t.text, .bool t.spaced, .slice ah t.hidden.length ch] 36 (0, 0)) ∧ w'.cell? ⟨w.heap.size + 7, k, none⟩ = some (.slice (some ⟨w.heap.size + 1 + k, 0, none⟩) RL RL) ∧ w'.cell? ⟨w.heap.size + 1 + k, j, none⟩ = some (.string ⟨(mkM k j).toArray⟩)) Q) := fun Q hQ => ⟨mbox HBX.out hQ, by rw [HRL.out]; exact (HRW.out.below hQ).cellT hlt, (HRW.out.below hQ).cellM hlt (by rw [← HRL.out]; exact hj2)⟩
          have HCL : Hid (∀ Q : World, Below wr.heap.size wr Q → Calls Try.prog 38 #[.agg [.int .i64 t.kind, .string t.text, .bool t.spaced, .slice ah t.hidden.length ch].toArray, .string ⟨(mkM k j).toArray⟩] Q (Says (isMk t (mkM k j)) Q)) := fun Q hQ => by
            have h9 := spec_l7IsS _ t fp Q ⟨(mkM k j).toArray⟩ (sTok.below HS.out (hbj.trans (hQ.mono hbj.size)))
            rw [show (⟨(mkM k j).toArray⟩ : ByteArray).toList = mkM k j by rw [ByteArray.toList_eq]] at h9
            exact h9
          have hcs : Below wr.heap.size wr wr.drew := belowN (Below.refl _ _) 1
          generalize hmm : mkM k j = mm at *
          go_upto_region 8 with fail
          clear q0 q1
          refine wp_region_noPanic ?_
          refine wp_region_held_drew (S := fun w' => w'.heap[w.heap.size]? = some (.cells #[.int .i64 t.kind, .string t.text, .bool t.spaced, .slice ah t.hidden.length ch] 36 (0, 0)) ∧ w'.cell? ⟨w.heap.size + 7, k, none⟩ = some (.slice (some ⟨w.heap.size + 1 + k, 0, none⟩) RL RL) ∧ w'.cell? ⟨w.heap.size + 1 + k, j, none⟩ = some (.string ⟨mm.toArray⟩)) (by kernel_rfl) (by exact HSM.out _ hcs) (fun hHeld => ?_)
          generalize hwd : wr.drew = wd at *
          refine takeH2 0 28 (v := ?_) rfl rfl (by kernel_rfl) (by kernel_rfl) (by kernel_rfl) (fun _ _ _ h => h) (by rfl) (by assumption) ?_ ?_
          rotate_left
          · intro w hSw; have b0 := cell_of_row _ _ 0 _ _ _ hSw.1; have b1 := cell_of_row _ _ 1 _ _ _ hSw.1; have b2 := cell_of_row _ _ 2 _ _ _ hSw.1; have b3 := cell_of_row _ _ 3 _ _ _ hSw.1; go_simp; (first | done | with_reducible rfl | rfl)
          try simp only [Act.put, List.setIfInBounds_toArray, List.set_cons_zero, List.set_cons_succ]
          refine takeH2 1 29 (v := ?_) rfl rfl (by kernel_rfl) (by kernel_rfl) (by kernel_rfl) (fun _ _ _ h => h) (by rfl) (by assumption) ?_ ?_
          rotate_left
          · intro w hSw; go_simp; (first | done | with_reducible rfl | rfl)
          try simp only [Act.put, List.setIfInBounds_toArray, List.set_cons_zero, List.set_cons_succ]
          refine takeH2 2 30 (v := ?_) rfl rfl (by kernel_rfl) (by kernel_rfl) (by kernel_rfl) (fun _ _ _ h => h) (by rfl) (by assumption) ?_ ?_
          rotate_left
          · intro w hSw; go_simp; (first | done | with_reducible rfl | rfl)
          try simp only [Act.put, List.setIfInBounds_toArray, List.set_cons_zero, List.set_cons_succ]
          refine takeH2 3 31 (v := ?_) rfl rfl (by kernel_rfl) (by kernel_rfl) (by kernel_rfl) (fun _ _ _ h => h) (by rfl) (by assumption) ?_ ?_
          rotate_left
          · intro w hSw; go_simp; (first | done | with_reducible rfl | rfl)
          try simp only [Act.put, List.setIfInBounds_toArray, List.set_cons_zero, List.set_cons_succ]
          refine takeH2 4 32 (v := ?_) rfl rfl (by kernel_rfl) (by kernel_rfl) (by kernel_rfl) (fun _ _ _ h => h) (by rfl) (by assumption) ?_ ?_
          rotate_left
          · intro w hSw; obtain ⟨-, r0, r1⟩ := hSw; go_simp; (first | done | with_reducible rfl | rfl)
          try simp only [Act.put, List.setIfInBounds_toArray, List.set_cons_zero, List.set_cons_succ]
          refine takeH2 5 33 (v := ?_) rfl rfl (by kernel_rfl) (by kernel_rfl) (by kernel_rfl) (fun _ _ _ h => h) (by rfl) (by assumption) ?_ ?_
          rotate_left
          · intro w hSw; go_simp; (first | done | with_reducible rfl | rfl)
          try simp only [Act.put, List.setIfInBounds_toArray, List.set_cons_zero, List.set_cons_succ]
          refine takeH2 6 34 (v := ?_) rfl rfl (by kernel_rfl) (by kernel_rfl) (by kernel_rfl) (fun _ _ _ h => h) (by rfl) (by assumption) ?_ ?_
          rotate_left
          · intro w hSw; go_simp; (first | done | with_reducible rfl | rfl)
          try simp only [Act.put, List.setIfInBounds_toArray, List.set_cons_zero, List.set_cons_succ]
          refine takeH2 7 35 (v := ?_) rfl rfl (by kernel_rfl) (by kernel_rfl) (by kernel_rfl) (fun _ _ _ h => h) (by rfl) (by assumption) ?_ ?_
          rotate_left
          · intro w hSw; obtain ⟨-, r0, r1⟩ := hSw; go_simp; (first | done | with_reducible rfl | rfl)
          try simp only [Act.put, List.setIfInBounds_toArray, List.set_cons_zero, List.set_cons_succ]
          refine wpAnyH_ready (rs := [8]) (by kernel_rfl) (by simp) ?_
          refine AllReadyH.cons rfl (fun K hK => ?_) AllReadyH.nil
          go_simp
          refine (HCL.out _ hcs).mono ?_
          rintro e w5 ⟨rfl, hb5⟩
          have hx5 := hcs.trans (hb5.mono hcs.size)
          refine hK.out _ _ (HSM.out _ hx5) (fun hHeld => ?_)
          clear hK K
          try simp only [Act.put, List.setIfInBounds_toArray, List.set_cons_zero, List.set_cons_succ]
          refine wpAnyH_done (by kernel_rfl) ?_ _
          refine NoPanic.normal ?_
          clear hHeld
          have hb6 := hbj.trans (hx5.mono hbj.size)
          clear HSM HCL hx5 hb5 hcs hwd HBX HRW
          cases hm : isMk t mm
          · have HJ2 : Hid (∀ j', j' < j + 1 → isMk t (mkM k j') = false) := fun j' h => by
              by_cases e : j' = j
              · subst e; rw [hmm]; exact hm
              · exact HJ.out j' (by omega)
            go_wp2
            go_roundw
            case rel => exact ⟨j + 1, by rw [← HRL.out]; omega, by go_num, HJ2, hb6⟩
            case measure => rw [← HRL.out]; simp [intOf]; omega
          · have HF : Hid (rankM t = k + 1) := rank_hit hlt (by rw [← HRL.out]; exact hj2) (by rw [hmm]; exact hm)
            go_wp2
            go_ret
            exact ⟨by rw [HF.out]; rfl, HB.out.trans (hb6.mono HB.out.size)⟩
        · have HM2 : Hid (∀ k', k' < k + 1 → ∀ j, j < (rowM k').length → isMk t (mkM k' j) = false) := fun k' h j' hj' => by
            by_cases e : k' = k
            · subst e; exact HJ.out j' (by rw [← HRL.out] at hj'; omega)
            · exact HM.out k' (by omega) j' hj'
          have hji : ¬ (j : Int) < (RL : Int) := by omega
          go_wp2
          go_roundw
          case rel => exact ⟨k + 1, by omega, by go_num, HM2, hbj⟩
          case measure => simp [intOf]; omega
    · have hk6 : k = 6 := by omega
      subst hk6
      have HF : Hid (rankM t = 0) := rank_miss HM.out
      go_wp2
      go_ret
      exact ⟨by rw [HF.out]; rfl, HB.out.trans (hb.mono HB.out.size)⟩

end Go.Proofs.Ytiaiggjfepoahaa
