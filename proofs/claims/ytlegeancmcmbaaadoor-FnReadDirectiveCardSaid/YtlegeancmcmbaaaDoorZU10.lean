/- Texts that the proof of U stands on, in one file. -/
import Derived.Test.YtlegeancmcmbaaaDoorZU5
import Derived.Test.YtlegeancmcmbaaaDoorZU9
import Derived.Test.YtlegeancmcmbaaaDoorZU3
import Derived.Test.YtlegeancmcmbaaaDoorZU6
import Derived.OwnWalk
import Derived.IntWalk
import Derived.Test.YtlegeancmcmbaaaDoorZU1
import Derived.Test.YtlegeancmcmbaaaDoorZU4
import Derived.Test.YtlegeancmcmbaaaDoorZU7
set_option linter.unusedVariables false
set_option linter.unusedSimpArgs false
/- Lists of lists of tokens: the laws' own helpers. -/
namespace Go.Proofs.YtlegeancmcmbaaaDoor
open Go.RowKit Go.ChangeShapes Go.WideShapes Go.Deep

abbrev sToks : Shape (List Tok) := sSlice sTok
end Go.Proofs.YtlegeancmcmbaaaDoor

/- Dividing arguments: the model, and what the program does. No program. -/
namespace Go.Proofs.YtlegeancmcmbaaaDoor
open Go.RowKit
end Go.Proofs.YtlegeancmcmbaaaDoor

/- Rows of the call's own whose elements may read memory of others, too: the elements' blocks lie before the row's. Over any program. -/
namespace Go.Proofs.YtlegeancmcmbaaaDoor
open Go.RowKit

structure RowG {α : Type} (S : Shape α) (base : Nat) (e : TypeId) (v : Value) (L : List (Elem α)) (w : World) : Prop where
 row : w.ownsRow base e S.m v L.length (L.flatMap (·.cells))
 len : ∀ x ∈ L, x.cells.length = S.m
 el : ∀ x ∈ L, S.R w x.cells x.d x.fp
 hi : ∀ x ∈ L, ∀ b ∈ x.fp, b < base

section
variable {α : Type} {S : Shape α} {base : Nat} {e : TypeId} {v v' : Value} {L : List (Elem α)} {w w' : World}
theorem RowG.ap (h : RowG S base e v L w) : ∀ x ∈ L, ∀ b ∈ x.fp, v.ownBlock ≠ some b := fun x hx b hb hv => by
 have h1 := h.hi x hx b hb
 have h2 := (h.row.lt b hv).1
 omega
theorem RowG.same (h : RowG S base e v L w) (hv : ∀ g, v.ownBlock = some g → w'.heap[g]? = w.heap[g]?) (hb : ∀ x ∈ L, ∀ b ∈ x.fp, w'.heap[b]? = w.heap[b]?) : RowG S base e v L w' where
 row := ownsRow_same h.row hv
 len := h.len
 el := fun x hx => S.frame (fun b hb' => hb x hx b hb') (h.el x hx)
 hi := h.hi
theorem RowG.below (h : RowG S base e v L w) (hb : Below w.heap.size w w') : RowG S base e v L w' :=
 h.same (fun g hg => hb.block g (h.row.lt g hg).2) (fun x hx b hb' => hb.block b (S.lt (h.el x hx) b hb'))
theorem RowG.kept {K : List Nat} (h : RowG S base e v L w) (hk : Kept K w w') (hv : ∀ g, v.ownBlock = some g → g ∉ K) (hb : ∀ x ∈ L, ∀ b ∈ x.fp, b ∉ K) : RowG S base e v L w' :=
 h.same (fun g hg => hk.block g (h.row.lt g hg).2 (hv g hg)) (fun x hx b hb' => hk.block b (S.lt (h.el x hx) b hb') (hb x hx b hb'))
theorem RowG.mine (h : RowG S base e v L w) : ∀ b, v.ownBlock = some b → base ≤ b := fun b hb => (h.row.lt b hb).1
theorem RowG.len_eq {g n cap : Nat} (h : RowG S base e (.slice (some ⟨g, 0, none⟩) n cap) L w) : L.length = n := by
 rcases h.row.2 with ⟨h', _⟩ | ⟨g', cap', cur, h', _⟩
 ·cases h'
 ·simp only [Value.slice.injEq] at h'; exact h'.2.1.symm
theorem RowG.set {g n cap : Nat} (h : RowG S base e (.slice (some ⟨g, 0, none⟩) n cap) L w) {k : Nat} (hk : k < L.length) {j : Nat} (hj : j < S.m) (u : Value) (x' : Elem α) (hx : x'.cells = L[k].cells.set j u)
  (hR : S.R w x'.cells x'.d x'.fp) (hn : ∀ b ∈ x'.fp, b < base) :
  RowG S base e (.slice (some ⟨g, 0, none⟩) n cap) (L.set k x') (w.setCell ⟨g, k * S.m + j, none⟩ u) := by
 have hblk : ∀ b : Nat, b ≠ g → (w.setCell ⟨g, k * S.m + j, none⟩ u).heap[b]? = w.heap[b]? := fun b hb => Below.heap_setCell _ _ _ _ hb
 have hmem : ∀ x ∈ L.set k x', x = x' ∨ x ∈ L := fun x hx => by
  rcases List.mem_or_eq_of_mem_set hx with h | h
  ·exact .inr h
  ·exact .inl h
 have hne : ∀ x ∈ L, ∀ b ∈ x.fp, b ≠ g := fun x hx b hb e => h.ap x hx b hb (by rw [e]; rfl)
 refine ⟨?_, fun x hx' => ?_, fun x hx' => ?_, fun x hx' => ?_⟩
 ·have hn := h.len_eq
  have hrow := h.row
  rw [hn] at hrow
  have := (hrow.stored (k * S.m + j) u).1
  rw [flatMap_set h.len hk hj u x' hx] at this
  rw [List.length_set, hn]
  exact this
 ·rcases hmem x hx' with rfl | hx'
  ·rw [hx, List.length_set]; exact h.len _ (List.getElem_mem hk)
  ·exact h.len x hx'
 ·rcases hmem x hx' with rfl | hx'
  ·exact S.frame (fun b hb => hblk b (fun e => by have h1 := hn b hb; have h2 := (h.row.lt g rfl).1; omega)) hR
  ·exact S.frame (fun b hb => hblk b (hne x hx' b hb)) (h.el x hx')
 ·rcases hmem x hx' with rfl | hx'
  ·exact hn
  ·exact h.hi x hx'
end
end Go.Proofs.YtlegeancmcmbaaaDoor

/- SplitArguments (spec). (Made by gen_spls.py.) -/
namespace Go.Proofs.YtlegeancmcmbaaaDoor
open Go.RowKit
set_option maxHeartbeats 2000000 in
theorem spec_l7Is (cs : List Value) (x : Tok) (fp : List Nat) (w : World) (c : UInt8) (H : sTok.R w cs x fp) :
  Calls Tryd.prog 41 #[.agg cs.toArray, .string ⟨#[c]⟩] w (Says (decide (x.kind = 4) && (x.text.toList == [c])) w) := by
 obtain ⟨h, rfl, hk, hok, K⟩ := H
 obtain ⟨a0, cap0, rfl, -⟩ := open_strs K
 have hb := alloc_below' w (.cells #[.int .i64 x.kind, .string x.text, .bool x.spaced, .slice a0 x.hidden.length cap0] 47)
 clear K
 go_enter Tryd.func41, Tryd.ntmps41
 by_cases h4 : x.kind = 4
 ·have e0 : (x.kind == 4) = true := by simp [h4]
  have HF : Hid ((decide (x.kind = 4) && (x.text.toList == [c])) = (x.text.toList == [c])) := by show _ = _; rw [decide_eq_true h4]; rfl
  clear h4
  go_wp2
  go_ret
  exact ⟨ret_bool (by rw [HF.out]), hb⟩
 ·have e0 : (x.kind == 4) = false := by simpa using h4
  have HF : Hid ((decide (x.kind = 4) && (x.text.toList == [c])) = false) := by show _ = _; rw [decide_eq_false h4]; rfl
  clear h4
  go_wp2
  go_ret
  exact ⟨ret_bool (by rw [HF.out]), hb⟩

structure SplSt (B0 B1 : Nat) (va vm : Value) (A : List (Elem (List Tok))) (M : List (Elem Tok)) (w : World) : Prop where
 e : RowE sToks B0 28 va A w
 b : ∀ g, va.ownBlock = some g → B1 ≤ g
 g : ∃ top, RowG sTok top 47 vm M w ∧ B1 ≤ top ∧ top ≤ w.heap.size ∧ ∀ x ∈ A, ∀ b ∈ x.fp, b < top
 m : ∀ x ∈ M, ∀ b ∈ x.fp, B0 ≤ b ∧ b < B1
 t : ∀ x ∈ M, TokTy w x.fp
theorem SplSt.below {B0 B1 : Nat} {va vm : Value} {A : List (Elem (List Tok))} {M : List (Elem Tok)} {w w' : World} (h : SplSt B0 B1 va vm A M w) (hb : Below w.heap.size w w') : SplSt B0 B1 va vm A M w' := by
 obtain ⟨top, g1, g2, g3, g4⟩ := h.g
 exact ⟨h.e.below hb, h.b, ⟨top, g1.below hb, g2, Nat.le_trans g3 hb.size, g4⟩, h.m, fun x hx => (h.t x hx).below hb⟩
theorem TokTy.rows {w : World} {fp : List Nat} (h : TokTy w fp) : ∀ b ∈ fp, ∃ cur t fr, w.heap[b]? = some (.cells cur t fr) ∧ t ≠ 28 := fun b hb => by
 obtain ⟨cur, t, fr, h1, h2⟩ := h b hb
 refine ⟨cur, t, fr, h1, ?_⟩
 rcases h2 with rfl | rfl <;> decide
theorem spec_l1In (n lo hi : Int) (w : World) : Calls Tryd.prog 30 #[.int .i64 n, .int .i64 lo, .int .i64 hi] w (fun e w' => e = .returned (.bool (decide (lo ≤ n) && decide (n ≤ hi))) ∧ Below w.heap.size w w') := by
 go_enter Tryd.func30, Tryd.ntmps30
 by_cases h : lo ≤ n
 ·have e0 : decide (lo ≤ n) = true := decide_eq_true h
  have HF : Hid ((decide (lo ≤ n) && decide (n ≤ hi)) = decide (n ≤ hi)) := by show _ = _; rw [e0]; rfl
  go_wp2
  go_ret
  exact ⟨ret_bool (by first | rfl | rw [HF.out]), Below.refl _ _⟩
 ·have e0 : decide (lo ≤ n) = false := decide_eq_false h
  have HF : Hid ((decide (lo ≤ n) && decide (n ≤ hi)) = false) := by show _ = _; rw [e0]; rfl
  go_wp2
  go_ret
  exact ⟨ret_bool (by first | rfl | rw [HF.out]), Below.refl _ _⟩
end Go.Proofs.YtlegeancmcmbaaaDoor

/- Names in order: bytes alone. -/
namespace Go.Proofs.YtlegeancmcmbaaaDoor
open Go.RowKit
end Go.Proofs.YtlegeancmcmbaaaDoor

/- Texts of tokens: no program. -/
namespace Go.Proofs.YtlegeancmcmbaaaDoor
open Go.RowKit
def outTo (s : ByteArray) (k : Nat) : ByteArray :=
 if h : k + 1 < s.size then (if s[k].toNat = 92 then s.extract (k + 1) (k + 2) ++ outTo s (k + 2) else s.extract k (k + 1) ++ outTo s (k + 1)) else ⟨#[]⟩
termination_by s.size - k
theorem outTo_end {s : ByteArray} {k : Nat} (h : s.size ≤ k + 1) : outTo s k = ⟨#[]⟩ := by rw [outTo, dif_neg (by omega)]
end Go.Proofs.YtlegeancmcmbaaaDoor

/- Pasting tokens, hiding names: no program. -/
namespace Go.Proofs.YtlegeancmcmbaaaDoor
open Go.RowKit

/-! ### Lists of names -/
def Up (l : List ByteArray) : Prop := l.Pairwise fun a b => sLess a b = true
def ins : List ByteArray → ByteArray → List ByteArray
 | [], n => [n]
 | x :: r, n => if sLess x n = true then x :: ins r n else if (x.toList == n.toList) = true then x :: r else n :: x :: r
/-! ### Pasting -/
/-! ### Hiding -/
end Go.Proofs.YtlegeancmcmbaaaDoor

/- Arguments put into bodies: no program. -/
namespace Go.Proofs.YtlegeancmcmbaaaDoor
open Go.RowKit
section
variable {m : DMacro} {raw ready : List (List Tok)} {k : Nat}
end
section
variable {m : DMacro} {raw ready : List (List Tok)} {k : Nat} {out part : List Tok} {emp paste : Bool} {nx : Nat} {ok : Bool}
end
end Go.Proofs.YtlegeancmcmbaaaDoor
