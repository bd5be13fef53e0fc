/- Texts that the proof of U stands on, in one file. -/
import Derived.Test.YtghikfggcnabeaaRows
import Derived.ProofKit
import Derived.WalkKit
import Derived.LoopTactic
import Derived.Lib.Hide
import Derived.Deep.Draws
import Derived.Outline
import Derived.Deep.QuietTactic
import Derived.BigQuiet
import Derived.OwnWalk
import Derived.Laws.BytesString
import Derived.Laws.IdiomStrings
import Derived.Deep.RegionHeld3
set_option linter.unusedVariables false
set_option linter.unusedSimpArgs false
/- Words of our own over any program: what a law's end owes, for arguments of any type. -/
namespace Go.Proofs.Ytghikfggcnabeaa
open Go.ChangeShapes Go.WideShapes Go.ChangeAt Go.RowKit

theorem trodAll_below {H : Type} {enc : TypeId × Value → H} {P : Program} (hl : laidOutB P = true) {W W' : World} (hb : Below W.heap.size W W') :
  ∀ {ts : List TypeId} {vs : List Value} {ds : List (DataW H)} {ps : List MemPlace}, (∀ t ∈ ts, P.readableRec t = true ∧ t < P.types.size) →
   DataW.TrodAll enc P W 0 (fun _ => true) true ts vs ds ps → DataW.TrodAll enc P W' 0 (fun b => decide (b < W.heap.size)) true ts vs ds ps
 | [], [], [], _, _, h => h
 |
  t :: ts, v :: vs, d :: ds, ps, hr, h => by
  obtain ⟨p, q, h1, h2, rfl⟩ := h
  obtain ⟨ha, hs⟩ := hr t (by simp)
  have hlt : ∀ x ∈ p, x.block < W.heap.size := by
   obtain ⟨fuel, hf⟩ := h1
   exact DataW.trod_lt fuel _ _ _ hf
  exact ⟨p, q, Below.trod hl ha hs h1 hb hlt, trodAll_below hl hb (fun t ht => hr t (by simp [ht])) h2, rfl⟩
 | [], _ :: _, _, _, _, h => h.elim
 | [], [], _ :: _, _, _, h => h.elim
 | _ :: _, [], _, _, _, h => h.elim
 | _ :: _, _ :: _, [], _, _, h => h.elim

theorem law_done {H : Type} {enc : TypeId × Value → H} {P : Program} {f : Func} {s : ChangeSpec} {W W' : World} {args : Array Value} {ds gs : List (DataW H)} {before : List MemPlace} {tb : TypeId}
  (hl : laidOutB P = true) (hread : ∀ t ∈ f.params.toList, P.readableRec t = true ∧ t < P.types.size) (hsv : s.vars = []) (hfr : f.resultTypes = #[tb]) (htb : P.underlying tb = some .bool)
  (hW : DataW.Whole enc P f.params.toList s.vars false W args.toList ds gs before)
  (hr : (s.fn H (ds ++ gs)).results = [.lit (.bool true)]) (ha : (s.fn H (ds ++ gs)).args = ds) (hv : (s.fn H (ds ++ gs)).vars = [])
  (hB : Below W.heap.size W W') : s.post enc P f false true false false W args (.bool true) W' := by
 have hW0 := hW
 obtain ⟨p, q, hA, hV, rfl, hfz, hnd⟩ := hW
 refine ⟨ds, gs, p ++ q, [], p, [], hW0, ?_, ?_, ?_, hB.frame _, by simp⟩
 ·rw [hr, hfr]
  exact ⟨[], [], ⟨1, by simp [DataW.trod, Value.cells, htb]⟩, rfl, rfl⟩
 ·rw [ha]; exact trodAll_below hl hB hread hA
 ·rw [hsv, hv]; exact rfl

theorem belowN {B : Nat} {a w : World} (h : Below B a w) (n : Nat) : Below B a (w.drewN n) := ⟨h.os, h.tape, h.output, h.size, h.block⟩

end Go.Proofs.Ytghikfggcnabeaa

/- LineValid of the program and of its model answer alike for every text. -/
namespace Go.Proofs.Ytghikfggcnabeaa
open Go.RowKit

def okByte (c : UInt8) : Bool := 32 ≤ c && c ≤ 126
def lineOk (s : ByteArray) : Bool := decide (s.size ≤ 200) && s.data.toList.all okByte

theorem okByte_iff (c : UInt8) : okByte c = true ↔ 32 ≤ c.toNat ∧ c.toNat ≤ 126 := by
 simp [okByte, UInt8.le_iff_toNat_le]

def OkUpto (s : ByteArray) (k : Nat) : Prop := ∀ j, (h : j < s.size) → j < k → okByte s[j] = true

theorem OkUpto.zero (s : ByteArray) : OkUpto s 0 := by intro j h; omega
theorem OkUpto.succ {s : ByteArray} {k : Nat} (h : OkUpto s k) (hk : k < s.size) (hb : 32 ≤ (s[k].toNat : Int) ∧ (s[k].toNat : Int) ≤ 126) : OkUpto s (k + 1) := by
 intro j hj hjk
 by_cases e : j = k
 ·subst e; rw [okByte_iff]; omega
 ·exact h j hj (by omega)

theorem lineOk_no {s : ByteArray} {k : Nat} (hk : k < s.size) (hb : ¬ (32 ≤ (s[k].toNat : Int) ∧ (s[k].toNat : Int) ≤ 126)) : lineOk s = false := by
 unfold lineOk
 have : s.data.toList.all okByte = false := by
  rw [List.all_eq_false]
  refine ⟨s[k], ?_, ?_⟩
  ·simp [ByteArray.getElem_eq_getElem_data]
  ·rw [okByte_iff]; omega
 rw [this, Bool.and_false]

theorem lineOk_long {s : ByteArray} (h : 200 < s.size) : lineOk s = false := by
 unfold lineOk; rw [decide_eq_false (by omega), Bool.false_and]

theorem lineOk_yes {s : ByteArray} {k : Nat} (h : OkUpto s k) (hk : s.size ≤ k) : lineOk s = decide (s.size ≤ 200) := by
 unfold lineOk
 have : s.data.toList.all okByte = true := by
  rw [List.all_eq_true]
  intro x hx
  obtain ⟨i, hi, rfl⟩ := List.getElem_of_mem hx
  have hi' : i < s.size := by simpa using hi
  have := h i hi' (by omega)
  simpa [ByteArray.getElem_eq_getElem_data] using this
 rw [this, Bool.and_true]

theorem ret_bool {a b : Bool} (h : a = b) : Ending.returned (.bool a) = .returned (.bool b) := by rw [h]

set_option maxHeartbeats 400000 in
theorem impl_LineValid (s : ByteArray) (w : World) (hs : s.size ≤ maxLen) :
  Calls Try.prog 22 #[.string s] w fun e w' => e = .returned (.bool (lineOk s)) ∧ w = w' := by
 unfold maxLen at hs
 by_cases hl : 200 < s.size
 ·have HF := Lib.hid (lineOk_long hl)
  go_enter Try.func22, Try.ntmps22
  go_wp2
  go_ret
  exact ⟨ret_bool HF.out.symm, rfl⟩
 ·go_enter Try.func22, Try.ntmps22
  go_wp2
  go_loop [9] (fun i => ∃ k : Nat, k ≤ s.size ∧ i = .int .i64 k ∧ OkUpto s k) (fun i => s.size - (intOf i).toNat)
  case atStart => exact ⟨0, by omega, rfl, OkUpto.zero s⟩
  case round =>
   obtain ⟨k, hk, rfl, hall⟩ := hrel
   by_cases hlt : k < s.size
   ·by_cases hb : 32 ≤ (s[k].toNat : Int) ∧ (s[k].toNat : Int) ≤ 126
    ·have hn := hall.succ hlt hb
     go_wp2
     go_round
     case rel => exact ⟨k + 1, by omega, by go_num, hn⟩
     case measure => simp [intOf]; omega
    ·have HF := Lib.hid (lineOk_no hlt hb)
     go_wp2
     all_goals (go_ret; exact ⟨ret_bool HF.out.symm, rfl⟩)
   ·have HF := Lib.hid (lineOk_yes hall (by omega))
    go_wp2
    go_ret
    exact ⟨ret_bool (by rw [HF.out]; exact (decide_eq_true (by omega)).symm), rfl⟩

end Go.Proofs.Ytghikfggcnabeaa

/- Data in memory: what cells read as, and in which blocks. Over any program. -/
namespace Go.Proofs.Ytghikfggcnabeaa
open Go.RowKit

structure Shape (α : Type) where
 m : Nat
 R : World → List Value → α → List Nat → Prop
 frame : ∀ {w w' : World} {cs : List Value} {d : α} {fp : List Nat}, (∀ b ∈ fp, w'.heap[b]? = w.heap[b]?) → R w cs d fp → R w' cs d fp
 lt : ∀ {w : World} {cs : List Value} {d : α} {fp : List Nat}, R w cs d fp → ∀ b ∈ fp, b < w.heap.size

def sFlat {α : Type} (enc : α → Value) (ok : α → Prop) : Shape α where
 m := 1
 R _ cs d fp := cs = [enc d] ∧ ok d ∧ fp = []
 frame _ h := h
 lt h := by obtain ⟨_, _, rfl⟩ := h; simp

def okInt (n : Int) : Prop := -9223372036854775808 ≤ n ∧ n ≤ 9223372036854775807
def encByte (b : UInt8) : Value := .int .u8 b.toNat
def sInt : Shape Int := sFlat (Value.int .i64) okInt
def sBool : Shape Bool := sFlat Value.bool fun _ => True
def sByte : Shape UInt8 := sFlat encByte fun _ => True

def ElemAt (w : World) (b off m i : Nat) (es : List Value) : Prop := es.length = m ∧ ∀ j, j < m → w.cell? ⟨b, off + i * m + j, none⟩ = es[j]?

def RowR {α : Type} (S : Shape α) (w : World) (b off : Nat) (l : List α) (fps : Nat → List Nat) : Prop :=
 b < w.heap.size ∧ ∀ i, (h : i < l.length) → ∃ es, ElemAt w b off S.m i es ∧ S.R w es l[i] (fps i)

def SliceR {α : Type} (S : Shape α) (w : World) (cs : List Value) (l : List α) (fp : List Nat) : Prop :=
 ∃ a cap, cs = [.slice a l.length cap] ∧ l.length ≤ cap ∧ cap ≤ maxLen ∧
  ((l = [] ∧ fp = []) ∨ (0 < l.length ∧ ∃ b off fps, a = some ⟨b, off, none⟩ ∧ fp = b :: (List.range l.length).flatMap fps ∧ RowR S w b off l fps))

theorem ElemAt.frame {w w' : World} {b off m i : Nat} {es : List Value} (h : ElemAt w b off m i es) (hb : w'.heap[b]? = w.heap[b]?) : ElemAt w' b off m i es :=
 ⟨h.1, fun j hj => (World.cell?_of_block (w := w) (w' := w') (a := ⟨b, off + i * m + j, none⟩) hb).trans (h.2 j hj)⟩

def sSlice {α : Type} (S : Shape α) : Shape (List α) where
 m := 1
 R := SliceR S
 frame := by
  rintro w w' cs l fp hf ⟨a, cap, rfl, hc, hm, h⟩
  refine ⟨a, cap, rfl, hc, hm, ?_⟩
  rcases h with h | ⟨h0, b, off, fps, rfl, rfl, hb, he⟩
  ·exact .inl h
  ·refine .inr ⟨h0, b, off, fps, rfl, rfl, ?_, fun i hi => ?_⟩
   ·have h1 := hf b (by simp)
    have h2 : w'.heap[b]? ≠ none := by rw [h1]; simp [hb]
    exact Nat.lt_of_not_le fun h => h2 (by simp [h])
   ·obtain ⟨es, h1, h2⟩ := he i hi
    exact ⟨es, h1.frame (hf b (by simp)), S.frame (fun x hx => hf x (by simp; exact .inr ⟨i, hi, hx⟩)) h2⟩
 lt := by
  rintro w cs l fp ⟨a, cap, rfl, hc, hm, h⟩ x hx
  rcases h with ⟨_, rfl⟩ | ⟨h0, b, off, fps, rfl, rfl, hb, he⟩
  ·simp at hx
  ·simp at hx
   rcases hx with rfl | ⟨i, hi, hx⟩
   ·exact hb
   ·obtain ⟨es, h1, h2⟩ := he i hi
    exact S.lt h2 x hx

theorem Shape.below {α : Type} (S : Shape α) {w w' : World} {cs : List Value} {d : α} {fp : List Nat} (h : S.R w cs d fp) (hb : Below w.heap.size w w') : S.R w' cs d fp :=
 S.frame (fun b h' => hb.block b (S.lt h b h')) h

def Under (B : Nat) (fp : List Nat) : Prop := ∀ b ∈ fp, b < B

theorem open_flat {α : Type} {enc : α → Value} {ok : α → Prop} {w : World} {v : Value} {l : List α} {fp : List Nat} (h : (sSlice (sFlat enc ok)).R w [v] l fp) :
  ∃ a cap, v = .slice a l.length cap ∧ l.length ≤ cap ∧ cap ≤ maxLen ∧ (0 < l.length → ∃ b off, a = some ⟨b, off, none⟩ ∧ b < w.heap.size ∧ b ∈ fp ∧ ∀ i, (hi : i < l.length) → w.cell? ⟨b, off + i, none⟩ = some (enc l[i])) ∧ ∀ i, (hi : i < l.length) → ok l[i] := by
 obtain ⟨a, cap, hv, hc, hm, h⟩ := h
 refine ⟨a, cap, by simpa using hv, hc, hm, fun h0 => ?_, fun i hi => ?_⟩
 ·rcases h with ⟨rfl, _⟩ | ⟨_, b, off, fps, rfl, rfl, hb, he⟩
  ·simp at h0
  ·refine ⟨b, off, rfl, hb, by simp, fun i hi => ?_⟩
   obtain ⟨es, h1, h2, _, _⟩ := he i hi
   have := h1.2 0 (by simp [sFlat])
   rw [h2] at this
   simpa [sFlat] using this
 ·rcases h with ⟨rfl, _⟩ | ⟨_, b, off, fps, rfl, rfl, hb, he⟩
  ·simp at hi
  ·obtain ⟨es, h1, h2, h3, _⟩ := he i hi
   exact h3

def Own (w : World) (lo : Nat) (fp : List Nat) : Prop := fp.Nodup ∧ ∀ b ∈ fp, lo ≤ b ∧ ∃ cur e, w.heap[b]? = some (.cells cur e (0, 0))

theorem Own.nil (w : World) (lo : Nat) : Own w lo [] := ⟨List.nodup_nil, by simp⟩

structure Kept (fp : List Nat) (w w' : World) : Prop where
 os : w'.os = w.os
 tape : w'.tape = w.tape
 output : w'.output = w.output
 size : w.heap.size ≤ w'.heap.size
 block : ∀ k, k < w.heap.size → k ∉ fp → w'.heap[k]? = w.heap[k]?

theorem Kept.refl (fp : List Nat) (w : World) : Kept fp w w := ⟨rfl, rfl, rfl, Nat.le_refl _, fun _ _ _ => rfl⟩
theorem Kept.trans {fp : List Nat} {a b c : World} (h : Kept fp a b) (k : Kept fp b c) : Kept fp a c :=
 ⟨k.os.trans h.os, k.tape.trans h.tape, k.output.trans h.output, Nat.le_trans h.size k.size, fun i hi hn => (k.block i (Nat.lt_of_lt_of_le hi h.size) hn).trans (h.block i hi hn)⟩
theorem Kept.of_below {fp : List Nat} {a b : World} (h : Below a.heap.size a b) : Kept fp a b := ⟨h.os, h.tape, h.output, h.size, fun k hk _ => h.block k hk⟩
theorem Kept.mono {fp fp' : List Nat} {a b : World} (h : Kept fp a b) (hs : ∀ x ∈ fp, x ∈ fp') : Kept fp' a b := ⟨h.os, h.tape, h.output, h.size, fun k hk hn => h.block k hk fun hx => hn (hs k hx)⟩
theorem Kept.setCell {fp : List Nat} {a w : World} (h : Kept fp a w) {p : Addr} (hp : p.block ∈ fp) (u : Value) : Kept fp a (w.setCell p u) :=
 h.trans ⟨rfl, rfl, rfl, by simp [World.setCell], fun k hk hn => Below.heap_setCell _ _ _ _ (by rintro rfl; exact hn hp)⟩
theorem Kept.drewN {fp : List Nat} {a w : World} (h : Kept fp a w) (n : Nat) : Kept fp a (w.drewN n) := ⟨h.os, h.tape, h.output, h.size, h.block⟩
theorem Kept.below {fp : List Nat} {lo : Nat} {a w : World} (h : Kept fp a w) (hlo : ∀ b ∈ fp, lo ≤ b) (hs : lo ≤ a.heap.size) : Below lo a w :=
 ⟨h.os, h.tape, h.output, h.size, fun k hk => h.block k (by omega) fun hx => by have := hlo k hx; omega⟩

theorem Shape.kept {α : Type} (S : Shape α) {w w' : World} {cs : List Value} {d : α} {fp fp' : List Nat} (h : S.R w cs d fp') (hd : ∀ b ∈ fp', b ∉ fp) (hk : Kept fp w w') : S.R w' cs d fp' :=
 S.frame (fun b h' => hk.block b (S.lt h b h') (hd b h')) h
theorem Own.kept {w w' : World} {lo : Nat} {fp fp' : List Nat} (h : Own w lo fp') (hd : ∀ b ∈ fp', b ∉ fp) (hk : Kept fp w w') : Own w' lo fp' :=
 ⟨h.1, fun b hb => by
  obtain ⟨h1, cur, e, h2⟩ := h.2 b hb
  exact ⟨h1, cur, e, (hk.block b (Array.getElem?_eq_some_iff.1 h2).1 (hd b hb)).trans h2⟩⟩
theorem Own.below {w w' : World} {lo B : Nat} {fp : List Nat} (h : Own w lo fp) (hu : ∀ b ∈ fp, b < B) (hb : Below B w w') : Own w' lo fp :=
 ⟨h.1, fun b hb' => by
  obtain ⟨h1, cur, e, h2⟩ := h.2 b hb'
  exact ⟨h1, cur, e, (hb.block b (hu b hb')).trans h2⟩⟩
theorem Own.lt {w : World} {lo : Nat} {fp : List Nat} (h : Own w lo fp) : ∀ b ∈ fp, b < w.heap.size := fun b hb => by
 obtain ⟨_, cur, e, h2⟩ := h.2 b hb
 exact (Array.getElem?_eq_some_iff.1 h2).1
theorem Own.grow {w w' : World} {lo : Nat} {fp : List Nat} (h : Own w lo fp) (hb : Below w.heap.size w w') : Own w' lo fp := h.below h.lt hb
theorem Own.frozen {w : World} {lo : Nat} {fp : List Nat} (h : Own w lo fp) {b : Nat} (hb : b ∈ fp) (j : Nat) : w.frozen? ⟨b, j, none⟩ = false := by
 obtain ⟨_, cur, e, h2⟩ := h.2 b hb
 exact frozen_of_row w b j cur e h2
theorem Own.setCell {w : World} {lo : Nat} {fp : List Nat} (h : Own w lo fp) (p : Addr) (u : Value) : Own (w.setCell p u) lo fp :=
 ⟨h.1, fun b hb => by
  obtain ⟨h1, cur, e, h2⟩ := h.2 b hb
  by_cases hp : b = p.block
  ·subst hp
   refine ⟨h1, if p.spot.isSome then cur else cur.setIfInBounds p.off u, e, ?_⟩
   simp [World.setCell, Array.getElem?_modify, h2]
  ·exact ⟨h1, cur, e, (Below.heap_setCell _ _ _ _ hp).trans h2⟩⟩

end Go.Proofs.Ytghikfggcnabeaa

/- Slices of strings: validity, and the law's own helpers. -/
namespace Go.Proofs.Ytghikfggcnabeaa
open Go.RowKit
def SzR (B r : Int) (n : Nat) : Prop := r = if (n : Int) ≤ B then B - n else -1
theorem SzR.good {B r : Int} {n : Nat} (h : SzR B r n) (h0 : ¬ r < 0) : (n : Int) ≤ B ∧ r = B - n := by
 unfold SzR at h; split at h <;> constructor <;> omega
theorem SzR.le {B r : Int} {n : Nat} (h : SzR B r n) (hB : 0 ≤ B) : r ≤ B := by unfold SzR at h; split at h <;> omega
theorem SzR.yes {B r : Int} {n : Nat} (h : (n : Int) ≤ B) (hr : r = B - n) : SzR B r n := by unfold SzR; rw [if_pos h]; exact hr
theorem SzR.no {B : Int} {n : Nat} (h : B < (n : Int)) : SzR B (-1) n := by unfold SzR; rw [if_neg (by omega)]

end Go.Proofs.Ytghikfggcnabeaa

/- Copies of slices of strings. -/
namespace Go.Proofs.Ytghikfggcnabeaa
open Go.RowKit

def TI (P : Program) (t e : TypeId) (z : Value) (size bytes : Nat) : Prop :=
 P.underlying t = some (.slice e) ∧ (P.info? e).map (fun i => (i.zero, i.size, i.bytes)) = some (some z, size, bytes)

theorem wp_make_full {P : Program} {t e : TypeId} {z : Value} {size bytes : Nat} (ti : TI P t e z size bytes) (w : World) {ops : Array Oper} {rest : List Oper} {o : Oper} {a : Act} {Q : Exit → Act → World → Prop}
  (hg : o.guard = none) (l c : Operand) (hop : o.op = Op.makeSlice t l c) (base n : Nat)
  (hl : a.eval l = .int .i64 n) (hc : a.eval c = .int .i64 n) (b2 : bytes * n ≤ 281474976710656) (b3 : n ≤ maxLen) (b4 : base ≤ w.heap.size)
  (hK : ∀ w', w'.ownsRow base e size (.slice (some ⟨w.heap.size, 0, none⟩) n n) n (madeCells z.cells (n * size)).toList → w.grownBy w' none → wpList P ops Q rest (a.put o.dst (.slice (some ⟨w.heap.size, 0, none⟩) n n)) w') :
  wpList P ops Q (o :: rest) a w := by
 obtain ⟨i, hi, hz0, hz1, hz2⟩ := info_parts ti.2
 exact wpList_make_full w hg l c t hop base e i z size ti.1 hi hz0 hz1 .i64 .i64 n n n hl hc rfl rfl (by rw [hz2]; exact b2) b3 b4 hK

def Made {α : Type} (S : Shape α) (d : α) (w : World) (e : Ending) (w' : World) : Prop :=
 ∃ v fp, e = .returned v ∧ S.R w' [v] d fp ∧ Own w' w.heap.size fp ∧ Below w.heap.size w w'

theorem slice_empty {α : Type} (S : Shape α) (w : World) (a : Option Addr) (cap : Nat) (h : cap ≤ maxLen) : (sSlice S).R w [.slice a 0 cap] [] [] :=
 ⟨a, cap, rfl, by simp, h, .inl ⟨rfl, rfl⟩⟩

theorem Own.app {w : World} {lo : Nat} {fp1 fp2 : List Nat} (h1 : Own w lo fp1) (h2 : Own w lo fp2) (hd : ∀ b ∈ fp1, b ∉ fp2) : Own w lo (fp1 ++ fp2) :=
 ⟨List.nodup_append.2 ⟨h1.1, h2.1, fun a ha b hb e => hd a ha (e ▸ hb)⟩, fun b hb => (List.mem_append.1 hb).elim (h1.2 b) (h2.2 b)⟩

end Go.Proofs.Ytghikfggcnabeaa

/- The law's own marks: their texts. -/
namespace Go.Proofs.Ytghikfggcnabeaa
open Go.RowKit
end Go.Proofs.Ytghikfggcnabeaa

/- Marks in slices of texts and of numbers. -/
namespace Go.Proofs.Ytghikfggcnabeaa
open Go.RowKit
def marks {α : Type} (f : Int → α) (k : Int) (n : Nat) : List α := (List.range n).map fun (i : Nat) => f (k + (i : Int))
def Marked {α : Type} (S : Shape α) (v : Value) (d : α) (fp : List Nat) (lo : Nat) (r : Int) (w : World) (e : Ending) (w' : World) : Prop :=
 e = .returned (.int .i64 r) ∧ S.R w' [v] d fp ∧ Own w' lo fp ∧ Kept fp w w'

end Go.Proofs.Ytghikfggcnabeaa

/- Objects of a law while it runs: what they read as, and between which blocks they lie. -/
namespace Go.Proofs.Ytghikfggcnabeaa
open Go.RowKit

structure Seen {α : Type} (S : Shape α) (w : World) (cs : List Value) (d : α) (fp : List Nat) (hi : Nat) : Prop where
 r : S.R w cs d fp
 hi : Under hi fp
structure Live {α : Type} (S : Shape α) (w : World) (cs : List Value) (d : α) (fp : List Nat) (lo hi : Nat) : Prop where
 r : S.R w cs d fp
 o : Own w lo fp
 hi : Under hi fp

section
variable {α : Type} {S : Shape α} {w w' : World} {cs : List Value} {d : α} {fp fp' : List Nat} {lo hi lo' : Nat}
theorem Seen.of (h : S.R w cs d fp) : Seen S w cs d fp w.heap.size := ⟨h, S.lt h⟩
theorem Seen.below (h : Seen S w cs d fp hi) (hb : Below w.heap.size w w') : Seen S w' cs d fp hi := ⟨S.below h.r hb, h.hi⟩
theorem Live.of (h : S.R w cs d fp) (o : Own w lo fp) : Live S w cs d fp lo w.heap.size := ⟨h, o, o.lt⟩
theorem Live.below (h : Live S w cs d fp lo hi) (hb : Below w.heap.size w w') : Live S w' cs d fp lo hi := ⟨S.below h.r hb, h.o.grow hb, h.hi⟩
theorem Seen.kept (h : Seen S w cs d fp hi) (hk : Kept fp' w w') (ho : Own w lo' fp') (hle : hi ≤ lo') : Seen S w' cs d fp hi :=
 ⟨S.kept h.r (fun b hb hx => by have h1 := h.hi b hb; have h2 := (ho.2 b hx).1; omega) hk, h.hi⟩
theorem Live.kept (h : Live S w cs d fp lo hi) (hk : Kept fp' w w') (ho : Own w lo' fp') (hle : hi ≤ lo') : Live S w' cs d fp lo hi :=
 have hd : ∀ b ∈ fp, b ∉ fp' := fun b hb hx => by have h1 := h.hi b hb; have h2 := (ho.2 b hx).1; omega
 ⟨S.kept h.r hd hk, h.o.kept hd hk, h.hi⟩
theorem Live.kept' (h : Live S w cs d fp lo hi) (hk : Kept fp' w w') (hu : Under lo fp') : Live S w' cs d fp lo hi :=
 have hd : ∀ b ∈ fp, b ∉ fp' := fun b hb hx => by have h1 := (h.o.2 b hb).1; have h2 := hu b hx; omega
 ⟨S.kept h.r hd hk, h.o.kept hd hk, h.hi⟩
theorem Kept.below' (hk : Kept fp' w w') (ho : Own w lo' fp') {B : Nat} (hB : B ≤ lo') (hs : B ≤ w.heap.size) : Below B w w' :=
 hk.below (fun b hb => Nat.le_trans hB (ho.2 b hb).1) hs
end

def Apart (fp fp' : List Nat) : Prop := ∀ b ∈ fp, b ∉ fp'
theorem Apart.symm {fp fp' : List Nat} (h : Apart fp fp') : Apart fp' fp := fun b h1 h2 => h b h2 h1
theorem Own.split {w : World} {lo : Nat} {fp1 fp2 : List Nat} (h : Own w lo (fp1 ++ fp2)) : Own w lo fp1 ∧ Own w lo fp2 ∧ Apart fp1 fp2 := by
 obtain ⟨h1, h2⟩ := h
 obtain ⟨a, b, c⟩ := List.nodup_append.1 h1
 exact ⟨⟨a, fun x hx => h2 x (by simp [hx])⟩, ⟨b, fun x hx => h2 x (by simp [hx])⟩, fun x hx hy => c x hx x hy rfl⟩
theorem Apart.split {fp fp1 fp2 : List Nat} (h : Apart fp (fp1 ++ fp2)) : Apart fp fp1 ∧ Apart fp fp2 :=
 ⟨fun b hb hx => h b hb (by simp [hx]), fun b hb hx => h b hb (by simp [hx])⟩
end Go.Proofs.Ytghikfggcnabeaa
