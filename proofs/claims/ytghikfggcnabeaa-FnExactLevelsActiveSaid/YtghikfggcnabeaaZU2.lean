/- Texts that the proof of U stands on, in one file. -/
import Derived.Test.YtghikfggcnabeaaZU1
import Derived.Deep.Slices
import Derived.Lib.Index
import Derived.Lib.Strings
import Derived.Outline
import Derived.Deep.Fields
import Derived.ChangeSame
import Derived.Lib.SmallJoins
set_option linter.unusedVariables false
set_option linter.unusedSimpArgs false
/- Arguments, opened: what can be read as data of a type reads as our shape. -/
namespace Go.Proofs.Ytghikfggcnabeaa
open Go.ChangeShapes Go.WideShapes Go.RowKit

section
variable {H : Type} {enc : TypeId × Value → H} {P : Program} {w : World} {base : Nat} {spare : Nat → Bool} {held : Bool}

def Opens (enc : TypeId × Value → H) (P : Program) (w : World) (base : Nat) (spare : Nat → Bool) (held : Bool) (t : TypeId) {α : Type} (S : Shape α) : Prop :=
 ∀ fuel cs x, DataW.trod enc P w base spare held fuel t cs = some x → ∃ d fp, S.R w cs d fp

theorem opens_bool {t : TypeId} (ht : P.underlying t = some .bool) : Opens enc P w base spare held t sBool := by
 intro fuel cs x h
 obtain ⟨b, rfl, _⟩ := DataW.trod_bool ht h
 exact ⟨b, [], rfl, trivial, rfl⟩

theorem opens_int {t : TypeId} (ht : P.underlying t = some (.int .i64)) : Opens enc P w base spare held t sInt := by
 intro fuel cs x h
 obtain ⟨n, rfl, _, hw⟩ := DataW.trod_int ht h
 have : -9223372036854775808 ≤ n ∧ n ≤ 9223372036854775807 := by simpa [Lit.wf, IntKind.min, IntKind.max, IntKind.signed, IntKind.bits] using hw
 exact ⟨n, [], rfl, this, rfl⟩

theorem opens_byte {t : TypeId} (ht : P.underlying t = some (.int .u8)) : Opens enc P w base spare held t sByte := by
 intro fuel cs x h
 obtain ⟨n, rfl, _, hw⟩ := DataW.trod_int ht h
 have : 0 ≤ n ∧ n ≤ 255 := by simpa [Lit.wf, IntKind.min, IntKind.max, IntKind.signed, IntKind.bits] using hw
 refine ⟨UInt8.ofNat n.toNat, [], ?_, trivial, rfl⟩
 show [Value.int .u8 n] = [Value.int .u8 ((UInt8.ofNat n.toNat).toNat : Int)]
 rw [UInt8.toNat_ofNat_of_lt' (by simp [UInt8.size]; omega)]
 congr 2; omega

theorem addr_add (b off n : Nat) : Addr.add ⟨b, off, none⟩ n = ⟨b, off + n, none⟩ := by
 unfold Addr.add; split
 ·rename_i h; subst h; rfl
 ·rfl

theorem opens_slice {t e : TypeId} {α : Type} {S : Shape α} (ht : P.underlying t = some (.slice e)) (hm : P.cellsOf e = S.m) (h0 : 0 < S.m) (he : Opens enc P w base spare held e S) : Opens enc P w base spare held t (sSlice S) := by
 intro fuel cs x h
 rcases DataW.trod_slice ht h with ⟨rfl, _⟩ | ⟨a, len, cap, elems, rest, n, _, rfl, _, hb, hl, hc, hlen, hel, _, _⟩
 ·exact ⟨[], [], none, 0, rfl, by simp, by simp, .inl ⟨rfl, rfl⟩⟩
 ·have each : ∀ i, i < len → ∃ es d fp, (es.length = S.m ∧ ∀ j, j < S.m → w.cell? (a.add (i * S.m + j)) = es[j]?) ∧ S.R w es d fp := by
   intro i hi
   have h1 := hel i hi
   rw [List.getElem?_eq_getElem (by omega), Option.bind_eq_some_iff] at h1
   obtain ⟨es, h2, h3⟩ := h1
   rw [hm] at h2
   obtain ⟨_, h4, h5⟩ := World.cells?_some h2
   obtain ⟨d, fp, h6⟩ := he _ _ _ h3
   refine ⟨es, d, fp, ⟨h4, fun j hj => ?_⟩, h6⟩
   rw [← h5 j hj, Go.Deep.add_add]
  by_cases hz : len = 0
  ·subst hz
   exact ⟨[], [], some a, cap, rfl, hl, hc, .inl ⟨rfl, rfl⟩⟩
  ·have hsp : a.spot = none := by
    obtain ⟨es, d, fp, ⟨h1, h2⟩, _⟩ := each 0 (by omega)
    have h3 := h2 0 h0
    rw [List.getElem?_eq_getElem (by omega)] at h3
    have e0 : a.add (0 * S.m + 0) = a := by simp [Addr.add]
    rw [e0] at h3
    unfold World.cell? at h3
    split at h3
    ·split at h3
     ·simp at h3
     ·rename_i hh; simpa using hh
    ·simp at h3
   obtain ⟨b, off, sp⟩ := a
   simp at hsp
   subst hsp
   have hblk : b < w.heap.size := by
    obtain ⟨es, d, fp, ⟨h1, h2⟩, _⟩ := each 0 (by omega)
    have h3 := h2 0 h0
    rw [List.getElem?_eq_getElem (by omega), addr_add] at h3
    exact World.block_lt_of_cell? w _ h3
   have hch : ∀ i : Nat, ∃ y : α × List Nat, i < len → ∃ es, ElemAt w b off S.m i es ∧ S.R w es y.1 y.2 := by
    intro i
    by_cases hi : i < len
    ·obtain ⟨es, d, fp, ⟨h1, h2⟩, h3⟩ := each i hi
     refine ⟨(d, fp), fun _ => ⟨es, ⟨h1, fun j hj => ?_⟩, h3⟩⟩
     rw [← h2 j hj, addr_add, Nat.add_assoc]
    ·obtain ⟨es, d, fp, _, _⟩ := each 0 (by omega)
     exact ⟨(d, fp), fun h => absurd h hi⟩
   let Y := fun i => Classical.choose (hch i)
   have hY : ∀ i, i < len → ∃ es, ElemAt w b off S.m i es ∧ S.R w es (Y i).1 (Y i).2 := fun i hi => Classical.choose_spec (hch i) hi
   have hL : ((List.range len).map fun i => (Y i).1).length = len := by simp
   refine ⟨(List.range len).map fun i => (Y i).1, b :: (List.range len).flatMap fun i => (Y i).2, some ⟨b, off, none⟩, cap, by rw [hL], by rw [hL]; exact hl, hc, .inr ⟨by rw [hL]; omega, b, off, fun i => (Y i).2, rfl, by rw [hL], hblk, fun i hi => ?_⟩⟩
   rw [hL] at hi
   obtain ⟨es, h1, h2⟩ := hY i hi
   exact ⟨es, h1, by simpa using h2⟩

theorem open_arg {t : TypeId} {α : Type} {S : Shape α} {v : Value} {d : DataW H} {p : List MemPlace} (ho : Opens enc P w base spare held t S) (h : DataW.Trod enc P w base spare held t v d p) : ∃ x fp, S.R w v.cells.toList x fp := by
 obtain ⟨fuel, hf⟩ := h
 exact ho fuel _ _ hf
end

end Go.Proofs.Ytghikfggcnabeaa

/- Rows of structs: elements of several cells. Over any program. -/
namespace Go.Proofs.Ytghikfggcnabeaa
open Go.RowKit
theorem flatMap_at {α : Type} {f : α → List Value} {m : Nat} : ∀ {L : List α} (_ : ∀ x ∈ L, (f x).length = m) {i : Nat} (hi : i < L.length) {j : Nat} (_ : j < m), (L.flatMap f)[i * m + j]? = (f L[i])[j]?
 | [], _, i, hi, _, _ => by simp at hi
 |
  x :: L, hL, 0, _, j, hj => by
  rw [List.flatMap_cons, List.getElem?_append_left (by rw [hL x (by simp)]; omega)]
  simp
 |
  x :: L, hL, i + 1, hi, j, hj => by
  have hx := hL x (by simp)
  have e : (i + 1) * m + j = m + (i * m + j) := by rw [Nat.succ_mul]; omega
  rw [List.flatMap_cons, List.getElem?_append_right (by rw [hx, e]; omega), hx, e, Nat.add_sub_cancel_left]
  exact flatMap_at (fun y hy => hL y (by simp [hy])) (by simpa using hi) hj
theorem flatMap_len {α : Type} {f : α → List Value} {m : Nat} : ∀ {L : List α}, (∀ x ∈ L, (f x).length = m) → (L.flatMap f).length = L.length * m
 | [], _ => by simp
 | x :: L, hL => by rw [List.flatMap_cons, List.length_append, hL x (by simp), flatMap_len (fun y hy => hL y (by simp [hy])), List.length_cons, Nat.succ_mul, Nat.add_comm]

structure Elem (α : Type) where
 cells : List Value
 d : α
 fp : List Nat

theorem flat_range {L : List (List Nat)} : (List.range L.length).flatMap (fun i => L.getD i []) = L.flatten := by
 have : (List.range L.length).map (fun i => L.getD i []) = L := by
  apply List.ext_getElem (by simp)
  intro i h1 h2
  simp [List.getD_eq_getElem?_getD, List.getElem?_eq_getElem h2]
 rw [List.flatMap_def, this]

theorem slice_of_row {α : Type} {S : Shape α} {w : World} {base e : Nat} {v : Value} {L : List (Elem α)} (h : w.ownsRow base e S.m v L.length (L.flatMap (·.cells))) (hR : ∀ x ∈ L, x.cells.length = S.m ∧ S.R w x.cells x.d x.fp) :
  ∃ fp, (sSlice S).R w [v] (L.map (·.d)) fp ∧ (∀ b ∈ fp, v.ownBlock = some b ∨ b ∈ L.flatMap (·.fp)) ∧
   (Own w base (L.flatMap (·.fp)) → (∀ g, v.ownBlock = some g → g ∉ L.flatMap (·.fp)) → Own w base fp) := by
 by_cases h0 : L = []
 ·subst h0
  rcases h.2 with ⟨rfl, _⟩ | ⟨g, cap, cur, rfl, hb, hg, hnc, hcm, hcs, htake⟩
  ·exact ⟨[], ⟨none, 0, rfl, by simp, by simp, .inl ⟨rfl, rfl⟩⟩, by simp, fun _ _ => Own.nil _ _⟩
  ·exact ⟨[], ⟨_, cap, rfl, by simp, hcm, .inl ⟨rfl, rfl⟩⟩, by simp, fun _ _ => Own.nil _ _⟩
 ·have hpos : 0 < L.length := List.length_pos_iff.2 h0
  rcases h.2 with ⟨_, h1⟩ | ⟨g, cap, cur, rfl, hb, hg, hnc, hcm, hcs, htake⟩
  ·omega
  ·have hlt : g < w.heap.size := (Array.getElem?_eq_some_iff.1 hg).1
   have e1 : (List.range L.length).flatMap (fun i => (L.map (·.fp)).getD i []) = L.flatMap (·.fp) := by
    have := flat_range (L := L.map (·.fp))
    rw [List.length_map] at this
    rw [this, List.flatMap_def]
   refine ⟨g :: L.flatMap (·.fp), ⟨_, cap, by simp, by simpa using hnc, hcm, .inr ⟨by simpa using hpos, g, 0, fun i => (L.map (·.fp)).getD i [], rfl, by rw [List.length_map, e1], hlt, fun i hi => ?_⟩⟩, ?_, ?_⟩
   ·have hi' : i < L.length := by simpa using hi
    have hx := hR L[i] (List.getElem_mem hi')
    refine ⟨L[i].cells, ⟨hx.1, fun j hj => ?_⟩, ?_⟩
    ·rw [Nat.zero_add, h.cellAt (i * S.m + j) (by have : (i + 1) * S.m ≤ L.length * S.m := Nat.mul_le_mul_right _ hi'; rw [Nat.succ_mul] at this; omega)]
     exact flatMap_at (f := Elem.cells) (fun x hx => (hR x hx).1) hi' hj
    ·have e2 : (L.map (·.fp)).getD i [] = L[i].fp := by simp [List.getD_eq_getElem?_getD, List.getElem?_eq_getElem hi']
     show S.R w L[i].cells (L.map (·.d))[i] ((L.map (·.fp)).getD i [])
     rw [e2]
     simpa using hx.2
   ·intro b hb'
    rcases List.mem_cons.1 hb' with rfl | hb'
    ·exact .inl rfl
    ·exact .inr hb'
   ·intro ho hn
    exact ⟨List.nodup_cons.2 ⟨hn g rfl, ho.1⟩, fun b hb' => by
     rcases List.mem_cons.1 hb' with rfl | hb'
     ·exact ⟨hb, cur, e, hg⟩
     ·exact ho.2 b hb'⟩

theorem open_rows {α : Type} {S : Shape α} {w : World} {v : Value} {l : List α} {fp : List Nat} (H : (sSlice S).R w [v] l fp) :
  ∃ a cap, v = .slice a l.length cap ∧ l.length ≤ cap ∧ cap ≤ maxLen ∧ (0 < l.length → ∃ b off fps, a = some ⟨b, off, none⟩ ∧ b < w.heap.size ∧ fp = b :: (List.range l.length).flatMap fps ∧ ∀ i, (hi : i < l.length) → ∃ es, ElemAt w b off S.m i es ∧ S.R w es l[i] (fps i)) := by
 obtain ⟨a, cap, hv, hc, hm, h⟩ := H
 refine ⟨a, cap, by simpa using hv, hc, hm, fun h0 => ?_⟩
 rcases h with ⟨rfl, _⟩ | ⟨_, b, off, fps, rfl, rfl, hb, he⟩
 ·simp at h0
 ·exact ⟨b, off, fps, rfl, hb, rfl, he⟩

theorem row_upd {α : Type} {S : Shape α} {w w' : World} {b off n cap : Nat} {l : List α} {fps : Nat → List Nat} (hn : l.length = n) (hc : n ≤ cap) (hm : cap ≤ maxLen) (h0 : 0 < n)
  (he : ∀ i, (hi : i < l.length) → ∃ es, ElemAt w b off S.m i es ∧ S.R w es l[i] (fps i)) {i : Nat} {d : α} {es' : List Value}
  (hb : b < w'.heap.size) (hcell : ∀ j k, j < n → j ≠ i → k < S.m → w'.cell? ⟨b, off + j * S.m + k, none⟩ = w.cell? ⟨b, off + j * S.m + k, none⟩)
  (hother : ∀ j, j < n → j ≠ i → ∀ x ∈ fps j, w'.heap[x]? = w.heap[x]?)
  (hi' : ElemAt w' b off S.m i es') (hR : S.R w' es' d (fps i)) :
  (sSlice S).R w' [.slice (some ⟨b, off, none⟩) n cap] (l.set i d) (b :: (List.range n).flatMap fps) := by
 subst hn
 refine ⟨_, cap, by simp, by simpa using hc, hm, .inr ⟨by simpa using h0, b, off, fps, rfl, by simp, hb, fun j hj => ?_⟩⟩
 have hj' : j < l.length := by simpa using hj
 by_cases e : j = i
 ·subst e
  rw [List.getElem_set_self]
  exact ⟨es', hi', hR⟩
 ·obtain ⟨es, h1, h2⟩ := he j hj'
  rw [List.getElem_set_ne (fun h => e h.symm)]
  exact ⟨es, ⟨h1.1, fun k hk => (hcell j k hj' e hk).trans (h1.2 k hk)⟩, S.frame (hother j hj' e) h2⟩

end Go.Proofs.Ytghikfggcnabeaa

/- Lines without their comments: no program. -/
namespace Go.Proofs.Ytghikfggcnabeaa
open Go.RowKit

def tEnd (s : ByteArray) (k : Nat) : Nat :=
 if h : k < s.size then (if s[k].toNat = 34 then k + 1 else if s[k].toNat = 92 then tEnd s (k + 2) else tEnd s (k + 1)) else s.size
termination_by s.size - k
theorem tEnd_quote {s : ByteArray} {k : Nat} (h : k < s.size) (hc : s[k].toNat = 34) : tEnd s k = k + 1 := by rw [tEnd, dif_pos h, if_pos hc]
theorem tEnd_back {s : ByteArray} {k : Nat} (h : k < s.size) (hc : s[k].toNat = 92) : tEnd s k = tEnd s (k + 2) := by rw [tEnd, dif_pos h, if_neg (by omega), if_pos hc]
theorem tEnd_else {s : ByteArray} {k : Nat} (h : k < s.size) (h1 : ¬ s[k].toNat = 34) (h2 : ¬ s[k].toNat = 92) : tEnd s k = tEnd s (k + 1) := by rw [tEnd, dif_pos h, if_neg h1, if_neg h2]
theorem tEnd_out {s : ByteArray} {k : Nat} (h : s.size ≤ k) : tEnd s k = s.size := by rw [tEnd, dif_neg (by omega)]
theorem tEnd_bounds (s : ByteArray) (k : Nat) : tEnd s k ≤ s.size ∧ (k ≤ s.size → k ≤ tEnd s k) := by
 induction k using tEnd.induct (s := s) with
 | case1 k h hc => rw [tEnd_quote h hc]; omega
 |
  case2 k h h1 hc ih => rw [tEnd_back h hc]; exact ⟨ih.1, fun _ => by
  by_cases h2 : k + 2 ≤ s.size
  ·have := ih.2 h2; omega
  ·rw [tEnd_out (by omega)]; omega⟩
 | case3 k h h1 h2 ih => rw [tEnd_else h h1 h2]; exact ⟨ih.1, fun _ => by have := ih.2 (by omega); omega⟩
 | case4 k h => rw [tEnd_out (by omega)]; omega

def two (s : ByteArray) (k : Nat) (a b : UInt8) : Bool := [a, b].isPrefixOf (s.data.toList.drop k)
theorem two_room {s : ByteArray} {k : Nat} {a b : UInt8} (h : two s k a b = true) : k + 1 < s.size := by
 have e : s.data.toList.length = s.size := Array.length_toList
 have := List.IsPrefix.length_le (List.isPrefixOf_iff_prefix.1 h)
 simp only [List.length_cons, List.length_nil, List.length_drop] at this
 omega

def cEnd (s : ByteArray) (k : Nat) : Int := if Lib.index (s.data.toList.drop k) [42, 47] < 0 then -1 else k + Lib.index (s.data.toList.drop k) [42, 47] + 2
theorem index_room : ∀ (l : List UInt8) {sub : List UInt8}, 0 ≤ Lib.index l sub → (Lib.index l sub).toNat + sub.length ≤ l.length
 |
  [], sub, h => by
  unfold Lib.index at *
  split at h
  ·rename_i h1; have : sub = [] := by simpa using h1
   subst this; simp
  ·omega
 |
  b :: l, sub, h => by
  unfold Lib.index at *
  split at h
  ·rename_i h1
   rw [if_pos h1]
   have := List.IsPrefix.length_le (List.isPrefixOf_iff_prefix.1 h1)
   simpa using this
  ·rename_i h1
   rw [if_neg h1]
   split at h
   ·omega
   ·rename_i h2
    rw [if_neg h2]
    have h3 := Lib.index_ge l sub
    have h4 : ¬ Lib.index l sub = -1 := by simpa using h2
    have := index_room l (sub := sub) (by omega)
    simp only [List.length_cons]
    omega
theorem cEnd_room {s : ByteArray} {k : Nat} (h : 0 ≤ cEnd s k) (hk : k ≤ s.size) : (k : Int) + 2 ≤ cEnd s k ∧ cEnd s k ≤ s.size := by
 unfold cEnd at *
 split at h
 ·omega
 ·rename_i h1
  rw [if_neg h1]
  have := index_room (s.data.toList.drop k) (sub := [42, 47]) (by omega)
  have e : s.data.toList.length = s.size := Array.length_toList
  simp only [List.length_cons, List.length_nil, List.length_drop] at this
  omega
def strip1 (s : ByteArray) (k : Nat) : Option ByteArray :=
 if h : k < s.size then
  if two s k 47 47 = true then some ⟨#[]⟩
  else if two s k 47 42 = true then
   if cEnd s (k + 2) < 0 then none else (strip1 s (max (k + 1) (cEnd s (k + 2)).toNat)).map (⟨#[32]⟩ ++ ·)
  else if s[k].toNat = 34 then (strip1 s (max (k + 1) (tEnd s (k + 1)))).map (s.extract k (tEnd s (k + 1)) ++ ·)
  else (strip1 s (k + 1)).map (s.extract k (k + 1) ++ ·)
 else some ⟨#[]⟩
termination_by s.size - k

def At1 (s : ByteArray) (k : Nat) (out : ByteArray) : Prop := (strip1 s k).map (out ++ ·) = strip1 s 0 ∧ out.size ≤ k
theorem app_assoc (a b : ByteArray) (o : Option ByteArray) : (o.map (b ++ ·)).map (a ++ ·) = o.map ((a ++ b) ++ ·) := by
 rw [Option.map_map]; congr 1; funext x; simp [ByteArray.append_assoc]
theorem At1.comment {s : ByteArray} {k : Nat} {out : ByteArray} (h : At1 s k out) (hk : k < s.size) (h1 : two s k 47 47 = false) (h2 : two s k 47 42 = true) (h3 : ¬ cEnd s (k + 2) < 0) : At1 s (cEnd s (k + 2)).toNat (out ++ ⟨#[32]⟩) := by
 have hr := two_room h2
 have hc := cEnd_room (s := s) (k := k + 2) (by omega) (by omega)
 refine ⟨?_, by rw [ByteArray.size_append]; have := h.2; show out.size + 1 ≤ _; omega⟩
 rw [← h.1, strip1.eq_def s k, dif_pos hk, if_neg (by simp [h1]), if_pos h2, if_neg h3, app_assoc, Nat.max_eq_right (by omega)]
theorem At1.text {s : ByteArray} {k : Nat} {out : ByteArray} (h : At1 s k out) (hk : k < s.size) (h1 : two s k 47 47 = false) (h2 : two s k 47 42 = false) (h3 : s[k].toNat = 34) : At1 s (tEnd s (k + 1)) (out ++ s.extract k (tEnd s (k + 1))) := by
 have hb := tEnd_bounds s (k + 1)
 have hb2 := hb.2 (by omega)
 refine ⟨?_, by rw [ByteArray.size_append, ByteArray.size_extract]; have := h.2; omega⟩
 rw [← h.1, strip1.eq_def s k, dif_pos hk, if_neg (by simp [h1]), if_neg (by simp [h2]), if_pos h3, app_assoc, Nat.max_eq_right (by omega)]
end Go.Proofs.Ytghikfggcnabeaa

/- Tokens of a line: no program. -/
namespace Go.Proofs.Ytghikfggcnabeaa
open Go.RowKit

structure Tok where
 kind : Int
 text : ByteArray
 spaced : Bool
 hidden : List ByteArray
theorem Tok.ext' {a b : Tok} (h1 : a.kind = b.kind) (h2 : a.text = b.text) (h3 : a.spaced = b.spaced) (h4 : a.hidden = b.hidden) : a = b := by
 cases a; cases b; simp_all
instance : DecidableEq Tok := fun a b =>
 if h1 : a.kind = b.kind then if h2 : a.text = b.text then if h3 : a.spaced = b.spaced then if h4 : a.hidden = b.hidden then isTrue (Tok.ext' h1 h2 h3 h4)
  else isFalse fun h => h4 (by rw [h]) else isFalse fun h => h3 (by rw [h]) else isFalse fun h => h2 (by rw [h]) else isFalse fun h => h1 (by rw [h])

def marks1 : List UInt8 := [43, 45, 42, 47, 37, 60, 62, 61, 33, 38, 124, 40, 41, 44, 35, 59, 63, 58, 123, 125, 91, 93, 46]
end Go.Proofs.Ytghikfggcnabeaa

/- Tokens in memory. -/
namespace Go.Proofs.Ytghikfggcnabeaa
open Go.RowKit Go.ChangeShapes Go.WideShapes Go.Deep Go.Joins
section
variable {H : Type} {enc : TypeId × Value → H} {P : Program} {w : World} {base : Nat} {spare : Nat → Bool} {held : Bool}
end

end Go.Proofs.Ytghikfggcnabeaa

/- Rows of structs, element by element: what turns while one element is written. Over any program. -/
namespace Go.Proofs.Ytghikfggcnabeaa
open Go.RowKit

theorem alloc_below' (w : World) (o : Obj) : Below w.heap.size w (w.alloc o) := (Below.refl _ _).alloc (Nat.le_refl _) _
theorem elem_cell {w : World} {b off m i j : Nat} {es : List Value} {v : Value} (h : ElemAt w b off m i es) (hj : j < m) (hv : es[j]? = some v) : w.cell? ⟨b, off + i * m + j, none⟩ = some v := (h.2 j hj).trans hv
theorem elem_cell0 {w : World} {b off m i : Nat} {es : List Value} {v : Value} (h : ElemAt w b off m i es) (hj : 0 < m) (hv : es[0]? = some v) : w.cell? ⟨b, off + i * m, none⟩ = some v := (h.2 0 hj).trans hv

theorem alloc3_blk (w : World) (c0 c1 c2 : Array Value) (t0 t1 t2 : TypeId) :
  (((w.alloc (.cells c0 t0)).alloc (.cells c1 t1)).alloc (.cells c2 t2)).heap[w.heap.size + 1]? = some (.cells c1 t1 (0, 0)) ∧
  (((w.alloc (.cells c0 t0)).alloc (.cells c1 t1)).alloc (.cells c2 t2)).heap[w.heap.size + 1 + 1]? = some (.cells c2 t2 (0, 0)) ∧
  (((w.alloc (.cells c0 t0)).alloc (.cells c1 t1)).alloc (.cells c2 t2)).heap.size = w.heap.size + 1 + 1 + 1 := by
 refine ⟨?_, ?_, ?_⟩
 ·show (((w.heap.push _).push _).push _)[_]? = _
  rw [Array.getElem?_push, if_neg (by simp), Array.getElem?_push, if_pos (by simp)]
 ·show (((w.heap.push _).push _).push _)[_]? = _
  rw [Array.getElem?_push, if_pos (by simp)]
 ·show (((w.heap.push _).push _).push _).size = _
  simp
theorem below3 (w : World) (c0 c1 c2 : Array Value) (t0 t1 t2 : TypeId) : Below w.heap.size w (((w.alloc (.cells c0 t0)).alloc (.cells c1 t1)).alloc (.cells c2 t2)) :=
 (((Below.refl _ _).alloc (Nat.le_refl _) _).alloc (by simp) _).alloc (by simp; omega) _

structure Turned (b lo hi : Nat) (fp : List Nat) (w w' : World) : Prop where
 kept : Kept (b :: fp) w w'
 cells : ∀ o, (o < lo ∨ hi ≤ o) → w'.cell? ⟨b, o, none⟩ = w.cell? ⟨b, o, none⟩
section
variable {b lo hi : Nat} {fp : List Nat} {w w1 w2 : World}
theorem Turned.refl (b lo hi : Nat) (fp : List Nat) (w : World) : Turned b lo hi fp w w := ⟨Kept.refl _ _, fun _ _ => rfl⟩
theorem Turned.set (h : Turned b lo hi fp w w1) {o : Nat} (h1 : lo ≤ o) (h2 : o < hi) (v : Value) : Turned b lo hi fp w (w1.setCell ⟨b, o, none⟩ v) :=
 ⟨h.kept.setCell (p := ⟨b, o, none⟩) (by simp) v, fun o' ho => by
  rw [World.cell?_setCell_other _ _ _ _ (by intro hh; simp only [Addr.mk.injEq] at hh; omega)]
  exact h.cells o' ho⟩
theorem Turned.below (h : Turned b lo hi fp w w1) (hb : b < w.heap.size) (hB : Below w1.heap.size w1 w2) : Turned b lo hi fp w w2 :=
 ⟨h.kept.trans (Kept.of_below hB), fun o ho => (hB.cell (p := ⟨b, o, none⟩) (Nat.lt_of_lt_of_le hb h.kept.size)).trans (h.cells o ho)⟩
theorem Turned.sub (h : Turned b lo hi fp w w1) (hb : b < w.heap.size) (hk : Kept fp w1 w2) (hn : b ∉ fp) : Turned b lo hi fp w w2 :=
 ⟨h.kept.trans (hk.mono fun x hx => by simp [hx]), fun o ho => (World.cell?_of_block (a := ⟨b, o, none⟩) (hk.block b (Nat.lt_of_lt_of_le hb h.kept.size) hn)).trans (h.cells o ho)⟩
theorem Turned.sub' {fp' : List Nat} (h : Turned b lo hi fp w w1) (hb : b < w.heap.size) (hk : Kept fp' w1 w2) (hs : ∀ x ∈ fp', x ∈ fp) (hn : b ∉ fp) : Turned b lo hi fp w w2 :=
 h.sub hb (hk.mono hs) hn
end

theorem nodup_flat {f : Nat → List Nat} : ∀ {ns : List Nat}, (ns.flatMap f).Nodup → (∀ i ∈ ns, (f i).Nodup) ∧ ns.Pairwise (fun i j => ∀ x ∈ f i, x ∉ f j)
 | [], _ => ⟨by simp, List.Pairwise.nil⟩
 |
  n :: ns, h => by
  rw [List.flatMap_cons] at h
  obtain ⟨h1, h2, h3⟩ := List.nodup_append.1 h
  obtain ⟨a, b⟩ := nodup_flat h2
  refine ⟨fun i hi => ?_, List.pairwise_cons.2 ⟨fun j hj x hx hx2 => h3 x hx x (List.mem_flatMap.2 ⟨j, hj, hx2⟩) rfl, b⟩⟩
  rcases List.mem_cons.1 hi with rfl | hi
  ·exact h1
  ·exact a i hi
theorem flat_apart {b n : Nat} {fps : Nat → List Nat} (h : (b :: (List.range n).flatMap fps).Nodup) {i : Nat} (hi : i < n) : b ∉ fps i ∧ ∀ j, j < n → j ≠ i → ∀ x ∈ fps j, x ∉ fps i := by
 obtain ⟨h1, h2⟩ := List.nodup_cons.1 h
 refine ⟨fun hx => h1 (List.mem_flatMap.2 ⟨i, by simpa using hi, hx⟩), fun j hj hne x hx hx2 => ?_⟩
 have hp := (nodup_flat h2).2
 rw [List.pairwise_iff_getElem] at hp
 rcases Nat.lt_or_gt_of_ne hne with hlt | hlt
 ·have := hp j i (by simpa using hj) (by simpa using hi) hlt
  simp only [List.getElem_range] at this
  exact this x hx hx2
 ·have := hp i j (by simpa using hi) (by simpa using hj) hlt
  simp only [List.getElem_range] at this
  exact this x hx2 hx

theorem row_turned {α : Type} {S : Shape α} {w w' : World} {b off n cap : Nat} {l : List α} {fps : Nat → List Nat} (hn : l.length = n) (hc : n ≤ cap) (hm : cap ≤ maxLen) (hb : b < w.heap.size)
  (he : ∀ i, (hi : i < l.length) → ∃ es, ElemAt w b off S.m i es ∧ S.R w es l[i] (fps i)) {i : Nat} (hin : i < n) {d : α} {es' : List Value}
  (hnd : (b :: (List.range n).flatMap fps).Nodup) (hT : Turned b (off + i * S.m) (off + i * S.m + S.m) (fps i) w w')
  (hi' : ElemAt w' b off S.m i es') (hR : S.R w' es' d (fps i)) :
  (sSlice S).R w' [.slice (some ⟨b, off, none⟩) n cap] (l.set i d) (b :: (List.range n).flatMap fps) := by
 have hap := flat_apart hnd hin
 refine row_upd (w := w) hn hc hm (by omega) he (Nat.lt_of_lt_of_le hb hT.kept.size) (fun j k hj hji hk => hT.cells _ ?_) (fun j hj hji x hx => hT.kept.block x ?_ ?_) hi' hR
 ·rcases Nat.lt_or_gt_of_ne hji with h | h
  ·left
   have : (j + 1) * S.m ≤ i * S.m := Nat.mul_le_mul_right _ h
   rw [Nat.succ_mul] at this; omega
  ·right
   have : (i + 1) * S.m ≤ j * S.m := Nat.mul_le_mul_right _ h
   rw [Nat.succ_mul] at this; omega
 ·obtain ⟨es, _, h2⟩ := he j (by omega)
  exact S.lt h2 x hx
 ·intro hx2
  rcases List.mem_cons.1 hx2 with rfl | hx2
  ·exact (flat_apart hnd hj).1 hx
  ·exact hap.2 j hj hji x hx hx2

theorem Own.part {w w' : World} {lo : Nat} {fp fp' : List Nat} (h : Own w lo fp) (hk : Kept fp' w w') (h' : Own w' lo fp') : Own w' lo fp :=
 ⟨h.1, fun b hb => by
  by_cases hx : b ∈ fp'
  ·exact h'.2 b hx
  ·obtain ⟨h1, cur, e, h2⟩ := h.2 b hb
   exact ⟨h1, cur, e, (hk.block b (Array.getElem?_eq_some_iff.1 h2).1 hx).trans h2⟩⟩
theorem Own.lower {w : World} {lo lo' : Nat} {fp : List Nat} (h : Own w lo fp) (hl : lo' ≤ lo) : Own w lo' fp := ⟨h.1, fun b hb => ⟨Nat.le_trans hl (h.2 b hb).1, (h.2 b hb).2⟩⟩
theorem Own.sub {w : World} {lo : Nat} {fp fp' : List Nat} (h : Own w lo fp) (hn : fp'.Nodup) (hs : ∀ x ∈ fp', x ∈ fp) : Own w lo fp' := ⟨hn, fun b hb => h.2 b (hs b hb)⟩
theorem flat_sub {b n : Nat} {fps : Nat → List Nat} {i : Nat} (hi : i < n) : ∀ x ∈ fps i, x ∈ (b :: (List.range n).flatMap fps) := fun x hx => by
 simp only [List.mem_cons, List.mem_flatMap, List.mem_range]; exact .inr ⟨i, hi, hx⟩
theorem Turned.keptAll {b lo hi n : Nat} {fps : Nat → List Nat} {w w' : World} {i : Nat} (h : Turned b lo hi (fps i) w w') (hi' : i < n) : Kept (b :: (List.range n).flatMap fps) w w' :=
 h.kept.mono fun x hx => by
  rcases List.mem_cons.1 hx with rfl | hx
  ·simp
  ·exact flat_sub hi' x hx
theorem ElemAt.set {w : World} {b off m i : Nat} {es : List Value} (h : ElemAt w b off m i es) {j : Nat} (hj : j < m) (v : Value) : ElemAt (w.setCell ⟨b, off + i * m + j, none⟩ v) b off m i (es.set j v) := by
 refine ⟨by simpa using h.1, fun x hx => ?_⟩
 by_cases e : x = j
 ·subst e
  rw [List.getElem?_set_self (by have := h.1; omega)]
  obtain ⟨u, hu⟩ : ∃ u, w.cell? ⟨b, off + i * m + x, none⟩ = some u := ⟨es[x]'(by have := h.1; omega), by rw [h.2 x hx, List.getElem?_eq_getElem]⟩
  exact World.cell?_setCell_same _ _ _ hu
 ·rw [List.getElem?_set_ne (fun h => e h.symm), World.cell?_setCell_other _ _ _ _ (by intro hh; simp only [Addr.mk.injEq] at hh; omega)]
  exact h.2 x hx
structure Wr (b off m j lo : Nat) (fpj fpA : List Nat) (wr W : World) (es : List Value) : Prop where
 t : Turned b (off + j * m) (off + j * m + m) fpj wr W
 e : ElemAt W b off m j es
 o : Own W lo fpA
 hb : b < wr.heap.size
 hA : b ∈ fpA
 hN : b ∉ fpj
section
variable {b off m j lo : Nat} {fpj fpA : List Nat} {wr W W' : World} {es : List Value}
theorem Wr.start (e : ElemAt wr b off m j es) (o : Own wr lo fpA) (hb : b < wr.heap.size) (hA : b ∈ fpA) (hN : b ∉ fpj) : Wr b off m j lo fpj fpA wr wr es := ⟨Turned.refl _ _ _ _ _, e, o, hb, hA, hN⟩
theorem Wr.set (h : Wr b off m j lo fpj fpA wr W es) (i : Nat) (hi : i < m) (v : Value) : Wr b off m j lo fpj fpA wr (W.setCell ⟨b, off + j * m + i, none⟩ v) (es.set i v) :=
 ⟨h.t.set (by omega) (by omega) v, h.e.set hi v, h.o.setCell _ _, h.hb, h.hA, h.hN⟩
theorem Wr.set0 (h : Wr b off m j lo fpj fpA wr W es) (hi : 0 < m) (v : Value) : Wr b off m j lo fpj fpA wr (W.setCell ⟨b, off + j * m, none⟩ v) (es.set 0 v) := h.set 0 hi v
theorem Wr.below (h : Wr b off m j lo fpj fpA wr W es) (hB : Below W.heap.size W W') : Wr b off m j lo fpj fpA wr W' es :=
 ⟨h.t.below h.hb hB, h.e.frame (hB.block b (Nat.lt_of_lt_of_le h.hb h.t.kept.size)), h.o.grow hB, h.hb, h.hA, h.hN⟩
theorem Wr.sub {fp' : List Nat} (h : Wr b off m j lo fpj fpA wr W es) (hk : Kept fp' W W') (ho : Own W' lo fp') (hs : ∀ x ∈ fp', x ∈ fpj) : Wr b off m j lo fpj fpA wr W' es :=
 ⟨h.t.sub' h.hb hk hs h.hN, h.e.frame (hk.block b (Nat.lt_of_lt_of_le h.hb h.t.kept.size) fun hx => h.hN (hs b hx)), h.o.part hk ho, h.hb, h.hA, h.hN⟩
theorem Wr.cell (h : Wr b off m j lo fpj fpA wr W es) (i : Nat) {v : Value} (hi : i < m) (hv : es[i]? = some v) : W.cell? ⟨b, off + j * m + i, none⟩ = some v := elem_cell h.e hi hv
theorem Wr.cell0 (h : Wr b off m j lo fpj fpA wr W es) {v : Value} (hi : 0 < m) (hv : es[0]? = some v) : W.cell? ⟨b, off + j * m, none⟩ = some v := elem_cell0 h.e hi hv
theorem Wr.frozen (h : Wr b off m j lo fpj fpA wr W es) (o : Nat) : W.frozen? ⟨b, o, none⟩ = false := h.o.frozen h.hA o
theorem Shape.setB {α : Type} (S : Shape α) {cs : List Value} {d : α} {fp : List Nat} {b : Nat} (h : S.R W cs d fp) (hn : b ∉ fp) (o : Nat) (v : Value) : S.R (W.setCell ⟨b, o, none⟩ v) cs d fp :=
 S.kept (fp := [b]) h (fun x hx he => by rw [List.mem_singleton] at he; exact hn (he ▸ hx)) ((Kept.refl _ _).setCell (p := ⟨b, o, none⟩) (by simp) v)
end

def mkAll {α : Type} (f : Int → α → α) (c : α → Nat) : Int → List α → List α
 | _, [] => []
 | k, x :: l => f k x :: mkAll f c (k + c x) l
def cntAll {α : Type} (c : α → Nat) (l : List α) : Nat := (l.map c).sum
section
variable {α : Type} {f : Int → α → α} {c : α → Nat}
theorem mkAll_len : ∀ (k : Int) (l : List α), (mkAll f c k l).length = l.length
 | _, [] => rfl
 | k, x :: l => by simp [mkAll, mkAll_len (k + c x) l]
theorem cntAll_take {l : List α} {j : Nat} (h : j < l.length) : cntAll c (l.take (j + 1)) = cntAll c (l.take j) + c l[j] := by
 unfold cntAll
 rw [List.take_succ_eq_append_getElem h, List.map_append, List.sum_append]; simp
theorem cntAll_le (l : List α) (j : Nat) : cntAll c (l.take j) ≤ cntAll c l := by
 have := congrArg (cntAll c) (List.take_append_drop j l)
 unfold cntAll at *
 rw [List.map_append, List.sum_append] at this
 omega
theorem mkAll_get : ∀ {l : List α} (k : Int) (j : Nat) (h : j < l.length), (mkAll f c k l)[j]'(by rw [mkAll_len]; exact h) = f (k + cntAll c (l.take j)) l[j]
 | [], _, _, h => by simp at h
 | x :: l, k, 0, _ => by simp [mkAll, cntAll]
 |
  x :: l, k, j + 1, h => by
  have ih := mkAll_get (l := l) (k + c x) j (by simpa using h)
  have e : k + (c x : Int) + (cntAll c (l.take j) : Int) = k + (cntAll c ((x :: l).take (j + 1)) : Int) := by
   simp only [cntAll, List.take_succ_cons, List.map_cons, List.sum_cons]; omega
  rw [e] at ih
  exact ih
def MkUpto (f : Int → α → α) (c : α → Nat) (k : Int) (l : List α) (j : Nat) (L : List α) : Prop :=
 L.length = l.length ∧ ∀ i, (h : i < L.length) → (h' : i < l.length) → L[i] = if i < j then f (k + cntAll c (l.take i)) l[i] else l[i]
theorem MkUpto.zero (k : Int) (l : List α) : MkUpto f c k l 0 l := ⟨rfl, fun i h h' => by rw [if_neg (by omega)]⟩
theorem MkUpto.len {k : Int} {l L : List α} {j : Nat} (h : MkUpto f c k l j L) : L.length = l.length := h.1
theorem MkUpto.at {k : Int} {l L : List α} {j : Nat} (h : MkUpto f c k l j L) (hj : j < l.length) : L[j]'(by rw [h.1]; exact hj) = l[j] := by
 rw [h.2 j (by rw [h.1]; exact hj) hj, if_neg (by omega)]
theorem MkUpto.succ {k : Int} {l L : List α} {j : Nat} (h : MkUpto f c k l j L) (hj : j < l.length) : MkUpto f c k l (j + 1) (L.set j (f (k + cntAll c (l.take j)) l[j])) := by
 refine ⟨by rw [List.length_set]; exact h.1, fun i h1 h2 => ?_⟩
 by_cases e : i = j
 ·subst e; rw [List.getElem_set_self, if_pos (by omega)]
 ·rw [List.getElem_set_ne (fun h => e h.symm), h.2 i (by simpa using h1) h2]
  by_cases hlt : i < j
  ·rw [if_pos hlt, if_pos (by omega)]
  ·rw [if_neg hlt, if_neg (by omega)]
theorem MkUpto.done {k : Int} {l L : List α} {j : Nat} (h : MkUpto f c k l j L) (hj : l.length ≤ j) : L = mkAll f c k l := by
 refine List.ext_getElem (by rw [mkAll_len, h.1]) fun i h1 h2 => ?_
 have hl : i < l.length := by rw [← h.1]; exact h1
 rw [h.2 i h1 hl, if_pos (by omega), mkAll_get k i hl]
end

end Go.Proofs.Ytghikfggcnabeaa

/- A row of structs that a call makes and fills, element by element. Over any program. -/
namespace Go.Proofs.Ytghikfggcnabeaa
open Go.RowKit
def putAll (w : World) (b : Nat) : Nat → List Value → World
 | _, [] => w
 | o, c :: cs => putAll (w.setCell ⟨b, o, none⟩ c) b (o + 1) cs
def setFrom : List Value → Nat → List Value → List Value
 | xs, _, [] => xs
 | xs, o, c :: cs => setFrom (xs.set o c) (o + 1) cs
theorem setFrom_app : ∀ (cs A Z R : List Value), Z.length = cs.length → setFrom (A ++ (Z ++ R)) A.length cs = A ++ (cs ++ R)
 |
  [], A, Z, R, h => by
  have : Z = [] := by simpa using h
  subst this; simp [setFrom]
 | c :: cs, A, [], R, h => by simp at h
 |
  c :: cs, A, z :: Z, R, h => by
  unfold setFrom
  have e : (A ++ (z :: Z ++ R)).set A.length c = (A ++ [c]) ++ (Z ++ R) := by simp
  rw [e]
  have e2 : A.length + 1 = (A ++ [c]).length := by simp
  rw [e2, setFrom_app cs (A ++ [c]) Z R (by simpa using h)]
  simp
theorem putAll_row {base e size n cap g : Nat} : ∀ (cs : List Value) (w : World) (xs : List Value) (o : Nat), w.ownsRow base e size (.slice (some ⟨g, 0, none⟩) n cap) n xs →
  (putAll w g o cs).ownsRow base e size (.slice (some ⟨g, 0, none⟩) n cap) n (setFrom xs o cs)
 | [], _, _, _, h => h
 | c :: cs, w, xs, o, h => putAll_row cs _ _ (o + 1) (h.stored o c).1
theorem putAll_below {B g : Nat} {a : World} (hg : B ≤ g) : ∀ (cs : List Value) (w : World) (o : Nat), Below B a w → Below B a (putAll w g o cs)
 | [], _, _, h => h
 | c :: cs, w, o, h => putAll_below hg cs _ (o + 1) (h.setCell (p := ⟨g, o, none⟩) hg c)
theorem putAll_kept {g : Nat} : ∀ (cs : List Value) (w : World) (o : Nat), Kept [g] w (putAll w g o cs)
 | [], w, _ => Kept.refl _ w
 | c :: cs, w, o => ((Kept.refl [g] w).setCell (p := ⟨g, o, none⟩) (by simp) c).trans (putAll_kept cs _ (o + 1))

structure Filling {α : Type} (S : Shape α) (g : Nat) (e : TypeId) (l : List α) (k : Nat) (w : World) (L : List (Elem α)) (R : List Value) : Prop where
 row : w.ownsRow g e S.m (.slice (some ⟨g, 0, none⟩) l.length l.length) l.length (L.flatMap (·.cells) ++ R)
 dat : L.map (·.d) = l.take k
 len : ∀ x ∈ L, x.cells.length = S.m
 el : ∀ x ∈ L, S.R w x.cells x.d x.fp
 own : Own w (g + 1) (L.flatMap (·.fp))
section
variable {α : Type} {S : Shape α} {g e : Nat} {l : List α} {k : Nat} {w w' : World} {L : List (Elem α)} {R : List Value}
theorem Filling.start {xs : List Value} (h : w.ownsRow g e S.m (.slice (some ⟨g, 0, none⟩) l.length l.length) l.length xs) : Filling S g e l 0 w [] xs :=
 ⟨by simpa using h, by simp, by simp, by simp, Own.nil _ _⟩
theorem Filling.count (h : Filling S g e l k w L R) (hk : k ≤ l.length) : L.length = k := by
 have := congrArg List.length h.dat
 simpa [hk] using this
theorem Filling.cells (h : Filling S g e l k w L R) (hk : k ≤ l.length) : (L.flatMap (·.cells)).length = k * S.m := by rw [flatMap_len h.len, h.count hk]
theorem Filling.rest (h : Filling S g e l k w L R) (hk : k ≤ l.length) : R.length = (l.length - k) * S.m := by
 have h1 := h.row.1
 rw [List.length_append, h.cells hk] at h1
 have : (l.length - k) * S.m = l.length * S.m - k * S.m := Nat.sub_mul _ _ _
 omega
theorem Filling.lt (h : Filling S g e l k w L R) : g < w.heap.size := (h.row.lt g rfl).2
theorem Filling.below (h : Filling S g e l k w L R) (hb : Below w.heap.size w w') : Filling S g e l k w' L R where
 row := by
  refine ⟨h.row.1, ?_⟩
  rcases h.row.2 with h0 | ⟨g', cap, cur, h1, h2, h3, h4⟩
  ·exact .inl h0
  ·exact .inr ⟨g', cap, cur, h1, h2, (hb.block g' (Array.getElem?_eq_some_iff.1 h3).1).trans h3, h4⟩
 dat := h.dat
 len := h.len
 el := fun x hx => S.below (h.el x hx) hb
 own := h.own.grow hb
theorem Filling.cell (h : Filling S g e l k w L R) (hk : k < l.length) {j : Nat} (hj : j < S.m) : ∃ u, w.cell? ⟨g, k * S.m + j, none⟩ = some u := by
 have h1 : (k + 1) * S.m ≤ l.length * S.m := Nat.mul_le_mul_right _ hk
 rw [Nat.succ_mul] at h1
 rw [h.row.cellAt (k * S.m + j) (by omega), List.getElem?_append_right (by rw [h.cells (by omega)]; omega), h.cells (by omega)]
 have h2 := h.rest (by omega)
 have h3 : (l.length - k) * S.m = l.length * S.m - k * S.m := Nat.sub_mul _ _ _
 exact ⟨R[k * S.m + j - k * S.m]'(by omega), List.getElem?_eq_getElem _⟩
theorem Filling.frozen (h : Filling S g e l k w L R) (o : Nat) : w.frozen? ⟨g, o, none⟩ = false := h.row.frozenAt o
theorem Filling.next {cs : List Value} {fp : List Nat} {w0 : World} (h0 : Filling S g e l k w0 L R) (hk : k < l.length) (hb : Below w0.heap.size w0 w) (hlen : cs.length = S.m) (hR : S.R w cs l[k] fp) (ho : Own w w0.heap.size fp) :
  ∃ R', Filling S g e l (k + 1) (putAll w g (k * S.m) cs) (L ++ [⟨cs, l[k], fp⟩]) R' := by
 have h := h0.below hb
 have hg0 := h0.lt
 have hap : ∀ x ∈ L, ∀ b ∈ x.fp, b ∈ L.flatMap (·.fp) := fun x hx b hb' => List.mem_flatMap.2 ⟨x, hx, hb'⟩
 have hn : ∀ b ∈ L.flatMap (·.fp), b ∉ [g] := fun b hb' => by have := (h.own.2 b hb').1; simp; omega
 have hn2 : ∀ b ∈ fp, b ∉ [g] := fun b hb' => by have := (ho.2 b hb').1; simp; omega
 have hK := putAll_kept (g := g) cs w (k * S.m)
 have hr := h.rest (by omega)
 have hsp : (l.length - k) * S.m = S.m + (l.length - (k + 1)) * S.m := by rw [show l.length - k = (l.length - (k + 1)) + 1 by omega, Nat.succ_mul]; omega
 refine ⟨R.drop S.m, ⟨?_, ?_, fun x hx => ?_, fun x hx => ?_, ?_⟩⟩
 ·have := putAll_row cs w _ (k * S.m) h.row
  have e1 : L.flatMap (·.cells) ++ R = L.flatMap (·.cells) ++ (R.take S.m ++ R.drop S.m) := by rw [List.take_append_drop]
  rw [e1, ← h.cells (by omega), setFrom_app cs _ (R.take S.m) (R.drop S.m) (by rw [List.length_take, hlen]; omega)] at this
  rw [List.flatMap_append, List.flatMap_cons, List.flatMap_nil, List.append_nil, List.append_assoc, ← h.cells (by omega)]
  exact this
 ·rw [List.map_append, h.dat, List.take_succ_eq_append_getElem hk]; rfl
 ·rcases List.mem_append.1 hx with hx | hx
  ·exact h.len x hx
  ·obtain rfl := List.mem_singleton.1 hx; exact hlen
 ·rcases List.mem_append.1 hx with hx | hx
  ·exact S.kept (h.el x hx) (fun b hb' => hn b (hap x hx b hb')) hK
  ·obtain rfl := List.mem_singleton.1 hx
   exact S.kept hR hn2 hK
 ·rw [List.flatMap_append, List.flatMap_cons, List.flatMap_nil, List.append_nil]
  refine Own.app (h.own.kept hn hK) ((Own.lower ho (by omega)).kept hn2 hK) fun b hb1 hb2 => ?_
  have h1 := (ho.2 b hb2).1
  have h2 := h0.own.lt b hb1
  omega
theorem Filling.done (h : Filling S g e l k w L R) (hk : l.length = k) : ∃ fp, (sSlice S).R w [.slice (some ⟨g, 0, none⟩) l.length l.length] l fp ∧ Own w g fp := by
 have hc := h.count (by omega)
 have hr : R = [] := by
  have := h.rest (by omega)
  rw [hk, Nat.sub_self, Nat.zero_mul] at this
  exact List.length_eq_zero_iff.1 this
 have hd := h.dat
 rw [List.take_of_length_le (by omega)] at hd
 have hrow := h.row
 rw [hr, List.append_nil] at hrow
 have hL : L.length = l.length := by omega
 rw [← hL] at hrow
 obtain ⟨fp, h1, h2, h3⟩ := slice_of_row hrow (fun x hx => ⟨h.len x hx, h.el x hx⟩)
 rw [hd, hL] at h1
 exact ⟨fp, h1, h3 (Own.lower h.own (by omega)) (fun g' hg' hx => by
  simp only [Value.ownBlock, Option.some.injEq] at hg'
  have := (h.own.2 g' hx).1
  omega)⟩
end

theorem wsum_succ {α : Type} (f : α → Nat) (l : List α) (k : Nat) (h : k < l.length) : ((l.take (k + 1)).map f).sum = ((l.take k).map f).sum + f l[k] := by
 rw [List.take_succ_eq_append_getElem h]; simp only [List.map_append, List.sum_append, List.map_cons, List.map_nil, List.sum_cons, List.sum_nil, Nat.add_zero]
theorem wsum_le {α : Type} (f : α → Nat) (l : List α) (k : Nat) : ((l.take k).map f).sum ≤ (l.map f).sum := by
 have := congrArg (fun l : List α => (l.map f).sum) (List.take_append_drop k l)
 simp only [List.map_append, List.sum_append] at this
 omega
theorem wsum_at {α : Type} (f : α → Nat) (l : List α) (k : Nat) (h : k < l.length) : f l[k] ≤ (l.map f).sum := by
 have h1 := wsum_succ f l k h
 have h2 := wsum_le f l (k + 1)
 omega

end Go.Proofs.Ytghikfggcnabeaa

/- What the made texts of structs lean on. -/
namespace Go.Proofs.Ytghikfggcnabeaa
open Go.RowKit

def MadeC {α : Type} (S : Shape α) (d : α) (w : World) (e : Ending) (w' : World) : Prop :=
 ∃ cs fp, e = .returned (.agg cs.toArray) ∧ S.R w' cs d fp ∧ Own w' w.heap.size fp ∧ Below w.heap.size w w'
end Go.Proofs.Ytghikfggcnabeaa
