/- Copies of slices of strings. -/
import Derived.Test.YtigbaeokccknaaaStr
import Derived.OwnWalk
namespace Go.Proofs.Ytigbaeokccknaaa
open Go.RowKit

/-- What a slice type's elements are. -/
def TI (P : Program) (t e : TypeId) (z : Value) (size bytes : Nat) : Prop :=
  P.underlying t = some (.slice e) ∧ (P.info? e).map (fun i => (i.zero, i.size, i.bytes)) = some (some z, size, bytes)

theorem ti27 : TI Try.prog 23 9 (.string ⟨#[]⟩) 1 16 := ⟨by kernel_rfl, by kernel_rfl⟩

theorem wp_make_full {P : Program} {t e : TypeId} {z : Value} {size bytes : Nat} (ti : TI P t e z size bytes) (w : World) {ops : Array Oper} {rest : List Oper} {o : Oper} {a : Act} {Q : Exit → Act → World → Prop}
    (hg : o.guard = none) (l c : Operand) (hop : o.op = Op.makeSlice t l c) (base n : Nat)
    (hl : a.eval l = .int .i64 n) (hc : a.eval c = .int .i64 n) (b2 : bytes * n ≤ 281474976710656) (b3 : n ≤ maxLen) (b4 : base ≤ w.heap.size)
    (hK : ∀ w', w'.ownsRow base e size (.slice (some ⟨w.heap.size, 0, none⟩) n n) n (madeCells z.cells (n * size)).toList → w.grownBy w' none → wpList P ops Q rest (a.put o.dst (.slice (some ⟨w.heap.size, 0, none⟩) n n)) w') :
    wpList P ops Q (o :: rest) a w := by
  obtain ⟨i, hi, hz0, hz1, hz2⟩ := info_parts ti.2
  exact wpList_make_full w hg l c t hop base e i z size ti.1 hi hz0 hz1 .i64 .i64 n n n hl hc rfl rfl (by rw [hz2]; exact b2) b3 b4 hK

/-- A row of one-cell values of the call's own, as a slice. -/
theorem flat_of_own {α : Type} {enc : α → Value} {ok : α → Prop} {w : World} {base e g n cap : Nat} {l : List α} (h : w.ownsRow base e 1 (.slice (some ⟨g, 0, none⟩) n cap) n (l.map enc)) (hs : ∀ i, (hi : i < l.length) → ok l[i]) :
    ∃ fp, (sSlice (sFlat enc ok)).R w [.slice (some ⟨g, 0, none⟩) n cap] l fp ∧ Own w base fp := by
  have hn : l.length = n := by have := h.1; simpa using this
  subst hn
  rcases h.2 with ⟨h', _⟩ | ⟨g', cap', cur, h', hb, hg, hnc, hcm, hcs, htake⟩
  · simp at h'
  simp only [Value.slice.injEq, Option.some.injEq, Addr.mk.injEq, and_true, true_and] at h'
  obtain ⟨rfl, rfl⟩ := h'
  by_cases h0 : l.length = 0
  · exact ⟨[], ⟨_, _, rfl, hnc, hcm, .inl ⟨by simpa using h0, rfl⟩⟩, Own.nil _ _⟩
  · refine ⟨g :: (List.range l.length).flatMap fun _ => [], ⟨_, _, rfl, hnc, hcm, .inr ⟨by omega, g, 0, fun _ => [], rfl, rfl, (h.lt g rfl).2, fun i hi => ⟨[enc l[i]], ⟨rfl, fun j hj => ?_⟩, rfl, hs i hi, rfl⟩⟩⟩, ?_⟩
    · simp [sFlat] at hj
      subst hj
      have := h.cellAt i (by omega)
      simp only [List.getElem?_map, List.getElem?_eq_getElem hi, Option.map_some] at this
      simpa [sFlat] using this
    · have e1 : (List.range l.length).flatMap (fun _ => ([] : List Nat)) = [] := by simp
      rw [e1]
      exact ⟨by simp, by simp; exact ⟨hb, _, _, hg⟩⟩

def mix (l : List ByteArray) (k : Nat) : List Value := ((l.take k).map Value.string) ++ List.replicate (l.length - k) (.string ⟨#[]⟩)
theorem mix_zero (l : List ByteArray) : (madeCells (Value.string ⟨#[]⟩).cells (l.length * 1)).toList = mix l 0 := by
  simp [mix, Value.cells, toList_madeCells_one]
theorem mix_end (l : List ByteArray) {k : Nat} (h : l.length ≤ k) : mix l k = l.map .string := by
  simp [mix, List.take_of_length_le h, Nat.sub_eq_zero_of_le h]
theorem mix_get (l : List ByteArray) (k j : Nat) (hk : k ≤ l.length) : (mix l k)[j]? = if h : j < l.length then (if j < k then some (.string l[j]) else some (.string ⟨#[]⟩)) else none := by
  simp only [mix, List.getElem?_append, List.length_map, List.length_take, List.getElem?_map, List.getElem?_take, List.getElem?_replicate]
  by_cases h1 : j < k
  · rw [if_pos (by omega), if_pos h1, dif_pos (by omega), if_pos h1, List.getElem?_eq_getElem (by omega)]; rfl
  · rw [if_neg (by omega)]
    by_cases h2 : j < l.length
    · rw [if_pos (by omega), dif_pos h2, if_neg h1]
    · rw [if_neg (by omega), dif_neg h2]
theorem mix_set (l : List ByteArray) (k : Nat) (h : k < l.length) : (mix l k).set k (.string l[k]) = mix l (k + 1) := by
  apply List.ext_getElem?
  intro j
  rw [List.getElem?_set, mix_get l k j (by omega), mix_get l (k + 1) j (by omega)]
  have hl : (mix l k).length = l.length := by simp [mix]; omega
  by_cases e : k = j
  · subst e
    rw [if_pos rfl, if_pos (by omega), dif_pos h, if_pos (by omega)]
  · rw [if_neg e]
    by_cases h2 : j < l.length
    · rw [dif_pos h2, dif_pos h2]
      by_cases h3 : j < k
      · rw [if_pos h3, if_pos (by omega)]
      · rw [if_neg h3, if_neg (by omega)]
    · rw [dif_neg h2, dif_neg h2]
theorem mix_at (l : List ByteArray) (k : Nat) (h : k < l.length) : (mix l k)[k]? = some (.string ⟨#[]⟩) := by
  simp only [mix, List.getElem?_append, List.length_map, List.length_take, List.getElem?_replicate]
  rw [if_neg (by omega), if_pos (by omega)]

def Made {α : Type} (S : Shape α) (d : α) (w : World) (e : Ending) (w' : World) : Prop :=
  ∃ v fp, e = .returned v ∧ S.R w' [v] d fp ∧ Own w' w.heap.size fp ∧ Below w.heap.size w w'

set_option maxHeartbeats 400000 in
theorem toStringS (v : Value) (l : List ByteArray) (fp : List Nat) (w : World) (hW : wtStringS l ≤ 1048576) (H : (sSlice sStr).R w [v] l fp) :
    Calls Try.prog 58 #[v] w (Made (sSlice sStr) l w) := by
  have hB : l.length ≤ 1048576 := by unfold wtStringS at hW; omega
  obtain ⟨a, cap, rfl, hc, hm, hcell, hsz⟩ := open_strs H
  have hz := hsz
  unfold maxLen at hm hz
  go_enter Try.func58, Try.ntmps58
  go_wp2_with (at_make; refine wp_make_full ti27 _ rfl _ _ rfl w.heap.size l.length rfl rfl (by omega) (by unfold maxLen; omega) (Nat.le_refl _) ?_; intro w1 hown hgrow)
  rw [mix_zero] at hown
  have hbel := (Below.refl w.heap.size w).grown hgrow (Nat.le_refl _) (by simp)
  clear hgrow
  go_loopw [4] (fun i wr => ∃ k : Nat, k ≤ l.length ∧ i = .int .i64 k ∧ wr.ownsRow w.heap.size 9 1 (.slice (some ⟨w.heap.size, 0, none⟩) l.length l.length) l.length (mix l k) ∧ Below w.heap.size w wr) (fun i _ => l.length - (intOf i).toNat)
  case atStart => exact ⟨0, by omega, rfl, hown, hbel⟩
  case round =>
    obtain ⟨k, hk, rfl, ho, hbl⟩ := hrel
    by_cases hlt : k < l.length
    · obtain ⟨b, off, rfl, hb, _, hc2⟩ := hcell (by omega)
      have hck := (hbl.cell (p := ⟨b, off + k, none⟩) hb).trans (hc2 k hlt)
      have hdk := (ho.cellAt k (by omega)).trans (mix_at l k hlt)
      have hfk := ho.frozenAt k
      have HS := Lib.hid (ho.stored k (.string l[k]))
      rw [mix_set l k hlt] at HS
      clear hc2 hcell hown
      go_wp2
      go_roundw
      case rel => exact ⟨k + 1, by omega, by go_num, HS.out.1, hbl.setCell (p := ⟨w.heap.size, k, none⟩) (Nat.le_refl _) _⟩
      case measure => simp [intOf]; omega
    · rw [mix_end l (by omega)] at ho
      obtain ⟨fp', h1, h2⟩ := flat_of_own (ok := okStr) ho hsz
      go_wp2
      go_ret
      exact ⟨_, fp', rfl, h1, h2, hbl⟩

theorem grown_trans {a b c : World} {r : Option Nat} (h : a.grownBy b r) (k : b.grownBy c r) : a.grownBy c r :=
  ⟨k.os.trans h.os, k.tape.trans h.tape, k.output.trans h.output, Nat.le_trans h.size k.size, fun i hi hn => (k.block i (Nat.lt_of_lt_of_le hi h.size) hn).trans (h.block i hi hn)⟩

/-- Rows of different types lie in different blocks. -/
theorem own_ne {w : World} {b1 b2 e1 e2 s1 s2 n1 n2 : Nat} {v1 v2 : Value} {xs1 xs2 : List Value} (h1 : w.ownsRow b1 e1 s1 v1 n1 xs1) (h2 : w.ownsRow b2 e2 s2 v2 n2 xs2) (he : e1 ≠ e2) : v1.ownBlock = none ∨ v1.ownBlock ≠ v2.ownBlock := by
  rcases h1.2 with ⟨rfl, _⟩ | ⟨g, cap, cur, rfl, _, hg, _⟩
  · exact .inl rfl
  · rcases h2.2 with ⟨rfl, _⟩ | ⟨g', cap', cur', rfl, _, hg', _⟩
    · right; simp [Value.ownBlock]
    · right
      simp only [Value.ownBlock, ne_eq, Option.some.injEq]
      rintro rfl
      rw [hg] at hg'
      simp at hg'
      exact he hg'.2

/-- append of one element of one cell, out of the literal's own block. -/
theorem wp_append_one {P : Program} {t e : TypeId} {z : Value} {bytes : Nat} (ti : TI P t e z 1 bytes) (hzs : z.cells.size = 1) (w0 : World) (x : Value) (hx1 : x.oneCell' = true) {ops : Array Oper} {rest : List Oper} {o : Oper} {a : Act} {Q : Exit → Act → World → Prop}
    (hg : o.guard = none) (s y : Operand) (ho : o.op = .call { callee := .builtin .append, args := #[s, y], argTypes := #[t, t] })
    (base : Nat) (v : Value) (n : Nat) (xs : List Value) (hs : a.eval s = v) (hown : w0.ownsRow base e 1 v n xs)
    (hy : a.eval y = .slice (some ⟨w0.heap.size, 0, none⟩) 1 1)
    (h63 : n + 1 ≤ maxLen) (hbytes : (n + 1) * bytes ≤ 140737488355328) (hbase : base ≤ w0.heap.size)
    (h : ∀ v' w', w'.ownsRow base e 1 v' (n + 1) (xs ++ [x]) → w0.grownBy w' v.ownBlock → wpList P ops Q rest (a.put o.dst v') w') : wpList P ops Q (o :: rest) a (w0.alloc (.cells #[x] e)) := by
  obtain ⟨i, hi, hz0, hz1, hz2⟩ := info_parts ti.2
  refine wpList_append_own _ hg s y t ho base e i z 1 bytes ti.1 hi hz0 hz1 hz2 hzs (by decide) v n xs hs (hown.alloc _) ⟨w0.heap.size, 0, none⟩ 1 1 [x] hy rfl ?_ (by simp [hx1]) h63 hbytes (by simp; omega) fun v' w' a b _ => h v' w' a (grown_trans (World.grownBy_alloc _ _ _) b)
  intro j u hj
  have hj' : j < 1 := by have := (List.getElem?_eq_some_iff.1 hj).1; simpa using this
  obtain rfl : j = 0 := by omega
  simp at hj
  subst hj
  exact World.cell?_alloc_at _ _ _ _ rfl

theorem own_flat {α : Type} {enc : α → Value} {ok : α → Prop} {w : World} {base e n : Nat} {v : Value} {l : List α} (h : w.ownsRow base e 1 v n (l.map enc)) (hs : ∀ i, (hi : i < l.length) → ok l[i]) :
    ∃ fp, (sSlice (sFlat enc ok)).R w [v] l fp ∧ Own w base fp ∧ ∀ b ∈ fp, v.ownBlock = some b := by
  have hn : l.length = n := by have := h.1; simpa using this
  rcases h.2 with ⟨rfl, h0⟩ | ⟨g, cap, cur, rfl, hb, hg, hnc, hcm, hcs, htake⟩
  · obtain rfl : l = [] := by simpa using hn.trans h0
    exact ⟨[], ⟨none, 0, rfl, by simp, by simp, .inl ⟨rfl, rfl⟩⟩, Own.nil _ _, by simp⟩
  · obtain ⟨fp, h1, h2⟩ := flat_of_own (ok := ok) h hs
    refine ⟨fp, h1, h2, ?_⟩
    obtain ⟨a, cap', hv, _, _, h3⟩ := h1
    rcases h3 with ⟨_, rfl⟩ | ⟨_, b, off, fps, rfl, rfl, _, he⟩
    · simp
    · simp only [List.cons.injEq, Value.slice.injEq, Option.some.injEq, Addr.mk.injEq, and_true] at hv
      obtain ⟨⟨rfl, _⟩, _⟩ := hv
      intro x hx
      rcases List.mem_cons.1 hx with rfl | hx
      · rfl
      · exfalso
        obtain ⟨i, hi, hx⟩ := List.mem_flatMap.1 hx
        obtain ⟨es, _, _, _, h4⟩ := he i (by simpa using hi)
        rw [h4] at hx
        simp at hx

theorem slice_empty {α : Type} (S : Shape α) (w : World) (a : Option Addr) (cap : Nat) (h : cap ≤ maxLen) : (sSlice S).R w [.slice a 0 cap] [] [] :=
  ⟨a, cap, rfl, by simp, h, .inl ⟨rfl, rfl⟩⟩

theorem Own.app {w : World} {lo : Nat} {fp1 fp2 : List Nat} (h1 : Own w lo fp1) (h2 : Own w lo fp2) (hd : ∀ b ∈ fp1, b ∉ fp2) : Own w lo (fp1 ++ fp2) :=
  ⟨List.nodup_append.2 ⟨h1.1, h2.1, fun a ha b hb e => hd a ha (e ▸ hb)⟩, fun b hb => (List.mem_append.1 hb).elim (h1.2 b) (h2.2 b)⟩

end Go.Proofs.Ytigbaeokccknaaa
