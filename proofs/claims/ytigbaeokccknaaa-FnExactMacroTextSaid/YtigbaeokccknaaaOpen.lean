/- Arguments, opened: what can be read as data of a type reads as our shape. -/
import Derived.Test.YtigbaeokccknaaaShape
import Derived.Deep.Slices
namespace Go.Proofs.Ytigbaeokccknaaa
open Go.ChangeShapes Go.WideShapes Go.RowKit

section
variable {H : Type} {enc : TypeId × Value → H} {P : Program} {w : World} {base : Nat} {spare : Nat → Bool} {held : Bool}

/-- Whatever reads as data of type t reads as S. -/
def Opens (enc : TypeId × Value → H) (P : Program) (w : World) (base : Nat) (spare : Nat → Bool) (held : Bool) (t : TypeId) {α : Type} (S : Shape α) : Prop :=
  ∀ fuel cs x, DataW.trod enc P w base spare held fuel t cs = some x → ∃ d fp, S.R w cs d fp

theorem opens_str {t : TypeId} (ht : P.underlying t = some .string) : Opens enc P w base spare held t sStr := by
  intro fuel cs x h
  obtain ⟨s, rfl, _, hs⟩ := DataW.trod_string ht h
  exact ⟨s, [], rfl, hs, rfl⟩

theorem opens_bool {t : TypeId} (ht : P.underlying t = some .bool) : Opens enc P w base spare held t sBool := by
  intro fuel cs x h
  obtain ⟨b, rfl, _⟩ := DataW.trod_bool ht h
  exact ⟨b, [], rfl, trivial, rfl⟩

theorem opens_int {t : TypeId} (ht : P.underlying t = some (.int .i64)) : Opens enc P w base spare held t sInt := by
  intro fuel cs x h
  obtain ⟨n, rfl, _, hw⟩ := DataW.trod_int ht h
  have : -9223372036854775808 ≤ n ∧ n ≤ 9223372036854775807 := by simpa [Lit.wf, IntKind.min, IntKind.max, IntKind.signed, IntKind.bits] using hw
  exact ⟨n, [], rfl, this, rfl⟩

theorem opens_byte {t : TypeId} (ht : P.underlying t = some (.int .u8)) : Opens enc P w base spare held t sByte := by
  intro fuel cs x h
  obtain ⟨n, rfl, _, hw⟩ := DataW.trod_int ht h
  have : 0 ≤ n ∧ n ≤ 255 := by simpa [Lit.wf, IntKind.min, IntKind.max, IntKind.signed, IntKind.bits] using hw
  refine ⟨UInt8.ofNat n.toNat, [], ?_, trivial, rfl⟩
  show [Value.int .u8 n] = [Value.int .u8 ((UInt8.ofNat n.toNat).toNat : Int)]
  rw [UInt8.toNat_ofNat_of_lt' (by simp [UInt8.size]; omega)]
  congr 2; omega

theorem addr_add (b off n : Nat) : Addr.add ⟨b, off, none⟩ n = ⟨b, off + n, none⟩ := by
  unfold Addr.add; split
  · rename_i h; subst h; rfl
  · rfl

theorem opens_slice {t e : TypeId} {α : Type} {S : Shape α} (ht : P.underlying t = some (.slice e)) (hm : P.cellsOf e = S.m) (h0 : 0 < S.m) (he : Opens enc P w base spare held e S) : Opens enc P w base spare held t (sSlice S) := by
  intro fuel cs x h
  rcases DataW.trod_slice ht h with ⟨rfl, _⟩ | ⟨a, len, cap, elems, rest, n, _, rfl, _, hb, hl, hc, hlen, hel, _, _⟩
  · exact ⟨[], [], none, 0, rfl, by simp, by simp, .inl ⟨rfl, rfl⟩⟩
  · have each : ∀ i, i < len → ∃ es d fp, (es.length = S.m ∧ ∀ j, j < S.m → w.cell? (a.add (i * S.m + j)) = es[j]?) ∧ S.R w es d fp := by
      intro i hi
      have h1 := hel i hi
      rw [List.getElem?_eq_getElem (by omega), Option.bind_eq_some_iff] at h1
      obtain ⟨es, h2, h3⟩ := h1
      rw [hm] at h2
      obtain ⟨_, h4, h5⟩ := World.cells?_some h2
      obtain ⟨d, fp, h6⟩ := he _ _ _ h3
      refine ⟨es, d, fp, ⟨h4, fun j hj => ?_⟩, h6⟩
      rw [← h5 j hj, Go.Deep.add_add]
    by_cases hz : len = 0
    · subst hz
      exact ⟨[], [], some a, cap, rfl, hl, hc, .inl ⟨rfl, rfl⟩⟩
    · have hsp : a.spot = none := by
        obtain ⟨es, d, fp, ⟨h1, h2⟩, _⟩ := each 0 (by omega)
        have h3 := h2 0 h0
        rw [List.getElem?_eq_getElem (by omega)] at h3
        have e0 : a.add (0 * S.m + 0) = a := by simp [Addr.add]
        rw [e0] at h3
        unfold World.cell? at h3
        split at h3
        · split at h3
          · simp at h3
          · rename_i hh; simpa using hh
        · simp at h3
      obtain ⟨b, off, sp⟩ := a
      simp at hsp
      subst hsp
      have hblk : b < w.heap.size := by
        obtain ⟨es, d, fp, ⟨h1, h2⟩, _⟩ := each 0 (by omega)
        have h3 := h2 0 h0
        rw [List.getElem?_eq_getElem (by omega), addr_add] at h3
        exact World.block_lt_of_cell? w _ h3
      have hch : ∀ i : Nat, ∃ y : α × List Nat, i < len → ∃ es, ElemAt w b off S.m i es ∧ S.R w es y.1 y.2 := by
        intro i
        by_cases hi : i < len
        · obtain ⟨es, d, fp, ⟨h1, h2⟩, h3⟩ := each i hi
          refine ⟨(d, fp), fun _ => ⟨es, ⟨h1, fun j hj => ?_⟩, h3⟩⟩
          rw [← h2 j hj, addr_add, Nat.add_assoc]
        · obtain ⟨es, d, fp, _, _⟩ := each 0 (by omega)
          exact ⟨(d, fp), fun h => absurd h hi⟩
      let Y := fun i => Classical.choose (hch i)
      have hY : ∀ i, i < len → ∃ es, ElemAt w b off S.m i es ∧ S.R w es (Y i).1 (Y i).2 := fun i hi => Classical.choose_spec (hch i) hi
      have hL : ((List.range len).map fun i => (Y i).1).length = len := by simp
      refine ⟨(List.range len).map fun i => (Y i).1, b :: (List.range len).flatMap fun i => (Y i).2, some ⟨b, off, none⟩, cap, by rw [hL], by rw [hL]; exact hl, hc, .inr ⟨by rw [hL]; omega, b, off, fun i => (Y i).2, rfl, by rw [hL], hblk, fun i hi => ?_⟩⟩
      rw [hL] at hi
      obtain ⟨es, h1, h2⟩ := hY i hi
      exact ⟨es, h1, by simpa using h2⟩

/-- An argument, opened. -/
theorem open_arg {t : TypeId} {α : Type} {S : Shape α} {v : Value} {d : DataW H} {p : List MemPlace} (ho : Opens enc P w base spare held t S) (h : DataW.Trod enc P w base spare held t v d p) : ∃ x fp, S.R w v.cells.toList x fp := by
  obtain ⟨fuel, hf⟩ := h
  exact ho fuel _ _ hf
end

end Go.Proofs.Ytigbaeokccknaaa
