/- Marks in slices of texts and of numbers. -/
import Derived.Test.YtigbaeokccknaaaMark
import Derived.Deep.RegionHeld3
import Derived.Outline
namespace Go.Proofs.Ytigbaeokccknaaa
open Go.RowKit

theorem mdig_size : ∀ (f k : Nat) (acc : ByteArray), (mdig f k acc).size ≤ acc.size + k
  | 0, k, acc => by simp [mdig]
  | f + 1, k, acc => by
    unfold mdig
    by_cases h : k = 0
    · rw [if_pos h]; omega
    · rw [if_neg h]
      have := mdig_size f (k / 10) (⟨#[UInt8.ofNat (48 + k % 10)]⟩ ++ acc)
      rw [ByteArray.size_append] at this
      have e : (⟨#[UInt8.ofNat (48 + k % 10)]⟩ : ByteArray).size = 1 := rfl
      omega
theorem mtext_size {k : Int} (h : k ≤ 4611686018427387904) : okStr (mtext k) := by
  unfold okStr mtext maxLen
  by_cases h0 : k ≤ 0
  · rw [if_pos h0]; decide
  · rw [if_neg h0, ByteArray.size_append]
    have := mdig_size k.toNat k.toNat ⟨#[]⟩
    have e : (⟨#[109]⟩ : ByteArray).size = 1 := rfl
    have e2 : (⟨#[]⟩ : ByteArray).size = 0 := rfl
    omega

def marks {α : Type} (f : Int → α) (k : Int) (n : Nat) : List α := (List.range n).map fun (i : Nat) => f (k + (i : Int))
def MarkUpto {α : Type} (f : Int → α) (k : Int) (L : List α) (i : Nat) : Prop := ∀ j, (h : j < L.length) → j < i → L[j] = f (k + j)
theorem MarkUpto.zero {α : Type} (f : Int → α) (k : Int) (L : List α) : MarkUpto f k L 0 := by intro j h hj; omega
theorem MarkUpto.succ {α : Type} {f : Int → α} {k : Int} {L : List α} {i : Nat} (h : MarkUpto f k L i) : MarkUpto f k (L.set i (f (k + i))) (i + 1) := by
  intro j hj hji
  by_cases e : j = i
  · subst e; rw [List.getElem_set_self]
  · rw [List.getElem_set_ne (fun h => e h.symm)]; exact h j (by simpa using hj) (by omega)
theorem MarkUpto.eq {α : Type} {f : Int → α} {k : Int} {L : List α} {i : Nat} (h : MarkUpto f k L i) (hi : L.length ≤ i) : L = marks f k L.length := by
  refine List.ext_getElem (by simp [marks]) fun j h1 h2 => ?_
  rw [h j h1 (by omega)]; simp [marks]
theorem marks_get {α : Type} (f : Int → α) (k : Int) (n i : Nat) (h : i < (marks f k n).length) : (marks f k n)[i] = f (k + i) := by simp [marks]
theorem marks_len {α : Type} (f : Int → α) (k : Int) (n : Nat) : (marks f k n).length = n := by simp [marks]

/-- What marking leaves: the slice's data are marks; nothing else has turned. -/
def Marked {α : Type} (S : Shape α) (v : Value) (d : α) (fp : List Nat) (lo : Nat) (r : Int) (w : World) (e : Ending) (w' : World) : Prop :=
  e = .returned (.int .i64 r) ∧ S.R w' [v] d fp ∧ Own w' lo fp ∧ Kept fp w w'

set_option maxHeartbeats 400000 in
theorem markStringS (v : Value) (l : List ByteArray) (fp : List Nat) (lo : Nat) (k : Int) (w : World) (h0 : 0 ≤ k) (h1 : k + l.length ≤ 2305843009213693952) (H : (sSlice sStr).R w [v] l fp) (O : Own w lo fp) :
    Calls Try.prog 64 #[v, .int .i64 k] w (Marked (sSlice sStr) v (marks mtext k l.length) fp lo (k + l.length) w) := by
  obtain ⟨a, cap, rfl, hc, hm, hcell, hsz⟩ := open_strs H
  unfold maxLen at hm
  have hadr : 0 < l.length → ∃ b off, a = some ⟨b, off, none⟩ ∧ b ∈ fp := fun h => by obtain ⟨b, off, h1, _, h2, _⟩ := hcell h; exact ⟨b, off, h1, h2⟩
  clear hcell hsz
  go_enter Try.func64, Try.ntmps64
  go_wp2
  go_loopw [1, 5] (fun t i wr => ∃ (j : Nat) (L : List ByteArray), j ≤ l.length ∧ L.length = l.length ∧ i = .int .i64 j ∧ t = .int .i64 (k + j) ∧ MarkUpto mtext k L j ∧ (sSlice sStr).R wr [.slice a l.length cap] L fp ∧ Own wr lo fp ∧ Kept fp w wr) (fun _ i _ => l.length - (intOf i).toNat)
  case atStart => exact ⟨0, l, by omega, rfl, rfl, by simp, MarkUpto.zero _ _ _, H, O, Kept.refl _ _⟩
  case round =>
    obtain ⟨j, L, hj, hL, rfl, rfl, hM, HR, HO, HK⟩ := hrel
    have HLn := Lib.hid hL; clear hL
    by_cases hlt : j < l.length
    · obtain ⟨b, off, rfl, hbf⟩ := hadr (by omega)
      go_wp2_with fail
      refine (markText _ _ (by omega)).mono ?_
      rintro e w2 ⟨rfl, hb2⟩
      have HR2 := (sSlice sStr).below HR hb2
      have HO2 := HO.grow hb2
      have HK2 := HK.trans (Kept.of_below (fp := fp) hb2)
      have HR3 := flat_set (i := j) HR2 (by have := HLn.out; omega) (d := mtext (k + j)) (mtext_size (by omega))
      have hM3 := hM.succ
      obtain ⟨_, _, hv, _, _, hc2, _⟩ := open_strs HR2
      have hck : (w2.cell? ⟨b, off + j, none⟩).isSome = true := by
        have hl := HLn.out
        obtain ⟨b', off', hab, _, _, hc3⟩ := hc2 (by omega)
        simp only [Value.slice.injEq] at hv
        rw [← hv.1] at hab
        simp only [Option.some.injEq, Addr.mk.injEq, and_true] at hab
        obtain ⟨rfl, rfl⟩ := hab
        rw [hc3 j (by omega)]; rfl
      clear hc2 hv
      have hfk := HO2.frozen hbf (off + j)
      have HS : Hid ((L.set j (mtext (k + j))).length = l.length) := by show _ = _; rw [List.length_set]; exact HLn.out
      obtain ⟨u, hck⟩ := Option.isSome_iff_exists.1 hck
      go_wp2
      go_roundw
      case rel => exact ⟨j + 1, L.set j (mtext (k + j)), by omega, HS.out, by go_num, by go_num, hM3, HR3, HO2.setCell _ _, HK2.setCell (p := ⟨b, off + j, none⟩) hbf _⟩
      case measure => simp [intOf]; omega
    · obtain rfl : j = l.length := by omega
      have HE := Lib.hid (hM.eq (by rw [HLn.out]; exact Nat.le_refl _))
      go_wp2
      go_ret
      refine ⟨rfl, ?_, HO, HK⟩
      have e := HE.out
      rw [HLn.out] at e
      rw [← e]
      exact HR

set_option maxHeartbeats 1000000 in
theorem heldStringS (v : Value) (fp : List Nat) (n : Nat) (k : Int) (w : World) (h0 : 0 ≤ k) (h1 : k + n ≤ 2305843009213693952) (H : (sSlice sStr).R w [v] (marks mtext k n) fp) :
    Calls Try.prog 65 #[v, .int .i64 k] w fun e w' => e = .returned (.int .i64 (k + n)) ∧ Below w.heap.size w w' := by
  obtain ⟨a, cap, rfl, hc, hm, hcell, hsz⟩ := open_strs H
  clear H
  have hadr : ∀ j, j < n → ∃ b off, a = some ⟨b, off, none⟩ ∧ b < w.heap.size ∧ w.cell? ⟨b, off + j, none⟩ = some (.string (mtext (k + j))) := fun j h => by
    obtain ⟨b, off, h1, h2, _, h3⟩ := hcell (by rw [marks_len]; omega)
    exact ⟨b, off, h1, h2, by rw [h3 j (by rw [marks_len]; exact h), marks_get]⟩
  clear hcell hsz
  rw [marks_len] at hc ⊢
  unfold maxLen at hm
  go_enter Try.func65, Try.ntmps65
  go_wp2
  go_loopw [1, 5] (fun t i wr => ∃ (j : Nat), j ≤ n ∧ i = .int .i64 j ∧ t = .int .i64 (k + j) ∧ Below w.heap.size w wr) (fun _ i _ => n - (intOf i).toNat)
  case atStart => exact ⟨0, by omega, rfl, by simp, Below.refl _ _⟩
  case round =>
    obtain ⟨j, hj, rfl, rfl, hb⟩ := hrel
    by_cases hlt : j < n
    · obtain ⟨b, off, rfl, hbw, hcj⟩ := hadr j hlt
      have hcw := (hb.cell (p := ⟨b, off + j, none⟩) hbw).trans hcj
      have hbr : b < wr.heap.size := Nat.lt_of_lt_of_le hbw hb.size
      have hne := bytes_beq (rfl : mtext (k + j) = mtext (k + j))
      clear hadr hcj
      go_wp2_with fail
      go_region_held3 (fun w' => w'.cell? ⟨b, off + j, none⟩ = some (.string (mtext (k + j))))
        (first | go_keep | ((rw [hb2.cell (p := ⟨b, off + j, none⟩) (by simp; omega)]; assumption)))
        (first | (go_at_call 63; refine (markText _ _ (by omega)).mono ?_; rintro e w2 ⟨rfl, hb2⟩))
      go_wp2
      go_roundw
      case rel => exact ⟨j + 1, by omega, by go_num, by go_num, hb.drew.trans (hb2.mono hb.size)⟩
      case measure => simp [intOf]; omega
    · obtain rfl : j = n := by omega
      go_wp2
      go_ret
      exact ⟨rfl, hb⟩

end Go.Proofs.Ytigbaeokccknaaa
