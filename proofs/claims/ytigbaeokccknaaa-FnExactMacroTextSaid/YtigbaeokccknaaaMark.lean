/- The law's own marks: their texts. -/
import Derived.Test.YtigbaeokccknaaaMake
import Derived.Outline
import Derived.Laws.BytesString
import Derived.Laws.IdiomStrings
namespace Go.Proofs.Ytigbaeokccknaaa
open Go.RowKit

theorem ret_str {a b : ByteArray} (h : a = b) : Ending.returned (.string a) = .returned (.string b) := by rw [h]
def mdig : Nat → Nat → ByteArray → ByteArray
  | 0, _, acc => acc
  | f + 1, k, acc => if k = 0 then acc else mdig f (k / 10) (⟨#[UInt8.ofNat (48 + k % 10)]⟩ ++ acc)
def mtext (k : Int) : ByteArray := if k ≤ 0 then ⟨#[109, 48]⟩ else ⟨#[109]⟩ ++ mdig k.toNat k.toNat ⟨#[]⟩

theorem run_byte_string (P : Program) (w : World) (src dst e : TypeId) (x : Int) (hs : P.underlying src = some (.slice e)) (he : P.underlying e = some (.int .u8)) (hd : P.underlying dst = some .string) :
    (convert src dst (.slice (some ⟨w.heap.size, 0, none⟩) 1 1)).run P (w.alloc (.cells #[.int .u8 x] e)) = .ok (.string ⟨#[UInt8.ofNat x.toNat]⟩) (w.alloc (.cells #[.int .u8 x] e)) := by
  rw [run_convert_bytes_string _ src dst e _ 1 1 hs he hd]
  have hl := run_loadCells_list (P := P) (w.alloc (.cells #[.int .u8 x] e)) ⟨w.heap.size, 0, none⟩ ([x].map (Value.int .u8)) (fun j v hj => by
    have hj' : j < 1 := by have := (List.getElem?_eq_some_iff.1 hj).1; simpa using this
    obtain rfl : j = 0 := by omega
    simp at hj
    subst hj
    exact World.cell?_alloc_at _ _ _ _ rfl)
  rw [run_bytesToString _ ⟨w.heap.size, 0, none⟩ 1 1 [x] hl]
  rfl

set_option maxHeartbeats 400000 in
theorem markText (k : Int) (w : World) (h1 : k ≤ 4611686018427387904) :
    Calls Try.prog 63 #[.int .i64 k] w fun e w' => e = .returned (.string (mtext k)) ∧ Below w.heap.size w w' := by
  by_cases h0 : k ≤ 0
  · have HF : Hid (mtext k = ⟨#[109, 48]⟩) := if_pos h0
    go_enter Try.func63, Try.ntmps63
    go_wp2
    go_ret
    exact ⟨ret_str HF.out.symm, Below.refl _ _⟩
  · obtain ⟨n, rfl⟩ := Int.eq_ofNat_of_zero_le (show 0 ≤ k by omega)
    have HF : Hid (mtext n = ⟨#[109]⟩ ++ mdig n n ⟨#[]⟩) := by show mtext n = _; unfold mtext; rw [if_neg h0]; simp
    go_enter Try.func63, Try.ntmps63
    go_wp2
    go_loopw [0, 3] (fun t s wr => ∃ (k : Nat) (acc : ByteArray) (f : Nat), k ≤ f ∧ acc.size + k ≤ n ∧ t = .int .i64 k ∧ s = .string acc ∧ Hid (mdig f k acc = mdig n n ⟨#[]⟩) ∧ Below w.heap.size w wr) (fun t _ _ => (intOf t).toNat)
    case atStart => exact ⟨n, _, n, Nat.le_refl _, by simp [ByteArray.size], rfl, rfl, rfl, Below.refl _ _⟩
    case round =>
      obtain ⟨k, acc, f, hf, hkn, rfl, rfl, HD, hb⟩ := hrel
      by_cases hk : 0 < k
      · have hcv := fun (x : Int) => run_byte_string Try.prog wr 22 9 5 x Try.underlying22 Try.underlying5 Try.underlying9
        obtain ⟨f, rfl⟩ : ∃ g, f = g + 1 := ⟨f - 1, by omega⟩
        have HE : Hid (mdig f (k / 10) (⟨#[UInt8.ofNat (48 + k % 10)]⟩ ++ acc) = mdig n n ⟨#[]⟩) := by
          show _ = _
          rw [← HD.out]
          show _ = (if k = 0 then acc else _)
          rw [if_neg (by omega)]
        have HS : Hid ((⟨#[UInt8.ofNat (48 + k % 10)]⟩ ++ acc : ByteArray).size = 1 + acc.size) := by show _ = _; rw [ByteArray.size_append]; rfl
        go_wp2
        go_roundw
        case rel =>
          refine ⟨k / 10, ⟨#[UInt8.ofNat (48 + k % 10)]⟩ ++ acc, f, by omega, by rw [HS.out]; omega, by go_num, ?_, HE, hb.alloc hb.size _⟩
          rw [show (48 : UInt8) + UInt8.ofNat (k % 10) = UInt8.ofNat (48 + k % 10) from by rw [UInt8.ofNat_add]; rfl]
        case measure => simp [intOf]; omega
      · have HE : Hid (mdig n n ⟨#[]⟩ = acc) := by
          show _ = _
          rw [← HD.out]
          cases f with
          | zero => rfl
          | succ f => show (if k = 0 then acc else _) = _; rw [if_pos (by omega)]
        go_wp2
        go_ret
        exact ⟨ret_str (by rw [HF.out, HE.out]), hb⟩

end Go.Proofs.Ytigbaeokccknaaa
