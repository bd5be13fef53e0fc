/- Rows of bytes of the call's own. -/
import Derived.Test.YtkamfppefmpacaaMake
import Derived.Lib.AppendStr
import Derived.Laws.IdiomStrings
namespace Go.Proofs.Ytkamfppefmpacaa
open Go.RowKit

theorem ti_bytes : TI Try.prog 22 5 (.int .u8 0) 1 1 := ⟨by kernel_rfl, by kernel_rfl⟩
def Bytes (base : Nat) (v : Value) (s : ByteArray) (w : World) : Prop := w.ownsRow base 5 1 v s.size (Lib.strCells s)
theorem strCells_append (a b : ByteArray) : Lib.strCells (a ++ b) = Lib.strCells a ++ Lib.strCells b := by
  simp [Lib.strCells, ByteArray.data_append]
theorem Bytes.none (base : Nat) (w : World) : Bytes base (.slice Option.none 0 0) ⟨#[]⟩ w := World.ownsRow_nil _ _ _ _
theorem Bytes.drew {base : Nat} {v : Value} {s : ByteArray} {w : World} (h : Bytes base v s w) (n : Nat) : Bytes base v s (w.drewN n) := h
/-- append(b, text...) -/
theorem wp_append_str {w0 : World} {ops : Array Oper} {rest : List Oper} {o : Oper} {a : Act} {Q : Exit → Act → World → Prop} (hg : o.guard = Option.none) (s y : Operand)
    (ho : o.op = .call { callee := .builtin .append, args := #[s, y], argTypes := #[22, 9] })
    (base : Nat) (v : Value) (x b : ByteArray) (hs : a.eval s = v) (hown : Bytes base v x w0) (hy : a.eval y = .string b) (h63 : x.size + b.size ≤ 1000000) (hbase : base ≤ w0.heap.size)
    (h : ∀ v' w', Bytes base v' (x ++ b) w' → w0.grownBy w' v.ownBlock → wpList Try.prog ops Q rest (a.put o.dst v') w') : wpList Try.prog ops Q (o :: rest) a w0 := by
  obtain ⟨i, hi, hz0, hz1, hz2⟩ := info_parts ti_bytes.2
  refine Lib.wpList_append_own_string w0 hg s y 22 9 ho base 5 i ti_bytes.1 Try.underlying9 hi hz0 hz1 hz2 v x.size (Lib.strCells x) hs hown b hy (by unfold maxLen; omega) (by omega) hbase fun v' w' h1 h2 _ => h v' w' ?_ h2
  unfold Bytes
  rw [strCells_append, ByteArray.size_append]
  exact h1
/-- append(b, c) -/
theorem wp_append_byte {w0 : World} {ops : Array Oper} {rest : List Oper} {o : Oper} {a : Act} {Q : Exit → Act → World → Prop} (hg : o.guard = Option.none) (s y : Operand)
    (ho : o.op = .call { callee := .builtin .append, args := #[s, y], argTypes := #[22, 22] })
    (base : Nat) (v : Value) (x b : ByteArray) (c : Int) (hs : a.eval s = v) (hown : Bytes base v x w0) (hy : a.eval y = .slice (some ⟨w0.heap.size, 0, Option.none⟩) 1 1) (hb : Lib.strCells b = [.int .u8 c]) (h63 : x.size ≤ 1000000) (hbase : base ≤ w0.heap.size)
    (h : ∀ v' w', Bytes base v' (x ++ b) w' → w0.grownBy w' v.ownBlock → wpList Try.prog ops Q rest (a.put o.dst v') w') : wpList Try.prog ops Q (o :: rest) a (w0.alloc (.cells #[.int .u8 c] 5)) := by
  have hb1 : b.size = 1 := by have := congrArg List.length hb; rwa [Lib.strCells_length] at this
  refine wp_append_one ti_bytes rfl w0 (.int .u8 c) rfl hg s y ho base v x.size (Lib.strCells x) hs hown hy (by unfold maxLen; omega) (by omega) hbase fun v' w' h1 h2 => h v' w' ?_ h2
  unfold Bytes
  rw [strCells_append, ByteArray.size_append, hb, hb1]
  exact h1
theorem strCells_at (s : ByteArray) (k : Nat) (h : k < s.size) : Lib.strCells (s.extract k (k + 1)) = [.int .u8 (s[k].toNat : Int)] := by
  have e : s.data.toList.length = s.size := Array.length_toList
  unfold Lib.strCells
  rw [ByteArray.data_extract, Array.toList_extract, List.extract_eq_take_drop, List.drop_eq_getElem_cons (by omega), show k + 1 - k = 1 from by omega]
  simp [ByteArray.getElem_eq_getElem_data]
/-- string(b) -/
theorem run_own_string {base : Nat} {v : Value} {s : ByteArray} {w : World} (h : Bytes base v s w) : (convert 22 9 v).run Try.prog w = .ok (.string s) w := by
  rcases h.2 with ⟨rfl, h0⟩ | ⟨g, cap, cur, rfl, hb, hg, hnc, hcm, hcs, htake⟩
  · rw [run_convert_bytes_string _ _ _ 5 _ 0 0 Try.underlying22 Try.underlying5 Try.underlying9]
    have : s = ⟨#[]⟩ := by apply Go.WideShapes.bytes_inj; rw [← List.length_eq_zero_iff, Array.length_toList]; exact h0
    subst this
    simp [Conv.bytesToString, loadCells]
    rfl
  · have hl : s.data.toList.length = s.size := Array.length_toList
    have := run_convert_bytes_back (P := Try.prog) w 22 9 5 ⟨g, 0, Option.none⟩ cap s.data.toList Try.underlying22 Try.underlying5 Try.underlying9 (fun j hj => by
      have h1 := h.cellAt j (by omega)
      have h2 : (Lib.strCells s)[j]? = some (.int .u8 (s.data.toList[j].toNat : Int)) := by simp [Lib.strCells, List.getElem?_eq_getElem hj]
      rw [Addr.add_lit, Nat.zero_add]
      exact h1.trans h2)
    rw [hl] at this
    simpa using this

/-- make([]byte, n), as bytes. -/
theorem zeros_own {base : Nat} {v : Value} {n : Nat} {w : World} (h : w.ownsRow base 5 1 v n (madeCells (Value.int .u8 0).cells (n * 1)).toList) : Bytes base v ⟨Array.replicate n 0⟩ w := by
  unfold Bytes
  have e1 : (⟨Array.replicate n 0⟩ : ByteArray).size = n := by show (Array.replicate n (0 : UInt8)).size = n; simp
  have e2 : Lib.strCells ⟨Array.replicate n 0⟩ = (madeCells (Value.int .u8 0).cells (n * 1)).toList := by
    simp [Value.cells, toList_madeCells_one, Lib.strCells]
  rw [e1, e2]
  exact h

end Go.Proofs.Ytkamfppefmpacaa
