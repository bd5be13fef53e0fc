/- Tokens in memory. -/
import Derived.Test.YtigbaeokccknaaaStruct
import Derived.Test.YtigbaeokccknaaaTok0
import Derived.Test.YtigbaeokccknaaaMark2
import Derived.Outline
import Derived.Deep.Fields
import Derived.ChangeSame
import Derived.Lib.SmallJoins
namespace Go.Proofs.Ytigbaeokccknaaa
open Go.RowKit Go.ChangeShapes Go.WideShapes Go.Deep Go.Joins

def sTok : Shape Tok where
  m := 4
  R w cs d fp := ∃ h, cs = [.int .i64 d.kind, .string d.text, .bool d.spaced, h] ∧ okInt d.kind ∧ okStr d.text ∧ (sSlice sStr).R w [h] d.hidden fp
  frame := by
    rintro w w' cs d fp hf ⟨h, h1, h2, h3, h4⟩
    exact ⟨h, h1, h2, h3, (sSlice sStr).frame hf h4⟩
  lt := by
    rintro w cs d fp ⟨h, h1, h2, h3, h4⟩
    exact (sSlice sStr).lt h4

theorem ti_tok : TI Try.prog 24 60 (.agg #[.int .i64 0, .string ⟨#[]⟩, .bool false, .slice none 0 0]) 4 56 := ⟨by kernel_rfl, by kernel_rfl⟩

/-- The cells of a token with nothing hidden. -/
def freshCells (t : Tok) : List Value := [.int .i64 t.kind, .string t.text, .bool t.spaced, .slice none 0 0]
/-- A row of such tokens of the call's own. -/
def TokRow (base : Nat) (v : Value) (l : List Tok) (w : World) : Prop := w.ownsRow base 60 4 v l.length (l.flatMap freshCells)
theorem TokRow.nil (base : Nat) (w : World) : TokRow base (.slice none 0 0) [] w := World.ownsRow_nil _ _ _ _
theorem TokRow.drew {base : Nat} {v : Value} {l : List Tok} {w : World} (h : TokRow base v l w) (n : Nat) : TokRow base v l (w.drewN n) := h
theorem TokRow.slice {base : Nat} {v : Value} {l : List Tok} {w : World} (h : TokRow base v l w) : ∃ a cap, v = .slice a l.length cap ∧ cap ≤ maxLen := by
  rcases h.2 with ⟨rfl, h0⟩ | ⟨g, cap, cur, rfl, _, _, _, hc, _⟩
  · exact ⟨none, 0, by rw [h0], by simp⟩
  · exact ⟨_, cap, rfl, hc⟩
theorem TokRow.mine {base : Nat} {v : Value} {l : List Tok} {w : World} (h : TokRow base v l w) : ∀ b, v.ownBlock = some b → base ≤ b := fun b hb => (h.lt b hb).1
theorem wp_append_tok {w0 : World} {ops : Array Oper} {rest : List Oper} {o : Oper} {a : Act} {Q : Exit → Act → World → Prop} (hg : o.guard = none) (s y : Operand)
    (ho : o.op = .call { callee := .builtin .append, args := #[s, y], argTypes := #[24, 24] })
    (base : Nat) (v : Value) (l : List Tok) (k : Int) (x : ByteArray) (b : Bool) (hs : a.eval s = v) (hown : TokRow base v l w0) (hy : a.eval y = .slice (some ⟨w0.heap.size, 0, none⟩) 1 1) (h63 : l.length ≤ 1000000) (hbase : base ≤ w0.heap.size)
    (h : ∀ v' w', TokRow base v' (l ++ [⟨k, x, b, []⟩]) w' → w0.grownBy w' v.ownBlock → wpList Try.prog ops Q rest (a.put o.dst v') w') : wpList Try.prog ops Q (o :: rest) a (w0.alloc (.cells #[.int .i64 k, .string x, .bool b, .slice none 0 0] 60)) := by
  refine wp_append_cells ti_tok rfl (by decide) w0 (l.flatMap freshCells) [.int .i64 k, .string x, .bool b, .slice none 0 0] rfl (by simp [Value.oneCell']) hg s y ho base v l.length hs hown hy (by unfold maxLen; omega) (by omega) hbase fun v' w' h1 h2 => h v' w' ?_ h2
  unfold TokRow
  rw [List.length_append, List.flatMap_append]
  exact h1
theorem own_toks {w : World} {base : Nat} {v : Value} {l : List Tok} {B : Nat} (h : TokRow base v l w) (hf : Fresh B l) (hB : B ≤ 1000000) :
    ∃ fp, (sSlice sTok).R w [v] l fp ∧ Own w base fp ∧ ∀ b ∈ fp, v.ownBlock = some b := by
  have hL : (l.map fun t => (⟨freshCells t, t, []⟩ : Elem Tok)).flatMap (·.cells) = l.flatMap freshCells := by rw [List.flatMap_map]
  have hF : (l.map fun t => (⟨freshCells t, t, []⟩ : Elem Tok)).flatMap (·.fp) = [] := by rw [List.flatMap_map]; simp
  have hD : (l.map fun t => (⟨freshCells t, t, []⟩ : Elem Tok)).map (·.d) = l := by rw [List.map_map]; exact List.map_id _
  obtain ⟨fp, h1, h2, h3⟩ := slice_of_row (S := sTok) (w := w) (base := base) (e := 60) (v := v) (L := l.map fun t => ⟨freshCells t, t, []⟩) (by rw [hL, List.length_map]; exact h) (by
    intro x hx
    obtain ⟨t, ht, rfl⟩ := List.mem_map.1 hx
    obtain ⟨a1, a2, a3, a4⟩ := hf t ht
    have b1 : okInt t.kind := ⟨by omega, by omega⟩
    have b2 : okStr t.text := by unfold okStr maxLen; omega
    have b3 : (sSlice sStr).R w [.slice none 0 0] t.hidden [] := by rw [a2]; exact slice_empty sStr w none 0 (by simp)
    exact ⟨rfl, _, rfl, b1, b2, b3⟩)
  rw [hD] at h1
  rw [hF] at h2 h3
  exact ⟨fp, h1, h3 (Own.nil _ _) (by simp), fun b hb => by rcases h2 b hb with h | h; exact h; simp at h⟩

/-- What TokensOf hands back. -/
def TokMade (r : List Tok × Bool) (w : World) (e : Ending) (w' : World) : Prop :=
  ∃ v fp, e = .returned (.tuple #[v, .bool r.2]) ∧ (sSlice sTok).R w' [v] r.1 fp ∧ Own w' w.heap.size fp ∧ Below w.heap.size w w'

section
variable {H : Type} {enc : TypeId × Value → H} {P : Program} {w : World} {base : Nat} {spare : Nat → Bool} {held : Bool}
theorem opens_tok {t : TypeId} {f0 f1 f2 f3 : Field} (hs : P.underlying t = some (.struct #[f0, f1, f2, f3])) (hone : oneCellFields P #[f0, f1, f2, f3] = true) (hC : P.cellsOf t = 4)
    (h0 : Opens enc P w base spare held f0.type sInt) (h1 : Opens enc P w base spare held f1.type sStr) (h2 : Opens enc P w base spare held f2.type sBool) (h3 : Opens enc P w base spare held f3.type (sSlice sStr)) : Opens enc P w base spare held t sTok := by
  intro fuel cs x h
  obtain ⟨xs, n, _, hx, hcl, hlen, hg⟩ := DataW.trod_struct hs h
  rw [hC] at hcl
  match cs, hcl with
  | [c0, c1, c2, c3], _ =>
    obtain ⟨o0, k0⟩ := hone_of hone 0 f0 rfl
    obtain ⟨o1, k1⟩ := hone_of hone 1 f1 rfl
    obtain ⟨o2, k2⟩ := hone_of hone 2 f2 rfl
    obtain ⟨o3, k3⟩ := hone_of hone 3 f3 rfl
    have g0 := hg 0 f0 rfl
    have g1 := hg 1 f1 rfl
    have g2 := hg 2 f2 rfl
    have g3 := hg 3 f3 rfl
    rw [o0, k0] at g0; rw [o1, k1] at g1; rw [o2, k2] at g2; rw [o3, k3] at g3
    match xs, hlen with
    | [y0, y1, y2, y3], _ =>
      obtain ⟨d0, p0, hc0, hok0, rfl⟩ := h0 n _ _ g0
      obtain ⟨d1, p1, hc1, hok1, rfl⟩ := h1 n _ _ g1
      obtain ⟨d2, p2, hc2, _, rfl⟩ := h2 n _ _ g2
      obtain ⟨d3, p3, hc3⟩ := h3 n _ _ g3
      simp at hc0 hc1 hc2 hc3
      subst hc0; subst hc1; subst hc2
      exact ⟨⟨d0, d1, d2, d3⟩, p3, c3, rfl, hok0, hok1, hc3⟩
end

end Go.Proofs.Ytigbaeokccknaaa
