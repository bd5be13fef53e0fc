/- Texts that the proof of U stands on, in one file. -/
import Derived.Test.YtgjjidjkpmmcoaaZU5
import Derived.Test.YtgjjidjkpmmcoaaZU6
import Derived.Test.YtgjjidjkpmmcoaaZU4
import Derived.Test.YtgjjidjkpmmcoaaZU3
import Derived.Deep.Cut
import Derived.Test.YtgjjidjkpmmcoaaZU1
import Derived.Laws.ResultCell
import Derived.Test.YtgjjidjkpmmcoaaZU2
import Derived.Test.YtgjjidjkpmmcoaaShelf
import Derived.Lib.FrozenHead2
import Derived.Lib.OthersKept
import Derived.Lib.Builder
import Derived.Laws.Externs
set_option linter.unusedVariables false
set_option linter.unusedSimpArgs false
/- The drawing of tokens. -/
namespace Go.Proofs.Ytgjjidjkpmmcoaa
open Go.RowKit

/-- A drawn token: small. -/
def okTok (t : Tok) : Prop := t.text.size ≤ 1000 ∧ 0 ≤ t.kind ∧ t.kind ≤ 4 ∧ t.hidden.length ≤ 3
def elemTok (t : Tok) : Elem Tok := ⟨freshCells t, t, []⟩
theorem toks_rowE {base : Nat} {v : Value} {l : List Tok} {w : World} {B : Nat} (h : TokRow base v l w) (hf : Fresh B l) (hB : B ≤ 1000) :
    RowE sTok base 28 v (l.map elemTok) w ∧ ∀ x ∈ l.map elemTok, okTok x.d := by
  have hL : (l.map elemTok).flatMap (·.cells) = l.flatMap freshCells := by rw [List.flatMap_map]; rfl
  have hx : ∀ x ∈ l.map elemTok, ∃ t ∈ l, x = elemTok t := fun x hx => by
    obtain ⟨t, ht, rfl⟩ := List.mem_map.1 hx
    exact ⟨t, ht, rfl⟩
  refine ⟨⟨by rw [hL, List.length_map]; exact h, fun x hm => ?_, fun x hm => ?_, fun x hm b hb => ?_, fun x hm b hb => ?_⟩, fun x hm => ?_⟩ <;> obtain ⟨t, ht, rfl⟩ := hx x hm
  · rfl
  · obtain ⟨a1, a2, a3, a4⟩ := hf t ht
    have b1 : okInt t.kind := ⟨by omega, by omega⟩
    have b2 : okStr t.text := by unfold okStr maxLen; omega
    have b3 : (sSlice sStr).R w [.slice none 0 0] t.hidden [] := by rw [a2]; exact slice_empty sStr w none 0 (by simp)
    exact ⟨_, rfl, b1, b2, b3⟩
  · simp [elemTok] at hb
  · simp [elemTok] at hb
  · obtain ⟨a1, a2, a3, a4⟩ := hf t ht
    exact ⟨Nat.le_trans a1 hB, by show 0 ≤ t.kind; omega, a4, by show t.hidden.length ≤ 3; rw [a2]; simp⟩

/-- The lists of names out of which a token's hidden ones are drawn. -/
abbrev hidW (w : World) : World :=
  (((((w.alloc (.cells #[.string ⟨#[97]⟩] 9)).alloc (.cells #[.string ⟨#[97]⟩, .string ⟨#[98]⟩] 9)).alloc (.cells #[.string ⟨#[102]⟩] 9)).alloc (.cells #[.string ⟨#[97]⟩, .string ⟨#[102]⟩, .string ⟨#[103]⟩] 9)).alloc
    (.cells #[.slice (some ⟨w.heap.size, 0, none⟩) 1 1, .slice (some ⟨w.heap.size + 1, 0, none⟩) 2 2, .slice (some ⟨w.heap.size + 1 + 1, 0, none⟩) 1 1, .slice (some ⟨w.heap.size + 1 + 1 + 1, 0, none⟩) 3 3] 22))
def hidL (n : Nat) : List Obj := [.cells #[.string ⟨#[97]⟩] 9, .cells #[.string ⟨#[97]⟩, .string ⟨#[98]⟩] 9, .cells #[.string ⟨#[102]⟩] 9, .cells #[.string ⟨#[97]⟩, .string ⟨#[102]⟩, .string ⟨#[103]⟩] 9,
  .cells #[.slice (some ⟨n, 0, none⟩) 1 1, .slice (some ⟨n + 1, 0, none⟩) 2 2, .slice (some ⟨n + 1 + 1, 0, none⟩) 1 1, .slice (some ⟨n + 1 + 1 + 1, 0, none⟩) 3 3] 22]
theorem hidW_eq (w : World) : hidW w = allocs w (hidL w.heap.size) := rfl
theorem hidW_below (w : World) : Below w.heap.size w (hidW w) := by rw [hidW_eq]; exact allocs_below _ _ (Below.refl _ _) (Nat.le_refl _)
theorem hidW_blk (w : World) (j : Nat) (hj : j < 5) : (hidW w).heap[w.heap.size + j]? = some ((hidL w.heap.size)[j]'hj) := by rw [hidW_eq]; exact allocs_blk w (hidL w.heap.size) j hj
theorem hidW_size (w : World) : (hidW w).heap.size = w.heap.size + 5 := by rw [hidW_eq, allocs_size]; rfl
/-- A literal row of texts. -/
theorem lit_strs {w : World} {b : Nat} {l : List ByteArray} {t : TypeId} {fr : Nat × Nat} (h : w.heap[b]? = some (.cells (l.map Value.string).toArray t fr)) (hs : ∀ s ∈ l, s.size ≤ 1000) (h0 : 0 < l.length) (hl : l.length ≤ 1000) (n : Nat) (hn : l.length = n) :
    (sSlice sStr).R w [.slice (some ⟨b, 0, none⟩) n n] l [b] := by
  subst hn
  refine ⟨_, _, rfl, Nat.le_refl _, by unfold maxLen; omega, .inr ⟨h0, b, 0, fun _ => [], rfl, by simp, (Array.getElem?_eq_some_iff.1 h).1, fun i hi => ⟨[.string l[i]], ⟨rfl, fun j hj => ?_⟩, rfl, ?_, rfl⟩⟩⟩
  · have hj0 : j = 0 := by simp [sStr, sFlat] at hj; omega
    subst hj0
    have := cell_of_row w b i _ _ _ h
    simp only [sStr, sFlat, Nat.mul_one, Nat.zero_add, Nat.add_zero] at *
    rw [this]; simp [List.getElem?_eq_getElem hi]
  · have := hs _ (List.getElem_mem hi)
    unfold okStr maxLen; omega
theorem hid_lits {w w3 : World} {rb : Nat} {r : Int} (hr : rb < w.heap.size) (hK : Kept [rb] (hidW w) w3) (h0 : 0 ≤ r) (h1 : r < 4) :
    ∃ b n l, w3.cell? ⟨w.heap.size + 1 + 1 + 1 + 1, r.toNat, none⟩ = some (.slice (some ⟨b, 0, none⟩) n n) ∧ (sSlice sStr).R w3 [.slice (some ⟨b, 0, none⟩) n n] l [b] ∧ l.length ≤ 3 ∧ w.heap.size ≤ b ∧ ∃ cur fr, w3.heap[b]? = some (.cells cur 9 fr) := by
  have gs := hidW_size w
  have g0 := hidW_blk w 0 (by omega)
  have g1 := hidW_blk w 1 (by omega)
  have g2 := hidW_blk w 2 (by omega)
  have g3 := hidW_blk w 3 (by omega)
  have g4 := hidW_blk w 4 (by omega)
  have k0 := (hK.block _ (by omega) (by simp; omega)).trans g0
  have k1 := (hK.block _ (by omega) (by simp; omega)).trans g1
  have k2 := (hK.block _ (by omega) (by simp; omega)).trans g2
  have k3 := (hK.block _ (by omega) (by simp; omega)).trans g3
  have k4 := (hK.block _ (by omega) (by simp; omega)).trans g4
  have hc := fun j => cell_of_row w3 (w.heap.size + 1 + 1 + 1 + 1) j _ _ _ k4
  have hr4 : r = 0 ∨ r = 1 ∨ r = 2 ∨ r = 3 := by omega
  rcases hr4 with rfl | rfl | rfl | rfl
  · exact ⟨_, 1, [⟨#[97]⟩], hc 0, lit_strs (l := [⟨#[97]⟩]) k0 (by decide) (by decide) (by decide) 1 rfl, by decide, by omega, _, _, k0⟩
  · exact ⟨_, 2, [⟨#[97]⟩, ⟨#[98]⟩], hc 1, lit_strs (l := [⟨#[97]⟩, ⟨#[98]⟩]) k1 (by decide) (by decide) (by decide) 2 rfl, by decide, by omega, _, _, k1⟩
  · exact ⟨_, 1, [⟨#[102]⟩], hc 2, lit_strs (l := [⟨#[102]⟩]) k2 (by decide) (by decide) (by decide) 1 rfl, by decide, by omega, _, _, k2⟩
  · exact ⟨_, 3, [⟨#[97]⟩, ⟨#[102]⟩, ⟨#[103]⟩], hc 3, lit_strs (l := [⟨#[97]⟩, ⟨#[102]⟩, ⟨#[103]⟩]) k3 (by decide) (by decide) (by decide) 3 rfl, by decide, by omega, _, _, k3⟩

def tokE (k : Int) (s : ByteArray) (ao : Option Addr) (m : Nat) (l : List ByteArray) (fp : List Nat) : Elem Tok := ⟨[.int .i64 k, .string s, .bool false, .slice ao m m], ⟨k, s, false, l⟩, fp⟩
/-- The tokens that are not valid, out of which one is drawn. -/
def badE (n : Nat) : List (Elem Tok) := [tokE 0 ⟨#[]⟩ none 0 [] [], tokE 1 ⟨#[49, 97]⟩ none 0 [] [], tokE 1 ⟨#[97, 32, 98]⟩ none 0 [] [], tokE 2 ⟨#[97]⟩ none 0 [] [], tokE 4 ⟨#[64]⟩ none 0 [] [], tokE 3 ⟨#[34, 97]⟩ none 0 [] [],
  tokE 1 ⟨#[97]⟩ (some ⟨n, 0, none⟩) 2 [⟨#[98]⟩, ⟨#[97]⟩] [n], tokE 1 ⟨#[97]⟩ (some ⟨n + 1, 0, none⟩) 1 [⟨#[49]⟩] [n + 1]]
def badL (n : Nat) : List Obj := [.cells #[.string ⟨#[98]⟩, .string ⟨#[97]⟩] 9, .cells #[.string ⟨#[49]⟩] 9, .cells ((badE n).flatMap (·.cells)).toArray 28]
abbrev badW (w : World) : World :=
  ((w.alloc (.cells #[.string ⟨#[98]⟩, .string ⟨#[97]⟩] 9)).alloc (.cells #[.string ⟨#[49]⟩] 9)).alloc
    (.cells #[.int .i64 0, .string ⟨#[]⟩, .bool false, .slice none 0 0, .int .i64 1, .string ⟨#[49, 97]⟩, .bool false, .slice none 0 0, .int .i64 1, .string ⟨#[97, 32, 98]⟩, .bool false, .slice none 0 0, .int .i64 2, .string ⟨#[97]⟩, .bool false, .slice none 0 0,
      .int .i64 4, .string ⟨#[64]⟩, .bool false, .slice none 0 0, .int .i64 3, .string ⟨#[34, 97]⟩, .bool false, .slice none 0 0, .int .i64 1, .string ⟨#[97]⟩, .bool false, .slice (some ⟨w.heap.size, 0, none⟩) 2 2, .int .i64 1, .string ⟨#[97]⟩, .bool false, .slice (some ⟨w.heap.size + 1, 0, none⟩) 1 1] 28)
theorem badW_eq (w : World) : badW w = allocs w (badL w.heap.size) := rfl
theorem badW_below (w : World) : Below w.heap.size w (badW w) := by rw [badW_eq]; exact allocs_below _ _ (Below.refl _ _) (Nat.le_refl _)
theorem badW_blk (w : World) (j : Nat) (hj : j < 3) : (badW w).heap[w.heap.size + j]? = some ((badL w.heap.size)[j]'hj) := by rw [badW_eq]; exact allocs_blk w (badL w.heap.size) j hj
theorem badW_size (w : World) : (badW w).heap.size = w.heap.size + 3 := by rw [badW_eq, allocs_size]; rfl
theorem badE_len (n : Nat) : ∀ x ∈ badE n, x.cells.length = 4 := by
  intro x hx
  simp only [badE, List.mem_cons, List.not_mem_nil, or_false] at hx
  rcases hx with rfl | rfl | rfl | rfl | rfl | rfl | rfl | rfl <;> rfl
theorem badE_form (n : Nat) : ∀ x ∈ badE n, okTok x.d ∧ ∃ k s ao m l fp, x = tokE k s ao m l fp ∧ (fp = [] ∧ l = [] ∧ ao = none ∧ m = 0 ∨ fp = [n] ∧ l = [⟨#[98]⟩, ⟨#[97]⟩] ∧ ao = some ⟨n, 0, none⟩ ∧ m = 2 ∨ fp = [n + 1] ∧ l = [⟨#[49]⟩] ∧ ao = some ⟨n + 1, 0, none⟩ ∧ m = 1) := by
  intro x hx
  simp only [badE, List.mem_cons, List.not_mem_nil, or_false] at hx
  have ok : ∀ (k : Int) (s : ByteArray) (l : List ByteArray), s.size ≤ 1000 → 0 ≤ k → k ≤ 4 → l.length ≤ 3 → okTok ⟨k, s, false, l⟩ := fun k s l a b c d => ⟨a, b, c, d⟩
  rcases hx with rfl | rfl | rfl | rfl | rfl | rfl | rfl | rfl
  · exact ⟨ok _ _ _ (by decide) (by decide) (by decide) (by decide), _, _, _, _, _, _, rfl, .inl ⟨rfl, rfl, rfl, rfl⟩⟩
  · exact ⟨ok _ _ _ (by decide) (by decide) (by decide) (by decide), _, _, _, _, _, _, rfl, .inl ⟨rfl, rfl, rfl, rfl⟩⟩
  · exact ⟨ok _ _ _ (by decide) (by decide) (by decide) (by decide), _, _, _, _, _, _, rfl, .inl ⟨rfl, rfl, rfl, rfl⟩⟩
  · exact ⟨ok _ _ _ (by decide) (by decide) (by decide) (by decide), _, _, _, _, _, _, rfl, .inl ⟨rfl, rfl, rfl, rfl⟩⟩
  · exact ⟨ok _ _ _ (by decide) (by decide) (by decide) (by decide), _, _, _, _, _, _, rfl, .inl ⟨rfl, rfl, rfl, rfl⟩⟩
  · exact ⟨ok _ _ _ (by decide) (by decide) (by decide) (by decide), _, _, _, _, _, _, rfl, .inl ⟨rfl, rfl, rfl, rfl⟩⟩
  · exact ⟨ok _ _ _ (by decide) (by decide) (by decide) (by decide), _, _, _, _, _, _, rfl, .inr (.inl ⟨rfl, rfl, rfl, rfl⟩)⟩
  · exact ⟨ok _ _ _ (by decide) (by decide) (by decide) (by decide), _, _, _, _, _, _, rfl, .inr (.inr ⟨rfl, rfl, rfl, rfl⟩)⟩
/-- One of them, picked. -/
def PickedTok (B g : Nat) (i : Nat) (w : World) : Prop :=
  ∃ (k : Int) (s : ByteArray) (ao : Option Addr) (m : Nat) (l : List ByteArray) (fp : List Nat),
    w.cell? ⟨g, i * 4, none⟩ = some (.int .i64 k) ∧ w.cell? ⟨g, i * 4 + 1, none⟩ = some (.string s) ∧ w.cell? ⟨g, i * 4 + 2, none⟩ = some (.bool false) ∧ w.cell? ⟨g, i * 4 + 3, none⟩ = some (.slice ao m m) ∧
    sTok.R w [.int .i64 k, .string s, .bool false, .slice ao m m] ⟨k, s, false, l⟩ fp ∧ okTok ⟨k, s, false, l⟩ ∧ (∀ b ∈ fp, B ≤ b) ∧ (∀ b ∈ fp, ∃ cur t fr, w.heap[b]? = some (.cells cur t fr) ∧ t ≠ 28)
theorem bad_pick {w w4 : World} {rb : Nat} {r : Int} (hr : rb < w.heap.size) (hK : Kept [rb] (badW w) w4) (h0 : 0 ≤ r) (h1 : r < 8) : PickedTok w.heap.size (w.heap.size + 1 + 1) r.toNat w4 := by
  have gs := badW_size w
  have k0 := (hK.block _ (by omega) (by simp; omega)).trans (badW_blk w 0 (by omega))
  have k1 := (hK.block _ (by omega) (by simp; omega)).trans (badW_blk w 1 (by omega))
  have k2 := (hK.block _ (by omega) (by simp; omega)).trans (badW_blk w 2 (by omega))
  have hr8 : r.toNat < (badE w.heap.size).length := by show _ < 8; omega
  have hmem := List.getElem_mem hr8
  obtain ⟨hok, k, s, ao, m, l, fp, hx, hways⟩ := badE_form _ _ hmem
  have hc : ∀ j, j < 4 → w4.cell? ⟨w.heap.size + 1 + 1, r.toNat * 4 + j, none⟩ = (tokE k s ao m l fp).cells[j]? := fun j hj => by
    rw [cell_of_row w4 (w.heap.size + 1 + 1) (r.toNat * 4 + j) _ _ _ k2, List.getElem?_toArray, flatMap_at (f := Elem.cells) (badE_len _) hr8 hj, hx]
  rw [hx] at hok
  obtain ⟨o1, o2, o3, o4⟩ := hok
  have b1 : okInt k := ⟨by have : 0 ≤ k := o2; omega, by have : k ≤ 4 := o3; omega⟩
  have b2 : okStr s := by unfold okStr maxLen; have : s.size ≤ 1000 := o1; omega
  refine ⟨k, s, ao, m, l, fp, hc 0 (by omega), hc 1 (by omega), hc 2 (by omega), hc 3 (by omega), ?_, ⟨o1, o2, o3, o4⟩, ?_, ?_⟩
  · rcases hways with ⟨rfl, rfl, rfl, rfl⟩ | ⟨rfl, rfl, rfl, rfl⟩ | ⟨rfl, rfl, rfl, rfl⟩
    · exact ⟨_, rfl, b1, b2, slice_empty sStr _ _ _ (by simp)⟩
    · exact ⟨_, rfl, b1, b2, lit_strs (l := [⟨#[98]⟩, ⟨#[97]⟩]) k0 (by decide) (by decide) (by decide) 2 rfl⟩
    · exact ⟨_, rfl, b1, b2, lit_strs (l := [⟨#[49]⟩]) k1 (by decide) (by decide) (by decide) 1 rfl⟩
  · intro b hb
    rcases hways with ⟨rfl, _⟩ | ⟨rfl, _⟩ | ⟨rfl, _⟩ <;> simp at hb <;> omega
  · intro b hb
    rcases hways with ⟨rfl, _⟩ | ⟨rfl, _⟩ | ⟨rfl, _⟩ <;> simp at hb <;> subst hb
    · exact ⟨_, _, _, k0, by decide⟩
    · exact ⟨_, _, _, k1, by decide⟩

/-- append of one token out of its literal's own block. -/
theorem wp_append_tokE {w : World} {ops : Array Oper} {rest : List Oper} {o : Oper} {a : Act} {Q : Exit → Act → World → Prop} (hg : o.guard = none) (s y : Operand)
    (ho : o.op = .call { callee := .builtin .append, args := #[s, y], argTypes := #[37, 37] })
    (base : Nat) (v : Value) (L : List (Elem Tok)) (hs : a.eval s = v) (hown : RowE sTok base 28 v L w) (k : Int) (x : ByteArray) (b : Bool) (ao : Option Addr) (m c : Nat) (l : List ByteArray) (fp : List Nat)
    (hy : a.eval y = .slice (some ⟨w.heap.size, 0, none⟩) 1 1) (hR : sTok.R w [.int .i64 k, .string x, .bool b, .slice ao m c] ⟨k, x, b, l⟩ fp) (hlo : ∀ b ∈ fp, base ≤ b) (hty : ∀ b ∈ fp, ∃ cur t fr, w.heap[b]? = some (.cells cur t fr) ∧ t ≠ 28)
    (h63 : L.length ≤ 2000000) (hbase : base ≤ w.heap.size)
    (h : ∀ v' w', RowE sTok base 28 v' (L ++ [⟨[.int .i64 k, .string x, .bool b, .slice ao m c], ⟨k, x, b, l⟩, fp⟩]) w' → w.grownBy w' v.ownBlock → wpList Try.prog ops Q rest (a.put o.dst v') w') :
    wpList Try.prog ops Q (o :: rest) a (w.alloc (.cells #[.int .i64 k, .string x, .bool b, .slice ao m c] 28)) := by
  have hb := alloc_below' w (.cells #[.int .i64 k, .string x, .bool b, .slice ao m c] 28)
  refine wp_append_rowE (S := sTok) ti_tok rfl (by decide) _ (X := [⟨[.int .i64 k, .string x, .bool b, .slice ao m c], ⟨k, x, b, l⟩, fp⟩]) hg s y ho base v hs (hown.below hb) w.heap.size 1 1 hy rfl ?_ ?_ ?_ ?_ ?_ ?_ (by unfold maxLen; omega) (by omega) (by simp; omega) fun v' w' a b => h v' w' a (grown_trans (World.grownBy_alloc _ _ _) b)
  · intro x hx; obtain rfl := List.mem_singleton.1 hx; rfl
  · intro x hx; obtain rfl := List.mem_singleton.1 hx; simp [Value.oneCell']
  · intro j u hj
    rw [World.cell?_alloc_at _ _ _ _ rfl]
    simpa using hj
  · intro x hx; obtain rfl := List.mem_singleton.1 hx; exact sTok.below hR hb
  · intro x hx; obtain rfl := List.mem_singleton.1 hx; exact hlo
  · intro x hx b' hb'
    obtain rfl := List.mem_singleton.1 hx
    obtain ⟨cur, t, fr, h1, h2⟩ := hty b' hb'
    exact ⟨cur, t, fr, (hb.block b' (Array.getElem?_eq_some_iff.1 h1).1).trans h1, h2⟩

theorem okApp {L : List (Elem Tok)} {x : Elem Tok} (h : ∀ x ∈ L, okTok x.d) (hx : okTok x.d) : ∀ y ∈ L ++ [x], okTok y.d := fun y hy => by
  rcases List.mem_append.1 hy with hy | hy
  · exact h y hy
  · obtain rfl := List.mem_singleton.1 hy; exact hx
theorem okApp2 {L : List (Elem Tok)} {x x' : Elem Tok} (h : ∀ x ∈ L, okTok x.d) (hx : okTok x.d) (hx' : okTok x'.d) : ∀ y ∈ L ++ [x, x'], okTok y.d := fun y hy => by
  rcases List.mem_append.1 hy with hy | hy
  · exact h y hy
  · simp only [List.mem_cons, List.not_mem_nil, or_false] at hy
    rcases hy with rfl | rfl
    · exact hx
    · exact hx'
theorem grownRd {rb p B : Nat} {w w' : World} {ob : Option Nat} (h : Rd w rb p) (hg : w.grownBy w' ob) (hr : rb < B) (ho : ∀ b, ob = some b → B ≤ b) : Rd w' rb p := by
  obtain ⟨⟨a, l, cap, fp, h2, h3, h4, h5⟩, h6⟩ := h
  have hlt := (Array.getElem?_eq_some_iff.1 h2).1
  have hblk : ∀ b, b ≤ rb → w'.heap[b]? = w.heap[b]? := fun b hb => hg.block b (by omega) (by intro he; have := ho b he.symm; omega)
  exact ⟨⟨a, l, cap, fp, (hblk rb (Nat.le_refl _)).trans h2, (sSlice sByte).frame (fun b hb => hblk b (Nat.le_of_lt (h4 b hb))) h3, h4, h5⟩, h6⟩
theorem grownKept {rb : Nat} {w0 w w' : World} {ob : Option Nat} (h : Kept [rb] w0 w) (hg : w.grownBy w' ob) (ho : ∀ b, ob = some b → w0.heap.size ≤ b) : Kept [rb] w0 w' :=
  ⟨hg.os.trans h.os, hg.tape.trans h.tape, hg.output.trans h.output, Nat.le_trans h.size hg.size, fun k hk hn => (hg.block k (Nat.lt_of_lt_of_le hk h.size) (by intro he; have := ho k he.symm; omega)).trans (h.block k hk hn)⟩
theorem rdSet {rb g p : Nat} {w : World} (h : Rd w rb p) (hr : rb < g) (o : Nat) (u : Value) : Rd (w.setCell ⟨g, o, none⟩ u) rb p :=
  h.kept ((Kept.refl [g] w).setCell (p := ⟨g, o, none⟩) (by simp) u) (fun b hb => by have e : b = g := (by simpa using hb); omega)
theorem keptSet {rb g : Nat} {w w' : World} (hk : Kept [rb] w w') (hg : w.heap.size ≤ g) (u : Value) (o : Nat) : Kept [rb] w (w'.setCell ⟨g, o, none⟩ u) :=
  ⟨hk.os, hk.tape, hk.output, by simp [World.setCell]; exact hk.size, fun k h1 h2 => (Below.heap_setCell _ _ _ _ (by show k ≠ g; omega)).trans (hk.block k h1 h2)⟩
/-- Tokens are drawn, by at most n picks. -/
def DrawnToks (rb p n : Nat) (least : Nat) (w : World) (e : Ending) (w' : World) : Prop :=
  ∃ (v : Value) (L : List (Elem Tok)) (q : Nat), e = .returned v ∧ RowE sTok w.heap.size 28 v L w' ∧ (∀ x ∈ L, okTok x.d) ∧ least ≤ L.length ∧ L.length ≤ 61 ∧ q ≤ p + n ∧ Rd w' rb q ∧ Kept [rb] w w'

/-- .. 'odd' of 1 is true. -/
def OddT (rb p : Nat) (n : Int) (w : World) (e : Ending) (w' : World) : Prop := ∃ b : Bool, ∃ q : Nat, e = .returned (.bool b) ∧ Hid (n = 1 → b = true) ∧ p ≤ q ∧ q ≤ p + 1 ∧ Rd w' rb q ∧ Kept [rb] w w'
set_option maxHeartbeats 1000000 in
theorem oddT (rb p : Nat) (n : Int) (w : World) (H : Rd w rb p) (hp : p < 1000000) (hn : n ≤ 1000000) (hn0 : 0 ≤ n) :
    Calls Try.prog 56 #[.pointer (some ⟨rb, 0, none⟩), .int .i64 n] w (OddT rb p n w) := by
  by_cases h0 : 0 < n
  · go_enter Try.func56, Try.ntmps56
    go_wp2_with (go_at_call 33; refine (pick _ _ _ _ H hp hn (by omega)).mono ?_; rintro e w' ⟨r, rfl, hr0, hr1, hr2, hr3⟩)
    go_ret
    exact ⟨_, p + 1, rfl, (fun h => by simp; omega), by omega, by omega, hr2, hr3⟩
  · have e0 : n = 0 := by omega
    subst e0
    go_enter Try.func56, Try.ntmps56
    go_wp2
    go_ret
    exact ⟨_, p, rfl, (fun h => absurd h (by decide)), by omega, by omega, H, Kept.refl _ _⟩

set_option maxHeartbeats 8000000 in
set_option maxRecDepth 100000 in
theorem l20Tokens (rb p : Nat) (n : Int) (w : World) (H : Rd w rb p) (hp : p ≤ 100000) (hn : n ≤ 100) (hn0 : 0 ≤ n) (least : Nat) (hl : least ≤ 1) (hl1 : 0 < least → n = 1) :
    Calls Try.prog 34 #[.pointer (some ⟨rb, 0, none⟩), .int .i64 n] w (DrawnToks rb p 300 least w) := by
  have hrb := H.lt
  go_enter Try.func34, Try.ntmps34
  go_wp2_with fail
  refine (l20Line rb p _ _ H hp (by omega) (by omega)).mono ?_
  rintro e w1 ⟨s, q1, rfl, hs, hq1, hR1, hK1⟩
  go_wp2_with fail
  refine (spec_TokensOf_row s _ (by unfold maxLen; omega)).mono ?_
  rintro e w2 ⟨v, rfl, hrow, hfr, hB2⟩
  have hcnt := (tokRes_all s).1
  obtain ⟨hE0, hok0⟩ := toks_rowE hrow hfr hs
  have hR2 := hR1.grow hB2
  have hK2 := hK1.trans (Kept.of_below (fp := [rb]) hB2)
  replace hE0 := hE0.lower hK1.size
  have HN : Hid (((tokRes s).1.map elemTok).length ≤ 60) := by show _ ≤ _; rw [List.length_map]; exact hcnt
  generalize (tokRes s).1.map elemTok = L0 at hE0 hok0 HN
  generalize (tokRes s).2 = b0 at *
  clear hrow hfr hcnt hB2 hR1 hK1
  obtain ⟨a, cap, rfl, hc, hm, hpos⟩ := hE0.val
  unfold maxLen at hm
  have hlen := HN.out
  go_wp2
  go_loopw [7] (fun i wr => ∃ (k q : Nat) (L : List (Elem Tok)), k ≤ L0.length ∧ i = .int .i64 k ∧ q ≤ q1 + 2 * k ∧ Hid (L.length = L0.length) ∧ RowE sTok w.heap.size 28 (.slice a L0.length cap) L wr ∧ (∀ x ∈ L, okTok x.d) ∧ Rd wr rb q ∧ Kept [rb] w wr) (fun i _ => L0.length - (intOf i).toNat)
  case atStart => exact ⟨0, q1, L0, by omega, rfl, by omega, rfl, hE0, hok0, hR2, hK2⟩
  case round =>
    obtain ⟨k, q, L, hk, rfl, hq, HL, hE, hok, hR, hK⟩ := hrel
    clear hE0 hok0 hR2 hK2
    by_cases hlt : k < L0.length
    · obtain ⟨g, rfl, hg1, hg2⟩ := hpos (by omega)
      go_wp2_with fail
      refine (pick rb q _ _ hR (by omega) (by omega) (by omega)).mono ?_
      rintro e w3 ⟨r, rfl, h0, h1, hR3, hK3⟩
      have hE3 := hE.keptR hK3 hrb
      have hK3' := hK.trans hK3
      by_cases hr : r = 0
      · have hr' : (r == 0) = true := by simp [hr]
        clear hr
        go_wp2_with fail
        refine (pick rb (q + 1) _ _ (hR3.grow (hidW_below w3)) (by omega) (by omega) (by omega)).mono ?_
        rintro e w4 ⟨r2, rfl, h20, h21, hR4, hK4⟩
        obtain ⟨hb, hn', l, hcl, hRl, hll, hlb, hty⟩ := hid_lits hR3.lt hK4 h20 (by omega)
        have hE4 := (hE3.below (hidW_below w3)).keptR hK4 hrb
        have hK4' := (hK3'.trans (Kept.of_below (fp := [rb]) (hidW_below w3))).trans hK4
        have hkL : k < L.length := by rw [HL.out]; exact hlt
        have hkm := List.getElem_mem hkL
        obtain ⟨hh, hcs, hi, hst, _⟩ := hE4.el _ hkm
        have HCS := Lib.hid hcs
        have c3 : w4.cell? ⟨g, k * 4 + 3, none⟩ = some hh := hE4.cellAt hkL (j := 3) (by decide) (by rw [hcs]; rfl)
        have f3 : w4.frozen? ⟨g, k * 4 + 3, none⟩ = false := hE4.frozen _
        have HOK := Lib.hid (hok _ hkm)
        have HI := Lib.hid (And.intro hi hst)
        obtain ⟨cur, fr, hcur⟩ := hty
        have HS : Hid (RowE sTok w.heap.size 28 (.slice (some ⟨g, 0, none⟩) L0.length cap) (L.set k ⟨[.int .i64 L[k].d.kind, .string L[k].d.text, .bool L[k].d.spaced, .slice (some ⟨hb, 0, none⟩) hn' hn'], ⟨L[k].d.kind, L[k].d.text, L[k].d.spaced, l⟩, [hb]⟩) (w4.setCell ⟨g, k * 4 + 3, none⟩ (.slice (some ⟨hb, 0, none⟩) hn' hn'))) := by
          refine hE4.set hkL (j := 3) (by decide) _ _ (by rw [HCS.out]; rfl) ⟨_, rfl, HI.out.1, HI.out.2, hRl⟩ (fun b hb' => ?_) (fun b hb' => ?_)
          · have e : b = hb := by simpa using hb'
            subst e
            have := hK3'.size; omega
          · have e : b = hb := by simpa using hb'
            subst e
            exact ⟨cur, _, fr, hcur, by decide⟩
        have HOKs : Hid (∀ x ∈ L.set k ⟨[.int .i64 L[k].d.kind, .string L[k].d.text, .bool L[k].d.spaced, .slice (some ⟨hb, 0, none⟩) hn' hn'], ⟨L[k].d.kind, L[k].d.text, L[k].d.spaced, l⟩, [hb]⟩, okTok x.d) := by
          intro x hx
          rcases List.mem_or_eq_of_mem_set hx with h | h
          · exact hok x h
          · subst h; exact ⟨HOK.out.1, HOK.out.2.1, HOK.out.2.2.1, hll⟩
        have HLs : Hid ((L.set k ⟨[.int .i64 L[k].d.kind, .string L[k].d.text, .bool L[k].d.spaced, .slice (some ⟨hb, 0, none⟩) hn' hn'], ⟨L[k].d.kind, L[k].d.text, L[k].d.spaced, l⟩, [hb]⟩).length = L0.length) := by show _ = _; rw [List.length_set]; exact HL.out
        have hR5 : Hid (Rd (w4.setCell ⟨g, k * 4 + 3, none⟩ (.slice (some ⟨hb, 0, none⟩) hn' hn')) rb (q + 1 + 1)) := hR4.kept ((Kept.refl [g] w4).setCell (p := ⟨g, k * 4 + 3, none⟩) (by simp) _) (fun b hb' => by have e : b = g := (by simpa using hb'); omega)
        have hK5 : Hid (Kept [rb] w (w4.setCell ⟨g, k * 4 + 3, none⟩ (.slice (some ⟨hb, 0, none⟩) hn' hn'))) := keptSet hK4' hg1 _ _
        clear hcs hok hE hE3 hE4 hi hst HCS HI hcur hR3 hK hK3 hK3' hK4 hR hRl hkm hR4 hK4'
        go_wp2
        go_roundw
        case rel => exact ⟨k + 1, q + 1 + 1, _, by omega, by go_num, by omega, HLs.out, HS.out, HOKs.out, hR5.out, hK5.out⟩
        case measure => simp [intOf]; omega
      · have hr' : (r == 0) = false := by simp [hr]
        clear hr
        go_wp2
        go_roundw
        case rel => exact ⟨k + 1, q + 1, L, by omega, by go_num, by omega, HL, hE3, hok, hR3, hK3'⟩
        case measure => simp [intOf]; omega
    · go_wp2_with fail
      refine (oddT rb q _ _ hR (by omega) (by omega) (by omega)).mono ?_
      rintro e w3 ⟨b, q2, rfl, hb1, hq1', hq2, hR3, hK3⟩
      have hE3 := hE.keptR hK3 hrb
      have hK3' := hK.trans hK3
      have HL1 := HL.out
      clear hE hK hR
      cases b
      · have HZ : Hid (least = 0) := by
          show _ = _
          by_cases h : 0 < least
          · exact absurd (hb1.out (hl1 h)) (by decide)
          · omega
        go_wp2
        go_ret
        exact ⟨_, L, q2, rfl, hE3, hok, by rw [HZ.out]; omega, by omega, by omega, hR3, hK3'⟩
      · go_wp2_with fail
        refine (pick rb q2 _ _ (hR3.grow (badW_below w3)) (by omega) (by omega) (by omega)).mono ?_
        rintro e w4 ⟨r2, rfl, h20, h21, hR4, hK4⟩
        obtain ⟨tk, ts, ao, tm, tl, tf, d0, d1, d2, d3, dR, dok, dlo, dty⟩ := bad_pick hR3.lt hK4 h20 (by omega)
        have hE4 := (hE3.below (badW_below w3)).keptR hK4 hrb
        have hK4' := (hK3'.trans (Kept.of_below (fp := [rb]) (badW_below w3))).trans hK4
        have hw4 : w3.heap.size ≤ w4.heap.size := Nat.le_trans (badW_below w3).size hK4.size
        have hw0 := hK4'.size
        have HT := Lib.hid (And.intro dR (And.intro (fun b hb => Nat.le_trans (Nat.le_trans hK3'.size (Nat.le_refl _)) (dlo b hb)) dty))
        have HR4 := Lib.hid hR4
        have HE4 := Lib.hid hE4
        have HOK := Lib.hid hok
        have HDK := Lib.hid dok
        have HK4' := Lib.hid hK4'
        clear hE3 hK3 hK3' hK4 hR3 dR dlo dty hE4 hR4 hok dok hK4' HL HN
        go_wp2_with (at_builtin; refine wp_append_tokE rfl (.tmp 51) (.tmp 59) rfl w.heap.size (.slice a L0.length cap) L rfl HE4.out tk ts false ao tm tm tl tf rfl HT.out.1 HT.out.2.1 HT.out.2.2 (by omega) hw0 ?_; intro v5 w5 hE5 hg5)
        go_ret
        exact ⟨v5, _, q2 + 1, rfl, hE5, okApp HOK.out HDK.out, by rw [List.length_append]; simp; omega, by rw [List.length_append]; simp; omega, by omega, grownRd HR4.out hg5 hrb HE4.out.mine, grownKept HK4'.out hg5 HE4.out.mine⟩

/-- append of two tokens out of their literal's own block. -/
theorem wp_append_tok2 {w : World} {ops : Array Oper} {rest : List Oper} {o : Oper} {a : Act} {Q : Exit → Act → World → Prop} (hg : o.guard = none) (s y : Operand)
    (ho : o.op = .call { callee := .builtin .append, args := #[s, y], argTypes := #[37, 37] })
    (base : Nat) (v : Value) (L : List (Elem Tok)) (hs : a.eval s = v) (hown : RowE sTok base 28 v L w) (k1 : Int) (x1 : ByteArray) (k2 : Int) (x2 : ByteArray)
    (hy : a.eval y = .slice (some ⟨w.heap.size, 0, none⟩) 2 2) (h1 : okTok ⟨k1, x1, false, []⟩) (h2 : okTok ⟨k2, x2, false, []⟩) (h63 : L.length ≤ 2000000) (hbase : base ≤ w.heap.size)
    (h : ∀ v' w', RowE sTok base 28 v' (L ++ [tokE k1 x1 none 0 [] [], tokE k2 x2 none 0 [] []]) w' → w.grownBy w' v.ownBlock → wpList Try.prog ops Q rest (a.put o.dst v') w') :
    wpList Try.prog ops Q (o :: rest) a (w.alloc (.cells #[.int .i64 k1, .string x1, .bool false, .slice none 0 0, .int .i64 k2, .string x2, .bool false, .slice none 0 0] 28)) := by
  have hb := alloc_below' w (.cells #[.int .i64 k1, .string x1, .bool false, .slice none 0 0, .int .i64 k2, .string x2, .bool false, .slice none 0 0] 28)
  have hX : ∀ {P : Elem Tok → Prop}, P (tokE k1 x1 none 0 [] []) → P (tokE k2 x2 none 0 [] []) → ∀ x ∈ [tokE k1 x1 none 0 [] [], tokE k2 x2 none 0 [] []], P x := fun a b x hx => by
    simp only [List.mem_cons, List.not_mem_nil, or_false] at hx
    rcases hx with rfl | rfl
    · exact a
    · exact b
  have R : ∀ (k : Int) (x : ByteArray) (W : World), okTok ⟨k, x, false, []⟩ → sTok.R W (tokE k x none 0 [] []).cells (tokE k x none 0 [] []).d [] := fun k x W h => by
    obtain ⟨a1, a2, a3, a4⟩ := h
    have b1 : okInt k := ⟨by have : 0 ≤ k := a2; omega, by have : k ≤ 4 := a3; omega⟩
    have b2 : okStr x := by unfold okStr maxLen; have : x.size ≤ 1000 := a1; omega
    exact ⟨_, rfl, b1, b2, slice_empty sStr W none 0 (by simp)⟩
  refine wp_append_rowE (S := sTok) ti_tok rfl (by decide) _ (X := [tokE k1 x1 none 0 [] [], tokE k2 x2 none 0 [] []]) hg s y ho base v hs (hown.below hb) w.heap.size 2 2 hy rfl (hX rfl rfl) (hX (by simp [tokE, Value.oneCell']) (by simp [tokE, Value.oneCell'])) ?_ (hX (R _ _ _ h1) (R _ _ _ h2)) (hX (by simp [tokE]) (by simp [tokE])) (hX (by simp [tokE]) (by simp [tokE])) (by unfold maxLen; omega) (by omega) (by simp; omega) fun v' w' a b => h v' w' a (grown_trans (World.grownBy_alloc _ _ _) b)
  intro j u hj
  rw [World.cell?_alloc_at _ _ _ _ rfl]
  simpa [tokE] using hj

theorem okA : okTok ⟨1, ⟨#[97]⟩, false, []⟩ := ⟨by decide, by decide, by decide, by decide⟩
theorem ok12 : okTok ⟨2, ⟨#[49, 50]⟩, false, []⟩ := ⟨by decide, by decide, by decide, by decide⟩
/-- A token is drawn. -/
def DrawnTok (rb p n : Nat) (w : World) (e : Ending) (w' : World) : Prop :=
  ∃ (k : Int) (s : ByteArray) (sp : Bool) (ao : Option Addr) (m c : Nat) (l : List ByteArray) (fp : List Nat) (q : Nat), e = .returned (.agg #[.int .i64 k, .string s, .bool sp, .slice ao m c]) ∧
    sTok.R w' [.int .i64 k, .string s, .bool sp, .slice ao m c] ⟨k, s, sp, l⟩ fp ∧ okTok ⟨k, s, sp, l⟩ ∧ (∀ b ∈ fp, w.heap.size ≤ b) ∧ (∀ b ∈ fp, ∃ cur t fr, w'.heap[b]? = some (.cells cur t fr) ∧ t ≠ 28) ∧ q ≤ p + n ∧ Rd w' rb q ∧ Kept [rb] w w'
theorem RowE.tokAt {base e g n cap : Nat} {L : List (Elem Tok)} {w : World} (h : RowE sTok base e (.slice (some ⟨g, 0, none⟩) n cap) L w) {i : Nat} (hi : i < L.length) :
    ∃ ao m c, w.cell? ⟨g, i * 4, none⟩ = some (.int .i64 L[i].d.kind) ∧ w.cell? ⟨g, i * 4 + 1, none⟩ = some (.string L[i].d.text) ∧ w.cell? ⟨g, i * 4 + 2, none⟩ = some (.bool L[i].d.spaced) ∧ w.cell? ⟨g, i * 4 + 3, none⟩ = some (.slice ao m c) ∧
      sTok.R w [.int .i64 L[i].d.kind, .string L[i].d.text, .bool L[i].d.spaced, .slice ao m c] L[i].d L[i].fp := by
  have hR := h.el _ (List.getElem_mem hi)
  have hR' := hR
  obtain ⟨hh, hcs, _, _, hK⟩ := hR
  obtain ⟨ao, c, rfl, -⟩ := open_rows hK
  have hc := fun j (hj : j < 4) u (hu : L[i].cells[j]? = some u) => h.cellAt hi hj hu
  rw [hcs] at hR'
  exact ⟨ao, _, c, hc 0 (by omega) _ (by rw [hcs]; rfl), hc 1 (by omega) _ (by rw [hcs]; rfl), hc 2 (by omega) _ (by rw [hcs]; rfl), hc 3 (by omega) _ (by rw [hcs]; rfl), hR'⟩
theorem blkKept {rb g : Nat} {w w' : World} {o : Obj} (h : w.heap[g]? = some o) (hk : Kept [rb] w w') (hn : g ≠ rb) : w'.heap[g]? = some o :=
  (hk.block g (Array.getElem?_eq_some_iff.1 h).1 (by simpa using hn)).trans h

theorem ty_sets {w : World} {g : Nat} {fp : List Nat} {e : TypeId} (h : ∀ b ∈ fp, ∃ cur t fr, w.heap[b]? = some (.cells cur t fr) ∧ t ≠ e) (hn : g ∉ fp) (v0 v1 v2 v3 : Value) :
    ∀ b ∈ fp, ∃ cur t fr, ((((w.setCell ⟨g, 0, none⟩ v0).setCell ⟨g, 1, none⟩ v1).setCell ⟨g, 2, none⟩ v2).setCell ⟨g, 3, none⟩ v3).heap[b]? = some (.cells cur t fr) ∧ t ≠ e := fun b hb => by
  obtain ⟨cur, t, fr, h1, h2⟩ := h b hb
  have hne : b ≠ g := fun e => hn (e ▸ hb)
  exact ⟨cur, t, fr, blk_other (blk_other (blk_other (blk_other h1 hne 0 v0) hne 1 v1) hne 2 v2) hne 3 v3, h2⟩

set_option maxHeartbeats 8000000 in
set_option maxRecDepth 100000 in
theorem l20Token (rb p : Nat) (n : Int) (w : World) (H : Rd w rb p) (hp : p ≤ 50000) (hn : n ≤ 100) (hn0 : 0 ≤ n) :
    Calls Try.prog 35 #[.pointer (some ⟨rb, 0, none⟩), .int .i64 n] w (DrawnTok rb p 700 w) := by
  have hrb := H.lt
  have hB0 := alloc_below' w (.cells #[.int .i64 0, .string ⟨#[]⟩, .bool false, .slice none 0 0] 28)
  have HX := Lib.hid (show (w.alloc (.cells #[.int .i64 0, .string ⟨#[]⟩, .bool false, .slice none 0 0] 28)).heap[w.heap.size]? = some (.cells #[.int .i64 0, .string ⟨#[]⟩, .bool false, .slice none 0 0] 28 (0, 0)) from by show (w.heap.push _)[_]? = _; simp)
  have hs0 : (w.alloc (.cells #[.int .i64 0, .string ⟨#[]⟩, .bool false, .slice none 0 0] 28)).heap.size = w.heap.size + 1 := Array.size_push _
  have HS := Lib.hid hs0
  clear hs0
  have hK0 : Kept [rb] w (w.alloc (.cells #[.int .i64 0, .string ⟨#[]⟩, .bool false, .slice none 0 0] 28)) := Kept.of_below hB0
  go_enter Try.func35, Try.ntmps35
  go_wp2_with fail
  refine (l20Tokens rb p _ _ (H.grow hB0) (by omega) (by omega) (by omega) 0 (by omega) (by omega)).mono ?_
  rintro e w1 ⟨v1, L, q1, rfl, hE1, hok1, -, hl1, hq1, hR1, hK1⟩
  rw [HS.out] at hE1
  have HX1 := Lib.hid (blkKept HX.out hK1 (by omega))
  have hK1' := hK0.trans hK1
  have hw1 : w.heap.size + 1 ≤ w1.heap.size := by have := hK1.size; rw [HS.out] at this; exact this
  go_wp2_with (at_builtin; refine wp_append_tok2 rfl (.tmp 7) (.tmp 10) rfl (w.heap.size + 1) v1 L rfl hE1 1 ⟨#[97]⟩ 2 ⟨#[49, 50]⟩ rfl okA ok12 (by omega) hw1 ?_; intro v2 w2 hE2 hg2)
  have hL2 : (L ++ [tokE 1 ⟨#[97]⟩ none 0 [] [], tokE 2 ⟨#[49, 50]⟩ none 0 [] []]).length = L.length + 2 := by simp
  have HOK := Lib.hid (okApp2 hok1 (x := tokE 1 ⟨#[97]⟩ none 0 [] []) (x' := tokE 2 ⟨#[49, 50]⟩ none 0 [] []) okA ok12)
  have HR2 := grownRd hR1 hg2 (by omega : rb < w.heap.size + 1) hE1.mine
  have HX2 := Lib.hid ((hg2.block _ (Array.getElem?_eq_some_iff.1 HX1.out).1 (fun h => by have := hE1.mine _ h.symm; omega)).trans HX1.out)
  have HK2 := grownKept hK1' hg2 (fun b hb => by have := hE1.mine b hb; omega)
  generalize (L ++ [tokE 1 ⟨#[97]⟩ none 0 [] [], tokE 2 ⟨#[49, 50]⟩ none 0 [] []]) = L2 at *
  clear hE1 hok1 hg2 HX1 hR1 hK1 hK1' HX hK0 hB0 H
  have HE2 := Lib.hid hE2
  have HK2' := Lib.hid HK2
  have hw2 := HK2.size
  go_wp2_with fail
  refine (odd rb q1 _ _ HR2 (by omega) (by omega) (by omega)).mono ?_
  rintro e w3 ⟨b, q2, rfl, hq2, hq3, hR3, hK3⟩
  have HE3 := Lib.hid (HE2.out.keptR hK3 (by omega))
  have HX3 := Lib.hid (blkKept HX2.out hK3 (by omega))
  have HK3 := Lib.hid (HK2'.out.trans hK3)
  have hw3s : w.heap.size + 1 ≤ w3.heap.size := (Array.getElem?_eq_some_iff.1 HX3.out).1
  clear hE2 HE2 HX2 HK2 HK2' hK3 HR2
  cases b
  · obtain ⟨a, cap, rfl, hc, hm, hpos⟩ := HE3.out.val
    unfold maxLen at hm
    obtain ⟨g, rfl, hg1, hg2⟩ := hpos (by omega)
    clear hpos
    go_wp2_with fail
    refine (pick rb q2 _ _ hR3 (by omega) (by omega) (by omega)).mono ?_
    rintro e w4 ⟨r, rfl, h0, h1, hR4, hK4⟩
    have HE4 := Lib.hid (HE3.out.keptR hK4 (by omega))
    have HX4 := Lib.hid (blkKept HX3.out hK4 (by omega))
    have HK4 := Lib.hid (HK3.out.trans hK4)
    have HR4 := Lib.hid hR4
    have hi : r.toNat < L2.length := by omega
    clear HE3 HX3 HK3 hK4 hR3 hR4
    obtain ⟨ao, tm, tc, d0, d1, d2, d3, dR⟩ := HE4.out.tokAt hi
    have dn : w.heap.size ∉ L2[r.toNat].fp := fun hx => by have := HE4.out.lo _ (List.getElem_mem hi) _ hx; omega
    have dlo := Lib.hid (show ∀ b ∈ L2[r.toNat].fp, w.heap.size ≤ b from fun b hx => by have := HE4.out.lo _ (List.getElem_mem hi) _ hx; omega)
    have qc0 : w4.cell? ⟨w.heap.size, 0, none⟩ = some (.int .i64 0) := cell_of_row _ _ 0 _ _ _ HX4.out
    have qc1 : w4.cell? ⟨w.heap.size, 1, none⟩ = some (.string ⟨#[]⟩) := cell_of_row _ _ 1 _ _ _ HX4.out
    have qc2 : w4.cell? ⟨w.heap.size, 2, none⟩ = some (.bool false) := cell_of_row _ _ 2 _ _ _ HX4.out
    have qc3 : w4.cell? ⟨w.heap.size, 3, none⟩ = some (.slice none 0 0) := cell_of_row _ _ 3 _ _ _ HX4.out
    have f0 : w4.frozen? ⟨w.heap.size, 0, none⟩ = false := frozen_of_row _ _ 0 _ _ HX4.out
    have f1 : w4.frozen? ⟨w.heap.size, 1, none⟩ = false := frozen_of_row _ _ 1 _ _ HX4.out
    have f2 : w4.frozen? ⟨w.heap.size, 2, none⟩ = false := frozen_of_row _ _ 2 _ _ HX4.out
    have f3 : w4.frozen? ⟨w.heap.size, 3, none⟩ = false := frozen_of_row _ _ 3 _ _ HX4.out
    have HOK1 := Lib.hid (HOK.out _ (List.getElem_mem hi))
    have dty := HE4.out.ty _ (List.getElem_mem hi)
    generalize L2[r.toNat].fp = tf at dR dn dlo dty
    have HTY := Lib.hid (ty_sets dty dn (.int .i64 L2[r.toNat].d.kind) (.string L2[r.toNat].d.text) (.bool L2[r.toNat].d.spaced) (.slice ao tm tc))
    clear dty
    have HBK := Lib.hid (blk_set (blk_set (blk_set (blk_set HX4.out 0 (.int .i64 L2[r.toNat].d.kind)) 1 (.string L2[r.toNat].d.text)) 2 (.bool L2[r.toNat].d.spaced)) 3 (.slice ao tm tc))
    have HDR := Lib.hid (sTok.setB (sTok.setB (sTok.setB (sTok.setB dR dn 0 (.int .i64 L2[r.toNat].d.kind)) dn 1 (.string L2[r.toNat].d.text)) dn 2 (.bool L2[r.toNat].d.spaced)) dn 3 (.slice ao tm tc))
    have HRF := Lib.hid (rdSet (rdSet (rdSet (rdSet HR4.out hrb 0 (.int .i64 L2[r.toNat].d.kind)) hrb 1 (.string L2[r.toNat].d.text)) hrb 2 (.bool L2[r.toNat].d.spaced)) hrb 3 (.slice ao tm tc))
    have HKF := Lib.hid (keptSet (keptSet (keptSet (keptSet HK4.out (Nat.le_refl _) (.int .i64 L2[r.toNat].d.kind) 0) (Nat.le_refl _) (.string L2[r.toNat].d.text) 1) (Nat.le_refl _) (.bool L2[r.toNat].d.spaced) 2) (Nat.le_refl _) (.slice ao tm tc) 3)
    clear dR dn
    go_wp2
    refine bodyPost_ret (results_cell_row rfl _ _ w.heap.size _ _ _ _ rfl HBK.out Try.underlying28 rfl (by kernel_rfl)) rfl ?_
    exact ⟨_, _, _, ao, tm, tc, _, tf, q2 + 1, rfl, HDR.out, HOK1.out, dlo.out, HTY.out, by omega, HRF.out, HKF.out⟩
  · go_wp2_with fail
    refine (l20Tokens rb q2 _ _ hR3 (by omega) (by omega) (by omega) 1 (by omega) (by omega)).mono ?_
    rintro e w4 ⟨v4, L4, q4, rfl, hE4, hok4, hl4, hl5, hq4, hR4, hK4⟩
    have hw3 : w.heap.size + 1 ≤ w3.heap.size := hw3s
    have HE4 := Lib.hid (hE4.lower hw3)
    have HX4 := Lib.hid (blkKept HX3.out hK4 (by omega))
    have HK4 := Lib.hid (HK3.out.trans hK4)
    have HR4 := Lib.hid hR4
    have HOK4 := Lib.hid hok4
    clear HE3 HX3 HK3 hK4 hR3 hR4 hE4 hok4
    obtain ⟨a, cap, rfl, hc, hm, hpos⟩ := HE4.out.val
    unfold maxLen at hm
    obtain ⟨g, rfl, hg1, hg2⟩ := hpos (by omega)
    clear hpos
    have hi : L4.length - 1 < L4.length := by omega
    have h6 : ((L4.length : Int) - 1).toNat = L4.length - 1 := by omega
    obtain ⟨ao, tm, tc, d0, d1, d2, d3, dR⟩ := HE4.out.tokAt hi
    have dn : w.heap.size ∉ L4[L4.length - 1].fp := fun hx => by have := HE4.out.lo _ (List.getElem_mem hi) _ hx; omega
    have dlo := Lib.hid (show ∀ b ∈ L4[L4.length - 1].fp, w.heap.size ≤ b from fun b hx => by have := HE4.out.lo _ (List.getElem_mem hi) _ hx; omega)
    have qc0 : w4.cell? ⟨w.heap.size, 0, none⟩ = some (.int .i64 0) := cell_of_row _ _ 0 _ _ _ HX4.out
    have qc1 : w4.cell? ⟨w.heap.size, 1, none⟩ = some (.string ⟨#[]⟩) := cell_of_row _ _ 1 _ _ _ HX4.out
    have qc2 : w4.cell? ⟨w.heap.size, 2, none⟩ = some (.bool false) := cell_of_row _ _ 2 _ _ _ HX4.out
    have qc3 : w4.cell? ⟨w.heap.size, 3, none⟩ = some (.slice none 0 0) := cell_of_row _ _ 3 _ _ _ HX4.out
    have f0 : w4.frozen? ⟨w.heap.size, 0, none⟩ = false := frozen_of_row _ _ 0 _ _ HX4.out
    have f1 : w4.frozen? ⟨w.heap.size, 1, none⟩ = false := frozen_of_row _ _ 1 _ _ HX4.out
    have f2 : w4.frozen? ⟨w.heap.size, 2, none⟩ = false := frozen_of_row _ _ 2 _ _ HX4.out
    have f3 : w4.frozen? ⟨w.heap.size, 3, none⟩ = false := frozen_of_row _ _ 3 _ _ HX4.out
    have HOK1 := Lib.hid (HOK4.out _ (List.getElem_mem hi))
    have dty := HE4.out.ty _ (List.getElem_mem hi)
    generalize L4[L4.length - 1].fp = tf at dR dn dlo dty
    have HTY := Lib.hid (ty_sets dty dn (.int .i64 L4[L4.length - 1].d.kind) (.string L4[L4.length - 1].d.text) (.bool L4[L4.length - 1].d.spaced) (.slice ao tm tc))
    clear dty
    have HBK := Lib.hid (blk_set (blk_set (blk_set (blk_set HX4.out 0 (.int .i64 L4[L4.length - 1].d.kind)) 1 (.string L4[L4.length - 1].d.text)) 2 (.bool L4[L4.length - 1].d.spaced)) 3 (.slice ao tm tc))
    have HDR := Lib.hid (sTok.setB (sTok.setB (sTok.setB (sTok.setB dR dn 0 (.int .i64 L4[L4.length - 1].d.kind)) dn 1 (.string L4[L4.length - 1].d.text)) dn 2 (.bool L4[L4.length - 1].d.spaced)) dn 3 (.slice ao tm tc))
    have HRF := Lib.hid (rdSet (rdSet (rdSet (rdSet HR4.out hrb 0 (.int .i64 L4[L4.length - 1].d.kind)) hrb 1 (.string L4[L4.length - 1].d.text)) hrb 2 (.bool L4[L4.length - 1].d.spaced)) hrb 3 (.slice ao tm tc))
    have HKF := Lib.hid (keptSet (keptSet (keptSet (keptSet HK4.out (Nat.le_refl _) (.int .i64 L4[L4.length - 1].d.kind) 0) (Nat.le_refl _) (.string L4[L4.length - 1].d.text) 1) (Nat.le_refl _) (.bool L4[L4.length - 1].d.spaced) 2) (Nat.le_refl _) (.slice ao tm tc) 3)
    clear dR dn
    go_wp2
    refine bodyPost_ret (results_cell_row rfl _ _ w.heap.size _ _ _ _ rfl HBK.out Try.underlying28 rfl (by kernel_rfl)) rfl ?_
    exact ⟨_, _, _, ao, tm, tc, _, tf, q4, rfl, HDR.out, HOK1.out, dlo.out, HTY.out, by omega, HRF.out, HKF.out⟩

end Go.Proofs.Ytgjjidjkpmmcoaa

/- Copies of tokens: the model's own. -/
namespace Go.Proofs.Ytgjjidjkpmmcoaa
open Go.RowKit

theorem run_append_nil {P : Program} {w : World} (base : Nat) (t ty e : TypeId) (i : TypeInfo) (size c : Nat) (ht : P.underlying t = some (.slice e)) (hi : P.info? e = some i)
    (v : Value) (n : Nat) (xs : List Value) (hown : w.ownsRow base e size v n xs) : (Builtin.append_ #[t, t] ty #[v, .slice none 0 c]).run P w = .ok v w := by
  rcases hown.2 with ⟨rfl, rfl⟩ | ⟨g, cap, cur, rfl, _, _, hnc, _⟩
  · simp [Builtin.append_, run_underlying ht, sizeOf, typeInfo, hi, Builtin.lenOf, Builtin.firstCells]
  · simp [Builtin.append_, run_underlying ht, sizeOf, typeInfo, hi, Builtin.lenOf, Builtin.firstCells, hnc, storeCells]
/-- append(row, texts...), the texts of any slice that can be read. -/
theorem wp_append_strsR {w : World} {ops : Array Oper} {rest : List Oper} {o : Oper} {a : Act} {Q : Exit → Act → World → Prop} (hg : o.guard = none) (s y : Operand)
    (ho : o.op = .call { callee := .builtin .append, args := #[s, y], argTypes := #[22, 22] })
    (base : Nat) (v u : Value) (L M : List ByteArray) (fp : List Nat) (hs : a.eval s = v) (hown : w.ownsRow base 9 1 v L.length (L.map Value.string)) (hy : a.eval y = u) (HM : (sSlice sStr).R w [u] M fp)
    (h63 : L.length + M.length ≤ 4000000) (hbase : base ≤ w.heap.size)
    (h : ∀ v' w', w'.ownsRow base 9 1 v' (L ++ M).length ((L ++ M).map Value.string) → w.grownBy w' v.ownBlock → wpList Try.prog ops Q rest (a.put o.dst v') w') : wpList Try.prog ops Q (o :: rest) a w := by
  obtain ⟨i, hi, hz0, hz1, hz2⟩ := info_parts ti27.2
  obtain ⟨ad, cap, rfl, hc, hm, hcell, hsz⟩ := open_strs HM
  have key : ∀ (b off : Nat), (0 < M.length → ∀ j, (hj : j < M.length) → w.cell? ⟨b, off + j, none⟩ = some (.string M[j])) → a.eval y = .slice (some ⟨b, off, none⟩) M.length cap → wpList Try.prog ops Q (o :: rest) a w := by
    intro b off hat hy'
    refine wpList_append_own _ hg s y 22 ho base 9 i _ 1 16 ti27.1 hi hz0 hz1 hz2 rfl (by decide) v L.length (L.map Value.string) hs hown ⟨b, off, none⟩ M.length cap (M.map Value.string) hy' (by simp) ?_ ?_ (by unfold maxLen; omega) (by omega) hbase fun v' w' h1 h2 _ => h v' w' ?_ h2
    · intro j x hj
      have hj' : j < M.length := by have := (List.getElem?_eq_some_iff.1 hj).1; simpa using this
      rw [Addr.add_lit, hat (by omega) j hj', ← hj]
      simp [List.getElem?_eq_getElem hj']
    · intro x hx
      obtain ⟨s, _, rfl⟩ := List.mem_map.1 hx
      rfl
    · simpa using h1
  by_cases h0 : 0 < M.length
  · obtain ⟨b, off, rfl, _, _, hc2⟩ := hcell h0
    exact key b off (fun _ j hj => hc2 j hj) hy
  · have hM : M = [] := List.length_eq_zero_iff.1 (by omega)
    subst hM
    cases ad with
    | none =>
      have hrun := run_append_nil (P := Try.prog) (w := w) base 22 o.type 9 i 1 cap ti27.1 hi v L.length _ hown
      have hK := h v w (by simpa using hown) ⟨rfl, rfl, rfl, Nat.le_refl _, fun _ _ _ => rfl⟩
      refine wpList_plain hg fun K hK' => ?_
      unfold Oper.wp
      simp only [List.length_nil] at hy
      simp [execOp, ho, resolve, invoke, builtin, hs, hy, hrun, Result.andThen]
      exact hK' _ _ hK
    | some ad =>
      refine wpList_append_own _ hg s y 22 ho base 9 i _ 1 16 ti27.1 hi hz0 hz1 hz2 rfl (by decide) v L.length (L.map Value.string) hs hown ad 0 cap [] hy rfl (by simp) (by simp) (by unfold maxLen; omega) (by omega) hbase fun v' w' h1 h2 _ => h v' w' (by simpa using h1) h2

/-- A token of the call's own. -/
def OwnTok (x : Tok) (w : World) (e : Ending) (w' : World) : Prop :=
  ∃ (ao : Option Addr) (c : Nat) (fp : List Nat), e = .returned (.agg #[.int .i64 x.kind, .string x.text, .bool x.spaced, .slice ao x.hidden.length c]) ∧ sTok.R w' [.int .i64 x.kind, .string x.text, .bool x.spaced, .slice ao x.hidden.length c] x fp ∧
    (∀ b ∈ fp, w.heap.size ≤ b) ∧ (∀ b ∈ fp, ∃ cur t fr, w'.heap[b]? = some (.cells cur t fr) ∧ t = 9) ∧ Below w.heap.size w w'

set_option maxHeartbeats 4000000 in
set_option maxRecDepth 100000 in
theorem spec_l1OwnToken (cs : List Value) (x : Tok) (fp : List Nat) (w : World) (hx : x.hidden.length ≤ 2000000) (H : sTok.R w cs x fp) : Calls Try.prog 58 #[.agg cs.toArray] w (OwnTok x w) := by
  obtain ⟨h, rfl, hk, hok, K⟩ := H
  obtain ⟨a0, cap0, rfl, -, -, -, hsz⟩ := open_strs K
  have hb3 := below3 w #[.int .i64 x.kind, .string x.text, .bool x.spaced, .slice a0 x.hidden.length cap0] #[.int .i64 0, .string ⟨#[]⟩, .bool false, .slice none 0 0] #[.int .i64 x.kind, .string x.text, .bool x.spaced, .slice a0 x.hidden.length cap0] 28 28 28
  have g0 := alloc3_blk0 w #[.int .i64 x.kind, .string x.text, .bool x.spaced, .slice a0 x.hidden.length cap0] #[.int .i64 0, .string ⟨#[]⟩, .bool false, .slice none 0 0] #[.int .i64 x.kind, .string x.text, .bool x.spaced, .slice a0 x.hidden.length cap0] 28 28 28
  obtain ⟨g1, g2, hs3⟩ := alloc3_blk w #[.int .i64 x.kind, .string x.text, .bool x.spaced, .slice a0 x.hidden.length cap0] #[.int .i64 0, .string ⟨#[]⟩, .bool false, .slice none 0 0] #[.int .i64 x.kind, .string x.text, .bool x.spaced, .slice a0 x.hidden.length cap0] 28 28 28
  have HK := Lib.hid ((sSlice sStr).below K hb3)
  have HSZ := Lib.hid hsz
  clear K hsz
  obtain ⟨hv, HV⟩ : ∃ hv : Value, Hid (hv = Value.slice a0 x.hidden.length cap0) := ⟨_, rfl⟩
  go_enter Try.func58, Try.ntmps58
  go_upto_region 2 with fail
  generalize (((w.alloc (.cells #[.int .i64 x.kind, .string x.text, .bool x.spaced, .slice a0 x.hidden.length cap0] 28)).alloc (.cells #[.int .i64 0, .string ⟨#[]⟩, .bool false, .slice none 0 0] 28)).alloc (.cells #[.int .i64 x.kind, .string x.text, .bool x.spaced, .slice a0 x.hidden.length cap0] 28)) = W3 at *
  have hba := alloc_below' W3 (.cells #[] 9)
  have c03 : (W3.alloc (.cells #[] 9)).cell? ⟨w.heap.size, 3, none⟩ = some hv := by
    rw [HV.out]
    exact (hba.cell (p := ⟨w.heap.size, 3, none⟩) (by show w.heap.size < _; omega)).trans (cell_of_row _ _ 3 _ _ _ g0)
  have hlit : Hid ((W3.alloc (.cells #[] 9)).ownsRow W3.heap.size 9 1 (.slice (some ⟨W3.heap.size, 0, none⟩) 0 0) ([] : List ByteArray).length (([] : List ByteArray).map Value.string)) :=
    World.ownsRow_lit (base := W3.heap.size) (e := 9) (size := 1) W3 #[] 0 (Nat.le_refl _) (by simp) rfl
  have HKV : Hid ((sSlice sStr).R (W3.alloc (.cells #[] 9)) [hv] x.hidden fp) := by show (sSlice sStr).R _ _ _ _; rw [HV.out]; exact (sSlice sStr).below HK.out hba
  have HG := Lib.hid (And.intro g1 (And.intro g2 hs3))
  have hb4 := Lib.hid (hb3.trans (hba.mono hb3.size))
  clear g0 g1 g2 hb3 hs3 HK hba
  go_wp2_with (
    at_builtin
    refine wp_append_strsR rfl (.tmp 5) (.tmp 7) rfl W3.heap.size (.slice (some ⟨W3.heap.size, 0, none⟩) 0 0) hv [] x.hidden _ rfl hlit.out rfl HKV.out (by simp; omega) (by simp) ?_
    intro v5 w1 hown hgrow
    rw [List.nil_append] at hown
    obtain ⟨fp1, R1, O1, hfp⟩ := own_flat (ok := okStr) hown HSZ.out
    have hs3 := HG.out.2.2
    have hblk : ∀ k, k < W3.heap.size → w1.heap[k]? = W3.heap[k]? := fun k hk => (hgrow.block k (by simp; omega) (by simp [Value.ownBlock]; omega)).trans ((alloc_below' W3 _).block k hk)
    have HG1 : Hid (w1.heap[w.heap.size + 1]? = some (.cells #[.int .i64 0, .string ⟨#[]⟩, .bool false, .slice none 0 0] 28 (0, 0)) ∧ w1.heap[w.heap.size + 1 + 1]? = some (.cells #[.int .i64 x.kind, .string x.text, .bool x.spaced, .slice a0 x.hidden.length cap0] 28 (0, 0))) :=
      ⟨(hblk _ (by omega)).trans HG.out.1, (hblk _ (by omega)).trans HG.out.2.1⟩
    have hb : Below w.heap.size w w1 := hb4.out.grown hgrow (by simp; omega) (fun b hb => by simp [Value.ownBlock] at hb; omega)
    have hty : ∀ b ∈ fp1, ∃ cur t fr, w1.heap[b]? = some (.cells cur t fr) ∧ t = 9 := fun b hb' => by
      have hv := hfp b hb'
      rcases hown.2 with ⟨rfl, _⟩ | ⟨g, cap, cur, rfl, _, hg, _⟩
      · simp [Value.ownBlock] at hv
      · simp only [Value.ownBlock, Option.some.injEq] at hv
        subst hv
        exact ⟨_, _, _, hg, rfl⟩
    have hlo : ∀ b ∈ fp1, w.heap.size + 3 ≤ b := fun b hb => by have := (O1.2 b hb).1; omega
    clear HG hblk hgrow hown hfp O1 c03 hb4 HKV hlit hs3
    obtain ⟨a1, cap1, rfl, hq⟩ := open_rows R1
    clear hq
    have c10 : w1.cell? ⟨w.heap.size + 1, 0, none⟩ = some (.int .i64 0) := cell_of_row w1 (w.heap.size + 1) 0 _ _ _ HG1.out.1
    have c11 : w1.cell? ⟨w.heap.size + 1, 1, none⟩ = some (.string ⟨#[]⟩) := cell_of_row w1 (w.heap.size + 1) 1 _ _ _ HG1.out.1
    have c12 : w1.cell? ⟨w.heap.size + 1, 2, none⟩ = some (.bool false) := cell_of_row w1 (w.heap.size + 1) 2 _ _ _ HG1.out.1
    have c13 : w1.cell? ⟨w.heap.size + 1, 3, none⟩ = some (.slice none 0 0) := cell_of_row w1 (w.heap.size + 1) 3 _ _ _ HG1.out.1
    have c20 : w1.cell? ⟨w.heap.size + 1 + 1, 0, none⟩ = some (.int .i64 x.kind) := cell_of_row w1 (w.heap.size + 1 + 1) 0 _ _ _ HG1.out.2
    have c21 : w1.cell? ⟨w.heap.size + 1 + 1, 1, none⟩ = some (.string x.text) := cell_of_row w1 (w.heap.size + 1 + 1) 1 _ _ _ HG1.out.2
    have c22 : w1.cell? ⟨w.heap.size + 1 + 1, 2, none⟩ = some (.bool x.spaced) := cell_of_row w1 (w.heap.size + 1 + 1) 2 _ _ _ HG1.out.2
    have c23 : w1.cell? ⟨w.heap.size + 1 + 1, 3, none⟩ = some (.slice a0 x.hidden.length cap0) := cell_of_row w1 (w.heap.size + 1 + 1) 3 _ _ _ HG1.out.2
    have f10 : w1.frozen? ⟨w.heap.size + 1, 0, none⟩ = false := frozen_of_row w1 (w.heap.size + 1) 0 _ _ HG1.out.1
    have f11 : w1.frozen? ⟨w.heap.size + 1, 1, none⟩ = false := frozen_of_row w1 (w.heap.size + 1) 1 _ _ HG1.out.1
    have f12 : w1.frozen? ⟨w.heap.size + 1, 2, none⟩ = false := frozen_of_row w1 (w.heap.size + 1) 2 _ _ HG1.out.1
    have f13 : w1.frozen? ⟨w.heap.size + 1, 3, none⟩ = false := frozen_of_row w1 (w.heap.size + 1) 3 _ _ HG1.out.1
    have f23 : w1.frozen? ⟨w.heap.size + 1 + 1, 3, none⟩ = false := frozen_of_row w1 (w.heap.size + 1 + 1) 3 _ _ HG1.out.2
    have hn1 : w.heap.size + 1 ∉ fp1 := fun hx => by have := hlo _ hx; omega
    have hn2 : w.heap.size + 1 + 1 ∉ fp1 := fun hx => by have := hlo _ hx; omega
    have HLO : Hid (∀ b ∈ fp1, w.heap.size ≤ b) := fun b hb => by have := hlo b hb; omega
    have HR := Lib.hid ((sSlice sStr).setB ((sSlice sStr).setB ((sSlice sStr).setB ((sSlice sStr).setB ((sSlice sStr).setB R1 hn2 3 (.slice a1 x.hidden.length cap1)) hn1 0 (.int .i64 x.kind)) hn1 1 (.string x.text)) hn1 2 (.bool x.spaced)) hn1 3 (.slice a1 x.hidden.length cap1))
    have HT : Hid (∀ b ∈ fp1, ∃ cur t fr, (((((w1.setCell ⟨w.heap.size + 1 + 1, 3, none⟩ (.slice a1 x.hidden.length cap1)).setCell ⟨w.heap.size + 1, 0, none⟩ (.int .i64 x.kind)).setCell ⟨w.heap.size + 1, 1, none⟩ (.string x.text)).setCell ⟨w.heap.size + 1, 2, none⟩ (.bool x.spaced)).setCell ⟨w.heap.size + 1, 3, none⟩ (.slice a1 x.hidden.length cap1)).heap[b]? = some (.cells cur t fr) ∧ t = 9) := fun b hb => by
      obtain ⟨cur, t, fr, q1, q2⟩ := hty b hb
      have e1 : b ≠ w.heap.size + 1 := fun e => hn1 (e ▸ hb)
      have e2 : b ≠ w.heap.size + 1 + 1 := fun e => hn2 (e ▸ hb)
      exact ⟨cur, t, fr, blk_other (blk_other (blk_other (blk_other (blk_other q1 e2 _ _) e1 _ _) e1 _ _) e1 _ _) e1 _ _, q2⟩
    have HB := Lib.hid (((((hb.setCell (p := ⟨w.heap.size + 1 + 1, 3, none⟩) (by simp; omega) (.slice a1 x.hidden.length cap1)).setCell (p := ⟨w.heap.size + 1, 0, none⟩) (by simp) (.int .i64 x.kind)).setCell (p := ⟨w.heap.size + 1, 1, none⟩) (by simp) (.string x.text)).setCell (p := ⟨w.heap.size + 1, 2, none⟩) (by simp) (.bool x.spaced)).setCell (p := ⟨w.heap.size + 1, 3, none⟩) (by simp) (.slice a1 x.hidden.length cap1))
    have HS := Lib.hid (blk_set (blk_set (blk_set (blk_set (blk_other HG1.out.1 (by omega : w.heap.size + 1 ≠ w.heap.size + 1 + 1) 3 (.slice a1 x.hidden.length cap1)) 0 (.int .i64 x.kind)) 1 (.string x.text)) 2 (.bool x.spaced)) 3 (.slice a1 x.hidden.length cap1))
    clear HG1 hty hlo)
  refine bodyPost_ret (results_cell_row rfl _ _ (w.heap.size + 1) _ _ _ _ rfl HS.out Try.underlying28 rfl (by kernel_rfl)) rfl ?_
  exact ⟨a1, cap1, fp1, rfl, ⟨_, rfl, hk, hok, HR.out⟩, HLO.out, HT.out, HB.out⟩

/-- A list of tokens as the call's own copy. -/
def OwnToks (l : List Tok) (w : World) (e : Ending) (w' : World) : Prop := ∃ v fp, e = .returned v ∧ (sSlice sTok).R w' [v] l fp ∧ Below w.heap.size w w'
/-- Blocks of tokens and of their texts alone. -/
def TokTy (w : World) (fp : List Nat) : Prop := ∀ b ∈ fp, ∃ cur t fr, w.heap[b]? = some (.cells cur t fr) ∧ (t = 28 ∨ t = 9)
theorem TokTy.same {w w' : World} {fp : List Nat} (h : TokTy w fp) (hb : ∀ b ∈ fp, b < w.heap.size → w'.heap[b]? = w.heap[b]?) : TokTy w' fp := fun b hb' => by
  obtain ⟨cur, t, fr, h1, h2⟩ := h b hb'
  exact ⟨cur, t, fr, (hb b hb' (Array.getElem?_eq_some_iff.1 h1).1).trans h1, h2⟩
theorem TokTy.below {w w' : World} {fp : List Nat} (h : TokTy w fp) (hb : Below w.heap.size w w') : TokTy w' fp := h.same fun b _ hl => hb.block b hl
def OwnToksS (l : List Tok) (w : World) (e : Ending) (w' : World) : Prop := ∃ v fp, e = .returned v ∧ (sSlice sTok).R w' [v] l fp ∧ (∀ b ∈ fp, w.heap.size ≤ b) ∧ TokTy w' fp ∧ Below w.heap.size w w'
set_option maxHeartbeats 4000000 in
set_option maxRecDepth 100000 in
theorem spec_l1OwnTokenList_s (v : Value) (l : List Tok) (fp : List Nat) (w : World) (hl : l.length ≤ 1048576) (hx : ∀ k, (hk : k < l.length) → l[k].hidden.length ≤ 2000000) (H : (sSlice sTok).R w [v] l fp) :
    Calls Try.prog 43 #[v] w (OwnToksS l w) := by
  obtain ⟨a, cap, rfl, hc, hm, hrow⟩ := open_rows H
  unfold maxLen at hm
  clear H
  have HX := Lib.hid hx
  clear hx
  have hlit : Hid (RowE sTok w.heap.size 28 (.slice (some ⟨w.heap.size, 0, none⟩) 0 0) [] (w.alloc (.cells #[] 28))) := RowE.lit [] (by simp) (by simp) (by simp) (by simp) (Nat.le_refl _) (by simp)
  have hba := alloc_below' w (.cells #[] 28)
  go_enter Try.func43, Try.ntmps43
  go_wp2
  go_loopw [3, 4] (fun o i wr => ∃ (k : Nat) (L : List (Elem Tok)), k ≤ l.length ∧ i = .int .i64 k ∧ Hid (RowE sTok w.heap.size 28 o L wr) ∧ Hid (L.map (·.d) = l.take k) ∧ Hid (∀ x ∈ L, TokTy wr x.fp) ∧ Below w.heap.size w wr) (fun _ i _ => l.length - (intOf i).toNat)
  case atStart => exact ⟨0, [], by omega, rfl, hlit, rfl, (show ∀ x ∈ ([] : List (Elem Tok)), TokTy _ x.fp from by simp), hba⟩
  case round =>
    clear hlit hba
    obtain ⟨k, L, hk, rfl, HE, HD, HN, hb⟩ := hrel
    by_cases hlt : k < l.length
    · obtain ⟨b1, off1, fps1, rfl, hb1, -, he1⟩ := hrow (by omega)
      obtain ⟨es1, hE1, hR1⟩ := he1 k hlt
      clear hrow he1
      have hR2 := sTok.below hR1 hb
      obtain ⟨h1', rfl, _, _, _⟩ := hR1
      have HC := Lib.hid (spec_l1OwnToken _ _ _ wr (HX.out k hlt) hR2)
      clear hR2
      replace hE1 := hE1.frame (hb.block b1 hb1)
      have c10 : wr.cell? ⟨b1, off1 + k * 4, none⟩ = some _ := elem_cell0 hE1 (by decide) rfl
      have c11 : wr.cell? ⟨b1, off1 + k * 4 + 1, none⟩ = some _ := elem_cell (j := 1) hE1 (by decide) rfl
      have c12 : wr.cell? ⟨b1, off1 + k * 4 + 2, none⟩ = some _ := elem_cell (j := 2) hE1 (by decide) rfl
      have c13 : wr.cell? ⟨b1, off1 + k * 4 + 3, none⟩ = some _ := elem_cell (j := 3) hE1 (by decide) rfl
      clear hE1
      have HLl : Hid (L.length = k) := by have := congrArg List.length HD.out; simp at this; show _ = _; omega
      go_wp2_with fail
      refine HC.out.mono ?_
      rintro e w2 ⟨ao, c, fp2, rfl, hR2, hlo2, hty2, hb2⟩
      obtain ⟨ar, capr, rfl, -⟩ := HE.out.val
      have hE2 := HE.out.below hb2
      have hty2' : ∀ b ∈ fp2, ∃ cur t fr, w2.heap[b]? = some (.cells cur t fr) ∧ t ≠ 28 := fun b hb => by obtain ⟨cur, t, fr, h1, h2⟩ := hty2 b hb; exact ⟨cur, t, fr, h1, by rw [h2]; decide⟩
      have HN2 : Hid (∀ x ∈ L ++ [(⟨[.int .i64 l[k].kind, .string l[k].text, .bool l[k].spaced, .slice ao l[k].hidden.length c], ⟨l[k].kind, l[k].text, l[k].spaced, l[k].hidden⟩, fp2⟩ : Elem Tok)], TokTy w2 x.fp) := fun x hx => by
        rcases List.mem_append.1 hx with hx | hx
        · exact (HN.out x hx).below hb2
        · obtain rfl := List.mem_singleton.1 hx
          intro b hb
          obtain ⟨cur, t, fr, h1, h2⟩ := hty2 b hb
          exact ⟨cur, t, fr, h1, .inr h2⟩
      have hbw := hb.trans (hb2.mono hb.size)
      have hlo3 : ∀ b ∈ fp2, w.heap.size ≤ b := fun b hx => Nat.le_trans hb.size (hlo2 b hx)
      clear c10 c11 c12 c13 HC HE
      go_wp2_with (at_builtin; refine wp_append_tokE rfl (.tmp 12) (.tmp 18) rfl w.heap.size (.slice ar L.length capr) L rfl hE2 l[k].kind l[k].text l[k].spaced ao l[k].hidden.length c l[k].hidden fp2 rfl hR2 hlo3 hty2' (by have := HLl.out; omega) hbw.size ?_; intro v3 w3 hE3 hg3)
      have hb3 : Below w.heap.size w w3 := hbw.grown hg3 hbw.size (fun b hb => (hE2.row.lt b hb).1)
      have HE3 := Lib.hid hE3
      have HN3 : Hid (∀ x ∈ L ++ [(⟨[.int .i64 l[k].kind, .string l[k].text, .bool l[k].spaced, .slice ao l[k].hidden.length c], ⟨l[k].kind, l[k].text, l[k].spaced, l[k].hidden⟩, fp2⟩ : Elem Tok)], TokTy w3 x.fp) := fun x hx => (HN2.out x hx).same fun b hb hl => hg3.block b hl (by
        rcases List.mem_append.1 hx with hx | hx
        · exact fun e => hE2.ap hx hb e.symm
        · obtain rfl := List.mem_singleton.1 hx
          intro e
          obtain ⟨cur, t, fr, h1, h2⟩ := hty2' b hb
          obtain ⟨g, capg, curg, q1, q2, q3, -⟩ : ∃ g capg curg, Value.slice ar L.length capr = .slice (some ⟨g, 0, none⟩) L.length capg ∧ w.heap.size ≤ g ∧ w2.heap[g]? = some (.cells curg 28 (0, 0)) ∧ True := by
            rcases hE2.row.2 with ⟨h0, _⟩ | ⟨g, capg, curg, q1, q2, q3, -⟩
            · rw [h0] at e; simp [Value.ownBlock] at e
            · exact ⟨g, capg, curg, q1, q2, q3, trivial⟩
          rw [q1] at e
          simp only [Value.ownBlock, Option.some.injEq] at e
          subst e
          rw [h1] at q3
          simp only [Option.some.injEq, Obj.cells.injEq] at q3
          exact h2 q3.2.1)
      have HD3 : Hid ((L ++ [(⟨[.int .i64 l[k].kind, .string l[k].text, .bool l[k].spaced, .slice ao l[k].hidden.length c], ⟨l[k].kind, l[k].text, l[k].spaced, l[k].hidden⟩, fp2⟩ : Elem Tok)]).map (·.d) = l.take (k + 1)) := by
        show _ = _
        rw [List.map_append, HD.out, List.take_succ_eq_append_getElem hlt]; rfl
      clear hE2 hE3 hg3 hR2 hty2 hty2' hlo2 hlo3 hb2 HN2 HN
      go_roundw
      case rel => exact ⟨k + 1, _, by omega, by go_num, HE3, HD3, HN3, hb3⟩
      case measure => simp [intOf]; omega
    · obtain ⟨fpr, hr, hin, -⟩ := slice_of_row HE.out.row fun x hx => ⟨HE.out.len x hx, HE.out.el x hx⟩
      have HLO : Hid (∀ b ∈ fpr, w.heap.size ≤ b) := fun b hb => by
        rcases hin b hb with h | h
        · exact HE.out.mine b h
        · obtain ⟨x, hx, hb'⟩ := List.mem_flatMap.1 h
          exact HE.out.lo x hx b hb'
      have HNM : Hid (TokTy wr fpr) := fun b hb => by
        rcases hin b hb with h | h
        · rcases HE.out.row.2 with ⟨h0, _⟩ | ⟨g, capg, curg, q1, q2, q3, -⟩
          · rw [h0] at h; simp [Value.ownBlock] at h
          · rw [q1] at h
            simp only [Value.ownBlock, Option.some.injEq] at h
            subst h
            exact ⟨_, _, _, q3, .inl rfl⟩
        · obtain ⟨x, hx, hb'⟩ := List.mem_flatMap.1 h
          exact HN.out x hx b hb'
      clear hin
      have hd := HD.out
      rw [List.take_of_length_le (by omega)] at hd
      rw [hd] at hr
      have HR := Lib.hid hr
      clear hr hd HE HD HN
      go_wp2
      go_ret
      exact ⟨_, fpr, rfl, HR.out, HLO.out, HNM.out, hb⟩
end Go.Proofs.Ytgjjidjkpmmcoaa

/- What a function with a struct and another result hands back; boxes. Over any program. -/
namespace Go.Proofs.Ytgjjidjkpmmcoaa
open Go.RowKit

theorem results_cell2 {P : Program} {fn : Func} {p u : Tmp} {ty : TypeId} (h : fn.results = #[.cell p ty, .tmp u]) (tmps : Array Value) (w : World) (g : Nat) (t : TypeId) (cs : Array Value) (fr : Nat × Nat) (d : TypeDesc)
    (hp : tmps.getD p undef = .pointer (some ⟨g, 0, none⟩)) (hg : w.heap[g]? = some (.cells cs t fr))
    (hu : P.underlying ty = some d) (hd : (match d with | .struct _ | .array _ _ => true | _ => false) = true) (hi : (P.info? ty).map (·.size) = some cs.size) :
    (results fn tmps).run P w = .ok (.tuple #[.agg cs, tmps.getD u undef]) w := by
  have hp' : tmps[p]?.getD undef = .pointer (some ⟨g, 0, none⟩) := by simpa using hp
  rw [results_cell_tmp h]
  simp [hp', asAddr, run_loadVar_row w g t ty cs fr d hg hu hd hi, Result.andThen]

theorem mbox {w : World} {g : Nat} {arr : Array Value} {ty : TypeId} (h : w.heap[g]? = some (.cells arr ty (0, 0))) {w' : World} (hb : Below w.heap.size w w') : w'.heap[g]? = some (.cells arr ty (0, 0)) :=
  (hb.block g (Array.getElem?_eq_some_iff.1 h).1).trans h
theorem mlt {w : World} {g : Nat} {o : Obj} (h : w.heap[g]? = some o) : g < w.heap.size := (Array.getElem?_eq_some_iff.1 h).1

end Go.Proofs.Ytgjjidjkpmmcoaa

/- A token by value: its marks. -/
namespace Go.Proofs.Ytgjjidjkpmmcoaa
open Go.RowKit

def cntVToken (x : Tok) : Nat := x.hidden.length
def mkVToken (k : Int) (x : Tok) : Tok := ⟨x.kind, x.text, x.spaced, marks mtext k x.hidden.length⟩
theorem cntVToken_le (x : Tok) : cntVToken x ≤ wtToken x := by
  have h2 : wtToken x = x.text.size + (x.hidden.length + (x.hidden.map (·.size)).sum) := rfl
  unfold cntVToken; omega
set_option maxHeartbeats 4000000 in
set_option maxRecDepth 100000 in
theorem markToken (cs : List Value) (x : Tok) (fp : List Nat) (lo : Nat) (k : Int) (w : World) (h0 : 0 ≤ k) (h1 : k + cntVToken x ≤ 2305843009213693952) (H : sTok.R w cs x fp) (O : Own w lo fp) :
    Calls Try.prog 20 #[.agg cs.toArray, .int .i64 k] w (MarkedC sTok cs (mkVToken k x) fp lo (k + cntVToken x) w) := by
  obtain ⟨h, rfl, hk, hok, K⟩ := H
  unfold cntVToken at h1 ⊢
  have K' := K
  obtain ⟨a2, cap2, rfl, -⟩ := open_strs K'
  clear K'
  have hb0 := alloc_below' w (.cells #[.int .i64 x.kind, .string x.text, .bool x.spaced, .slice a2 x.hidden.length cap2] 28)
  go_enter Try.func20, Try.ntmps20
  go_wp2_with fail
  refine (markStringS _ _ _ lo _ _ h0 (by omega) ((sSlice sStr).below K hb0) (O.grow hb0)).mono ?_
  rintro e w1 ⟨rfl, R2, P2, hk2⟩
  have hk' : Kept fp w w1 := (Kept.of_below hb0).trans hk2
  clear K O hk2 hb0
  go_wp2
  go_ret
  exact ⟨ret_int (by omega), ⟨_, rfl, hk, hok, R2⟩, P2, hk'⟩

set_option maxHeartbeats 4000000 in
set_option maxRecDepth 100000 in
theorem heldToken (cs : List Value) (x : Tok) (fp : List Nat) (k : Int) (w : World) (h0 : 0 ≤ k) (h1 : k + cntVToken x ≤ 2305843009213693952) (H : sTok.R w cs (mkVToken k x) fp) :
    Calls Try.prog 21 #[.agg cs.toArray, .int .i64 k] w fun e w' => e = .returned (.int .i64 (k + cntVToken x)) ∧ Below w.heap.size w w' := by
  obtain ⟨h, rfl, hk, hok, K⟩ := H
  unfold cntVToken at h1 ⊢
  have hb0 := alloc_below' w (.cells #[.int .i64 x.kind, .string x.text, .bool x.spaced, h] 28)
  have K2 : (sSlice sStr).R w [h] (marks mtext k x.hidden.length) fp := K
  clear K
  go_enter Try.func21, Try.ntmps21
  go_wp2_with fail
  refine (heldStringS _ _ _ _ _ h0 (by omega) ((sSlice sStr).below K2 hb0)).mono ?_
  rintro e w1 ⟨rfl, hb1⟩
  have hB1 := hb0.trans (hb1.mono hb0.size)
  clear K2
  go_wp2
  go_ret
  exact ⟨ret_int (by omega), hB1⟩

end Go.Proofs.Ytgjjidjkpmmcoaa

/- TextToken of the model. (Made by gen_txt.py.) -/
namespace Go.Proofs.Ytgjjidjkpmmcoaa
open Go.RowKit

/-- A text that is handed back. -/
def StrOf (s : ByteArray) (w : World) (e : Ending) (w' : World) : Prop := e = .returned (.string s) ∧ Below w.heap.size w w'
theorem ret_text {a b : ByteArray} (h : a = b) : Ending.returned (.string a) = .returned (.string b) := by rw [h]
theorem q_ways (c : UInt8) : (((c.toNat : Int) == 34) = true ∧ Hid (isQ c = true)) ∨ (((c.toNat : Int) == 34) = false ∧ ((c.toNat : Int) == 92) = true ∧ Hid (isQ c = true)) ∨ (((c.toNat : Int) == 34) = false ∧ ((c.toNat : Int) == 92) = false ∧ Hid (isQ c = false)) := by
  by_cases h1 : c.toNat = 34
  · exact .inl ⟨by simp [h1], by show _ = _; unfold isQ; simp [h1]⟩
  · by_cases h2 : c.toNat = 92
    · exact .inr (.inl ⟨by simp; omega, by simp [h2], by show _ = _; unfold isQ; simp [h2]⟩)
    · exact .inr (.inr ⟨by simp; omega, by simp; omega, by show _ = _; unfold isQ; simp [h1, h2]⟩)

set_option maxHeartbeats 4000000 in
set_option maxRecDepth 100000 in
theorem spec_l8Escape (s : ByteArray) (w : World) (hs : s.size ≤ 1000000) :
    Calls Try.prog 59 #[.string s] w (StrOf (escTo s s.size) w) := by
  go_enter Try.func59, Try.ntmps59
  go_wp2
  go_loopw [3, 4] (fun o i wr => ∃ (k : Nat) (out : ByteArray), k ≤ s.size ∧ i = .int .i64 k ∧ o = .string out ∧ Hid (out = escTo s k) ∧ Below w.heap.size w wr) (fun _ i _ => s.size - (intOf i).toNat)
  case atStart => exact ⟨0, _, by omega, rfl, rfl, rfl, Below.refl _ _⟩
  case round =>
    obtain ⟨k, out, hk, rfl, rfl, HO, hb⟩ := hrel
    by_cases hlt : k < s.size
    · have hso : out.size ≤ 2 * k := by rw [HO.out]; exact escTo_size s k
      have h1z : (⟨#[92]⟩ : ByteArray).size = 1 := rfl
      have hsl := fun W => (run_cut s (k : Int) ((k : Int) + 1) k (k + 1) rfl rfl (by omega) (by omega) W)
      have ad1 := fun W => run_string_add_sum (P := Try.prog) W out (⟨#[92]⟩ : ByteArray) (by omega)
      have ad2 := fun W => run_string_add_sum (P := Try.prog) W (out ++ (⟨#[92]⟩ : ByteArray)) (s.extract k (k + 1)) (by rw [ByteArray.size_append, ByteArray.size_extract]; omega)
      have ad3 := fun W => run_string_add_sum (P := Try.prog) W out (s.extract k (k + 1)) (by rw [ByteArray.size_extract]; omega)
      clear h1z
      rcases q_ways s[k] with ⟨e1, HQ⟩ | ⟨e1, e2, HQ⟩ | ⟨e1, e2, HQ⟩
      · have HN : Hid (out ++ ⟨#[92]⟩ ++ s.extract k (k + 1) = escTo s (k + 1)) := by show _ = _; rw [escTo_q hlt HQ.out, HO.out]
        clear HO HQ hso
        go_wp2
        go_roundw
        case rel => exact ⟨k + 1, _, by omega, by go_num, rfl, HN.out, hb⟩
        case measure => simp [intOf]; omega
      · have HN : Hid (out ++ ⟨#[92]⟩ ++ s.extract k (k + 1) = escTo s (k + 1)) := by show _ = _; rw [escTo_q hlt HQ.out, HO.out]
        clear HO HQ hso
        go_wp2
        go_roundw
        case rel => exact ⟨k + 1, _, by omega, by go_num, rfl, HN.out, hb⟩
        case measure => simp [intOf]; omega
      · have HN : Hid (out ++ s.extract k (k + 1) = escTo s (k + 1)) := by show _ = _; rw [escTo_n hlt HQ.out, HO.out]
        clear HO HQ hso
        go_wp2
        go_roundw
        case rel => exact ⟨k + 1, _, by omega, by go_num, rfl, HN.out, hb⟩
        case measure => simp [intOf]; omega
    · have HF : Hid (out = escTo s s.size) := by show _ = _; rw [HO.out, show k = s.size by omega]
      clear HO
      go_wp2
      go_ret
      exact ⟨ret_text HF.out, hb⟩

set_option maxHeartbeats 8000000 in
set_option maxRecDepth 100000 in
theorem spec_l8Join (v : Value) (l : List Tok) (fp : List Nat) (w : World) (hv : toksOk l = true) (H : (sSlice sTok).R w [v] l fp) :
    Calls Try.prog 45 #[v] w (StrOf (joinTo l l.length) w) := by
  obtain ⟨a, cap, rfl, hc, hm, hrow⟩ := open_rows H
  unfold maxLen at hm
  clear H
  have HOK := Lib.hid (toksOk_facts hv)
  have hlen := HOK.out.1
  have HSZ := Lib.hid (joinTo_size hv)
  clear hv
  go_enter Try.func45, Try.ntmps45
  go_wp2
  go_loopw [3, 4] (fun o i wr => ∃ (k : Nat) (out : ByteArray), k ≤ l.length ∧ i = .int .i64 k ∧ o = .string out ∧ Hid (out = joinTo l k) ∧ Below w.heap.size w wr) (fun _ i _ => l.length - (intOf i).toNat)
  case atStart => exact ⟨0, _, by omega, rfl, rfl, rfl, Below.refl _ _⟩
  case round =>
    obtain ⟨k, out, hk, rfl, rfl, HO, hb⟩ := hrel
    by_cases hlt : k < l.length
    · obtain ⟨b1, off1, fps1, rfl, hb1', -, he1⟩ := hrow (by omega)
      obtain ⟨es1, hE1, hR1⟩ := he1 k hlt
      obtain ⟨h1, rfl, -, -, -⟩ := hR1
      replace hE1 := hE1.frame (hb.block b1 hb1')
      have c10 : wr.cell? ⟨b1, off1 + k * 4, none⟩ = some _ := elem_cell0 hE1 (by decide) rfl
      have c11 : wr.cell? ⟨b1, off1 + k * 4 + 1, none⟩ = some _ := elem_cell (j := 1) hE1 (by decide) rfl
      have c12 : wr.cell? ⟨b1, off1 + k * 4 + 2, none⟩ = some _ := elem_cell (j := 2) hE1 (by decide) rfl
      have hsz1 := (tokOk_facts (HOK.out.2 k hlt)).2
      have hso : out.size ≤ 401 * k := by rw [HO.out]; exact HSZ.out k hk
      have hes := escTo_size l[k].text l[k].text.size
      have HE : Hid (∀ W, Calls Try.prog 59 #[.string l[k].text] W (StrOf (escTo l[k].text l[k].text.size) W)) := fun W => spec_l8Escape _ W (by omega)
      have h1z : (⟨#[32]⟩ : ByteArray).size = 1 := rfl
      have ad1 := fun W => run_string_add_sum (P := Try.prog) W out (⟨#[32]⟩ : ByteArray) (by omega)
      have ad2 := fun W => run_string_add_sum (P := Try.prog) W (out ++ (⟨#[32]⟩ : ByteArray)) (escTo l[k].text l[k].text.size) (by rw [ByteArray.size_append]; omega)
      have ad3 := fun W => run_string_add_sum (P := Try.prog) W (out ++ (⟨#[32]⟩ : ByteArray)) l[k].text (by rw [ByteArray.size_append]; omega)
      have ad4 := fun W => run_string_add_sum (P := Try.prog) W out (escTo l[k].text l[k].text.size) (by omega)
      have ad5 := fun W => run_string_add_sum (P := Try.prog) W out l[k].text (by omega)
      clear h1z hes he1 hrow hE1
      by_cases h0 : k = 0
      · have h00 : ¬ (0 : Int) < (k : Int) := by omega
        have h01 : decide ((0 : Int) < (k : Int)) = false := by simp; omega
        have h02 : decide (0 < k) = false := by simp; omega
        have HNS : Hid (¬ (0 < k ∧ l[k].spaced = true)) := fun h => by omega
        clear h0
        by_cases h3 : l[k].kind = 3
        · have hk3 : (l[k].kind == 3) = true := by simp [h3]
          have HBT : Hid (bit l[k] = escTo l[k].text l[k].text.size) := by show _ = _; unfold bit; rw [if_pos h3]
          have HN : Hid (out ++ escTo l[k].text l[k].text.size = joinTo l (k + 1)) := by show _ = _; rw [joinTo_no hlt HNS.out, HBT.out, HO.out]
          clear h3 HBT HO hso
          go_wp2_with (go_at_call 59; refine (HE.out _).mono ?_; rintro e w3 ⟨rfl, hb3⟩)
          go_roundw
          case rel => exact ⟨k + 1, _, by omega, by go_num, rfl, HN.out, hb.trans (hb3.mono hb.size)⟩
          case measure => simp [intOf]; omega
        · have hk3 : (l[k].kind == 3) = false := by simp; exact h3
          have HBT : Hid (bit l[k] = l[k].text) := by show _ = _; unfold bit; rw [if_neg h3]
          have HN : Hid (out ++ l[k].text = joinTo l (k + 1)) := by show _ = _; rw [joinTo_no hlt HNS.out, HBT.out, HO.out]
          clear h3 HBT HO hso
          go_wp2
          go_roundw
          case rel => exact ⟨k + 1, _, by omega, by go_num, rfl, HN.out, hb⟩
          case measure => simp [intOf]; omega
      · have h00 : (0 : Int) < (k : Int) := by omega
        have h01 : decide ((0 : Int) < (k : Int)) = true := by simp; omega
        have h02 : decide (0 < k) = true := by simp; omega
        cases hsp : l[k].spaced
        · have HNS : Hid (¬ (0 < k ∧ l[k].spaced = true)) := fun h => by rw [hsp] at h; exact absurd h.2 (by simp)
          by_cases h3 : l[k].kind = 3
          · have hk3 : (l[k].kind == 3) = true := by simp [h3]
            have HBT : Hid (bit l[k] = escTo l[k].text l[k].text.size) := by show _ = _; unfold bit; rw [if_pos h3]
            have HN : Hid (out ++ escTo l[k].text l[k].text.size = joinTo l (k + 1)) := by show _ = _; rw [joinTo_no hlt HNS.out, HBT.out, HO.out]
            rw [hsp] at c12
            clear h3 HBT HO hso
            go_wp2_with (go_at_call 59; refine (HE.out _).mono ?_; rintro e w3 ⟨rfl, hb3⟩)
            go_roundw
            case rel => exact ⟨k + 1, _, by omega, by go_num, rfl, HN.out, hb.trans (hb3.mono hb.size)⟩
            case measure => simp [intOf]; omega
          · have hk3 : (l[k].kind == 3) = false := by simp; exact h3
            have HBT : Hid (bit l[k] = l[k].text) := by show _ = _; unfold bit; rw [if_neg h3]
            have HN : Hid (out ++ l[k].text = joinTo l (k + 1)) := by show _ = _; rw [joinTo_no hlt HNS.out, HBT.out, HO.out]
            rw [hsp] at c12
            clear h3 HBT HO hso
            go_wp2
            go_roundw
            case rel => exact ⟨k + 1, _, by omega, by go_num, rfl, HN.out, hb⟩
            case measure => simp [intOf]; omega
        · skip
          by_cases h3 : l[k].kind = 3
          · have hk3 : (l[k].kind == 3) = true := by simp [h3]
            have HBT : Hid (bit l[k] = escTo l[k].text l[k].text.size) := by show _ = _; unfold bit; rw [if_pos h3]
            have HN : Hid (out ++ ⟨#[32]⟩ ++ escTo l[k].text l[k].text.size = joinTo l (k + 1)) := by show _ = _; rw [joinTo_sp hlt (by omega) hsp, HBT.out, HO.out]
            rw [hsp] at c12
            clear h3 HBT HO hso
            go_wp2_with (go_at_call 59; refine (HE.out _).mono ?_; rintro e w3 ⟨rfl, hb3⟩)
            go_roundw
            case rel => exact ⟨k + 1, _, by omega, by go_num, rfl, HN.out, hb.trans (hb3.mono hb.size)⟩
            case measure => simp [intOf]; omega
          · have hk3 : (l[k].kind == 3) = false := by simp; exact h3
            have HBT : Hid (bit l[k] = l[k].text) := by show _ = _; unfold bit; rw [if_neg h3]
            have HN : Hid (out ++ ⟨#[32]⟩ ++ l[k].text = joinTo l (k + 1)) := by show _ = _; rw [joinTo_sp hlt (by omega) hsp, HBT.out, HO.out]
            rw [hsp] at c12
            clear h3 HBT HO hso
            go_wp2
            go_roundw
            case rel => exact ⟨k + 1, _, by omega, by go_num, rfl, HN.out, hb⟩
            case measure => simp [intOf]; omega
    · have HF : Hid (out = joinTo l l.length) := by show _ = _; rw [HO.out, show k = l.length by omega]
      clear HO
      go_wp2
      go_ret
      exact ⟨ret_text HF.out, hb⟩

/-- What TextToken hands back. -/
def TextOf (l : List Tok) (w : World) (e : Ending) (w' : World) : Prop :=
  ∃ (cs : List Value) (fp : List Nat), e = .returned (.tuple #[.agg cs.toArray, .bool (txtRes l).2]) ∧ sTok.R w' cs (txtRes l).1 fp ∧ Own w' w.heap.size fp ∧ Below w.heap.size w w'
theorem tok_bare (k : Int) (s : ByteArray) (w : World) (h1 : okInt k) (h2 : s.size ≤ maxLen) : sTok.R w [.int .i64 k, .string s, .bool false, .slice none 0 0] ⟨k, s, false, []⟩ [] := ⟨_, rfl, h1, h2, slice_empty sStr _ _ _ (by simp)⟩
theorem textOf_no {l : List Tok} {w w' : World} (h : txtRes l = (zTok, false)) (hb : Below w.heap.size w w') : TextOf l w (.returned (.tuple #[.agg #[.int .i64 0, .string ⟨#[]⟩, .bool false, .slice none 0 0], .bool false])) w' :=
  ⟨[.int .i64 0, .string ⟨#[]⟩, .bool false, .slice none 0 0], [], by rw [h], by rw [h]; exact tok_bare 0 ⟨#[]⟩ w' (by unfold okInt; omega) (by show (0 : Nat) ≤ _; simp [maxLen]), Own.nil _ _, hb⟩
theorem textOf_yes {l : List Tok} {s : ByteArray} {w w' : World} (h : txtRes l = (⟨3, s, false, []⟩, true)) (hb : Below w.heap.size w w') (hs : s.size ≤ 1000000) : TextOf l w (.returned (.tuple #[.agg #[.int .i64 3, .string s, .bool false, .slice none 0 0], .bool true])) w' :=
  ⟨[.int .i64 3, .string s, .bool false, .slice none 0 0], [], by rw [h], by rw [h]; exact tok_bare 3 s w' (by unfold okInt; omega) (by unfold maxLen; omega), Own.nil _ _, hb⟩
theorem quoted_long {l : List Tok} (h : toksOk l = true) : (quoted (joinTo l l.length)).size ≤ 50000 := by
  have h1 := joinTo_size h l.length (Nat.le_refl _)
  have h2 := (toksOk_facts h).1
  rw [quoted_size]; omega

set_option maxHeartbeats 8000000 in
set_option maxRecDepth 100000 in
theorem spec_TextToken (v : Value) (l : List Tok) (fp : List Nat) (w : World) (hl : l.length ≤ 1048576) (hx : ∀ k, (hk : k < l.length) → l[k].hidden.length ≤ 2000000) (H : (sSlice sTok).R w [v] l fp) :
    Calls Try.prog 16 #[v] w (TextOf l w) := by
  have hz0 := alloc_below' w (.cells #[.int .i64 0, .string ⟨#[]⟩, .bool false, .slice none 0 0] 28)
  have HZ := Lib.hid (heap_alloc_new w (.cells #[.int .i64 0, .string ⟨#[]⟩, .bool false, .slice none 0 0] 28))
  have HCP := Lib.hid (spec_l1OwnTokenList_s v l fp _ hl hx ((sSlice sTok).below H hz0))
  clear H hx
  go_enter Try.func16, Try.ntmps16
  go_wp2_with fail
  refine HCP.out.mono ?_
  rintro e w1 ⟨v1, fp1, rfl, HL, -, -, hb1⟩
  have hB1 := hz0.trans (hb1.mono hz0.size)
  replace HZ := Lib.hid (mbox HZ.out hb1)
  clear hb1 hz0 HCP
  have HV := Lib.hid (spec_TokensValid v1 l fp1 w1 HL)
  have HL1 := Lib.hid HL
  obtain ⟨a, cap, rfl, hc, hm, -⟩ := open_rows HL
  clear HL
  unfold maxLen at hm
  go_wp2_with fail
  refine HV.out.mono ?_
  rintro e w2 ⟨rfl, hb2⟩
  have hB2 := hB1.trans (hb2.mono hB1.size)
  replace HZ := Lib.hid (mbox HZ.out hb2)
  have HLL := Lib.hid ((sSlice sTok).below HL1.out hb2)
  clear HL1 HV hb2 hB1
  cases hv : toksOk l
  · have HF := Lib.hid (txtRes_no hv)
    clear hv
    have z0 : w2.cell? ⟨w.heap.size, 0, none⟩ = some (.int .i64 0) := cell_of_row _ _ 0 _ _ _ HZ.out
    have zf0 : w2.frozen? ⟨w.heap.size, 0, none⟩ = false := frozen_of_row _ _ 0 _ _ HZ.out
    have z1 : w2.cell? ⟨w.heap.size, 1, none⟩ = some (.string ⟨#[]⟩) := cell_of_row _ _ 1 _ _ _ HZ.out
    have zf1 : w2.frozen? ⟨w.heap.size, 1, none⟩ = false := frozen_of_row _ _ 1 _ _ HZ.out
    have z2 : w2.cell? ⟨w.heap.size, 2, none⟩ = some (.bool false) := cell_of_row _ _ 2 _ _ _ HZ.out
    have zf2 : w2.frozen? ⟨w.heap.size, 2, none⟩ = false := frozen_of_row _ _ 2 _ _ HZ.out
    have z3 : w2.cell? ⟨w.heap.size, 3, none⟩ = some (.slice none 0 0) := cell_of_row _ _ 3 _ _ _ HZ.out
    have zf3 : w2.frozen? ⟨w.heap.size, 3, none⟩ = false := frozen_of_row _ _ 3 _ _ HZ.out
    have HS := Lib.hid (blk_set (blk_set (blk_set (blk_set HZ.out 0 (.int .i64 0)) 1 (.string ⟨#[]⟩)) 2 (.bool false)) 3 (.slice none 0 0))
    have HBF := Lib.hid ((((hB2.setCell (p := ⟨w.heap.size, 0, none⟩) (Nat.le_refl _) (.int .i64 0)).setCell (p := ⟨w.heap.size, 1, none⟩) (Nat.le_refl _) (.string ⟨#[]⟩)).setCell (p := ⟨w.heap.size, 2, none⟩) (Nat.le_refl _) (.bool false)).setCell (p := ⟨w.heap.size, 3, none⟩) (Nat.le_refl _) (.slice none 0 0))
    go_wp2
    refine bodyPost_ret (results_cell2 rfl _ _ w.heap.size _ _ _ _ rfl HS.out Try.underlying28 rfl (by kernel_rfl)) rfl ?_
    exact textOf_no HF.out HBF.out
  have HJ := Lib.hid (spec_l8Join _ l fp1 w2 hv HLL.out)
  have HVD := Lib.hid hv
  have hq := quoted_long hv
  have hj := quoted_size (joinTo l l.length)
  clear hv HLL
  go_wp2_with fail
  refine HJ.out.mono ?_
  rintro e w3 ⟨rfl, hb3⟩
  have hB3 := hB2.trans (hb3.mono hB2.size)
  replace HZ := Lib.hid (mbox HZ.out hb3)
  clear HJ hb3 hB2
  have HY := Lib.hid (fun h => txtRes_yes (l := l) HVD.out rfl h)
  have HG := Lib.hid (fun h => txtRes_long (l := l) HVD.out rfl h)
  have h1z : (⟨#[34]⟩ : ByteArray).size = 1 := rfl
  have ad1 := fun W => run_string_add_sum (P := Try.prog) W (⟨#[34]⟩ : ByteArray) (joinTo l l.length) (by omega)
  have ad2 : ∀ W, (Op.stringOp .add ((⟨#[34]⟩ : ByteArray) ++ joinTo l l.length) (⟨#[34]⟩ : ByteArray)).run Try.prog W = .ok (.string (quoted (joinTo l l.length))) W := fun W => run_string_add_sum (P := Try.prog) W ((⟨#[34]⟩ : ByteArray) ++ joinTo l l.length) (⟨#[34]⟩ : ByteArray) (by rw [ByteArray.size_append]; omega)
  clear h1z hj
  generalize quoted (joinTo l l.length) = Q at *
  by_cases hbig : 200 < Q.size
  · have HF := Lib.hid (HG.out hbig)
    clear HG HY
    have z0 : w3.cell? ⟨w.heap.size, 0, none⟩ = some (.int .i64 0) := cell_of_row _ _ 0 _ _ _ HZ.out
    have zf0 : w3.frozen? ⟨w.heap.size, 0, none⟩ = false := frozen_of_row _ _ 0 _ _ HZ.out
    have z1 : w3.cell? ⟨w.heap.size, 1, none⟩ = some (.string ⟨#[]⟩) := cell_of_row _ _ 1 _ _ _ HZ.out
    have zf1 : w3.frozen? ⟨w.heap.size, 1, none⟩ = false := frozen_of_row _ _ 1 _ _ HZ.out
    have z2 : w3.cell? ⟨w.heap.size, 2, none⟩ = some (.bool false) := cell_of_row _ _ 2 _ _ _ HZ.out
    have zf2 : w3.frozen? ⟨w.heap.size, 2, none⟩ = false := frozen_of_row _ _ 2 _ _ HZ.out
    have z3 : w3.cell? ⟨w.heap.size, 3, none⟩ = some (.slice none 0 0) := cell_of_row _ _ 3 _ _ _ HZ.out
    have zf3 : w3.frozen? ⟨w.heap.size, 3, none⟩ = false := frozen_of_row _ _ 3 _ _ HZ.out
    have HS := Lib.hid (blk_set (blk_set (blk_set (blk_set HZ.out 0 (.int .i64 0)) 1 (.string ⟨#[]⟩)) 2 (.bool false)) 3 (.slice none 0 0))
    have HBF := Lib.hid ((((hB3.setCell (p := ⟨w.heap.size, 0, none⟩) (Nat.le_refl _) (.int .i64 0)).setCell (p := ⟨w.heap.size, 1, none⟩) (Nat.le_refl _) (.string ⟨#[]⟩)).setCell (p := ⟨w.heap.size, 2, none⟩) (Nat.le_refl _) (.bool false)).setCell (p := ⟨w.heap.size, 3, none⟩) (Nat.le_refl _) (.slice none 0 0))
    go_wp2
    refine bodyPost_ret (results_cell2 rfl _ _ w.heap.size _ _ _ _ rfl HS.out Try.underlying28 rfl (by kernel_rfl)) rfl ?_
    exact textOf_no HF.out HBF.out
  · have HF := Lib.hid (HY.out hbig)
    clear HG HY
    have z0 : w3.cell? ⟨w.heap.size, 0, none⟩ = some (.int .i64 0) := cell_of_row _ _ 0 _ _ _ HZ.out
    have zf0 : w3.frozen? ⟨w.heap.size, 0, none⟩ = false := frozen_of_row _ _ 0 _ _ HZ.out
    have z1 : w3.cell? ⟨w.heap.size, 1, none⟩ = some (.string ⟨#[]⟩) := cell_of_row _ _ 1 _ _ _ HZ.out
    have zf1 : w3.frozen? ⟨w.heap.size, 1, none⟩ = false := frozen_of_row _ _ 1 _ _ HZ.out
    have z2 : w3.cell? ⟨w.heap.size, 2, none⟩ = some (.bool false) := cell_of_row _ _ 2 _ _ _ HZ.out
    have zf2 : w3.frozen? ⟨w.heap.size, 2, none⟩ = false := frozen_of_row _ _ 2 _ _ HZ.out
    have z3 : w3.cell? ⟨w.heap.size, 3, none⟩ = some (.slice none 0 0) := cell_of_row _ _ 3 _ _ _ HZ.out
    have zf3 : w3.frozen? ⟨w.heap.size, 3, none⟩ = false := frozen_of_row _ _ 3 _ _ HZ.out
    have HS := Lib.hid (blk_set (blk_set (blk_set (blk_set HZ.out 0 (.int .i64 3)) 1 (.string Q)) 2 (.bool false)) 3 (.slice none 0 0))
    have HBF := Lib.hid ((((hB3.setCell (p := ⟨w.heap.size, 0, none⟩) (Nat.le_refl _) (.int .i64 3)).setCell (p := ⟨w.heap.size, 1, none⟩) (Nat.le_refl _) (.string Q)).setCell (p := ⟨w.heap.size, 2, none⟩) (Nat.le_refl _) (.bool false)).setCell (p := ⟨w.heap.size, 3, none⟩) (Nat.le_refl _) (.slice none 0 0))
    go_wp2
    refine bodyPost_ret (results_cell2 rfl _ _ w.heap.size _ _ _ _ rfl HS.out Try.underlying28 rfl (by kernel_rfl)) rfl ?_
    exact textOf_yes HF.out HBF.out (by omega)

theorem TextToken_cnt (l : List Tok) : cntVToken (txtRes l).1 ≤ 1000 := by
  unfold txtRes
  split
  · split
    · exact Nat.zero_le _
    · exact Nat.zero_le _
  · exact Nat.zero_le _

end Go.Proofs.Ytgjjidjkpmmcoaa

/- strings.Builder at this program, walked here: what its writers leave. (The library's own contracts don't fit this translation: a builder's copy check ends otherwise.) -/
namespace Go.Proofs.Ytgjjidjkpmmcoaa
open Go.RowKit

abbrev BldAt (B b : Nat) (p : Value) (bs : List Value) (w : World) : Prop := Lib.BuilderAtF 63 5 B b p bs w
abbrev IsBld (B b : Nat) (bs : List Value) (w : World) : Prop := Lib.IsBuilderF 63 5 B b bs w
/-- A builder that has been written to; nothing else has turned. -/
def BldTo (B b : Nat) (bs : List Value) (w w' : World) : Prop :=
  BldAt B b (.pointer (some ⟨b, 0, none⟩)) bs w' ∧ Below B w w' ∧ Lib.OthersKept 5 (some b) w w'

theorem bld_size : ∃ j, Try.prog.info? 63 = some j ∧ j.size = 2 := by
  have h : (Try.prog.info? 63).map (·.size) = some 2 := by kernel_rfl
  exact Option.map_eq_some_iff.1 h
theorem bld_lies : liesAt Try.prog Try.prog.depth 63 (2 / Try.prog.cellsOf 63) 0 63 1 = true := by kernel_rfl
theorem byte_info : ∃ i, Try.prog.info? 5 = some i ∧ i.zero = some (.int .u8 0) ∧ i.size = 1 ∧ i.bytes = 1 := by
  have h : (Try.prog.info? 5).map (fun i => (i.zero, i.size, i.bytes)) = some (some (.int .u8 0), 1, 1) := by kernel_rfl
  obtain ⟨i, h1, h2⟩ := Option.map_eq_some_iff.1 h
  simp only [Prod.mk.injEq] at h2
  exact ⟨i, h1, h2.1, h2.2.1, h2.2.2⟩

theorem ne_self (b : Nat) (w : World) : (binOp .neq 61 (.pointer (some ⟨b, 0, none⟩)) (.pointer (some ⟨b, 0, none⟩))).run Try.prog w = .ok (.bool false) w := by
  obtain ⟨j, hj, _⟩ := bld_size
  exact Lib.run_neq_ptr_same w _ Try.underlying61 hj
theorem to_unsafe (b : Nat) (w : World) (hsh : w.shape? b = some (63, 2)) : (convert 61 90 (.pointer (some ⟨b, 0, none⟩))).run Try.prog w = .ok (.pointer (some ⟨b, 0, none⟩)) w := by
  obtain ⟨j, hj, hjs⟩ := bld_size
  exact Lib.run_to_unsafe w ⟨b, 0, none⟩ Try.underlying61 Try.underlying90 hj (by rw [hjs]; decide) hsh (Nat.zero_lt_succ 1)
theorem from_unsafe (b : Nat) (w : World) (hsh : w.shape? b = some (63, 2)) : (convert 90 61 (.pointer (some ⟨b, 0, none⟩))).run Try.prog w = .ok (.pointer (some ⟨b, 0, none⟩)) w := by
  obtain ⟨j, hj, hjs⟩ := bld_size
  exact Lib.run_from_unsafe w ⟨b, 0, none⟩ Try.underlying90 Try.underlying61 hj hsh bld_lies
theorem no_escape (b : Nat) (w : World) : (callFunc 68 #[.pointer (some ⟨b, 0, none⟩)]).run Try.prog w = .ok (.value (.pointer (some ⟨b, 0, none⟩))) w := by
  rw [run_callFunc_extern Try.func68 (by kernel_rfl) (by kernel_rfl) (by kernel_rfl) (e := Extern.AbiNoEscape.same) (by kernel_rfl), Lib.run_noEscape]
  rfl

set_option maxHeartbeats 1000000 in
set_option maxRecDepth 100000 in
theorem check_used (b : Nat) (w : World) (h0 : w.cell? ⟨b, 0, none⟩ = some (.pointer (some ⟨b, 0, none⟩))) :
    Calls Try.prog 57 #[.pointer (some ⟨b, 0, none⟩)] w fun e w' => e = .returned (.tuple #[]) ∧ w' = w := by
  have r1 := ne_self b w
  go_enter Try.func57, Try.ntmps57
  go_wp2
  go_end0
  exact ⟨rfl, rfl⟩

set_option maxHeartbeats 1000000 in
set_option maxRecDepth 100000 in
theorem check_fresh (b : Nat) (w : World) (h0 : w.cell? ⟨b, 0, none⟩ = some (.pointer none)) (hsh : w.shape? b = some (63, 2)) (hfz : w.frozen? ⟨b, 0, none⟩ = false) :
    Calls Try.prog 57 #[.pointer (some ⟨b, 0, none⟩)] w fun e w' => e = .returned (.tuple #[]) ∧ w' = w.setCell ⟨b, 0, none⟩ (.pointer (some ⟨b, 0, none⟩)) := by
  have r1 := to_unsafe b w hsh
  have r2 := no_escape b w
  have r3 := from_unsafe b w hsh
  have c0 : (w.setCell ⟨b, 0, none⟩ (.pointer (some ⟨b, 0, none⟩))).cell? ⟨b, 0, none⟩ = some (.pointer (some ⟨b, 0, none⟩)) := World.cell?_setCell_same _ _ _ h0
  have r4 := ne_self b (w.setCell ⟨b, 0, none⟩ (.pointer (some ⟨b, 0, none⟩)))
  go_enter Try.func57, Try.ntmps57
  go_wp2
  go_end0
  exact ⟨rfl, rfl⟩

theorem bld_check (B b : Nat) (bs : List Value) (w : World) (h : IsBld B b bs w) :
    Calls Try.prog 57 #[.pointer (some ⟨b, 0, none⟩)] w fun e w' => e = .returned (.tuple #[]) ∧ BldTo B b bs w w' := by
  rcases h with h | h
  · refine (check_fresh b w h.cell0 h.shape h.frozen0).mono ?_
    rintro e w' ⟨rfl, rfl⟩
    exact ⟨rfl, h.used _, (Below.refl B w).setCell (p := ⟨b, 0, none⟩) h.1 _, (Lib.OthersKept.refl _ _ w).setCell ⟨b, 0, none⟩ rfl _⟩
  · refine (check_used b w h.cell0).mono ?_
    rintro e w' ⟨rfl, rfl⟩
    exact ⟨rfl, h, Below.refl B _, Lib.OthersKept.refl _ _ _⟩

set_option maxHeartbeats 2000000 in
set_option maxRecDepth 100000 in
theorem bld_byte (B b : Nat) (bs : List Value) (c : Int) (w : World) (h : IsBld B b bs w) (hlen : bs.length ≤ 1048576) (hBw : B ≤ w.heap.size) :
    Calls Try.prog 38 #[.pointer (some ⟨b, 0, none⟩), .int .u8 c] w fun e w' => e = .returned .nilIface ∧ BldTo B b (bs ++ [.int .u8 c]) w w' := by
  obtain ⟨i0, hi, hz0, hz1, hz2⟩ := byte_info
  go_enter Try.func38, Try.ntmps38
  go_wp2_with fail
  refine (bld_check B b bs _ h).mono ?_
  rintro e w1 ⟨rfl, ⟨hB, v, hbk, hown, hne⟩, hb1, hk1⟩
  have c0 : w1.cell? ⟨b, 0, none⟩ = some (.pointer (some ⟨b, 0, none⟩)) := by rw [Lib.cell_of_heap hbk]; rfl
  have c1 : w1.cell? ⟨b, 1, none⟩ = some v := by rw [Lib.cell_of_heap hbk]; rfl
  have hs1 := hb1.size
  go_wp2_with (at_builtin; refine wpList_append_ownF _ rfl _ _ 32 rfl B 5 i0 (.int .u8 0) 1 1 Try.underlying32 hi hz0 hz1 hz2 rfl (by decide) v bs.length bs rfl (hown.alloc _) ⟨w1.heap.size, 0, none⟩ 1 1 [.int .u8 c] rfl rfl ?c1 ?c2 ?c3 ?c4 ?c5 ?_)
  case c1 =>
    intro j u hj
    match j, hj with
    | 0, hj => simp at hj; subst hj; simp [Addr.add]
  case c2 => intro u hu; simp at hu; subst hu; rfl
  case c3 => unfold maxLen; omega
  case c4 => omega
  case c5 => simp; omega
  intro v' w2 hown' hgrow _
  have hlt : b < w1.heap.size := (Array.getElem?_eq_some_iff.1 hbk).1
  have hb2 : w2.heap[b]? = some (.cells #[.pointer (some ⟨b, 0, none⟩), v] 63 (0, 0)) := by
    rw [hgrow.block b (by simp; omega) (fun e => hne e.symm), Lib.alloc_old w1 _ b hlt]
    exact hbk
  have d0 : w2.cell? ⟨b, 0, none⟩ = some (.pointer (some ⟨b, 0, none⟩)) := by rw [Lib.cell_of_heap hb2]; rfl
  have d1 : w2.cell? ⟨b, 1, none⟩ = some v := by rw [Lib.cell_of_heap hb2]; rfl
  have f1 : w2.frozen? ⟨b, 1, none⟩ = false := Lib.frozen_of_heap hb2 1
  obtain ⟨g, cap, rfl⟩ : ∃ g cap, v' = .slice (some ⟨g, 0, none⟩) (bs.length + 1) cap := by
    rcases hown'.2 with ⟨_, h0⟩ | ⟨g, cap, cur, fz, hv, _⟩
    · omega
    · exact ⟨g, cap, hv⟩
  have HA : Hid (BldTo B b (bs ++ [.int .u8 c]) w (w2.setCell ⟨b, 1, none⟩ (.slice (some ⟨g, 0, none⟩) (bs.length + 1) cap))) := by
    refine ⟨Lib.BuilderAtF.put (T := 63) (e := 5) hB hb2 (bs' := bs ++ [.int .u8 c]) (by simpa using hown') (by decide), ?_, ((hk1.alloc _).grown hgrow (Lib.ownsRowF_kind (hown.alloc _))).setCell ⟨b, 1, none⟩ rfl _⟩
    exact ((hb1.alloc (by omega) _).grown hgrow (by simp; omega) (fun k hk => (hown.lt k hk).1)).setCell (p := ⟨b, 1, none⟩) hB _
  clear hown hown' hgrow hbk hb2 hb1 hk1
  go_wp2
  go_ret
  exact ⟨rfl, HA.out⟩

set_option maxHeartbeats 2000000 in
set_option maxRecDepth 100000 in
theorem bld_text (B b : Nat) (bs : List Value) (s : ByteArray) (w : World) (h : IsBld B b bs w) (hlen : bs.length + s.size ≤ 140737488355328) (hBw : B ≤ w.heap.size) :
    Calls Try.prog 39 #[.pointer (some ⟨b, 0, none⟩), .string s] w fun e w' => e = .returned (.tuple #[.int .i64 s.size, .nilIface]) ∧ BldTo B b (bs ++ Lib.strCells s) w w' := by
  obtain ⟨i0, hi, hz0, hz1, hz2⟩ := byte_info
  go_enter Try.func39, Try.ntmps39
  go_wp2_with fail
  refine (bld_check B b bs _ h).mono ?_
  rintro e w1 ⟨rfl, ⟨hB, v, hbk, hown, hne⟩, hb1, hk1⟩
  have c0 : w1.cell? ⟨b, 0, none⟩ = some (.pointer (some ⟨b, 0, none⟩)) := by rw [Lib.cell_of_heap hbk]; rfl
  have c1 : w1.cell? ⟨b, 1, none⟩ = some v := by rw [Lib.cell_of_heap hbk]; rfl
  have hs1 := hb1.size
  go_wp2_with (at_builtin; refine Lib.wpList_append_own_stringF _ rfl _ _ 32 9 rfl B 5 i0 Try.underlying32 Try.underlying9 hi hz0 hz1 hz2 v bs.length bs rfl hown s rfl ?c3 ?c4 ?c5 ?_)
  case c3 => unfold maxLen; omega
  case c4 => omega
  case c5 => omega
  intro v' w2 hown' hgrow _
  have hlt : b < w1.heap.size := (Array.getElem?_eq_some_iff.1 hbk).1
  have hb2 : w2.heap[b]? = some (.cells #[.pointer (some ⟨b, 0, none⟩), v] 63 (0, 0)) := by
    rw [hgrow.block b hlt (fun e => hne e.symm)]
    exact hbk
  have d0 : w2.cell? ⟨b, 0, none⟩ = some (.pointer (some ⟨b, 0, none⟩)) := by rw [Lib.cell_of_heap hb2]; rfl
  have d1 : w2.cell? ⟨b, 1, none⟩ = some v := by rw [Lib.cell_of_heap hb2]; rfl
  have f1 : w2.frozen? ⟨b, 1, none⟩ = false := Lib.frozen_of_heap hb2 1
  obtain ⟨ao, n', cap, rfl⟩ : ∃ ao n' cap, v' = .slice ao n' cap := by
    rcases hown'.2 with ⟨hv, _⟩ | ⟨g, cap, cur, fz, hv, _⟩
    · exact ⟨_, _, _, hv⟩
    · exact ⟨_, _, _, hv⟩
  have HA : Hid (BldTo B b (bs ++ Lib.strCells s) w (w2.setCell ⟨b, 1, none⟩ (.slice ao n' cap))) := by
    refine ⟨Lib.BuilderAtF.put (T := 63) (e := 5) hB hb2 (bs' := bs ++ Lib.strCells s) (by simpa [Lib.strCells_length] using hown') (by decide), ?_, (hk1.grown hgrow (Lib.ownsRowF_kind hown)).setCell ⟨b, 1, none⟩ rfl _⟩
    exact (hb1.grown hgrow (by omega) (fun k hk => (hown.lt k hk).1)).setCell (p := ⟨b, 1, none⟩) hB _
  clear hown hown' hgrow hbk hb2 hb1 hk1
  go_wp2
  go_ret2
  exact ⟨rfl, HA.out⟩

end Go.Proofs.Ytgjjidjkpmmcoaa

/- PrintTokens: the program. -/
namespace Go.Proofs.Ytgjjidjkpmmcoaa
open Go.RowKit

/-- A builder of the call's own (its block the first of them) that holds these bytes. -/
def Bld (b : Nat) (s : ByteArray) (w : World) : Prop := IsBld b b (Lib.strCells s) w
theorem BldAt.below {B b : Nat} {p : Value} {bs : List Value} {w w' : World} (h : BldAt B b p bs w) (hb : Below w.heap.size w w') : BldAt B b p bs w' := by
  have hlt := h.lt
  obtain ⟨hB, v, hbk, hown, hne⟩ := h
  refine ⟨hB, v, (hb.block b hlt).trans hbk, ⟨hown.1, ?_⟩, hne⟩
  rcases hown.2 with h0 | ⟨g, cap, cur, fz, h1, h2, h3, h4⟩
  · exact .inl h0
  · exact .inr ⟨g, cap, cur, fz, h1, h2, (hb.block g (Array.getElem?_eq_some_iff.1 h3).1).trans h3, h4⟩
theorem Bld.below {b : Nat} {s : ByteArray} {w w' : World} (h : Bld b s w) (hb : Below w.heap.size w w') : Bld b s w' := h.elim (fun h => .inl (BldAt.below h hb)) (fun h => .inr (BldAt.below h hb))
theorem Bld.fresh (w : World) : Bld w.heap.size ⟨#[]⟩ (w.alloc (.cells #[.pointer none, .slice none 0 0] 63)) :=
  .inl ⟨Nat.le_refl _, .slice none 0 0, heap_alloc_new w _, World.ownsRowF_nil _ _ _ _, by simp [Value.ownBlock]⟩
theorem Bld.lt {b : Nat} {s : ByteArray} {w : World} (h : Bld b s w) : b < w.heap.size := h.elim (fun h => h.lt) (fun h => h.lt)
theorem Bld.of {b : Nat} {bs : List Value} {s : ByteArray} {w w' : World} (h : BldTo b b bs w w') (e : bs = Lib.strCells s) : Bld b s w' := .inr (e ▸ h.1)
theorem strCells_snoc (s : ByteArray) : Lib.strCells s ++ [.int .u8 32] = Lib.strCells (s ++ ⟨#[32]⟩) := by
  unfold Lib.strCells; rw [ByteArray.data_append, Array.toList_append, List.map_append]; rfl
theorem strCells_app (s t : ByteArray) : Lib.strCells s ++ Lib.strCells t = Lib.strCells (s ++ t) := by
  unfold Lib.strCells; rw [ByteArray.data_append, Array.toList_append, List.map_append]
theorem bldByte {b : Nat} {s : ByteArray} {w : World} (h : Bld b s w) (hs : s.size ≤ 1048576) :
    Calls Try.prog 38 #[.pointer (some ⟨b, 0, none⟩), .int .u8 32] w fun e w' => e = .returned .nilIface ∧ Bld b (s ++ ⟨#[32]⟩) w' ∧ Below b w w' ∧ Lib.OthersKept 5 (some b) w w' :=
  (bld_byte b b _ 32 w h (by rw [Lib.strCells_length]; exact hs) (Nat.le_of_lt h.lt)).mono fun e w' ⟨h1, h2⟩ => ⟨h1, Bld.of h2 (strCells_snoc s), h2.2.1, h2.2.2⟩
theorem bldText {b : Nat} {s t : ByteArray} {w : World} (h : Bld b s w) (hs : s.size + t.size ≤ 1048576) :
    Calls Try.prog 39 #[.pointer (some ⟨b, 0, none⟩), .string t] w fun e w' => e = .returned (.tuple #[.int .i64 t.size, .nilIface]) ∧ Bld b (s ++ t) w' ∧ Below b w w' ∧ Lib.OthersKept 5 (some b) w w' :=
  (bld_text b b _ t w h (by rw [Lib.strCells_length]; omega) (Nat.le_of_lt h.lt)).mono fun e w' ⟨h1, h2⟩ => ⟨h1, Bld.of h2 (strCells_app s t), h2.2.1, h2.2.2⟩
theorem bldLen {b : Nat} {s : ByteArray} {w : World} (h : Bld b s w) :
    Calls Try.prog 41 #[.pointer (some ⟨b, 0, none⟩)] w fun e w' => e = .returned (.int .i64 s.size) ∧ w' = w := by
  have := Try.Builder_Len_f b b _ w h
  rw [Lib.strCells_length] at this
  exact this
theorem bldString {b : Nat} {s : ByteArray} {w : World} (h : Bld b s w) :
    Calls Try.prog 42 #[.pointer (some ⟨b, 0, none⟩)] w fun e w' => e = .returned (.string s) ∧ Below b w w' :=
  (Try.Builder_String_any_k b b s.data.toList w h (Nat.le_of_lt h.lt)).mono fun e w' ⟨h1, h2⟩ => ⟨h1, h2.2.1⟩
theorem kept_cell {b g : Nat} {arr : Array Value} {ty : TypeId} {fr : Nat × Nat} {w w' : World} (hk : Lib.OthersKept 5 (some b) w w') (h : w.heap[g]? = some (.cells arr ty fr)) (hg : g ≠ b) (hty : ty ≠ 5) : w'.heap[g]? = some (.cells arr ty fr) :=
  hk g _ h (fun e => hg (Option.some.inj e)) (fun c fz e => hty (by simp only [Obj.cells.injEq] at e; exact e.2.1))

set_option maxHeartbeats 8000000 in
set_option maxRecDepth 100000 in
theorem impl_PrintTokens (v : Value) (l : List Tok) (fp : List Nat) (w : World) (H : (sSlice sTok).R w [v] l fp) :
    Calls Try.prog 24 #[v] w (Printed l w) := by
  have HV := Lib.hid (impl_TokensValid v l fp w H)
  obtain ⟨a, cap, rfl, hc, hm, hrow⟩ := open_rows H
  unfold maxLen at hm
  clear H
  cases hv : toksOk l
  · have HF := Lib.hid (printRes_no hv)
    rw [hv] at HV
    clear hv
    go_enter Try.func24, Try.ntmps24
    go_wp2_with (go_at_call 37; refine (HV.out).mono ?_; rintro e w1 ⟨rfl, hb1⟩)
    go_ret2
    exact printed_ret HF.out hb1
  · rw [hv] at HV
    have HOK := Lib.hid (toksOk_facts hv)
    have hlen := HOK.out.1
    have HSZ := Lib.hid (prTo_size hv)
    have HVD := Lib.hid hv
    clear hv
    go_enter Try.func24, Try.ntmps24
    go_wp2_with fail
    refine (HV.out).mono ?_
    rintro e w1 ⟨rfl, hb1⟩
    have HB0 := Lib.hid (Bld.fresh w1)
    have hb2 := hb1.trans ((alloc_below' w1 (.cells #[.pointer none, .slice none 0 0] 63)).mono hb1.size)
    go_wp2_with fail
    go_loopw [12] (fun i wr => ∃ (k : Nat), k ≤ l.length ∧ i = .int .i64 k ∧ Hid (Bld w1.heap.size (prTo l k) wr) ∧ Below w.heap.size w wr) (fun i _ => l.length - (intOf i).toNat)
    case atStart => exact ⟨0, by omega, rfl, HB0, hb2⟩
    case round =>
      obtain ⟨k, hk, rfl, HB, hb⟩ := hrel
      clear HB0 hb2
      by_cases hlt : k < l.length
      · obtain ⟨b1, off1, fps1, rfl, hb1', -, he1⟩ := hrow (by omega)
        obtain ⟨es1, hE1, hR1⟩ := he1 k hlt
        have hR1' := hR1
        obtain ⟨h1, rfl, -, -, K1⟩ := hR1
        obtain ⟨ah, caph, rfl, -⟩ := open_rows K1
        replace hE1 := hE1.frame (hb.block b1 hb1')
        have c10 : wr.cell? ⟨b1, off1 + k * 4, none⟩ = some _ := elem_cell0 hE1 (by decide) rfl
        have c11 : wr.cell? ⟨b1, off1 + k * 4 + 1, none⟩ = some _ := elem_cell (j := 1) hE1 (by decide) rfl
        have c12 : wr.cell? ⟨b1, off1 + k * 4 + 2, none⟩ = some _ := elem_cell (j := 2) hE1 (by decide) rfl
        have c13 : wr.cell? ⟨b1, off1 + k * 4 + 3, none⟩ = some _ := elem_cell (j := 3) hE1 (by decide) rfl
        have hsz1 := (tokOk_facts (HOK.out.2 k hlt)).2
        have hso := HSZ.out k hk
        have hbx : Below wr.heap.size wr (wr.alloc (.cells #[.int .i64 l[k].kind, .string l[k].text, .bool l[k].spaced, .slice ah l[k].hidden.length caph] 28)) := alloc_below' _ _
        have HX := Lib.hid (heap_alloc_new wr (.cells #[.int .i64 l[k].kind, .string l[k].text, .bool l[k].spaced, .slice ah l[k].hidden.length caph] 28))
        have HB1 := Lib.hid (HB.out.below hbx)
        have hlw := HB.out.lt
        have hlo := hb1.size
        have hbr : b1 < wr.heap.size := Nat.lt_of_lt_of_le hb1' hb.size
        have HR1 := Lib.hid (sTok.below (sTok.below hR1' hb) hbx)
        clear hE1 K1 hR1'
        go_wp2
        generalize (wr.alloc (.cells #[.int .i64 l[k].kind, .string l[k].text, .bool l[k].spaced, .slice ah l[k].hidden.length caph] 28)) = W2 at *
        have p0 : W2.cell? ⟨wr.heap.size, 0, none⟩ = some (.int .i64 l[k].kind) := cell_of_row _ _ 0 _ _ _ HX.out
        have p1 : W2.cell? ⟨wr.heap.size, 1, none⟩ = some (.string l[k].text) := cell_of_row _ _ 1 _ _ _ HX.out
        have p2 : W2.cell? ⟨wr.heap.size, 2, none⟩ = some (.bool l[k].spaced) := cell_of_row _ _ 2 _ _ _ HX.out
        have p3 : W2.cell? ⟨wr.heap.size, 3, none⟩ = some (.slice ah l[k].hidden.length caph) := cell_of_row _ _ 3 _ _ _ HX.out
        have hbw := hb.trans (hbx.mono hb.size)
        have hne : wr.heap.size ≠ w1.heap.size := by omega
        clear c10 c11 c12 c13
        by_cases h0 : k = 0
        · have h00 : ¬ (0 : Int) < (k : Int) := by omega
          have h01 : decide ((0 : Int) < (k : Int)) = false := by simp; omega
          have h02 : decide (0 < k) = false := by simp; omega
          have HN := Lib.hid (prTo_no hlt (by subst h0; exact gap_zero l))
          clear h0 he1 hrow
          go_quiet (fail)
          have HBq := Lib.hid (HB1.out.below (belowN (Below.refl _ _) nq))
          have hbq := hbw.trans ((belowN (Below.refl W2.heap.size W2) nq).mono hbw.size)
          go_wp2_with fail
          refine (bldText HBq.out (by omega)).mono ?_
          rintro e w3 ⟨rfl, hB3, hb3, -⟩
          rw [← HN.out] at hB3
          go_wp2
          go_roundw
          case rel => exact ⟨k + 1, by omega, by go_num, hB3, hbq.trans (hb3.mono hlo)⟩
          case measure => simp [intOf]; omega
        · have h00 : (0 : Int) < (k : Int) := by omega
          have h01 : decide ((0 : Int) < (k : Int)) = true := by simp; omega
          have h02 : decide (0 < k) = true := by simp; omega
          cases hsp : l[k].spaced
          · obtain ⟨es2, hE2, hR2⟩ := he1 (k - 1) (by omega)
            have HR2 := Lib.hid (sTok.below (sTok.below hR2 hb) hbx)
            obtain ⟨h2, rfl, -, -, -⟩ := hR2
            replace hE2 := hE2.frame ((hbx.block b1 hbr).trans (hb.block b1 hb1'))
            have c20 : W2.cell? ⟨b1, off1 + (k - 1) * 4, none⟩ = some _ := elem_cell0 hE2 (by decide) rfl
            have c21 : W2.cell? ⟨b1, off1 + (k - 1) * 4 + 1, none⟩ = some _ := elem_cell (j := 1) hE2 (by decide) rfl
            have c22 : W2.cell? ⟨b1, off1 + (k - 1) * 4 + 2, none⟩ = some _ := elem_cell (j := 2) hE2 (by decide) rfl
            have c23 : W2.cell? ⟨b1, off1 + (k - 1) * 4 + 3, none⟩ = some _ := elem_cell (j := 3) hE2 (by decide) rfl
            have h6 : ((k : Int) - 1).toNat = k - 1 := by omega
            have hwl : IntKind.i64.wrap ((k : Int) - 1) = (k : Int) - 1 := IntWalk.i64_in _ (by omega)
            have hi1 : (0 : Int) ≤ (k : Int) - 1 := by omega
            have hi0 : (1 : Int) ≤ (k : Int) := by omega
            have hi2 : (k : Int) - 1 < (l.length : Int) := by omega
            have HC : Hid (∀ W, Below W2.heap.size W2 W → Calls Try.prog 50 #[.agg #[.int .i64 (l[k - 1]'(by omega)).kind, .string (l[k - 1]'(by omega)).text, .bool (l[k - 1]'(by omega)).spaced, h2], .agg #[.int .i64 l[k].kind, .string l[k].text, .bool l[k].spaced, .slice ah l[k].hidden.length caph]] W (Says (glued (l[k - 1]'(by omega)).text l[k].text) W)) :=
              fun W hW => impl_needSpace _ _ _ _ _ _ W (sTok.below HR2.out hW) (sTok.below HR1.out hW) (HOK.out.2 _ (by omega)) (HOK.out.2 _ hlt)
            have HG := gap_glued (by omega) hlt hsp
            rw [hsp] at p2 HC
            clear hE2 he1 hrow
            go_wp2_with fail
            go_still_tail 12, (by kernel_rfl)
            change wpList _ _ _ _ _ W2.drew
            have hd : Below W2.heap.size W2 W2.drew := belowN (Below.refl _ _) 1
            have HXd : Hid (W2.drew.heap[wr.heap.size]? = some (.cells #[.int .i64 l[k].kind, .string l[k].text, .bool l[k].spaced, .slice ah l[k].hidden.length caph] 28)) := HX
            generalize W2.drew = w2 at *
            have hgx : wr.heap.size < w2.heap.size := (Array.getElem?_eq_some_iff.1 HXd.out).1
            cases hg : glued (l[k - 1]'(by omega)).text l[k].text
            · rw [hg] at HC HG
              have HN := Lib.hid (prTo_no hlt HG)
              clear hg HG
              go_wp2_with fail
              refine (HC.out _ hd).mono ?_
              rintro e w3 ⟨rfl, hb3⟩
              have hb4 := hd.trans (hb3.mono hd.size)
              have HX3 := (hb3.block _ hgx).trans HXd.out
              have q1 : w3.cell? ⟨wr.heap.size, 1, none⟩ = some (.string l[k].text) := cell_of_row _ _ 1 _ _ _ HX3
              have HB3 := Lib.hid (HB1.out.below hb4)
              have hbq := hbw.trans (hb4.mono hbw.size)
              clear p0 p1 p2 p3 c20 c21 c22 c23 HX3 hb3 hd hb4
              go_wp2_with fail
              refine (bldText HB3.out (by omega)).mono ?_
              rintro e w4 ⟨rfl, hB4, hb5, -⟩
              rw [← HN.out] at hB4
              go_wp2
              go_roundw
              case rel => exact ⟨k + 1, by omega, by go_num, hB4, hbq.trans (hb5.mono hlo)⟩
              case measure => simp [intOf]; omega
            · rw [hg] at HC HG
              have HN := Lib.hid (prTo_yes hlt HG)
              clear hg HG
              go_wp2_with fail
              refine (HC.out _ hd).mono ?_
              rintro e w3 ⟨rfl, hb3⟩
              have hb4 := hd.trans (hb3.mono hd.size)
              have HX3 := (hb3.block _ hgx).trans HXd.out
              have HB3 := Lib.hid (HB1.out.below hb4)
              have hbq := hbw.trans (hb4.mono hbw.size)
              clear p0 p1 p2 p3 c20 c21 c22 c23 hb3 hd hb4
              go_wp2_with fail
              refine (bldByte HB3.out (by omega)).mono ?_
              rintro e w4 ⟨rfl, hB4, hb5, hk5⟩
              have hbq3 := hbq.trans (hb5.mono hlo)
              have HX4 := kept_cell hk5 HX3 hne (by decide)
              have q1 : w4.cell? ⟨wr.heap.size, 1, none⟩ = some (.string l[k].text) := cell_of_row _ _ 1 _ _ _ HX4
              clear HX3 HX4
              go_wp2_with fail
              refine (bldText hB4 (by rw [ByteArray.size_append]; have : (⟨#[32]⟩ : ByteArray).size = 1 := rfl; omega)).mono ?_
              rintro e w5 ⟨rfl, hB5, hb6, -⟩
              rw [← HN.out] at hB5
              go_wp2
              go_roundw
              case rel => exact ⟨k + 1, by omega, by go_num, hB5, hbq3.trans (hb6.mono hlo)⟩
              case measure => simp [intOf]; omega
          · have HN := Lib.hid (prTo_yes hlt (gap_spaced (by omega) hlt hsp))
            rw [hsp] at p2
            clear he1 hrow
            go_quiet (fail)
            have HBq := Lib.hid (HB1.out.below (belowN (Below.refl _ _) nq))
            have hbq := hbw.trans ((belowN (Below.refl W2.heap.size W2) nq).mono hbw.size)
            go_wp2_with fail
            refine (bldByte HBq.out (by omega)).mono ?_
            rintro e w3 ⟨rfl, hB3, hb3, hk3⟩
            have hbq3 := hbq.trans (hb3.mono hlo)
            have HX3 := kept_cell (w := W2.drewN nq) hk3 HX.out hne (by decide)
            have q1 : w3.cell? ⟨wr.heap.size, 1, none⟩ = some (.string l[k].text) := cell_of_row _ _ 1 _ _ _ HX3
            clear HX3 p0 p1 p2 p3
            go_wp2_with fail
            refine (bldText hB3 (by rw [ByteArray.size_append]; have : (⟨#[32]⟩ : ByteArray).size = 1 := rfl; omega)).mono ?_
            rintro e w4 ⟨rfl, hB4, hb4, -⟩
            rw [← HN.out] at hB4
            go_wp2
            go_roundw
            case rel => exact ⟨k + 1, by omega, by go_num, hB4, hbq3.trans (hb4.mono hlo)⟩
            case measure => simp [intOf]; omega
      · have hkl : l.length = k := by omega
        have HL := Lib.hid (bldLen HB.out)
        have HS := Lib.hid (bldString HB.out)
        have hlo := hb1.size
        by_cases hbig : 200 < (prTo l k).size
        · have HF := Lib.hid (printRes_long HVD.out hkl hbig)
          clear hkl
          go_wp2_with (go_at_call 41; refine (HL.out).mono ?_; rintro e w2 ⟨rfl, rfl⟩)
          go_ret2
          exact printed_ret HF.out hb
        · have HF := Lib.hid (printRes_yes HVD.out hkl hbig)
          clear hkl
          go_wp2_with (first
            | (go_at_call 41; refine (HL.out).mono ?_; rintro e w2 ⟨rfl, rfl⟩)
            | (go_at_call 42; refine (HS.out).mono ?_; rintro e w2 ⟨rfl, hb3⟩))
          go_ret2
          exact printed_ret HF.out (hb.trans (hb3.mono hlo))

end Go.Proofs.Ytgjjidjkpmmcoaa

/- TokenBytes, textWithin and TextToken of the program. (Made by gen_txt.py.) -/
namespace Go.Proofs.Ytgjjidjkpmmcoaa
open Go.RowKit

/-! ### What stands between the quotes -/
def mid (s : ByteArray) : ByteArray := s.extract 1 (s.size - 1)
theorem mid_size (s : ByteArray) : (mid s).size = s.size - 2 := by unfold mid; rw [ByteArray.size_extract]; omega
theorem mid_get {s : ByteArray} {i : Nat} (h : i < (mid s).size) : (mid s)[i] = s[i + 1]'(by rw [mid_size] at h; omega) := by
  have h2 : i + 1 < s.size := by rw [mid_size] at h; omega
  have : (mid s)[i] = s[1 + i]'(by omega) := ext_get s 1 (s.size - 1) i h
  rw [this]
  have e : 1 + i = i + 1 := by omega
  simp only [e]
theorem mid_one {s : ByteArray} {i : Nat} (h : i < (mid s).size) : (mid s).extract i (i + 1) = s.extract (i + 1) (i + 2) := by
  have h2 : i + 1 < s.size := by rw [mid_size] at h; omega
  rw [ex_one h, ex_one h2, mid_get h]
def MidAt (s : ByteArray) (i : Nat) (out : ByteArray) : Prop := OutAt s (i + 1) out
theorem MidAt.start {s : ByteArray} (h : tClose s 1 = some s.size) : MidAt s 0 ⟨#[]⟩ := OutAt.start h
theorem MidAt.back {s : ByteArray} {i : Nat} {out : ByteArray} (h : MidAt s i out) (hi : i < (mid s).size) (hc : (mid s)[i].toNat = 92) : i + 1 < (mid s).size ∧ MidAt s (i + 2) (out ++ (mid s).extract (i + 1) (i + 2)) := by
  have hz := mid_size s
  rw [mid_get hi] at hc
  obtain ⟨h1, h2⟩ := OutAt.back h (by omega) hc
  have h3 : i + 1 < (mid s).size := by omega
  exact ⟨h3, by rw [mid_one h3]; exact h2⟩
theorem MidAt.byte {s : ByteArray} {i : Nat} {out : ByteArray} (h : MidAt s i out) (hi : i < (mid s).size) (hc : ¬ (mid s)[i].toNat = 92) : MidAt s (i + 1) (out ++ (mid s).extract i (i + 1)) := by
  have hz := mid_size s
  rw [mid_get hi] at hc
  rw [mid_one hi]
  exact OutAt.byte h (by omega) hc
theorem MidAt.done {s : ByteArray} {i : Nat} {out : ByteArray} (h : MidAt s i out) (hi : (mid s).size ≤ i) : out = outTo s 1 := OutAt.done h (by have := mid_size s; omega)
theorem MidAt.size {s : ByteArray} {i : Nat} {out : ByteArray} (h : MidAt s i out) : out.size ≤ i + 1 := h.2.2.2

set_option maxHeartbeats 8000000 in
set_option maxRecDepth 100000 in
theorem impl_TokenBytes (cs : List Value) (x : Tok) (fp : List Nat) (w : World) (H : sTok.R w cs x fp) :
    Calls Try.prog 10 #[.agg cs.toArray] w (BytesOf x w) := by
  have H' := H
  obtain ⟨h, rfl, -, -, -⟩ := H'
  have hb0 := alloc_below' w (.cells #[.int .i64 x.kind, .string x.text, .bool x.spaced, h] 28)
  have HV := Lib.hid (impl_TokenValid _ x fp _ (sTok.below H hb0))
  clear H
  by_cases h3 : x.kind = 3
  rotate_left
  · have HF := Lib.hid (bytesRes_kind h3)
    have hk' : (x.kind != 3) = true := by simp [h3]
    clear h3 HV
    go_enter Try.func10, Try.ntmps10
    go_wp2
    go_ret2
    exact bytesOf_ret HF.out hb0
  have hk' : (x.kind != 3) = false := by simp [h3]
  cases hv : tokOk x
  · rw [hv] at HV
    have HF := Lib.hid (bytesRes_no hv)
    clear hv h3
    go_enter Try.func10, Try.ntmps10
    go_wp2_with (go_at_call 26; refine HV.out.mono ?_; rintro e w1 ⟨rfl, hb1⟩)
    go_ret2
    exact bytesOf_ret HF.out (hb0.trans (hb1.mono hb0.size))
  have hz := (tokOk_facts hv).2
  rw [hv] at HV
  have HF := Lib.hid (bytesRes_yes hv h3)
  have hcl := text_closed hv h3
  have HS := Lib.hid (MidAt.start hcl)
  have h2z := tClose_some hcl
  have hmz := mid_size x.text
  have hwr : IntKind.i64.wrap ((x.text.size : Int) - 1) = (x.text.size : Int) - 1 := IntWalk.i64_in _ (by omega)
  have hsl : ∀ W, (Instr.slice 9 (.string x.text) (some (.int .i64 1)) (some (.int .i64 ((x.text.size : Int) - 1))) none).run Try.prog W = .ok (.string (mid x.text)) W := fun W => run_cut x.text 1 ((x.text.size : Int) - 1) 1 (x.text.size - 1) (by omega) (by omega) (by omega) (by omega) W
  have hmz2 : (mid x.text).size ≤ 200 := by omega
  have HBK := Lib.hid (fun i out (h : MidAt x.text i out) hi hc => MidAt.back (s := x.text) (i := i) (out := out) h hi hc)
  have HBY := Lib.hid (fun i out (h : MidAt x.text i out) hi hc => MidAt.byte (s := x.text) (i := i) (out := out) h hi hc)
  have HDN := Lib.hid (fun i out (h : MidAt x.text i out) hi => MidAt.done (s := x.text) (i := i) (out := out) h hi)
  clear hv h3 hcl hmz h2z
  generalize mid x.text = T at *
  go_enter Try.func10, Try.ntmps10
  go_wp2_with (go_at_call 26; refine HV.out.mono ?_; rintro e w1 ⟨rfl, hb1⟩; have a0 := box0 hb1; have a1 := box1 hb1)
  have hB1 := hb0.trans (hb1.mono hb0.size)
  clear a0 a1 hb0 hb1 HV hsl hwr
  go_loopw [5, 6] (fun o i wr => ∃ (k : Nat) (out : ByteArray), i = .int .i64 k ∧ k ≤ T.size ∧ Hid (MidAt x.text k out) ∧ Bytes w.heap.size o out wr ∧ Below w.heap.size w wr) (fun _ i _ => T.size - (intOf i).toNat)
  case atStart => exact ⟨0, _, rfl, by omega, HS.out, Bytes.none _ _, hB1⟩
  case round =>
    obtain ⟨k, out, rfl, hk, HO, hown, hb⟩ := hrel
    have ho := HO.out.size
    have hbs := hb.size
    have hcv := run_own_string hown
    by_cases hlt : k < T.size
    · by_cases h92 : T[k].toNat = 92
      · have hN := HBK.out k out HO.out hlt h92
        have HN := Lib.hid hN.2
        obtain ⟨hr, -⟩ := hN
        have h92' : ((T[k].toNat : Int) == 92) = true := by simp; omega
        have hb1 := strCells_at T (k + 1) hr
        clear HO h92
        go_wp2_with (at_builtin; refine wp_append_byte rfl (.tmp 34) (.tmp 38) rfl w.heap.size _ out (T.extract (k + 1) (k + 2)) _ rfl hown rfl hb1 (by omega) hbs ?_; intro v1 w1 hown1 hg1)
        have hbel1 := hb.grown hg1 hbs (fun b hb => (hown.lt b hb).1)
        go_roundw
        case rel => exact ⟨k + 2, _, by go_num, by omega, HN.out, hown1, hbel1⟩
        case measure => simp [intOf]; omega
      · have HN := Lib.hid (HBY.out k out HO.out hlt h92)
        have h92' : ((T[k].toNat : Int) == 92) = false := by simp; omega
        have hb1 := strCells_at T k hlt
        clear HO h92
        go_wp2_with (at_builtin; refine wp_append_byte rfl (.tmp 34) (.tmp 38) rfl w.heap.size _ out (T.extract k (k + 1)) _ rfl hown rfl hb1 (by omega) hbs ?_; intro v1 w1 hown1 hg1)
        have hbel1 := hb.grown hg1 hbs (fun b hb => (hown.lt b hb).1)
        go_roundw
        case rel => exact ⟨k + 1, _, by go_num, by omega, HN.out, hown1, hbel1⟩
        case measure => simp [intOf]; omega
    · have HD := Lib.hid (HDN.out k out HO.out (by omega))
      clear HO
      go_wp2
      go_ret2
      exact bytesOf_ret (by rw [HF.out, HD.out]) hb

set_option maxHeartbeats 8000000 in
set_option maxRecDepth 100000 in
theorem impl_textWithin (cs : List Value) (x : Tok) (fp : List Nat) (w : World) (hz : x.text.size ≤ 200) (H : sTok.R w cs x fp) :
    Calls Try.prog 40 #[.agg cs.toArray] w (StrOf (bit x) w) := by
  obtain ⟨h, rfl, -, -, -⟩ := H
  have hb0 := alloc_below' w (.cells #[.int .i64 x.kind, .string x.text, .bool x.spaced, h] 28)
  have HX := Lib.hid (heap_alloc_new w (.cells #[.int .i64 x.kind, .string x.text, .bool x.spaced, h] 28))
  by_cases h3 : x.kind = 3
  rotate_left
  · have HF : Hid (x.text = bit x) := by show _ = _; unfold bit; rw [if_neg h3]
    have hk' : (x.kind != 3) = true := by simp [h3]
    clear h3
    go_enter Try.func40, Try.ntmps40
    go_wp2
    go_ret
    exact ⟨ret_text HF.out, hb0⟩
  have HF : Hid (escTo x.text x.text.size = bit x) := by show _ = _; unfold bit; rw [if_pos h3]
  have hk' : (x.kind != 3) = false := by simp [h3]
  clear h3
  go_enter Try.func40, Try.ntmps40
  go_wp2
  have hs0 : (w.alloc (.cells #[.int .i64 x.kind, .string x.text, .bool x.spaced, h] 28)).heap.size = w.heap.size + 1 := by show (w.heap.push _).size = _; simp
  have HS0 := Lib.hid hs0
  clear hs0
  generalize (w.alloc (.cells #[.int .i64 x.kind, .string x.text, .bool x.spaced, h] 28)) = W1 at *
  go_loopw [3, 13] (fun o i wr => ∃ (k : Nat) (out : ByteArray), i = .int .i64 k ∧ k ≤ x.text.size ∧ Hid (out = escTo x.text k) ∧ Bytes W1.heap.size o out wr ∧ Below W1.heap.size W1 wr) (fun _ i _ => x.text.size - (intOf i).toNat)
  case atStart => exact ⟨0, _, rfl, by omega, rfl, Bytes.none _ _, Below.refl _ _⟩
  case round =>
    obtain ⟨k, out, rfl, hk, HO, hown, hb⟩ := hrel
    have ho : out.size ≤ 2 * k := by rw [HO.out]; exact escTo_size _ k
    have hbs := hb.size
    have hcv := run_own_string hown
    have hlt1 : w.heap.size < W1.heap.size := by have := HS0.out; omega
    have c1 : wr.cell? ⟨w.heap.size, 1, none⟩ = some (.string x.text) := (hb.cell (p := ⟨w.heap.size, 1, none⟩) hlt1).trans (cell_of_row _ _ 1 _ _ _ HX.out)
    by_cases hlt : k < x.text.size
    · have hb1 := strCells_at x.text k hlt
      rcases q_ways x.text[k] with ⟨e1, HQ⟩ | ⟨e1, e2, HQ⟩ | ⟨e1, e2, HQ⟩
      · have HN : Hid (out ++ ⟨#[92]⟩ ++ x.text.extract k (k + 1) = escTo x.text (k + 1)) := by show _ = _; rw [escTo_q hlt HQ.out, HO.out]
        clear HO HQ
        go_wp2_with (first
          | (at_builtin; refine wp_append_byte rfl (.tmp 28) (.tmp 29) rfl W1.heap.size _ out ⟨#[92]⟩ 92 rfl hown rfl rfl (by omega) hbs ?_; intro v1 w1 hown1 hg1; have hbel1 := hb.grown hg1 hbs (fun b hb => (hown.lt b hb).1); have c2 : w1.cell? ⟨w.heap.size, 1, none⟩ = some (.string x.text) := (hbel1.cell (p := ⟨w.heap.size, 1, none⟩) hlt1).trans (cell_of_row _ _ 1 _ _ _ HX.out))
          | (at_builtin; refine wp_append_byte rfl (.tmp 31) (.tmp 36) rfl W1.heap.size _ (out ++ ⟨#[92]⟩) (x.text.extract k (k + 1)) _ rfl hown1 rfl hb1 (by rw [ByteArray.size_append]; have : (⟨#[92]⟩ : ByteArray).size = 1 := rfl; omega) hbel1.size ?_; intro v2 w2 hown2 hg2))
        have hbel2 := hbel1.grown hg2 hbel1.size (fun b hb => (hown1.lt b hb).1)
        go_roundw
        case rel => exact ⟨k + 1, _, by go_num, by omega, HN.out, hown2, hbel2⟩
        case measure => simp [intOf]; omega
      · have HN : Hid (out ++ ⟨#[92]⟩ ++ x.text.extract k (k + 1) = escTo x.text (k + 1)) := by show _ = _; rw [escTo_q hlt HQ.out, HO.out]
        clear HO HQ
        go_wp2_with (first
          | (at_builtin; refine wp_append_byte rfl (.tmp 28) (.tmp 29) rfl W1.heap.size _ out ⟨#[92]⟩ 92 rfl hown rfl rfl (by omega) hbs ?_; intro v1 w1 hown1 hg1; have hbel1 := hb.grown hg1 hbs (fun b hb => (hown.lt b hb).1); have c2 : w1.cell? ⟨w.heap.size, 1, none⟩ = some (.string x.text) := (hbel1.cell (p := ⟨w.heap.size, 1, none⟩) hlt1).trans (cell_of_row _ _ 1 _ _ _ HX.out))
          | (at_builtin; refine wp_append_byte rfl (.tmp 31) (.tmp 36) rfl W1.heap.size _ (out ++ ⟨#[92]⟩) (x.text.extract k (k + 1)) _ rfl hown1 rfl hb1 (by rw [ByteArray.size_append]; have : (⟨#[92]⟩ : ByteArray).size = 1 := rfl; omega) hbel1.size ?_; intro v2 w2 hown2 hg2))
        have hbel2 := hbel1.grown hg2 hbel1.size (fun b hb => (hown1.lt b hb).1)
        go_roundw
        case rel => exact ⟨k + 1, _, by go_num, by omega, HN.out, hown2, hbel2⟩
        case measure => simp [intOf]; omega
      · have HN : Hid (out ++ x.text.extract k (k + 1) = escTo x.text (k + 1)) := by show _ = _; rw [escTo_n hlt HQ.out, HO.out]
        clear HO HQ
        go_wp2_with (at_builtin; refine wp_append_byte rfl (.tmp 31) (.tmp 36) rfl W1.heap.size _ out (x.text.extract k (k + 1)) _ rfl hown rfl hb1 (by omega) hbs ?_; intro v2 w2 hown2 hg2)
        have hbel2 := hb.grown hg2 hbs (fun b hb => (hown.lt b hb).1)
        go_roundw
        case rel => exact ⟨k + 1, _, by go_num, by omega, HN.out, hown2, hbel2⟩
        case measure => simp [intOf]; omega
    · have HD : Hid (out = bit x) := by show _ = _; rw [← HF.out, HO.out, show k = x.text.size by omega]
      clear HO
      go_wp2
      go_ret
      exact ⟨ret_text HD.out, hb0.trans (hb.mono (by have := HS0.out; omega))⟩

/-! ### TextToken -/
theorem strCells_quote (s : ByteArray) : Lib.strCells s ++ [.int .u8 34] = Lib.strCells (s ++ ⟨#[34]⟩) := by
  unfold Lib.strCells; rw [ByteArray.data_append, Array.toList_append, List.map_append]; rfl
theorem bldQuote {b : Nat} {s : ByteArray} {w : World} (h : Bld b s w) (hs : s.size ≤ 1048576) :
    Calls Try.prog 38 #[.pointer (some ⟨b, 0, none⟩), .int .u8 34] w fun e w' => e = .returned .nilIface ∧ Bld b (s ++ ⟨#[34]⟩) w' ∧ Below b w w' ∧ Lib.OthersKept 5 (some b) w w' :=
  (bld_byte b b _ 34 w h (by rw [Lib.strCells_length]; exact hs) (Nat.le_of_lt h.lt)).mono fun e w' ⟨h1, h2⟩ => ⟨h1, Bld.of h2 (strCells_quote s), h2.2.1, h2.2.2⟩
def qTo (l : List Tok) (k : Nat) : ByteArray := ⟨#[34]⟩ ++ joinTo l k
theorem qTo_size {l : List Tok} (h : toksOk l = true) {k : Nat} (hk : k ≤ l.length) : (qTo l k).size ≤ 401 * k + 1 := by
  have := joinTo_size h k hk
  have h1 : (⟨#[34]⟩ : ByteArray).size = 1 := rfl
  unfold qTo; rw [ByteArray.size_append]; omega
theorem qTo_sp {l : List Tok} {k : Nat} (hk : k < l.length) (h0 : 0 < k) (h : l[k].spaced = true) : qTo l (k + 1) = qTo l k ++ ⟨#[32]⟩ ++ bit l[k] := by
  unfold qTo; rw [joinTo_sp hk h0 h, ByteArray.append_assoc, ByteArray.append_assoc, ByteArray.append_assoc]
theorem qTo_no {l : List Tok} {k : Nat} (hk : k < l.length) (h : ¬ (0 < k ∧ l[k].spaced = true)) : qTo l (k + 1) = qTo l k ++ bit l[k] := by
  unfold qTo; rw [joinTo_no hk h, ByteArray.append_assoc]
theorem qTo_zero (l : List Tok) : (⟨#[]⟩ : ByteArray) ++ ⟨#[34]⟩ = qTo l 0 := rfl
theorem qTo_end (l : List Tok) : qTo l l.length ++ ⟨#[34]⟩ = quoted (joinTo l l.length) := rfl

set_option maxHeartbeats 16000000 in
set_option maxRecDepth 100000 in
theorem impl_TextToken (v : Value) (l : List Tok) (fp : List Nat) (w : World) (H : (sSlice sTok).R w [v] l fp) :
    Calls Try.prog 14 #[v] w (TextOf l w) := by
  have hz0 := alloc_below' w (.cells #[.int .i64 0, .string ⟨#[]⟩, .bool false, .slice none 0 0] 28)
  have HZ := Lib.hid (heap_alloc_new w (.cells #[.int .i64 0, .string ⟨#[]⟩, .bool false, .slice none 0 0] 28))
  have hs0 : (w.alloc (.cells #[.int .i64 0, .string ⟨#[]⟩, .bool false, .slice none 0 0] 28)).heap.size = w.heap.size + 1 := by show (w.heap.push _).size = _; simp
  have HL0 := (sSlice sTok).below H hz0
  have HV := Lib.hid (impl_TokensValid v l fp _ HL0)
  obtain ⟨a, cap, rfl, hc, hm, hrow⟩ := open_rows HL0
  unfold maxLen at hm
  clear H HL0
  cases hv : toksOk l
  · have HF := Lib.hid (txtRes_no hv)
    rw [hv] at HV
    clear hv hs0
    go_enter Try.func14, Try.ntmps14
    go_wp2_with fail
    refine HV.out.mono ?_
    rintro e w2 ⟨rfl, hb2⟩
    have hB2 := hz0.trans (hb2.mono hz0.size)
    replace HZ := Lib.hid (mbox HZ.out hb2)
    clear HV hb2 hz0
    have z0 : w2.cell? ⟨w.heap.size, 0, none⟩ = some (.int .i64 0) := cell_of_row _ _ 0 _ _ _ HZ.out
    have zf0 : w2.frozen? ⟨w.heap.size, 0, none⟩ = false := frozen_of_row _ _ 0 _ _ HZ.out
    have z1 : w2.cell? ⟨w.heap.size, 1, none⟩ = some (.string ⟨#[]⟩) := cell_of_row _ _ 1 _ _ _ HZ.out
    have zf1 : w2.frozen? ⟨w.heap.size, 1, none⟩ = false := frozen_of_row _ _ 1 _ _ HZ.out
    have z2 : w2.cell? ⟨w.heap.size, 2, none⟩ = some (.bool false) := cell_of_row _ _ 2 _ _ _ HZ.out
    have zf2 : w2.frozen? ⟨w.heap.size, 2, none⟩ = false := frozen_of_row _ _ 2 _ _ HZ.out
    have z3 : w2.cell? ⟨w.heap.size, 3, none⟩ = some (.slice none 0 0) := cell_of_row _ _ 3 _ _ _ HZ.out
    have zf3 : w2.frozen? ⟨w.heap.size, 3, none⟩ = false := frozen_of_row _ _ 3 _ _ HZ.out
    have HS := Lib.hid (blk_set (blk_set (blk_set (blk_set HZ.out 0 (.int .i64 0)) 1 (.string ⟨#[]⟩)) 2 (.bool false)) 3 (.slice none 0 0))
    have HBF := Lib.hid ((((hB2.setCell (p := ⟨w.heap.size, 0, none⟩) (Nat.le_refl _) (.int .i64 0)).setCell (p := ⟨w.heap.size, 1, none⟩) (Nat.le_refl _) (.string ⟨#[]⟩)).setCell (p := ⟨w.heap.size, 2, none⟩) (Nat.le_refl _) (.bool false)).setCell (p := ⟨w.heap.size, 3, none⟩) (Nat.le_refl _) (.slice none 0 0))
    go_wp2
    refine bodyPost_ret (results_cell2 rfl _ _ w.heap.size _ _ _ _ rfl HS.out Try.underlying28 rfl (by kernel_rfl)) rfl ?_
    exact textOf_no HF.out HBF.out
  rw [hv] at HV
  have HOK := Lib.hid (toksOk_facts hv)
  have hlen := HOK.out.1
  have HSZ := Lib.hid (fun k hk => qTo_size hv (k := k) hk)
  have HY := Lib.hid (fun h => txtRes_yes (l := l) hv rfl h)
  have HG := Lib.hid (fun h => txtRes_long (l := l) hv rfl h)
  have HQL := Lib.hid (quoted_long hv)
  have HVD := Lib.hid hv
  clear hv
  go_enter Try.func14, Try.ntmps14
  go_wp2_with fail
  refine HV.out.mono ?_
  rintro e w1 ⟨rfl, hb1⟩
  have hB1 := hz0.trans (hb1.mono hz0.size)
  replace HZ := Lib.hid (mbox HZ.out hb1)
  have hgz : w.heap.size < w1.heap.size := by have := hb1.size; omega
  have HROW : Hid (∀ k, (hk : k < l.length) → ∃ b1 off1 h1 fpk, a = some ⟨b1, off1, none⟩ ∧ b1 < w1.heap.size ∧ ElemAt w1 b1 off1 4 k [.int .i64 l[k].kind, .string l[k].text, .bool l[k].spaced, h1] ∧ sTok.R w1 [.int .i64 l[k].kind, .string l[k].text, .bool l[k].spaced, h1] l[k] fpk) := fun k hk => by
    obtain ⟨b1, off1, fps1, rfl, hb1', -, he1⟩ := hrow (by omega)
    obtain ⟨es1, hE1, hR1⟩ := he1 k hk
    have hR1' := hR1
    obtain ⟨h1, rfl, -, -, -⟩ := hR1
    exact ⟨b1, off1, h1, _, rfl, Nat.lt_of_lt_of_le hb1' hb1.size, hE1.frame (hb1.block b1 hb1'), sTok.below hR1' hb1⟩
  clear hrow HV hb1 hz0 hs0
  have HB0 := Lib.hid (Bld.fresh w1)
  have hb2 := alloc_below' w1 (.cells #[.pointer none, .slice none 0 0] 63)
  go_wp2_with fail
  refine (bldQuote HB0.out (by show (0 : Nat) ≤ _; omega)).mono ?_
  rintro e w2 ⟨rfl, hB2, hb3, -⟩
  have hb4 := hb2.trans (hb3.mono (Nat.le_refl _))
  rw [qTo_zero l] at hB2
  replace HB0 := Lib.hid hB2
  clear hb2 hb3 hB2
  go_wp2_with fail
  go_loopw [14] (fun i wr => ∃ (k : Nat), k ≤ l.length ∧ i = .int .i64 k ∧ Hid (Bld w1.heap.size (qTo l k) wr) ∧ Below w1.heap.size w1 wr) (fun i _ => l.length - (intOf i).toNat)
  case atStart => exact ⟨0, by omega, rfl, HB0, hb4⟩
  case round =>
    obtain ⟨k, hk, rfl, HB, hb⟩ := hrel
    clear HB0 hb4
    by_cases hlt : k < l.length
    · obtain ⟨b1, off1, h1, fpk, rfl, hb1', hE1, hR1⟩ := HROW.out k hlt
      replace hE1 := hE1.frame (hb.block b1 hb1')
      have c10 : wr.cell? ⟨b1, off1 + k * 4, none⟩ = some _ := elem_cell0 hE1 (by decide) rfl
      have c11 : wr.cell? ⟨b1, off1 + k * 4 + 1, none⟩ = some _ := elem_cell (j := 1) hE1 (by decide) rfl
      have c12 : wr.cell? ⟨b1, off1 + k * 4 + 2, none⟩ = some _ := elem_cell (j := 2) hE1 (by decide) rfl
      have c13 : wr.cell? ⟨b1, off1 + k * 4 + 3, none⟩ = some _ := elem_cell (j := 3) hE1 (by decide) rfl
      have hsz1 := (tokOk_facts (HOK.out.2 k hlt)).2
      have hbz := bit_size l[k]
      have hso := HSZ.out k hk
      have HT : Hid (∀ W, Below w1.heap.size w1 W → Calls Try.prog 40 #[.agg #[.int .i64 l[k].kind, .string l[k].text, .bool l[k].spaced, h1]] W (StrOf (bit l[k]) W)) := fun W hW => impl_textWithin _ l[k] _ W hsz1 (sTok.below hR1 hW)
      obtain ⟨ah, caph, rfl⟩ : ∃ ah caph, h1 = .slice ah l[k].hidden.length caph := by
        obtain ⟨h', e', -, -, K⟩ := hR1
        obtain ⟨ah, caph, e2, -⟩ := open_rows K
        simp only [List.cons.injEq, and_true, true_and] at e'
        exact ⟨ah, caph, by rw [e', e2]⟩
      have hbx : Below wr.heap.size wr (wr.alloc (.cells #[.int .i64 l[k].kind, .string l[k].text, .bool l[k].spaced, .slice ah l[k].hidden.length caph] 28)) := alloc_below' _ _
      have HX := Lib.hid (heap_alloc_new wr (.cells #[.int .i64 l[k].kind, .string l[k].text, .bool l[k].spaced, .slice ah l[k].hidden.length caph] 28))
      have HB1 := Lib.hid (HB.out.below hbx)
      have hlw := HB.out.lt
      have hbw := hb.trans (hbx.mono hb.size)
      have hne : wr.heap.size ≠ w1.heap.size := by omega
      clear hE1 hR1 hbx
      by_cases h0 : k = 0
      · have h00 : ¬ (0 : Int) < (k : Int) := by omega
        have h01 : decide ((0 : Int) < (k : Int)) = false := by simp; omega
        have h02 : decide (0 < k) = false := by simp; omega
        have HNS : Hid (¬ (0 < k ∧ l[k].spaced = true)) := fun h => by omega
        clear h0
        have HN := Lib.hid (qTo_no hlt HNS.out)
        go_wp2_with fail
        refine (HT.out _ hbw).mono ?_
        rintro e w3 ⟨rfl, hb3⟩
        have HB3 := Lib.hid (HB1.out.below hb3)
        have hbw3 := hbw.trans (hb3.mono hbw.size)
        clear c10 c11 c12 c13 hb3
        go_wp2_with fail
        refine (bldText HB3.out (by omega)).mono ?_
        rintro e w4 ⟨rfl, hB4, hb4, -⟩
        rw [← HN.out] at hB4
        have hbw4 := hbw3.trans (hb4.mono (Nat.le_refl _))
        go_wp2
        go_roundw
        case rel => exact ⟨k + 1, by omega, by go_num, hB4, hbw4⟩
        case measure => simp [intOf]; omega
      · have h00 : (0 : Int) < (k : Int) := by omega
        have h01 : decide ((0 : Int) < (k : Int)) = true := by simp; omega
        have h02 : decide (0 < k) = true := by simp; omega
        cases hsp : l[k].spaced
        · have HNS : Hid (¬ (0 < k ∧ l[k].spaced = true)) := fun h => by rw [hsp] at h; exact absurd h.2 (by simp)
          rw [hsp] at c12 HT HX HB1 hbw
          have HN := Lib.hid (qTo_no hlt HNS.out)
          go_wp2_with fail
          refine (HT.out _ hbw).mono ?_
          rintro e w3 ⟨rfl, hb3⟩
          have HB3 := Lib.hid (HB1.out.below hb3)
          have hbw3 := hbw.trans (hb3.mono hbw.size)
          clear c10 c11 c12 c13 hb3
          go_wp2_with fail
          refine (bldText HB3.out (by omega)).mono ?_
          rintro e w4 ⟨rfl, hB4, hb4, -⟩
          rw [← HN.out] at hB4
          have hbw4 := hbw3.trans (hb4.mono (Nat.le_refl _))
          go_wp2
          go_roundw
          case rel => exact ⟨k + 1, by omega, by go_num, hB4, hbw4⟩
          case measure => simp [intOf]; omega
        · have HN := Lib.hid (qTo_sp hlt (by omega) hsp)
          rw [hsp] at c12 HT HX HB1 hbw
          go_wp2_with fail
          refine (bldByte HB1.out (by omega)).mono ?_
          rintro e w3 ⟨rfl, hB3, hb3, hk3⟩
          have hbw3 := hbw.trans (hb3.mono (Nat.le_refl _))
          have HX3 := Lib.hid (kept_cell hk3 HX.out hne (by decide))
          have q0 : w3.cell? ⟨wr.heap.size, 0, none⟩ = some (.int .i64 l[k].kind) := cell_of_row _ _ 0 _ _ _ HX3.out
          have q1 : w3.cell? ⟨wr.heap.size, 1, none⟩ = some (.string l[k].text) := cell_of_row _ _ 1 _ _ _ HX3.out
          have q2 : w3.cell? ⟨wr.heap.size, 2, none⟩ = some (.bool true) := cell_of_row _ _ 2 _ _ _ HX3.out
          have q3 : w3.cell? ⟨wr.heap.size, 3, none⟩ = some (.slice ah l[k].hidden.length caph) := cell_of_row _ _ 3 _ _ _ HX3.out
          have HB3 := Lib.hid hB3
          have h32 : (qTo l k ++ (⟨#[32]⟩ : ByteArray)).size ≤ 401 * k + 2 := by rw [ByteArray.size_append]; have : (⟨#[32]⟩ : ByteArray).size = 1 := rfl; omega
          have H32 := Lib.hid h32
          clear c10 c11 c12 c13 hb3 hk3 hB3 h32
          go_wp2_with fail
          refine (HT.out _ hbw3).mono ?_
          rintro e w4 ⟨rfl, hb4⟩
          have HB4 := Lib.hid (HB3.out.below hb4)
          have hbw4 := hbw3.trans (hb4.mono hbw3.size)
          clear q0 q1 q2 q3 hb4
          go_wp2_with fail
          refine (bldText HB4.out (by have := H32.out; omega)).mono ?_
          rintro e w5 ⟨rfl, hB5, hb5, -⟩
          rw [← HN.out] at hB5
          have hbw5 := hbw4.trans (hb5.mono (Nat.le_refl _))
          go_wp2
          go_roundw
          case rel => exact ⟨k + 1, by omega, by go_num, hB5, hbw5⟩
          case measure => simp [intOf]; omega
    · have hso := HSZ.out k hk
      have hkl : k = l.length := by omega
      have HE : Hid (qTo l k ++ ⟨#[34]⟩ = quoted (joinTo l l.length)) := by show _ = _; rw [hkl]; exact qTo_end l
      clear hkl
      go_wp2_with fail
      refine (bldQuote HB.out (by omega)).mono ?_
      rintro e w3 ⟨rfl, hB3, hb3, -⟩
      rw [HE.out] at hB3
      have HQL2 := HQL.out
      generalize quoted (joinTo l l.length) = Q at *
      have HL := Lib.hid (bldLen hB3)
      have HS := Lib.hid (bldString hB3)
      have hb5 := hb.trans (hb3.mono (Nat.le_refl _))
      have hbB := hB1.trans (hb5.mono hB1.size)
      replace HZ := Lib.hid (mbox HZ.out hb5)
      have hQ : Q.size ≤ 50000 := HQL2
      clear hb3 hB3 HQL2
      by_cases hbig : 200 < Q.size
      · have HF := Lib.hid (HG.out hbig)
        clear HG HY
        go_wp2_with fail
        refine HL.out.mono ?_
        rintro e w4 ⟨rfl, rfl⟩
        clear HL HS
        have z0 : w4.cell? ⟨w.heap.size, 0, none⟩ = some (.int .i64 0) := cell_of_row _ _ 0 _ _ _ HZ.out
        have zf0 : w4.frozen? ⟨w.heap.size, 0, none⟩ = false := frozen_of_row _ _ 0 _ _ HZ.out
        have z1 : w4.cell? ⟨w.heap.size, 1, none⟩ = some (.string ⟨#[]⟩) := cell_of_row _ _ 1 _ _ _ HZ.out
        have zf1 : w4.frozen? ⟨w.heap.size, 1, none⟩ = false := frozen_of_row _ _ 1 _ _ HZ.out
        have z2 : w4.cell? ⟨w.heap.size, 2, none⟩ = some (.bool false) := cell_of_row _ _ 2 _ _ _ HZ.out
        have zf2 : w4.frozen? ⟨w.heap.size, 2, none⟩ = false := frozen_of_row _ _ 2 _ _ HZ.out
        have z3 : w4.cell? ⟨w.heap.size, 3, none⟩ = some (.slice none 0 0) := cell_of_row _ _ 3 _ _ _ HZ.out
        have zf3 : w4.frozen? ⟨w.heap.size, 3, none⟩ = false := frozen_of_row _ _ 3 _ _ HZ.out
        have HS := Lib.hid (blk_set (blk_set (blk_set (blk_set HZ.out 0 (.int .i64 0)) 1 (.string ⟨#[]⟩)) 2 (.bool false)) 3 (.slice none 0 0))
        have HBF := Lib.hid ((((hbB.setCell (p := ⟨w.heap.size, 0, none⟩) (Nat.le_refl _) (.int .i64 0)).setCell (p := ⟨w.heap.size, 1, none⟩) (Nat.le_refl _) (.string ⟨#[]⟩)).setCell (p := ⟨w.heap.size, 2, none⟩) (Nat.le_refl _) (.bool false)).setCell (p := ⟨w.heap.size, 3, none⟩) (Nat.le_refl _) (.slice none 0 0))
        go_wp2
        refine bodyPost_ret (results_cell2 rfl _ _ w.heap.size _ _ _ _ rfl HS.out Try.underlying28 rfl (by kernel_rfl)) rfl ?_
        exact textOf_no HF.out HBF.out
      · have HF := Lib.hid (HY.out hbig)
        clear HG HY
        go_wp2_with fail
        refine HL.out.mono ?_
        rintro e w4 ⟨rfl, rfl⟩
        go_wp2_with fail
        refine HS.out.mono ?_
        rintro e w5 ⟨rfl, hb6⟩
        have hbC := hbB.trans (hb6.mono (by omega))
        replace HZ := Lib.hid ((hb6.block _ hgz).trans HZ.out)
        clear HL HS hb6
        have z0 : w5.cell? ⟨w.heap.size, 0, none⟩ = some (.int .i64 0) := cell_of_row _ _ 0 _ _ _ HZ.out
        have zf0 : w5.frozen? ⟨w.heap.size, 0, none⟩ = false := frozen_of_row _ _ 0 _ _ HZ.out
        have z1 : w5.cell? ⟨w.heap.size, 1, none⟩ = some (.string ⟨#[]⟩) := cell_of_row _ _ 1 _ _ _ HZ.out
        have zf1 : w5.frozen? ⟨w.heap.size, 1, none⟩ = false := frozen_of_row _ _ 1 _ _ HZ.out
        have z2 : w5.cell? ⟨w.heap.size, 2, none⟩ = some (.bool false) := cell_of_row _ _ 2 _ _ _ HZ.out
        have zf2 : w5.frozen? ⟨w.heap.size, 2, none⟩ = false := frozen_of_row _ _ 2 _ _ HZ.out
        have z3 : w5.cell? ⟨w.heap.size, 3, none⟩ = some (.slice none 0 0) := cell_of_row _ _ 3 _ _ _ HZ.out
        have zf3 : w5.frozen? ⟨w.heap.size, 3, none⟩ = false := frozen_of_row _ _ 3 _ _ HZ.out
        have HS := Lib.hid (blk_set (blk_set (blk_set (blk_set HZ.out 0 (.int .i64 3)) 1 (.string Q)) 2 (.bool false)) 3 (.slice none 0 0))
        have HBF := Lib.hid ((((hbC.setCell (p := ⟨w.heap.size, 0, none⟩) (Nat.le_refl _) (.int .i64 3)).setCell (p := ⟨w.heap.size, 1, none⟩) (Nat.le_refl _) (.string Q)).setCell (p := ⟨w.heap.size, 2, none⟩) (Nat.le_refl _) (.bool false)).setCell (p := ⟨w.heap.size, 3, none⟩) (Nat.le_refl _) (.slice none 0 0))
        go_wp2
        refine bodyPost_ret (results_cell2 rfl _ _ w.heap.size _ _ _ _ rfl HS.out Try.underlying28 rfl (by kernel_rfl)) rfl ?_
        exact textOf_yes HF.out HBF.out (by omega)

end Go.Proofs.Ytgjjidjkpmmcoaa
