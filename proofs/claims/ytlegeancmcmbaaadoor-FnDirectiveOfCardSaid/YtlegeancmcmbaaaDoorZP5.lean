/- Texts that the proof of P stands on, in one file. -/
import Derived.Test.YtlegeancmcmbaaaDoorZP3
import Derived.Test.YtlegeancmcmbaaaDoorZP4
import Derived.Laws.AppendOwnNone
import Derived.Test.YtlegeancmcmbaaaDoorZP2
import Derived.Laws.Cover1
import Derived.Outline
set_option linter.unusedVariables false
set_option linter.unusedSimpArgs false
/- The drawing of tokens. -/
namespace Go.Proofs.YtlegeancmcmbaaaDoor
open Go.RowKit

def okTok (t : Tok) : Prop := t.text.size ≤ 1000 ∧ 0 ≤ t.kind ∧ t.kind ≤ 4 ∧ t.hidden.length ≤ 3
def elemTok (t : Tok) : Elem Tok := ⟨freshCells t, t, []⟩
theorem toks_rowE {base : Nat} {v : Value} {l : List Tok} {w : World} {B : Nat} (h : TokRow base v l w) (hf : Fresh B l) (hB : B ≤ 1000) :
  RowE sTok base 47 v (l.map elemTok) w ∧ ∀ x ∈ l.map elemTok, okTok x.d := by
 have hL : (l.map elemTok).flatMap (·.cells) = l.flatMap freshCells := by rw [List.flatMap_map]; rfl
 have hx : ∀ x ∈ l.map elemTok, ∃ t ∈ l, x = elemTok t := fun x hx => by
  obtain ⟨t, ht, rfl⟩ := List.mem_map.1 hx
  exact ⟨t, ht, rfl⟩
 refine ⟨⟨by rw [hL, List.length_map]; exact h, fun x hm => ?_, fun x hm => ?_, fun x hm b hb => ?_, fun x hm b hb => ?_⟩, fun x hm => ?_⟩ <;> obtain ⟨t, ht, rfl⟩ := hx x hm
 ·rfl
 ·obtain ⟨a1, a2, a3, a4⟩ := hf t ht
  have b1 : okInt t.kind := ⟨by omega, by omega⟩
  have b2 : okStr t.text := by unfold okStr maxLen; omega
  have b3 : (sSlice sStr).R w [.slice none 0 0] t.hidden [] := by rw [a2]; exact slice_empty sStr w none 0 (by simp)
  exact ⟨_, rfl, b1, b2, b3⟩
 ·simp [elemTok] at hb
 ·simp [elemTok] at hb
 ·obtain ⟨a1, a2, a3, a4⟩ := hf t ht
  exact ⟨Nat.le_trans a1 hB, by show 0 ≤ t.kind; omega, a4, by show t.hidden.length ≤ 3; rw [a2]; simp⟩

abbrev hidW (w : World) : World :=
 ((
  (((w.alloc (.cells #[.string ⟨#[97]⟩] 9)).alloc (.cells #[.string ⟨#[97]⟩, .string ⟨#[98]⟩] 9)).alloc (.cells #[.string ⟨#[102]⟩] 9)).alloc (.cells #[.string ⟨#[97]⟩, .string ⟨#[102]⟩, .string ⟨#[103]⟩] 9)).alloc
  (.cells #[.slice (some ⟨w.heap.size, 0, none⟩) 1 1, .slice (some ⟨w.heap.size + 1, 0, none⟩) 2 2, .slice (some ⟨w.heap.size + 1 + 1, 0, none⟩) 1 1, .slice (some ⟨w.heap.size + 1 + 1 + 1, 0, none⟩) 3 3] 45))
def hidL (n : Nat) : List Obj := [.cells #[.string ⟨#[97]⟩] 9, .cells #[.string ⟨#[97]⟩, .string ⟨#[98]⟩] 9, .cells #[.string ⟨#[102]⟩] 9, .cells #[.string ⟨#[97]⟩, .string ⟨#[102]⟩, .string ⟨#[103]⟩] 9,
 .cells #[.slice (some ⟨n, 0, none⟩) 1 1, .slice (some ⟨n + 1, 0, none⟩) 2 2, .slice (some ⟨n + 1 + 1, 0, none⟩) 1 1, .slice (some ⟨n + 1 + 1 + 1, 0, none⟩) 3 3] 45]
theorem hidW_eq (w : World) : hidW w = allocs w (hidL w.heap.size) := rfl
theorem hidW_below (w : World) : Below w.heap.size w (hidW w) := by rw [hidW_eq]; exact allocs_below _ _ (Below.refl _ _) (Nat.le_refl _)
theorem hidW_blk (w : World) (j : Nat) (hj : j < 5) : (hidW w).heap[w.heap.size + j]? = some ((hidL w.heap.size)[j]'hj) := by rw [hidW_eq]; exact allocs_blk w (hidL w.heap.size) j hj
theorem hidW_size (w : World) : (hidW w).heap.size = w.heap.size + 5 := by rw [hidW_eq, allocs_size]; rfl
theorem lit_strs {w : World} {b : Nat} {l : List ByteArray} {t : TypeId} {fr : Nat × Nat} (h : w.heap[b]? = some (.cells (l.map Value.string).toArray t fr)) (hs : ∀ s ∈ l, s.size ≤ 1000) (h0 : 0 < l.length) (hl : l.length ≤ 1000) (n : Nat) (hn : l.length = n) :
  (sSlice sStr).R w [.slice (some ⟨b, 0, none⟩) n n] l [b] := by
 subst hn
 refine ⟨_, _, rfl, Nat.le_refl _, by unfold maxLen; omega, .inr ⟨h0, b, 0, fun _ => [], rfl, by simp, (Array.getElem?_eq_some_iff.1 h).1, fun i hi => ⟨[.string l[i]], ⟨rfl, fun j hj => ?_⟩, rfl, ?_, rfl⟩⟩⟩
 ·have hj0 : j = 0 := by simp [sStr, sFlat] at hj; omega
  subst hj0
  have := cell_of_row w b i _ _ _ h
  simp only [sStr, sFlat, Nat.mul_one, Nat.zero_add, Nat.add_zero] at *
  rw [this]; simp [List.getElem?_eq_getElem hi]
 ·have := hs _ (List.getElem_mem hi)
  unfold okStr maxLen; omega
theorem hid_lits {w w3 : World} {rb : Nat} {r : Int} (hr : rb < w.heap.size) (hK : Kept [rb] (hidW w) w3) (h0 : 0 ≤ r) (h1 : r < 4) :
  ∃ b n l, w3.cell? ⟨w.heap.size + 1 + 1 + 1 + 1, r.toNat, none⟩ = some (.slice (some ⟨b, 0, none⟩) n n) ∧ (sSlice sStr).R w3 [.slice (some ⟨b, 0, none⟩) n n] l [b] ∧ l.length ≤ 3 ∧ w.heap.size ≤ b ∧ ∃ cur fr, w3.heap[b]? = some (.cells cur 9 fr) := by
 have gs := hidW_size w
 have g0 := hidW_blk w 0 (by omega)
 have g1 := hidW_blk w 1 (by omega)
 have g2 := hidW_blk w 2 (by omega)
 have g3 := hidW_blk w 3 (by omega)
 have g4 := hidW_blk w 4 (by omega)
 have k0 := (hK.block _ (by omega) (by simp; omega)).trans g0
 have k1 := (hK.block _ (by omega) (by simp; omega)).trans g1
 have k2 := (hK.block _ (by omega) (by simp; omega)).trans g2
 have k3 := (hK.block _ (by omega) (by simp; omega)).trans g3
 have k4 := (hK.block _ (by omega) (by simp; omega)).trans g4
 have hc := fun j => cell_of_row w3 (w.heap.size + 1 + 1 + 1 + 1) j _ _ _ k4
 have hr4 : r = 0 ∨ r = 1 ∨ r = 2 ∨ r = 3 := by omega
 rcases hr4 with rfl | rfl | rfl | rfl
 ·exact ⟨_, 1, [⟨#[97]⟩], hc 0, lit_strs (l := [⟨#[97]⟩]) k0 (by decide) (by decide) (by decide) 1 rfl, by decide, by omega, _, _, k0⟩
 ·exact ⟨_, 2, [⟨#[97]⟩, ⟨#[98]⟩], hc 1, lit_strs (l := [⟨#[97]⟩, ⟨#[98]⟩]) k1 (by decide) (by decide) (by decide) 2 rfl, by decide, by omega, _, _, k1⟩
 ·exact ⟨_, 1, [⟨#[102]⟩], hc 2, lit_strs (l := [⟨#[102]⟩]) k2 (by decide) (by decide) (by decide) 1 rfl, by decide, by omega, _, _, k2⟩
 ·exact ⟨_, 3, [⟨#[97]⟩, ⟨#[102]⟩, ⟨#[103]⟩], hc 3, lit_strs (l := [⟨#[97]⟩, ⟨#[102]⟩, ⟨#[103]⟩]) k3 (by decide) (by decide) (by decide) 3 rfl, by decide, by omega, _, _, k3⟩

def tokE (k : Int) (s : ByteArray) (ao : Option Addr) (m : Nat) (l : List ByteArray) (fp : List Nat) : Elem Tok := ⟨[.int .i64 k, .string s, .bool false, .slice ao m m], ⟨k, s, false, l⟩, fp⟩
def badE (n : Nat) : List (Elem Tok) := [tokE 0 ⟨#[]⟩ none 0 [] [], tokE 1 ⟨#[49, 97]⟩ none 0 [] [], tokE 1 ⟨#[97, 32, 98]⟩ none 0 [] [], tokE 2 ⟨#[97]⟩ none 0 [] [], tokE 4 ⟨#[64]⟩ none 0 [] [], tokE 3 ⟨#[34, 97]⟩ none 0 [] [],
 tokE 1 ⟨#[97]⟩ (some ⟨n, 0, none⟩) 2 [⟨#[98]⟩, ⟨#[97]⟩] [n], tokE 1 ⟨#[97]⟩ (some ⟨n + 1, 0, none⟩) 1 [⟨#[49]⟩] [n + 1]]
def badL (n : Nat) : List Obj := [.cells #[.string ⟨#[98]⟩, .string ⟨#[97]⟩] 9, .cells #[.string ⟨#[49]⟩] 9, .cells ((badE n).flatMap (·.cells)).toArray 47]
abbrev badW (w : World) : World :=
 ((
  w.alloc (.cells #[.string ⟨#[98]⟩, .string ⟨#[97]⟩] 9)).alloc (.cells #[.string ⟨#[49]⟩] 9)).alloc
  (.cells #[.int .i64 0, .string ⟨#[]⟩, .bool false, .slice none 0 0, .int .i64 1, .string ⟨#[49, 97]⟩, .bool false, .slice none 0 0, .int .i64 1, .string ⟨#[97, 32, 98]⟩, .bool false, .slice none 0 0, .int .i64 2, .string ⟨#[97]⟩, .bool false, .slice none 0 0,
   .int .i64 4, .string ⟨#[64]⟩, .bool false, .slice none 0 0, .int .i64 3, .string ⟨#[34, 97]⟩, .bool false, .slice none 0 0, .int .i64 1, .string ⟨#[97]⟩, .bool false, .slice (some ⟨w.heap.size, 0, none⟩) 2 2, .int .i64 1, .string ⟨#[97]⟩, .bool false, .slice (some ⟨w.heap.size + 1, 0, none⟩) 1 1] 47)
theorem badW_eq (w : World) : badW w = allocs w (badL w.heap.size) := rfl
theorem badW_below (w : World) : Below w.heap.size w (badW w) := by rw [badW_eq]; exact allocs_below _ _ (Below.refl _ _) (Nat.le_refl _)
theorem badW_blk (w : World) (j : Nat) (hj : j < 3) : (badW w).heap[w.heap.size + j]? = some ((badL w.heap.size)[j]'hj) := by rw [badW_eq]; exact allocs_blk w (badL w.heap.size) j hj
theorem badW_size (w : World) : (badW w).heap.size = w.heap.size + 3 := by rw [badW_eq, allocs_size]; rfl
theorem badE_len (n : Nat) : ∀ x ∈ badE n, x.cells.length = 4 := by
 intro x hx
 simp only [badE, List.mem_cons, List.not_mem_nil, or_false] at hx
 rcases hx with rfl | rfl | rfl | rfl | rfl | rfl | rfl | rfl <;> rfl
theorem badE_form (n : Nat) : ∀ x ∈ badE n, okTok x.d ∧ ∃ k s ao m l fp, x = tokE k s ao m l fp ∧ (fp = [] ∧ l = [] ∧ ao = none ∧ m = 0 ∨ fp = [n] ∧ l = [⟨#[98]⟩, ⟨#[97]⟩] ∧ ao = some ⟨n, 0, none⟩ ∧ m = 2 ∨ fp = [n + 1] ∧ l = [⟨#[49]⟩] ∧ ao = some ⟨n + 1, 0, none⟩ ∧ m = 1) := by
 intro x hx
 simp only [badE, List.mem_cons, List.not_mem_nil, or_false] at hx
 have ok : ∀ (k : Int) (s : ByteArray) (l : List ByteArray), s.size ≤ 1000 → 0 ≤ k → k ≤ 4 → l.length ≤ 3 → okTok ⟨k, s, false, l⟩ := fun k s l a b c d => ⟨a, b, c, d⟩
 rcases hx with rfl | rfl | rfl | rfl | rfl | rfl | rfl | rfl
 ·exact ⟨ok _ _ _ (by decide) (by decide) (by decide) (by decide), _, _, _, _, _, _, rfl, .inl ⟨rfl, rfl, rfl, rfl⟩⟩
 ·exact ⟨ok _ _ _ (by decide) (by decide) (by decide) (by decide), _, _, _, _, _, _, rfl, .inl ⟨rfl, rfl, rfl, rfl⟩⟩
 ·exact ⟨ok _ _ _ (by decide) (by decide) (by decide) (by decide), _, _, _, _, _, _, rfl, .inl ⟨rfl, rfl, rfl, rfl⟩⟩
 ·exact ⟨ok _ _ _ (by decide) (by decide) (by decide) (by decide), _, _, _, _, _, _, rfl, .inl ⟨rfl, rfl, rfl, rfl⟩⟩
 ·exact ⟨ok _ _ _ (by decide) (by decide) (by decide) (by decide), _, _, _, _, _, _, rfl, .inl ⟨rfl, rfl, rfl, rfl⟩⟩
 ·exact ⟨ok _ _ _ (by decide) (by decide) (by decide) (by decide), _, _, _, _, _, _, rfl, .inl ⟨rfl, rfl, rfl, rfl⟩⟩
 ·exact ⟨ok _ _ _ (by decide) (by decide) (by decide) (by decide), _, _, _, _, _, _, rfl, .inr (.inl ⟨rfl, rfl, rfl, rfl⟩)⟩
 ·exact ⟨ok _ _ _ (by decide) (by decide) (by decide) (by decide), _, _, _, _, _, _, rfl, .inr (.inr ⟨rfl, rfl, rfl, rfl⟩)⟩
def PickedTok (B g : Nat) (i : Nat) (w : World) : Prop :=
 ∃ (k : Int) (s : ByteArray) (ao : Option Addr) (m : Nat) (l : List ByteArray) (fp : List Nat),
  w.cell? ⟨g, i * 4, none⟩ = some (.int .i64 k) ∧ w.cell? ⟨g, i * 4 + 1, none⟩ = some (.string s) ∧ w.cell? ⟨g, i * 4 + 2, none⟩ = some (.bool false) ∧ w.cell? ⟨g, i * 4 + 3, none⟩ = some (.slice ao m m) ∧
  sTok.R w [.int .i64 k, .string s, .bool false, .slice ao m m] ⟨k, s, false, l⟩ fp ∧ okTok ⟨k, s, false, l⟩ ∧ (∀ b ∈ fp, B ≤ b) ∧ (∀ b ∈ fp, ∃ cur t fr, w.heap[b]? = some (.cells cur t fr) ∧ t ≠ 47)
theorem bad_pick {w w4 : World} {rb : Nat} {r : Int} (hr : rb < w.heap.size) (hK : Kept [rb] (badW w) w4) (h0 : 0 ≤ r) (h1 : r < 8) : PickedTok w.heap.size (w.heap.size + 1 + 1) r.toNat w4 := by
 have gs := badW_size w
 have k0 := (hK.block _ (by omega) (by simp; omega)).trans (badW_blk w 0 (by omega))
 have k1 := (hK.block _ (by omega) (by simp; omega)).trans (badW_blk w 1 (by omega))
 have k2 := (hK.block _ (by omega) (by simp; omega)).trans (badW_blk w 2 (by omega))
 have hr8 : r.toNat < (badE w.heap.size).length := by show _ < 8; omega
 have hmem := List.getElem_mem hr8
 obtain ⟨hok, k, s, ao, m, l, fp, hx, hways⟩ := badE_form _ _ hmem
 have hc : ∀ j, j < 4 → w4.cell? ⟨w.heap.size + 1 + 1, r.toNat * 4 + j, none⟩ = (tokE k s ao m l fp).cells[j]? := fun j hj => by
  rw [cell_of_row w4 (w.heap.size + 1 + 1) (r.toNat * 4 + j) _ _ _ k2, List.getElem?_toArray, flatMap_at (f := Elem.cells) (badE_len _) hr8 hj, hx]
 rw [hx] at hok
 obtain ⟨o1, o2, o3, o4⟩ := hok
 have b1 : okInt k := ⟨by have : 0 ≤ k := o2; omega, by have : k ≤ 4 := o3; omega⟩
 have b2 : okStr s := by unfold okStr maxLen; have : s.size ≤ 1000 := o1; omega
 refine ⟨k, s, ao, m, l, fp, hc 0 (by omega), hc 1 (by omega), hc 2 (by omega), hc 3 (by omega), ?_, ⟨o1, o2, o3, o4⟩, ?_, ?_⟩
 ·rcases hways with ⟨rfl, rfl, rfl, rfl⟩ | ⟨rfl, rfl, rfl, rfl⟩ | ⟨rfl, rfl, rfl, rfl⟩
  ·exact ⟨_, rfl, b1, b2, slice_empty sStr _ _ _ (by simp)⟩
  ·exact ⟨_, rfl, b1, b2, lit_strs (l := [⟨#[98]⟩, ⟨#[97]⟩]) k0 (by decide) (by decide) (by decide) 2 rfl⟩
  ·exact ⟨_, rfl, b1, b2, lit_strs (l := [⟨#[49]⟩]) k1 (by decide) (by decide) (by decide) 1 rfl⟩
 ·intro b hb
  rcases hways with ⟨rfl, _⟩ | ⟨rfl, _⟩ | ⟨rfl, _⟩ <;> simp at hb <;> omega
 ·intro b hb
  rcases hways with ⟨rfl, _⟩ | ⟨rfl, _⟩ | ⟨rfl, _⟩ <;> simp at hb <;> subst hb
  ·exact ⟨_, _, _, k0, by decide⟩
  ·exact ⟨_, _, _, k1, by decide⟩

theorem wp_append_tokE {w : World} {ops : Array Oper} {rest : List Oper} {o : Oper} {a : Act} {Q : Exit → Act → World → Prop} (hg : o.guard = none) (s y : Operand)
  (ho : o.op = .call { callee := .builtin .append, args := #[s, y], argTypes := #[28, 28] })
  (base : Nat) (v : Value) (L : List (Elem Tok)) (hs : a.eval s = v) (hown : RowE sTok base 47 v L w) (k : Int) (x : ByteArray) (b : Bool) (ao : Option Addr) (m c : Nat) (l : List ByteArray) (fp : List Nat)
  (hy : a.eval y = .slice (some ⟨w.heap.size, 0, none⟩) 1 1) (hR : sTok.R w [.int .i64 k, .string x, .bool b, .slice ao m c] ⟨k, x, b, l⟩ fp) (hlo : ∀ b ∈ fp, base ≤ b) (hty : ∀ b ∈ fp, ∃ cur t fr, w.heap[b]? = some (.cells cur t fr) ∧ t ≠ 47)
  (h63 : L.length ≤ 2000000) (hbase : base ≤ w.heap.size)
  (h : ∀ v' w', RowE sTok base 47 v' (L ++ [⟨[.int .i64 k, .string x, .bool b, .slice ao m c], ⟨k, x, b, l⟩, fp⟩]) w' → w.grownBy w' v.ownBlock → wpList Tryd.prog ops Q rest (a.put o.dst v') w') :
  wpList Tryd.prog ops Q (o :: rest) a (w.alloc (.cells #[.int .i64 k, .string x, .bool b, .slice ao m c] 47)) := by
 have hb := alloc_below' w (.cells #[.int .i64 k, .string x, .bool b, .slice ao m c] 47)
 refine wp_append_rowE (S := sTok) ti_tok rfl (by decide) _ (X := [⟨[.int .i64 k, .string x, .bool b, .slice ao m c], ⟨k, x, b, l⟩, fp⟩]) hg s y ho base v hs (hown.below hb) w.heap.size 1 1 hy rfl ?_ ?_ ?_ ?_ ?_ ?_ (by unfold maxLen; omega) (by omega) (by simp; omega) fun v' w' a b => h v' w' a (grown_trans (World.grownBy_alloc _ _ _) b)
 ·intro x hx; obtain rfl := List.mem_singleton.1 hx; rfl
 ·intro x hx; obtain rfl := List.mem_singleton.1 hx; simp [Value.oneCell']
 ·intro j u hj
  rw [World.cell?_alloc_at _ _ _ _ rfl]
  simpa using hj
 ·intro x hx; obtain rfl := List.mem_singleton.1 hx; exact sTok.below hR hb
 ·intro x hx; obtain rfl := List.mem_singleton.1 hx; exact hlo
 ·intro x hx b' hb'
  obtain rfl := List.mem_singleton.1 hx
  obtain ⟨cur, t, fr, h1, h2⟩ := hty b' hb'
  exact ⟨cur, t, fr, (hb.block b' (Array.getElem?_eq_some_iff.1 h1).1).trans h1, h2⟩

theorem okApp {L : List (Elem Tok)} {x : Elem Tok} (h : ∀ x ∈ L, okTok x.d) (hx : okTok x.d) : ∀ y ∈ L ++ [x], okTok y.d := fun y hy => by
 rcases List.mem_append.1 hy with hy | hy
 ·exact h y hy
 ·obtain rfl := List.mem_singleton.1 hy; exact hx
theorem okApp2 {L : List (Elem Tok)} {x x' : Elem Tok} (h : ∀ x ∈ L, okTok x.d) (hx : okTok x.d) (hx' : okTok x'.d) : ∀ y ∈ L ++ [x, x'], okTok y.d := fun y hy => by
 rcases List.mem_append.1 hy with hy | hy
 ·exact h y hy
 ·simp only [List.mem_cons, List.not_mem_nil, or_false] at hy
  rcases hy with rfl | rfl
  ·exact hx
  ·exact hx'
theorem grownRd {rb p B : Nat} {w w' : World} {ob : Option Nat} (h : Rd w rb p) (hg : w.grownBy w' ob) (hr : rb < B) (ho : ∀ b, ob = some b → B ≤ b) : Rd w' rb p := by
 obtain ⟨⟨a, l, cap, fp, h2, h3, h4, h5⟩, h6⟩ := h
 have hlt := (Array.getElem?_eq_some_iff.1 h2).1
 have hblk : ∀ b, b ≤ rb → w'.heap[b]? = w.heap[b]? := fun b hb => hg.block b (by omega) (by intro he; have := ho b he.symm; omega)
 exact ⟨⟨a, l, cap, fp, (hblk rb (Nat.le_refl _)).trans h2, (sSlice sByte).frame (fun b hb => hblk b (Nat.le_of_lt (h4 b hb))) h3, h4, h5⟩, h6⟩
theorem grownKept {rb : Nat} {w0 w w' : World} {ob : Option Nat} (h : Kept [rb] w0 w) (hg : w.grownBy w' ob) (ho : ∀ b, ob = some b → w0.heap.size ≤ b) : Kept [rb] w0 w' :=
 ⟨hg.os.trans h.os, hg.tape.trans h.tape, hg.output.trans h.output, Nat.le_trans h.size hg.size, fun k hk hn => (hg.block k (Nat.lt_of_lt_of_le hk h.size) (by intro he; have := ho k he.symm; omega)).trans (h.block k hk hn)⟩
theorem rdSet {rb g p : Nat} {w : World} (h : Rd w rb p) (hr : rb < g) (o : Nat) (u : Value) : Rd (w.setCell ⟨g, o, none⟩ u) rb p :=
 h.kept ((Kept.refl [g] w).setCell (p := ⟨g, o, none⟩) (by simp) u) (fun b hb => by have e : b = g := (by simpa using hb); omega)
theorem keptSet {rb g : Nat} {w w' : World} (hk : Kept [rb] w w') (hg : w.heap.size ≤ g) (u : Value) (o : Nat) : Kept [rb] w (w'.setCell ⟨g, o, none⟩ u) :=
 ⟨hk.os, hk.tape, hk.output, by simp [World.setCell]; exact hk.size, fun k h1 h2 => (Below.heap_setCell _ _ _ _ (by show k ≠ g; omega)).trans (hk.block k h1 h2)⟩
def DrawnToks (rb p n : Nat) (least : Nat) (w : World) (e : Ending) (w' : World) : Prop :=
 ∃ (v : Value) (L : List (Elem Tok)) (q : Nat), e = .returned v ∧ RowE sTok w.heap.size 47 v L w' ∧ (∀ x ∈ L, okTok x.d) ∧ least ≤ L.length ∧ L.length ≤ 61 ∧ q ≤ p + n ∧ Rd w' rb q ∧ Kept [rb] w w'

def OddT (rb p : Nat) (n : Int) (w : World) (e : Ending) (w' : World) : Prop := ∃ b : Bool, ∃ q : Nat, e = .returned (.bool b) ∧ Hid (n = 1 → b = true) ∧ p ≤ q ∧ q ≤ p + 1 ∧ Rd w' rb q ∧ Kept [rb] w w'
set_option maxHeartbeats 1000000 in
theorem oddT (rb p : Nat) (n : Int) (w : World) (H : Rd w rb p) (hp : p < 1000000) (hn : n ≤ 1000000) (hn0 : 0 ≤ n) :
  Calls Tryd.prog 33 #[.pointer (some ⟨rb, 0, none⟩), .int .i64 n] w (OddT rb p n w) := by
 by_cases h0 : 0 < n
 ·go_enter Tryd.func33, Tryd.ntmps33
  go_wp2_with (go_at_call 29; refine (pick _ _ _ _ H hp hn (by omega)).mono ?_; rintro e w' ⟨r, rfl, hr0, hr1, hr2, hr3⟩)
  go_ret
  exact ⟨_, p + 1, rfl, (fun h => by simp; omega), by omega, by omega, hr2, hr3⟩
 ·have e0 : n = 0 := by omega
  subst e0
  go_enter Tryd.func33, Tryd.ntmps33
  go_wp2
  go_ret
  exact ⟨_, p, rfl, (fun h => absurd h (by decide)), by omega, by omega, H, Kept.refl _ _⟩

set_option maxHeartbeats 8000000 in
set_option maxRecDepth 100000 in
theorem l20Tokens (rb p : Nat) (n : Int) (w : World) (H : Rd w rb p) (hp : p ≤ 100000) (hn : n ≤ 100) (hn0 : 0 ≤ n) (least : Nat) (hl : least ≤ 1) (hl1 : 0 < least → n = 1) :
  Calls Tryd.prog 74 #[.pointer (some ⟨rb, 0, none⟩), .int .i64 n] w (DrawnToks rb p 300 least w) := by
 have hrb := H.lt
 go_enter Tryd.func74, Tryd.ntmps74
 go_wp2_with fail
 refine (l20Line rb p _ _ H hp (by omega) (by omega)).mono ?_
 rintro e w1 ⟨s, q1, rfl, hs, hq1, hR1, hK1⟩
 go_wp2_with fail
 refine (spec_TokensOf_row s _ (by unfold maxLen; omega)).mono ?_
 rintro e w2 ⟨v, rfl, hrow, hfr, hB2⟩
 have hcnt := (tokRes_all s).1
 obtain ⟨hE0, hok0⟩ := toks_rowE hrow hfr hs
 have hR2 := hR1.grow hB2
 have hK2 := hK1.trans (Kept.of_below (fp := [rb]) hB2)
 replace hE0 := hE0.lower hK1.size
 have HN : Hid (((tokRes s).1.map elemTok).length ≤ 60) := by show _ ≤ _; rw [List.length_map]; exact hcnt
 generalize (tokRes s).1.map elemTok = L0 at hE0 hok0 HN
 generalize (tokRes s).2 = b0 at *
 clear hrow hfr hcnt hB2 hR1 hK1
 obtain ⟨a, cap, rfl, hc, hm, hpos⟩ := hE0.val
 unfold maxLen at hm
 have hlen := HN.out
 go_wp2
 go_loopw [7] (fun i wr => ∃ (k q : Nat) (L : List (Elem Tok)), k ≤ L0.length ∧ i = .int .i64 k ∧ q ≤ q1 + 2 * k ∧ Hid (L.length = L0.length) ∧ RowE sTok w.heap.size 47 (.slice a L0.length cap) L wr ∧ (∀ x ∈ L, okTok x.d) ∧ Rd wr rb q ∧ Kept [rb] w wr) (fun i _ => L0.length - (intOf i).toNat)
 case atStart => exact ⟨0, q1, L0, by omega, rfl, by omega, rfl, hE0, hok0, hR2, hK2⟩
 case round =>
  obtain ⟨k, q, L, hk, rfl, hq, HL, hE, hok, hR, hK⟩ := hrel
  clear hE0 hok0 hR2 hK2
  by_cases hlt : k < L0.length
  ·obtain ⟨g, rfl, hg1, hg2⟩ := hpos (by omega)
   go_wp2_with fail
   refine (pick rb q _ _ hR (by omega) (by omega) (by omega)).mono ?_
   rintro e w3 ⟨r, rfl, h0, h1, hR3, hK3⟩
   have hE3 := hE.keptR hK3 hrb
   have hK3' := hK.trans hK3
   by_cases hr : r = 0
   ·have hr' : (r == 0) = true := by simp [hr]
    clear hr
    go_wp2_with fail
    refine (pick rb (q + 1) _ _ (hR3.grow (hidW_below w3)) (by omega) (by omega) (by omega)).mono ?_
    rintro e w4 ⟨r2, rfl, h20, h21, hR4, hK4⟩
    obtain ⟨hb, hn', l, hcl, hRl, hll, hlb, hty⟩ := hid_lits hR3.lt hK4 h20 (by omega)
    have hE4 := (hE3.below (hidW_below w3)).keptR hK4 hrb
    have hK4' := (hK3'.trans (Kept.of_below (fp := [rb]) (hidW_below w3))).trans hK4
    have hkL : k < L.length := by rw [HL.out]; exact hlt
    have hkm := List.getElem_mem hkL
    obtain ⟨hh, hcs, hi, hst, _⟩ := hE4.el _ hkm
    have HCS := Lib.hid hcs
    have c3 : w4.cell? ⟨g, k * 4 + 3, none⟩ = some hh := hE4.cellAt hkL (j := 3) (by decide) (by rw [hcs]; rfl)
    have f3 : w4.frozen? ⟨g, k * 4 + 3, none⟩ = false := hE4.frozen _
    have HOK := Lib.hid (hok _ hkm)
    have HI := Lib.hid (And.intro hi hst)
    obtain ⟨cur, fr, hcur⟩ := hty
    have HS : Hid (RowE sTok w.heap.size 47 (.slice (some ⟨g, 0, none⟩) L0.length cap) (L.set k ⟨[.int .i64 L[k].d.kind, .string L[k].d.text, .bool L[k].d.spaced, .slice (some ⟨hb, 0, none⟩) hn' hn'], ⟨L[k].d.kind, L[k].d.text, L[k].d.spaced, l⟩, [hb]⟩) (w4.setCell ⟨g, k * 4 + 3, none⟩ (.slice (some ⟨hb, 0, none⟩) hn' hn'))) := by
     refine hE4.set hkL (j := 3) (by decide) _ _ (by rw [HCS.out]; rfl) ⟨_, rfl, HI.out.1, HI.out.2, hRl⟩ (fun b hb' => ?_) (fun b hb' => ?_)
     ·have e : b = hb := by simpa using hb'
      subst e
      have := hK3'.size; omega
     ·have e : b = hb := by simpa using hb'
      subst e
      exact ⟨cur, _, fr, hcur, by decide⟩
    have HOKs : Hid (∀ x ∈ L.set k ⟨[.int .i64 L[k].d.kind, .string L[k].d.text, .bool L[k].d.spaced, .slice (some ⟨hb, 0, none⟩) hn' hn'], ⟨L[k].d.kind, L[k].d.text, L[k].d.spaced, l⟩, [hb]⟩, okTok x.d) := by
     intro x hx
     rcases List.mem_or_eq_of_mem_set hx with h | h
     ·exact hok x h
     ·subst h; exact ⟨HOK.out.1, HOK.out.2.1, HOK.out.2.2.1, hll⟩
    have HLs : Hid ((L.set k ⟨[.int .i64 L[k].d.kind, .string L[k].d.text, .bool L[k].d.spaced, .slice (some ⟨hb, 0, none⟩) hn' hn'], ⟨L[k].d.kind, L[k].d.text, L[k].d.spaced, l⟩, [hb]⟩).length = L0.length) := by show _ = _; rw [List.length_set]; exact HL.out
    have hR5 : Hid (Rd (w4.setCell ⟨g, k * 4 + 3, none⟩ (.slice (some ⟨hb, 0, none⟩) hn' hn')) rb (q + 1 + 1)) := hR4.kept ((Kept.refl [g] w4).setCell (p := ⟨g, k * 4 + 3, none⟩) (by simp) _) (fun b hb' => by have e : b = g := (by simpa using hb'); omega)
    have hK5 : Hid (Kept [rb] w (w4.setCell ⟨g, k * 4 + 3, none⟩ (.slice (some ⟨hb, 0, none⟩) hn' hn'))) := keptSet hK4' hg1 _ _
    clear hcs hok hE hE3 hE4 hi hst HCS HI hcur hR3 hK hK3 hK3' hK4 hR hRl hkm hR4 hK4'
    go_wp2
    go_roundw
    case rel => exact ⟨k + 1, q + 1 + 1, _, by omega, by go_num, by omega, HLs.out, HS.out, HOKs.out, hR5.out, hK5.out⟩
    case measure => simp [intOf]; omega
   ·have hr' : (r == 0) = false := by simp [hr]
    clear hr
    go_wp2
    go_roundw
    case rel => exact ⟨k + 1, q + 1, L, by omega, by go_num, by omega, HL, hE3, hok, hR3, hK3'⟩
    case measure => simp [intOf]; omega
  ·go_wp2_with fail
   refine (oddT rb q _ _ hR (by omega) (by omega) (by omega)).mono ?_
   rintro e w3 ⟨b, q2, rfl, hb1, hq1', hq2, hR3, hK3⟩
   have hE3 := hE.keptR hK3 hrb
   have hK3' := hK.trans hK3
   have HL1 := HL.out
   clear hE hK hR
   cases b
   ·have HZ : Hid (least = 0) := by
     show _ = _
     by_cases h : 0 < least
     ·exact absurd (hb1.out (hl1 h)) (by decide)
     ·omega
    go_wp2
    go_ret
    exact ⟨_, L, q2, rfl, hE3, hok, by rw [HZ.out]; omega, by omega, by omega, hR3, hK3'⟩
   ·go_wp2_with fail
    refine (pick rb q2 _ _ (hR3.grow (badW_below w3)) (by omega) (by omega) (by omega)).mono ?_
    rintro e w4 ⟨r2, rfl, h20, h21, hR4, hK4⟩
    obtain ⟨tk, ts, ao, tm, tl, tf, d0, d1, d2, d3, dR, dok, dlo, dty⟩ := bad_pick hR3.lt hK4 h20 (by omega)
    have hE4 := (hE3.below (badW_below w3)).keptR hK4 hrb
    have hK4' := (hK3'.trans (Kept.of_below (fp := [rb]) (badW_below w3))).trans hK4
    have hw4 : w3.heap.size ≤ w4.heap.size := Nat.le_trans (badW_below w3).size hK4.size
    have hw0 := hK4'.size
    have HT := Lib.hid (And.intro dR (And.intro (fun b hb => Nat.le_trans (Nat.le_trans hK3'.size (Nat.le_refl _)) (dlo b hb)) dty))
    have HR4 := Lib.hid hR4
    have HE4 := Lib.hid hE4
    have HOK := Lib.hid hok
    have HDK := Lib.hid dok
    have HK4' := Lib.hid hK4'
    clear hE3 hK3 hK3' hK4 hR3 dR dlo dty hE4 hR4 hok dok hK4' HL HN
    go_wp2_with (at_builtin; refine wp_append_tokE rfl (.tmp 51) (.tmp 59) rfl w.heap.size (.slice a L0.length cap) L rfl HE4.out tk ts false ao tm tm tl tf rfl HT.out.1 HT.out.2.1 HT.out.2.2 (by omega) hw0 ?_; intro v5 w5 hE5 hg5)
    go_ret
    exact ⟨v5, _, q2 + 1, rfl, hE5, okApp HOK.out HDK.out, by rw [List.length_append]; simp; omega, by rw [List.length_append]; simp; omega, by omega, grownRd HR4.out hg5 hrb HE4.out.mine, grownKept HK4'.out hg5 HE4.out.mine⟩

theorem wp_append_tok2 {w : World} {ops : Array Oper} {rest : List Oper} {o : Oper} {a : Act} {Q : Exit → Act → World → Prop} (hg : o.guard = none) (s y : Operand)
  (ho : o.op = .call { callee := .builtin .append, args := #[s, y], argTypes := #[28, 28] })
  (base : Nat) (v : Value) (L : List (Elem Tok)) (hs : a.eval s = v) (hown : RowE sTok base 47 v L w) (k1 : Int) (x1 : ByteArray) (k2 : Int) (x2 : ByteArray)
  (hy : a.eval y = .slice (some ⟨w.heap.size, 0, none⟩) 2 2) (h1 : okTok ⟨k1, x1, false, []⟩) (h2 : okTok ⟨k2, x2, false, []⟩) (h63 : L.length ≤ 2000000) (hbase : base ≤ w.heap.size)
  (h : ∀ v' w', RowE sTok base 47 v' (L ++ [tokE k1 x1 none 0 [] [], tokE k2 x2 none 0 [] []]) w' → w.grownBy w' v.ownBlock → wpList Tryd.prog ops Q rest (a.put o.dst v') w') :
  wpList Tryd.prog ops Q (o :: rest) a (w.alloc (.cells #[.int .i64 k1, .string x1, .bool false, .slice none 0 0, .int .i64 k2, .string x2, .bool false, .slice none 0 0] 47)) := by
 have hb := alloc_below' w (.cells #[.int .i64 k1, .string x1, .bool false, .slice none 0 0, .int .i64 k2, .string x2, .bool false, .slice none 0 0] 47)
 have hX : ∀ {P : Elem Tok → Prop}, P (tokE k1 x1 none 0 [] []) → P (tokE k2 x2 none 0 [] []) → ∀ x ∈ [tokE k1 x1 none 0 [] [], tokE k2 x2 none 0 [] []], P x := fun a b x hx => by
  simp only [List.mem_cons, List.not_mem_nil, or_false] at hx
  rcases hx with rfl | rfl
  ·exact a
  ·exact b
 have R : ∀ (k : Int) (x : ByteArray) (W : World), okTok ⟨k, x, false, []⟩ → sTok.R W (tokE k x none 0 [] []).cells (tokE k x none 0 [] []).d [] := fun k x W h => by
  obtain ⟨a1, a2, a3, a4⟩ := h
  have b1 : okInt k := ⟨by have : 0 ≤ k := a2; omega, by have : k ≤ 4 := a3; omega⟩
  have b2 : okStr x := by unfold okStr maxLen; have : x.size ≤ 1000 := a1; omega
  exact ⟨_, rfl, b1, b2, slice_empty sStr W none 0 (by simp)⟩
 refine wp_append_rowE (S := sTok) ti_tok rfl (by decide) _ (X := [tokE k1 x1 none 0 [] [], tokE k2 x2 none 0 [] []]) hg s y ho base v hs (hown.below hb) w.heap.size 2 2 hy rfl (hX rfl rfl) (hX (by simp [tokE, Value.oneCell']) (by simp [tokE, Value.oneCell'])) ?_ (hX (R _ _ _ h1) (R _ _ _ h2)) (hX (by simp [tokE]) (by simp [tokE])) (hX (by simp [tokE]) (by simp [tokE])) (by unfold maxLen; omega) (by omega) (by simp; omega) fun v' w' a b => h v' w' a (grown_trans (World.grownBy_alloc _ _ _) b)
 intro j u hj
 rw [World.cell?_alloc_at _ _ _ _ rfl]
 simpa [tokE] using hj

theorem okA : okTok ⟨1, ⟨#[97]⟩, false, []⟩ := ⟨by decide, by decide, by decide, by decide⟩
theorem ok12 : okTok ⟨2, ⟨#[49, 50]⟩, false, []⟩ := ⟨by decide, by decide, by decide, by decide⟩
def DrawnTok (rb p n : Nat) (w : World) (e : Ending) (w' : World) : Prop :=
 ∃ (k : Int) (s : ByteArray) (sp : Bool) (ao : Option Addr) (m c : Nat) (l : List ByteArray) (fp : List Nat) (q : Nat), e = .returned (.agg #[.int .i64 k, .string s, .bool sp, .slice ao m c]) ∧
  sTok.R w' [.int .i64 k, .string s, .bool sp, .slice ao m c] ⟨k, s, sp, l⟩ fp ∧ okTok ⟨k, s, sp, l⟩ ∧ (∀ b ∈ fp, w.heap.size ≤ b) ∧ (∀ b ∈ fp, ∃ cur t fr, w'.heap[b]? = some (.cells cur t fr) ∧ t ≠ 47) ∧ q ≤ p + n ∧ Rd w' rb q ∧ Kept [rb] w w'
theorem RowE.tokAt {base e g n cap : Nat} {L : List (Elem Tok)} {w : World} (h : RowE sTok base e (.slice (some ⟨g, 0, none⟩) n cap) L w) {i : Nat} (hi : i < L.length) :
  ∃ ao m c, w.cell? ⟨g, i * 4, none⟩ = some (.int .i64 L[i].d.kind) ∧ w.cell? ⟨g, i * 4 + 1, none⟩ = some (.string L[i].d.text) ∧ w.cell? ⟨g, i * 4 + 2, none⟩ = some (.bool L[i].d.spaced) ∧ w.cell? ⟨g, i * 4 + 3, none⟩ = some (.slice ao m c) ∧
   sTok.R w [.int .i64 L[i].d.kind, .string L[i].d.text, .bool L[i].d.spaced, .slice ao m c] L[i].d L[i].fp := by
 have hR := h.el _ (List.getElem_mem hi)
 have hR' := hR
 obtain ⟨hh, hcs, _, _, hK⟩ := hR
 obtain ⟨ao, c, rfl, -⟩ := open_rows hK
 have hc := fun j (hj : j < 4) u (hu : L[i].cells[j]? = some u) => h.cellAt hi hj hu
 rw [hcs] at hR'
 exact ⟨ao, _, c, hc 0 (by omega) _ (by rw [hcs]; rfl), hc 1 (by omega) _ (by rw [hcs]; rfl), hc 2 (by omega) _ (by rw [hcs]; rfl), hc 3 (by omega) _ (by rw [hcs]; rfl), hR'⟩
theorem blkKept {rb g : Nat} {w w' : World} {o : Obj} (h : w.heap[g]? = some o) (hk : Kept [rb] w w') (hn : g ≠ rb) : w'.heap[g]? = some o :=
 (hk.block g (Array.getElem?_eq_some_iff.1 h).1 (by simpa using hn)).trans h

theorem ty_sets {w : World} {g : Nat} {fp : List Nat} {e : TypeId} (h : ∀ b ∈ fp, ∃ cur t fr, w.heap[b]? = some (.cells cur t fr) ∧ t ≠ e) (hn : g ∉ fp) (v0 v1 v2 v3 : Value) :
  ∀ b ∈ fp, ∃ cur t fr, ((((w.setCell ⟨g, 0, none⟩ v0).setCell ⟨g, 1, none⟩ v1).setCell ⟨g, 2, none⟩ v2).setCell ⟨g, 3, none⟩ v3).heap[b]? = some (.cells cur t fr) ∧ t ≠ e := fun b hb => by
 obtain ⟨cur, t, fr, h1, h2⟩ := h b hb
 have hne : b ≠ g := fun e => hn (e ▸ hb)
 exact ⟨cur, t, fr, blk_other (blk_other (blk_other (blk_other h1 hne 0 v0) hne 1 v1) hne 2 v2) hne 3 v3, h2⟩

set_option maxHeartbeats 8000000 in
set_option maxRecDepth 100000 in
theorem l20Token (rb p : Nat) (n : Int) (w : World) (H : Rd w rb p) (hp : p ≤ 50000) (hn : n ≤ 100) (hn0 : 0 ≤ n) :
  Calls Tryd.prog 52 #[.pointer (some ⟨rb, 0, none⟩), .int .i64 n] w (DrawnTok rb p 700 w) := by
 have hrb := H.lt
 have hB0 := alloc_below' w (.cells #[.int .i64 0, .string ⟨#[]⟩, .bool false, .slice none 0 0] 47)
 have HX := Lib.hid (show (w.alloc (.cells #[.int .i64 0, .string ⟨#[]⟩, .bool false, .slice none 0 0] 47)).heap[w.heap.size]? = some (.cells #[.int .i64 0, .string ⟨#[]⟩, .bool false, .slice none 0 0] 47 (0, 0)) from by show (w.heap.push _)[_]? = _; simp)
 have hs0 : (w.alloc (.cells #[.int .i64 0, .string ⟨#[]⟩, .bool false, .slice none 0 0] 47)).heap.size = w.heap.size + 1 := Array.size_push _
 have HS := Lib.hid hs0
 clear hs0
 have hK0 : Kept [rb] w (w.alloc (.cells #[.int .i64 0, .string ⟨#[]⟩, .bool false, .slice none 0 0] 47)) := Kept.of_below hB0
 go_enter Tryd.func52, Tryd.ntmps52
 go_wp2_with fail
 refine (l20Tokens rb p _ _ (H.grow hB0) (by omega) (by omega) (by omega) 0 (by omega) (by omega)).mono ?_
 rintro e w1 ⟨v1, L, q1, rfl, hE1, hok1, -, hl1, hq1, hR1, hK1⟩
 rw [HS.out] at hE1
 have HX1 := Lib.hid (blkKept HX.out hK1 (by omega))
 have hK1' := hK0.trans hK1
 have hw1 : w.heap.size + 1 ≤ w1.heap.size := by have := hK1.size; rw [HS.out] at this; exact this
 go_wp2_with (at_builtin; refine wp_append_tok2 rfl (.tmp 7) (.tmp 10) rfl (w.heap.size + 1) v1 L rfl hE1 1 ⟨#[97]⟩ 2 ⟨#[49, 50]⟩ rfl okA ok12 (by omega) hw1 ?_; intro v2 w2 hE2 hg2)
 have hL2 : (L ++ [tokE 1 ⟨#[97]⟩ none 0 [] [], tokE 2 ⟨#[49, 50]⟩ none 0 [] []]).length = L.length + 2 := by simp
 have HOK := Lib.hid (okApp2 hok1 (x := tokE 1 ⟨#[97]⟩ none 0 [] []) (x' := tokE 2 ⟨#[49, 50]⟩ none 0 [] []) okA ok12)
 have HR2 := grownRd hR1 hg2 (by omega : rb < w.heap.size + 1) hE1.mine
 have HX2 := Lib.hid ((hg2.block _ (Array.getElem?_eq_some_iff.1 HX1.out).1 (fun h => by have := hE1.mine _ h.symm; omega)).trans HX1.out)
 have HK2 := grownKept hK1' hg2 (fun b hb => by have := hE1.mine b hb; omega)
 generalize (L ++ [tokE 1 ⟨#[97]⟩ none 0 [] [], tokE 2 ⟨#[49, 50]⟩ none 0 [] []]) = L2 at *
 clear hE1 hok1 hg2 HX1 hR1 hK1 hK1' HX hK0 hB0 H
 have HE2 := Lib.hid hE2
 have HK2' := Lib.hid HK2
 have hw2 := HK2.size
 go_wp2_with fail
 refine (odd rb q1 _ _ HR2 (by omega) (by omega) (by omega)).mono ?_
 rintro e w3 ⟨b, q2, rfl, hq2, hq3, hR3, hK3⟩
 have HE3 := Lib.hid (HE2.out.keptR hK3 (by omega))
 have HX3 := Lib.hid (blkKept HX2.out hK3 (by omega))
 have HK3 := Lib.hid (HK2'.out.trans hK3)
 have hw3s : w.heap.size + 1 ≤ w3.heap.size := (Array.getElem?_eq_some_iff.1 HX3.out).1
 clear hE2 HE2 HX2 HK2 HK2' hK3 HR2
 cases b
 ·obtain ⟨a, cap, rfl, hc, hm, hpos⟩ := HE3.out.val
  unfold maxLen at hm
  obtain ⟨g, rfl, hg1, hg2⟩ := hpos (by omega)
  clear hpos
  go_wp2_with fail
  refine (pick rb q2 _ _ hR3 (by omega) (by omega) (by omega)).mono ?_
  rintro e w4 ⟨r, rfl, h0, h1, hR4, hK4⟩
  have HE4 := Lib.hid (HE3.out.keptR hK4 (by omega))
  have HX4 := Lib.hid (blkKept HX3.out hK4 (by omega))
  have HK4 := Lib.hid (HK3.out.trans hK4)
  have HR4 := Lib.hid hR4
  have hi : r.toNat < L2.length := by omega
  clear HE3 HX3 HK3 hK4 hR3 hR4
  obtain ⟨ao, tm, tc, d0, d1, d2, d3, dR⟩ := HE4.out.tokAt hi
  have dn : w.heap.size ∉ L2[r.toNat].fp := fun hx => by have := HE4.out.lo _ (List.getElem_mem hi) _ hx; omega
  have dlo := Lib.hid (show ∀ b ∈ L2[r.toNat].fp, w.heap.size ≤ b from fun b hx => by have := HE4.out.lo _ (List.getElem_mem hi) _ hx; omega)
  have qc0 : w4.cell? ⟨w.heap.size, 0, none⟩ = some (.int .i64 0) := cell_of_row _ _ 0 _ _ _ HX4.out
  have qc1 : w4.cell? ⟨w.heap.size, 1, none⟩ = some (.string ⟨#[]⟩) := cell_of_row _ _ 1 _ _ _ HX4.out
  have qc2 : w4.cell? ⟨w.heap.size, 2, none⟩ = some (.bool false) := cell_of_row _ _ 2 _ _ _ HX4.out
  have qc3 : w4.cell? ⟨w.heap.size, 3, none⟩ = some (.slice none 0 0) := cell_of_row _ _ 3 _ _ _ HX4.out
  have f0 : w4.frozen? ⟨w.heap.size, 0, none⟩ = false := frozen_of_row _ _ 0 _ _ HX4.out
  have f1 : w4.frozen? ⟨w.heap.size, 1, none⟩ = false := frozen_of_row _ _ 1 _ _ HX4.out
  have f2 : w4.frozen? ⟨w.heap.size, 2, none⟩ = false := frozen_of_row _ _ 2 _ _ HX4.out
  have f3 : w4.frozen? ⟨w.heap.size, 3, none⟩ = false := frozen_of_row _ _ 3 _ _ HX4.out
  have HOK1 := Lib.hid (HOK.out _ (List.getElem_mem hi))
  have dty := HE4.out.ty _ (List.getElem_mem hi)
  generalize L2[r.toNat].fp = tf at dR dn dlo dty
  have HTY := Lib.hid (ty_sets dty dn (.int .i64 L2[r.toNat].d.kind) (.string L2[r.toNat].d.text) (.bool L2[r.toNat].d.spaced) (.slice ao tm tc))
  clear dty
  have HBK := Lib.hid (blk_set (blk_set (blk_set (blk_set HX4.out 0 (.int .i64 L2[r.toNat].d.kind)) 1 (.string L2[r.toNat].d.text)) 2 (.bool L2[r.toNat].d.spaced)) 3 (.slice ao tm tc))
  have HDR := Lib.hid (sTok.setB (sTok.setB (sTok.setB (sTok.setB dR dn 0 (.int .i64 L2[r.toNat].d.kind)) dn 1 (.string L2[r.toNat].d.text)) dn 2 (.bool L2[r.toNat].d.spaced)) dn 3 (.slice ao tm tc))
  have HRF := Lib.hid (rdSet (rdSet (rdSet (rdSet HR4.out hrb 0 (.int .i64 L2[r.toNat].d.kind)) hrb 1 (.string L2[r.toNat].d.text)) hrb 2 (.bool L2[r.toNat].d.spaced)) hrb 3 (.slice ao tm tc))
  have HKF := Lib.hid (keptSet (keptSet (keptSet (keptSet HK4.out (Nat.le_refl _) (.int .i64 L2[r.toNat].d.kind) 0) (Nat.le_refl _) (.string L2[r.toNat].d.text) 1) (Nat.le_refl _) (.bool L2[r.toNat].d.spaced) 2) (Nat.le_refl _) (.slice ao tm tc) 3)
  clear dR dn
  go_wp2
  refine bodyPost_ret (results_cell_row rfl _ _ w.heap.size _ _ _ _ rfl HBK.out Tryd.underlying47 rfl (by kernel_rfl)) rfl ?_
  exact ⟨_, _, _, ao, tm, tc, _, tf, q2 + 1, rfl, HDR.out, HOK1.out, dlo.out, HTY.out, by omega, HRF.out, HKF.out⟩
 ·go_wp2_with fail
  refine (l20Tokens rb q2 _ _ hR3 (by omega) (by omega) (by omega) 1 (by omega) (by omega)).mono ?_
  rintro e w4 ⟨v4, L4, q4, rfl, hE4, hok4, hl4, hl5, hq4, hR4, hK4⟩
  have hw3 : w.heap.size + 1 ≤ w3.heap.size := hw3s
  have HE4 := Lib.hid (hE4.lower hw3)
  have HX4 := Lib.hid (blkKept HX3.out hK4 (by omega))
  have HK4 := Lib.hid (HK3.out.trans hK4)
  have HR4 := Lib.hid hR4
  have HOK4 := Lib.hid hok4
  clear HE3 HX3 HK3 hK4 hR3 hR4 hE4 hok4
  obtain ⟨a, cap, rfl, hc, hm, hpos⟩ := HE4.out.val
  unfold maxLen at hm
  obtain ⟨g, rfl, hg1, hg2⟩ := hpos (by omega)
  clear hpos
  have hi : L4.length - 1 < L4.length := by omega
  have h6 : ((L4.length : Int) - 1).toNat = L4.length - 1 := by omega
  obtain ⟨ao, tm, tc, d0, d1, d2, d3, dR⟩ := HE4.out.tokAt hi
  have dn : w.heap.size ∉ L4[L4.length - 1].fp := fun hx => by have := HE4.out.lo _ (List.getElem_mem hi) _ hx; omega
  have dlo := Lib.hid (show ∀ b ∈ L4[L4.length - 1].fp, w.heap.size ≤ b from fun b hx => by have := HE4.out.lo _ (List.getElem_mem hi) _ hx; omega)
  have qc0 : w4.cell? ⟨w.heap.size, 0, none⟩ = some (.int .i64 0) := cell_of_row _ _ 0 _ _ _ HX4.out
  have qc1 : w4.cell? ⟨w.heap.size, 1, none⟩ = some (.string ⟨#[]⟩) := cell_of_row _ _ 1 _ _ _ HX4.out
  have qc2 : w4.cell? ⟨w.heap.size, 2, none⟩ = some (.bool false) := cell_of_row _ _ 2 _ _ _ HX4.out
  have qc3 : w4.cell? ⟨w.heap.size, 3, none⟩ = some (.slice none 0 0) := cell_of_row _ _ 3 _ _ _ HX4.out
  have f0 : w4.frozen? ⟨w.heap.size, 0, none⟩ = false := frozen_of_row _ _ 0 _ _ HX4.out
  have f1 : w4.frozen? ⟨w.heap.size, 1, none⟩ = false := frozen_of_row _ _ 1 _ _ HX4.out
  have f2 : w4.frozen? ⟨w.heap.size, 2, none⟩ = false := frozen_of_row _ _ 2 _ _ HX4.out
  have f3 : w4.frozen? ⟨w.heap.size, 3, none⟩ = false := frozen_of_row _ _ 3 _ _ HX4.out
  have HOK1 := Lib.hid (HOK4.out _ (List.getElem_mem hi))
  have dty := HE4.out.ty _ (List.getElem_mem hi)
  generalize L4[L4.length - 1].fp = tf at dR dn dlo dty
  have HTY := Lib.hid (ty_sets dty dn (.int .i64 L4[L4.length - 1].d.kind) (.string L4[L4.length - 1].d.text) (.bool L4[L4.length - 1].d.spaced) (.slice ao tm tc))
  clear dty
  have HBK := Lib.hid (blk_set (blk_set (blk_set (blk_set HX4.out 0 (.int .i64 L4[L4.length - 1].d.kind)) 1 (.string L4[L4.length - 1].d.text)) 2 (.bool L4[L4.length - 1].d.spaced)) 3 (.slice ao tm tc))
  have HDR := Lib.hid (sTok.setB (sTok.setB (sTok.setB (sTok.setB dR dn 0 (.int .i64 L4[L4.length - 1].d.kind)) dn 1 (.string L4[L4.length - 1].d.text)) dn 2 (.bool L4[L4.length - 1].d.spaced)) dn 3 (.slice ao tm tc))
  have HRF := Lib.hid (rdSet (rdSet (rdSet (rdSet HR4.out hrb 0 (.int .i64 L4[L4.length - 1].d.kind)) hrb 1 (.string L4[L4.length - 1].d.text)) hrb 2 (.bool L4[L4.length - 1].d.spaced)) hrb 3 (.slice ao tm tc))
  have HKF := Lib.hid (keptSet (keptSet (keptSet (keptSet HK4.out (Nat.le_refl _) (.int .i64 L4[L4.length - 1].d.kind) 0) (Nat.le_refl _) (.string L4[L4.length - 1].d.text) 1) (Nat.le_refl _) (.bool L4[L4.length - 1].d.spaced) 2) (Nat.le_refl _) (.slice ao tm tc) 3)
  clear dR dn
  go_wp2
  refine bodyPost_ret (results_cell_row rfl _ _ w.heap.size _ _ _ _ rfl HBK.out Tryd.underlying47 rfl (by kernel_rfl)) rfl ?_
  exact ⟨_, _, _, ao, tm, tc, _, tf, q4, rfl, HDR.out, HOK1.out, dlo.out, HTY.out, by omega, HRF.out, HKF.out⟩

end Go.Proofs.YtlegeancmcmbaaaDoor

/- A row of structs that a call makes and fills, element by element. Over any program. -/
namespace Go.Proofs.YtlegeancmcmbaaaDoor
open Go.RowKit

theorem alloc2_blk (w : World) (c0 c1 : Array Value) (t0 t1 : TypeId) :
  ((w.alloc (.cells c0 t0)).alloc (.cells c1 t1)).heap[w.heap.size]? = some (.cells c0 t0 (0, 0)) ∧
  ((w.alloc (.cells c0 t0)).alloc (.cells c1 t1)).heap[w.heap.size + 1]? = some (.cells c1 t1 (0, 0)) := by
 refine ⟨?_, ?_⟩
 ·show ((w.heap.push _).push _)[_]? = _
  rw [Array.getElem?_push, if_neg (by simp), Array.getElem?_push, if_pos rfl]
 ·show ((w.heap.push _).push _)[_]? = _
  rw [Array.getElem?_push, if_pos (by simp)]

def putAll (w : World) (b : Nat) : Nat → List Value → World
 | _, [] => w
 | o, c :: cs => putAll (w.setCell ⟨b, o, none⟩ c) b (o + 1) cs
def setFrom : List Value → Nat → List Value → List Value
 | xs, _, [] => xs
 | xs, o, c :: cs => setFrom (xs.set o c) (o + 1) cs
theorem setFrom_app : ∀ (cs A Z R : List Value), Z.length = cs.length → setFrom (A ++ (Z ++ R)) A.length cs = A ++ (cs ++ R)
 |
  [], A, Z, R, h => by
  have : Z = [] := by simpa using h
  subst this; simp [setFrom]
 | c :: cs, A, [], R, h => by simp at h
 |
  c :: cs, A, z :: Z, R, h => by
  unfold setFrom
  have e : (A ++ (z :: Z ++ R)).set A.length c = (A ++ [c]) ++ (Z ++ R) := by simp
  rw [e]
  have e2 : A.length + 1 = (A ++ [c]).length := by simp
  rw [e2, setFrom_app cs (A ++ [c]) Z R (by simpa using h)]
  simp
theorem putAll_row {base e size n cap g : Nat} : ∀ (cs : List Value) (w : World) (xs : List Value) (o : Nat), w.ownsRow base e size (.slice (some ⟨g, 0, none⟩) n cap) n xs →
  (putAll w g o cs).ownsRow base e size (.slice (some ⟨g, 0, none⟩) n cap) n (setFrom xs o cs)
 | [], _, _, _, h => h
 | c :: cs, w, xs, o, h => putAll_row cs _ _ (o + 1) (h.stored o c).1
theorem putAll_kept {g : Nat} : ∀ (cs : List Value) (w : World) (o : Nat), Kept [g] w (putAll w g o cs)
 | [], w, _ => Kept.refl _ w
 | c :: cs, w, o => ((Kept.refl [g] w).setCell (p := ⟨g, o, none⟩) (by simp) c).trans (putAll_kept cs _ (o + 1))

structure Filling {α : Type} (S : Shape α) (g : Nat) (e : TypeId) (l : List α) (k : Nat) (w : World) (L : List (Elem α)) (R : List Value) : Prop where
 row : w.ownsRow g e S.m (.slice (some ⟨g, 0, none⟩) l.length l.length) l.length (L.flatMap (·.cells) ++ R)
 dat : L.map (·.d) = l.take k
 len : ∀ x ∈ L, x.cells.length = S.m
 el : ∀ x ∈ L, S.R w x.cells x.d x.fp
 own : Own w (g + 1) (L.flatMap (·.fp))
section
variable {α : Type} {S : Shape α} {g e : Nat} {l : List α} {k : Nat} {w w' : World} {L : List (Elem α)} {R : List Value}
theorem Filling.count (h : Filling S g e l k w L R) (hk : k ≤ l.length) : L.length = k := by
 have := congrArg List.length h.dat
 simpa [hk] using this
theorem Filling.cells (h : Filling S g e l k w L R) (hk : k ≤ l.length) : (L.flatMap (·.cells)).length = k * S.m := by rw [flatMap_len h.len, h.count hk]
theorem Filling.rest (h : Filling S g e l k w L R) (hk : k ≤ l.length) : R.length = (l.length - k) * S.m := by
 have h1 := h.row.1
 rw [List.length_append, h.cells hk] at h1
 have : (l.length - k) * S.m = l.length * S.m - k * S.m := Nat.sub_mul _ _ _
 omega
theorem Filling.lt (h : Filling S g e l k w L R) : g < w.heap.size := (h.row.lt g rfl).2
theorem Filling.below (h : Filling S g e l k w L R) (hb : Below w.heap.size w w') : Filling S g e l k w' L R where
 row := by
  refine ⟨h.row.1, ?_⟩
  rcases h.row.2 with h0 | ⟨g', cap, cur, h1, h2, h3, h4⟩
  ·exact .inl h0
  ·exact .inr ⟨g', cap, cur, h1, h2, (hb.block g' (Array.getElem?_eq_some_iff.1 h3).1).trans h3, h4⟩
 dat := h.dat
 len := h.len
 el := fun x hx => S.below (h.el x hx) hb
 own := h.own.grow hb
theorem Filling.cell (h : Filling S g e l k w L R) (hk : k < l.length) {j : Nat} (hj : j < S.m) : ∃ u, w.cell? ⟨g, k * S.m + j, none⟩ = some u := by
 have h1 : (k + 1) * S.m ≤ l.length * S.m := Nat.mul_le_mul_right _ hk
 rw [Nat.succ_mul] at h1
 rw [h.row.cellAt (k * S.m + j) (by omega), List.getElem?_append_right (by rw [h.cells (by omega)]; omega), h.cells (by omega)]
 have h2 := h.rest (by omega)
 have h3 : (l.length - k) * S.m = l.length * S.m - k * S.m := Nat.sub_mul _ _ _
 exact ⟨R[k * S.m + j - k * S.m]'(by omega), List.getElem?_eq_getElem _⟩
theorem Filling.frozen (h : Filling S g e l k w L R) (o : Nat) : w.frozen? ⟨g, o, none⟩ = false := h.row.frozenAt o
theorem Filling.next {cs : List Value} {fp : List Nat} {w0 : World} (h0 : Filling S g e l k w0 L R) (hk : k < l.length) (hb : Below w0.heap.size w0 w) (hlen : cs.length = S.m) (hR : S.R w cs l[k] fp) (ho : Own w w0.heap.size fp) :
  ∃ R', Filling S g e l (k + 1) (putAll w g (k * S.m) cs) (L ++ [⟨cs, l[k], fp⟩]) R' := by
 have h := h0.below hb
 have hg0 := h0.lt
 have hap : ∀ x ∈ L, ∀ b ∈ x.fp, b ∈ L.flatMap (·.fp) := fun x hx b hb' => List.mem_flatMap.2 ⟨x, hx, hb'⟩
 have hn : ∀ b ∈ L.flatMap (·.fp), b ∉ [g] := fun b hb' => by have := (h.own.2 b hb').1; simp; omega
 have hn2 : ∀ b ∈ fp, b ∉ [g] := fun b hb' => by have := (ho.2 b hb').1; simp; omega
 have hK := putAll_kept (g := g) cs w (k * S.m)
 have hr := h.rest (by omega)
 have hsp : (l.length - k) * S.m = S.m + (l.length - (k + 1)) * S.m := by rw [show l.length - k = (l.length - (k + 1)) + 1 by omega, Nat.succ_mul]; omega
 refine ⟨R.drop S.m, ⟨?_, ?_, fun x hx => ?_, fun x hx => ?_, ?_⟩⟩
 ·have := putAll_row cs w _ (k * S.m) h.row
  have e1 : L.flatMap (·.cells) ++ R = L.flatMap (·.cells) ++ (R.take S.m ++ R.drop S.m) := by rw [List.take_append_drop]
  rw [e1, ← h.cells (by omega), setFrom_app cs _ (R.take S.m) (R.drop S.m) (by rw [List.length_take, hlen]; omega)] at this
  rw [List.flatMap_append, List.flatMap_cons, List.flatMap_nil, List.append_nil, List.append_assoc, ← h.cells (by omega)]
  exact this
 ·rw [List.map_append, h.dat, List.take_succ_eq_append_getElem hk]; rfl
 ·rcases List.mem_append.1 hx with hx | hx
  ·exact h.len x hx
  ·obtain rfl := List.mem_singleton.1 hx; exact hlen
 ·rcases List.mem_append.1 hx with hx | hx
  ·exact S.kept (h.el x hx) (fun b hb' => hn b (hap x hx b hb')) hK
  ·obtain rfl := List.mem_singleton.1 hx
   exact S.kept hR hn2 hK
 ·rw [List.flatMap_append, List.flatMap_cons, List.flatMap_nil, List.append_nil]
  refine Own.app (h.own.kept hn hK) ((Own.lower ho (by omega)).kept hn2 hK) fun b hb1 hb2 => ?_
  have h1 := (ho.2 b hb2).1
  have h2 := h0.own.lt b hb1
  omega
theorem Filling.done (h : Filling S g e l k w L R) (hk : l.length = k) : ∃ fp, (sSlice S).R w [.slice (some ⟨g, 0, none⟩) l.length l.length] l fp ∧ Own w g fp := by
 have hc := h.count (by omega)
 have hr : R = [] := by
  have := h.rest (by omega)
  rw [hk, Nat.sub_self, Nat.zero_mul] at this
  exact List.length_eq_zero_iff.1 this
 have hd := h.dat
 rw [List.take_of_length_le (by omega)] at hd
 have hrow := h.row
 rw [hr, List.append_nil] at hrow
 have hL : L.length = l.length := by omega
 rw [← hL] at hrow
 obtain ⟨fp, h1, h2, h3⟩ := slice_of_row hrow (fun x hx => ⟨h.len x hx, h.el x hx⟩)
 rw [hd, hL] at h1
 exact ⟨fp, h1, h3 (Own.lower h.own (by omega)) (fun g' hg' hx => by
  simp only [Value.ownBlock, Option.some.injEq] at hg'
  have := (h.own.2 g' hx).1
  omega)⟩
end
end Go.Proofs.YtlegeancmcmbaaaDoor

/- Rows of the call's own: literals, whole elements stored, rows behind rows. Over any program. -/
namespace Go.Proofs.YtlegeancmcmbaaaDoor
open Go.RowKit

section
variable {α : Type} {S : Shape α} {base : Nat} {e : TypeId} {v v' : Value} {L : List (Elem α)} {w w' : World}
theorem RowE.lit (X : List (Elem α)) (hlen : ∀ x ∈ X, x.cells.length = S.m) (hR : ∀ x ∈ X, S.R w x.cells x.d x.fp) (hlo : ∀ x ∈ X, ∀ b ∈ x.fp, base ≤ b) (hty : ∀ x ∈ X, ∀ b ∈ x.fp, ∃ cur t fr, w.heap[b]? = some (.cells cur t fr) ∧ t ≠ e)
  (hb : base ≤ w.heap.size) (hn : X.length ≤ 1000000) : RowE S base e (.slice (some ⟨w.heap.size, 0, none⟩) X.length X.length) X (w.alloc (.cells (X.flatMap (·.cells)).toArray e)) where
 row := World.ownsRow_lit (base := base) (e := e) (size := S.m) w (X.flatMap (·.cells)).toArray X.length hb (by unfold maxLen; omega) (by simpa using flatMap_len hlen)
 len := hlen
 el := fun x hx => S.below (hR x hx) (alloc_below' _ _)
 lo := hlo
 ty := fun x hx b hb' => by
  obtain ⟨cur, t, fr, h1, h2⟩ := hty x hx b hb'
  exact ⟨cur, t, fr, ((alloc_below' w _).block b (Array.getElem?_eq_some_iff.1 h1).1).trans h1, h2⟩
theorem RowE.read (h : RowE S base e v L w) : ∃ fp, (sSlice S).R w [v] (L.map (·.d)) fp ∧ ∀ b ∈ fp, base ≤ b := by
 obtain ⟨fp, h1, h2, _⟩ := slice_of_row h.row fun x hx => ⟨h.len x hx, h.el x hx⟩
 refine ⟨fp, h1, fun b hb => ?_⟩
 rcases h2 b hb with h3 | h3
 ·exact h.mine b h3
 ·obtain ⟨x, hx, hb'⟩ := List.mem_flatMap.1 h3
  exact h.lo x hx b hb'
theorem setFrom_flat : ∀ {L : List (Elem α)} {m : Nat} (_ : ∀ x ∈ L, x.cells.length = m) {k : Nat} (hk : k < L.length) (x' : Elem α) (_ : x'.cells.length = m), setFrom (L.flatMap (·.cells)) (k * m) x'.cells = (L.set k x').flatMap (·.cells) := by
 intro L m hL k hk x' hx'
 have h1 : L = L.take k ++ (L[k] :: L.drop (k + 1)) := by rw [List.getElem_cons_drop, List.take_append_drop]
 have h2 : (L.take k).length = k := by rw [List.length_take]; omega
 have h3 : ((L.take k).flatMap (·.cells)).length = k * m := by rw [flatMap_len (m := m) (fun x hx => hL x (List.mem_of_mem_take hx)), h2]
 have h4 : L.flatMap (·.cells) = (L.take k).flatMap (·.cells) ++ (L[k].cells ++ (L.drop (k + 1)).flatMap (·.cells)) := by
  conv => lhs; rw [h1]
  rw [List.flatMap_append, List.flatMap_cons]
 have h5 : L.set k x' = L.take k ++ (x' :: L.drop (k + 1)) := by rw [List.set_eq_take_append_cons_drop, if_pos hk]
 rw [h4, ← h3, setFrom_app _ _ _ _ (by rw [hL _ (List.getElem_mem hk), hx']), h5, List.flatMap_append, List.flatMap_cons]
theorem RowE.put {g n cap : Nat} (h : RowE S base e (.slice (some ⟨g, 0, none⟩) n cap) L w) {k : Nat} (hk : k < L.length) (x' : Elem α) (hl : x'.cells.length = S.m)
  (hR : S.R w x'.cells x'.d x'.fp) (hlo : ∀ b ∈ x'.fp, base ≤ b) (hty : ∀ b ∈ x'.fp, ∃ cur t fr, w.heap[b]? = some (.cells cur t fr) ∧ t ≠ e) :
  RowE S base e (.slice (some ⟨g, 0, none⟩) n cap) (L.set k x') (putAll w g (k * S.m) x'.cells) := by
 have hne : ∀ b : Nat, (∃ cur t fr, w.heap[b]? = some (.cells cur t fr) ∧ t ≠ e) → b ≠ g := by
  rintro b ⟨cur, t, fr, h1, h2⟩ rfl
  rcases h.row.2 with ⟨h', _⟩ | ⟨g', cap', cur', h', _, hg, _⟩
  ·cases h'
  ·simp only [Value.slice.injEq, Option.some.injEq, Addr.mk.injEq, and_true] at h'
   obtain ⟨rfl, _⟩ := h'
   rw [h1] at hg
   simp only [Option.some.injEq, Obj.cells.injEq] at hg
   exact h2 hg.2.1
 have hK := putAll_kept (g := g) x'.cells w (k * S.m)
 have hblk : ∀ b : Nat, b < w.heap.size → b ≠ g → (putAll w g (k * S.m) x'.cells).heap[b]? = w.heap[b]? := fun b hb hn => hK.block b hb (by simpa using hn)
 have hmem : ∀ x ∈ L.set k x', x = x' ∨ x ∈ L := fun x hx => by
  rcases List.mem_or_eq_of_mem_set hx with h | h
  ·exact .inr h
  ·exact .inl h
 refine ⟨?_, fun x hx' => ?_, fun x hx' => ?_, fun x hx' => ?_, fun x hx' => ?_⟩
 ·have hn : L.length = n := by
   rcases h.row.2 with ⟨h', _⟩ | ⟨g', cap', cur, h', _⟩
   ·cases h'
   ·simp only [Value.slice.injEq] at h'; exact h'.2.1.symm
  have hrow := h.row
  rw [hn] at hrow
  have := putAll_row x'.cells w _ (k * S.m) hrow
  rw [setFrom_flat h.len hk x' hl] at this
  rw [List.length_set, hn]
  exact this
 ·rcases hmem x hx' with rfl | hx'
  ·exact hl
  ·exact h.len x hx'
 ·rcases hmem x hx' with rfl | hx'
  ·exact S.frame (fun b hb => hblk b (S.lt hR b hb) (hne b (hty b hb))) hR
  ·exact S.frame (fun b hb => hblk b (S.lt (h.el x hx') b hb) (hne b (h.ty x hx' b hb))) (h.el x hx')
 ·rcases hmem x hx' with rfl | hx'
  ·exact hlo
  ·exact h.lo x hx'
 ·intro b hb
  rcases hmem x hx' with rfl | hx'
  ·obtain ⟨cur, t, fr, h1, h2⟩ := hty b hb
   exact ⟨cur, t, fr, (hblk b (Array.getElem?_eq_some_iff.1 h1).1 (hne b ⟨cur, t, fr, h1, h2⟩)).trans h1, h2⟩
  ·obtain ⟨cur, t, fr, h1, h2⟩ := h.ty x hx' b hb
   exact ⟨cur, t, fr, (hblk b (Array.getElem?_eq_some_iff.1 h1).1 (hne b ⟨cur, t, fr, h1, h2⟩)).trans h1, h2⟩
end
theorem wpList_guarded {P : Program} {ops : Array Oper} {rest : List Oper} {a : Act} {w : World} {Q : Exit → Act → World → Prop} {d : Option Tmp} {op : Op} {ty : TypeId} {pos : String} {after : Array Edge} {g : Option (Nat × Bool)}
  (hw : Region.wanted (Oper.mk d op ty pos after g) (yielded ops a.tmps) = true) (h : wpList P ops Q (Oper.mk d op ty pos after none :: rest) a w) : wpList P ops Q (Oper.mk d op ty pos after g :: rest) a w := by
 unfold wpList at h ⊢
 rw [if_pos hw]
 rw [if_pos (show Region.wanted (Oper.mk d op ty pos after none) (yielded ops a.tmps) = true from rfl)] at h
 exact h

end Go.Proofs.YtlegeancmcmbaaaDoor

/- The drawing of lists of tokens. -/
namespace Go.Proofs.YtlegeancmcmbaaaDoor
open Go.RowKit

def DrawnList (w : World) (e : Ending) (w' : World) : Prop :=
 ∃ (v : Value) (L : List (Elem Tok)), e = .returned v ∧ RowE sTok w.heap.size 47 v L w' ∧ (∀ x ∈ L, okTok x.d) ∧ L.length ≤ 61 ∧ Below w.heap.size w w'
theorem RowE.spaced {base g n cap : Nat} {L : List (Elem Tok)} {w : World} (h : RowE sTok base 47 (.slice (some ⟨g, 0, none⟩) n cap) L w) {k : Nat} (hk : k < L.length) (b : Bool) :
  ∃ x', RowE sTok base 47 (.slice (some ⟨g, 0, none⟩) n cap) (L.set k x') (w.setCell ⟨g, k * 4 + 2, none⟩ (.bool b)) ∧ (okTok L[k].d → okTok x'.d) := by
 have hm := List.getElem_mem hk
 obtain ⟨hh, hcs, hi, hs, hK⟩ := h.el _ hm
 refine ⟨⟨[.int .i64 L[k].d.kind, .string L[k].d.text, .bool b, hh], ⟨L[k].d.kind, L[k].d.text, b, L[k].d.hidden⟩, L[k].fp⟩, h.set hk (j := 2) (by decide) _ _ (by rw [hcs]; rfl) ⟨hh, rfl, hi, hs, hK⟩ (fun b hb => h.lo L[k] hm b hb) (fun b hb => h.ty L[k] hm b hb), fun h => h⟩
end Go.Proofs.YtlegeancmcmbaaaDoor

/- What the made texts of structs lean on. -/
namespace Go.Proofs.YtlegeancmcmbaaaDoor
open Go.RowKit
theorem alloc3_blk0 (w : World) (c0 c1 c2 : Array Value) (t0 t1 t2 : TypeId) :
  (((w.alloc (.cells c0 t0)).alloc (.cells c1 t1)).alloc (.cells c2 t2)).heap[w.heap.size]? = some (.cells c0 t0 (0, 0)) := by
 show (((w.heap.push _).push _).push _)[_]? = _
 rw [Array.getElem?_push, if_neg (by simp; omega), Array.getElem?_push, if_neg (by simp), Array.getElem?_push, if_pos rfl]
theorem size_setCell (w : World) (p : Addr) (v : Value) : (w.setCell p v).heap.size = w.heap.size := by simp [World.setCell]

end Go.Proofs.YtlegeancmcmbaaaDoor

/- Tokens as arguments of a law: their size, their copy. -/
namespace Go.Proofs.YtlegeancmcmbaaaDoor
open Go.RowKit
section
variable {H : Type} {enc : TypeId × Value → H} {w : World} {base : Nat} {spare : Nat → Bool} {held : Bool}
end
end Go.Proofs.YtlegeancmcmbaaaDoor

/- Slices of tokens as arguments of a law: their size, their copy. -/
namespace Go.Proofs.YtlegeancmcmbaaaDoor
open Go.RowKit
end Go.Proofs.YtlegeancmcmbaaaDoor

/- TokenValid of the program. -/
namespace Go.Proofs.YtlegeancmcmbaaaDoor
open Go.RowKit

theorem open_one {w : World} {v : Value} {t : Tok} {fp : List Nat} (H : (sSlice sTok).R w [v] [t] fp) :
  ∃ b off cap h, v = .slice (some ⟨b, off, none⟩) 1 cap ∧ cap ≤ maxLen ∧ 1 ≤ cap ∧ b < w.heap.size ∧ w.cell? ⟨b, off, none⟩ = some (.int .i64 t.kind) ∧ w.cell? ⟨b, off + 1, none⟩ = some (.string t.text) ∧ w.cell? ⟨b, off + 2, none⟩ = some (.bool t.spaced) ∧ w.cell? ⟨b, off + 3, none⟩ = some h ∧ okInt t.kind ∧ okStr t.text := by
 obtain ⟨a, cap, rfl, hc, hm, h⟩ := open_rows H
 obtain ⟨b, off, fps, rfl, hb, _, he⟩ := h (by simp)
 obtain ⟨es, ⟨h1, h2⟩, hh, h3, h4, h5, h6⟩ := he 0 (by simp)
 subst h3
 have g := fun j (hj : j < 4) => h2 j hj
 refine ⟨b, off, cap, hh, rfl, hm, by simpa using hc, hb, ?_, ?_, ?_, ?_, h4, h5⟩
 ·simpa using g 0 (by omega)
 ·simpa [Nat.add_assoc] using g 1 (by omega)
 ·simpa [Nat.add_assoc] using g 2 (by omega)
 ·simpa [Nat.add_assoc] using g 3 (by omega)

def Says (b : Bool) (w : World) (e : Ending) (w' : World) : Prop := e = .returned (.bool b) ∧ Below w.heap.size w w'

set_option maxHeartbeats 1000000 in
theorem impl_isOneToken (x : ByteArray) (k : Int) (w : World) (hs : x.size ≤ maxLen) :
  Calls Tryd.prog 88 #[.string x, .int .i64 k] w (Says (oneTok x k) w) := by
 have HT : Hid (∀ W, Calls Tryd.prog 35 #[.string x] W (TokMade (tokRes x) W)) := fun W => impl_TokensOf x W hs
 go_enter Tryd.func88, Tryd.ntmps88
 rcases one_ways x k with ⟨hr, HF⟩ | ⟨l, hr, hl, HF⟩ | ⟨t, hr, hk, HF⟩ | ⟨t, hr, hk, hx, HF⟩ | ⟨t, hr, hk, hx, _, HF⟩
 ·rw [hr] at HT
  clear hr
  go_wp2_with (go_at_call 35; refine (HT.out _).mono ?_; rintro e w' ⟨v, fp, rfl, hR, hO, hB⟩)
  go_ret
  exact ⟨ret_bool HF.out.symm, hB⟩
 ·rw [hr] at HT
  have hl' : ((l.length : Int) != 1) = true := by simp; omega
  clear hr hl
  go_wp2_with (go_at_call 35; refine (HT.out _).mono ?_; rintro e w' ⟨v, fp, rfl, hR, hO, hB⟩; obtain ⟨a, cap, rfl, _, _, _⟩ := open_rows hR)
  go_ret
  exact ⟨ret_bool HF.out.symm, hB⟩
 ·rw [hr] at HT
  have hk' : (t.kind == k) = false := by simp [hk]
  clear hr hk
  go_wp2_with (go_at_call 35; refine (HT.out _).mono ?_; rintro e w' ⟨v, fp, rfl, hR, hO, hB⟩; obtain ⟨b, off, cap, h, rfl, hc1, hc2, hb, h0, h1, h2, h3, _, _⟩ := open_one hR)
  go_ret
  exact ⟨ret_bool HF.out.symm, hB⟩
 ·rw [hr] at HT
  have hk' : (t.kind == k) = true := by simp [hk]
  have hx' : (t.text.toList == x.toList) = false := bytes_bne hx
  clear hr hk hx
  go_wp2_with (go_at_call 35; refine (HT.out _).mono ?_; rintro e w' ⟨v, fp, rfl, hR, hO, hB⟩; obtain ⟨b, off, cap, h, rfl, hc1, hc2, hb, h0, h1, h2, h3, _, _⟩ := open_one hR)
  go_ret
  exact ⟨ret_bool HF.out.symm, hB⟩
 ·rw [hr] at HT
  have hk' : (t.kind == k) = true := by simp [hk]
  have hx' : (t.text.toList == x.toList) = true := bytes_beq hx
  clear hr hk hx
  go_wp2_with (go_at_call 35; refine (HT.out _).mono ?_; rintro e w' ⟨v, fp, rfl, hR, hO, hB⟩; obtain ⟨b, off, cap, h, rfl, hc1, hc2, hb, h0, h1, h2, h3, _, _⟩ := open_one hR)
  go_ret
  exact ⟨ret_bool HF.out.symm, hB⟩

set_option maxHeartbeats 2000000 in
theorem impl_hiddenValid (v : Value) (l : List ByteArray) (fp : List Nat) (w : World) (H : (sSlice sStr).R w [v] l fp) :
  Calls Tryd.prog 89 #[v] w (Says (hidOk l) w) := by
 obtain ⟨a, cap, rfl, hc, hm, hcell, hsz⟩ := open_strs H
 unfold maxLen at hm
 by_cases hl : 60 < l.length
 ·have HF := Lib.hid (hidOk_long hl)
  go_enter Tryd.func89, Tryd.ntmps89
  go_wp2
  go_ret
  exact ⟨ret_bool HF.out.symm, Below.refl _ _⟩
 ·go_enter Tryd.func89, Tryd.ntmps89
  go_wp2
  go_loopw [10] (fun i wr => ∃ k : Nat, k ≤ l.length ∧ i = .int .i64 k ∧ HidUpto l k ∧ Below w.heap.size w wr) (fun i _ => l.length - (intOf i).toNat)
  case atStart => exact ⟨0, by omega, rfl, HidUpto.zero _, Below.refl _ _⟩
  case round =>
   obtain ⟨k, hk, rfl, hall, hbel⟩ := hrel
   by_cases hlt : k < l.length
   ·obtain ⟨b, off, rfl, hb, _, hc2⟩ := hcell (by omega)
    have hck := (hbel.cell (p := ⟨b, off + k, none⟩) hb).trans (hc2 k hlt)
    have hsk := hsz k hlt
    have hbr : b < wr.heap.size := Nat.lt_of_lt_of_le hb hbel.size
    have HC : Hid (∀ W, Calls Tryd.prog 88 #[.string l[k], .int .i64 1] W (Says (oneTok l[k] 1) W)) := fun W => impl_isOneToken l[k] 1 W hsk
    rcases hid_ways hlt with ⟨h1, HF⟩ | ⟨h1, h0, HN⟩ | ⟨hp, h1, h2, HF⟩ | ⟨hp, h1, h2, HN⟩
    ·rw [h1] at HC
     have HG := Lib.hid (hidOk_no hlt HF.out)
     clear h1 hc2 hall
     go_wp2_with (go_at_call 88; refine (HC.out _).mono ?_; rintro e w1 ⟨rfl, hb1⟩)
     go_ret
     exact ⟨ret_bool HG.out.symm, hbel.trans (hb1.mono hbel.size)⟩
    ·rw [h1] at HC
     have HG := Lib.hid (hall.succ HN.out)
     have h0' : ¬ (0 : Int) < (k : Int) := by omega
     clear h1 h0 hc2 hall
     go_wp2_with (go_at_call 88; refine (HC.out _).mono ?_; rintro e w1 ⟨rfl, hb1⟩)
     go_roundw
     case rel => exact ⟨k + 1, by omega, by go_num, HG.out, hbel.trans (hb1.mono hbel.size)⟩
     case measure => simp [intOf]; omega
    ·rw [h1] at HC
     have HG := Lib.hid (hidOk_no hlt HF.out)
     have hcp := (hbel.cell (p := ⟨b, off + (k - 1), none⟩) hb).trans (hc2 (k - 1) (by omega))
     have h6 : ((k : Int) - 1).toNat = k - 1 := by omega
     have h0' : (0 : Int) < (k : Int) := by omega
     have h2' : Op.bytesLess (l[k - 1]'(by omega)).toList l[k].toList = false := h2
     clear h1 h2 hc2 hall
     go_wp2_with (go_at_call 88; refine (HC.out _).mono ?_; rintro e w1 ⟨rfl, hb1⟩; have hcp1 := (hb1.cell (p := ⟨b, off + (k - 1), none⟩) hbr).trans hcp)
     go_ret
     exact ⟨ret_bool HG.out.symm, hbel.trans (hb1.mono hbel.size)⟩
    ·rw [h1] at HC
     have HG := Lib.hid (hall.succ HN.out)
     have hcp := (hbel.cell (p := ⟨b, off + (k - 1), none⟩) hb).trans (hc2 (k - 1) (by omega))
     have h6 : ((k : Int) - 1).toNat = k - 1 := by omega
     have h0' : (0 : Int) < (k : Int) := by omega
     have h2' : Op.bytesLess (l[k - 1]'(by omega)).toList l[k].toList = true := h2
     clear h1 h2 hc2 hall
     go_wp2_with (go_at_call 88; refine (HC.out _).mono ?_; rintro e w1 ⟨rfl, hb1⟩; have hcp1 := (hb1.cell (p := ⟨b, off + (k - 1), none⟩) hbr).trans hcp)
     go_roundw
     case rel => exact ⟨k + 1, by omega, by go_num, HG.out, hbel.trans (hb1.mono hbel.size)⟩
     case measure => simp [intOf]; omega
   ·have HG := Lib.hid (hidOk_yes hall (by omega) (by omega))
    clear hall
    go_wp2
    go_ret
    exact ⟨ret_bool HG.out.symm, hbel⟩

set_option maxHeartbeats 1000000 in
theorem impl_TokenValid_a (t : Tok) (h : Value) (fp : List Nat) (w : World) (ht : okStr t.text) (H : (sSlice sStr).R w [h] t.hidden fp) :
  Calls Tryd.prog 68 #[.agg #[.int .i64 t.kind, .string t.text, .bool t.spaced, h]] w (Says (tokOk t) w) := by
 have HF : Hid (tokOk t = (oneTok t.text t.kind && hidOk t.hidden)) := rfl
 have HC : Hid (∀ W, Calls Tryd.prog 88 #[.string t.text, .int .i64 t.kind] W (Says (oneTok t.text t.kind) W)) := fun W => impl_isOneToken t.text t.kind W ht
 have HD : Hid (∀ W, Below w.heap.size w W → Calls Tryd.prog 89 #[h] W (Says (hidOk t.hidden) W)) := fun W hb => impl_hiddenValid h t.hidden fp W ((sSlice sStr).below H hb)
 go_enter Tryd.func68, Tryd.ntmps68
 have hb0 := alloc_below' w (.cells #[.int .i64 t.kind, .string t.text, .bool t.spaced, h] 47)
 cases h1 : oneTok t.text t.kind
 ·rw [h1] at HC HF
  clear h1
  go_wp2_with (go_at_call 88; refine (HC.out _).mono ?_; rintro e w1 ⟨rfl, hb1⟩)
  go_ret
  exact ⟨ret_bool (by rw [HF.out]; rfl), hb0.trans (hb1.mono hb0.size)⟩
 ·rw [h1] at HC HF
  clear h1
  go_wp2_with (first
   | (go_at_call 88; refine (HC.out _).mono ?_; rintro e w1 ⟨rfl, hb1⟩; have hcd := (hb1.cell (p := ⟨w.heap.size, 3, none⟩) (by simp)))
   | (go_at_call 89; refine (HD.out _ (hb0.trans (hb1.mono hb0.size))).mono ?_; rintro e w2 ⟨rfl, hb2⟩))
  go_ret
  exact ⟨ret_bool (by rw [HF.out]; rfl), hb0.trans ((hb1.trans (hb2.mono hb1.size)).mono hb0.size)⟩

theorem impl_TokenValid (cs : List Value) (x : Tok) (fp : List Nat) (w : World) (H : sTok.R w cs x fp) : Calls Tryd.prog 68 #[.agg cs.toArray] w (Says (tokOk x) w) := by
 obtain ⟨h, rfl, _, hok, K⟩ := H
 exact impl_TokenValid_a x h fp w hok K

end Go.Proofs.YtlegeancmcmbaaaDoor
