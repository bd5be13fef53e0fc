/- Texts that the proof of U stands on, in one file. -/
import Derived.Test.YtbkmapaieillmaaZU7
import Derived.Test.YtbkmapaieillmaaZU3
import Derived.Test.YtbkmapaieillmaaZU6
import Derived.IntWalk
import Derived.Test.YtbkmapaieillmaaZU1
import Derived.Lib.Bytealg
import Derived.Test.YtbkmapaieillmaaZU5
import Derived.Test.YtbkmapaieillmaaZU4
import Derived.Deep.Cut
set_option linter.unusedVariables false
set_option linter.unusedSimpArgs false
/- Lists of tokens are compared by the laws. -/
namespace Go.Proofs.Ytbkmapaieillmaa
open Go.RowKit

set_option maxHeartbeats 8000000 in
set_option maxRecDepth 100000 in
theorem sameTokens_same (v1 v2 : Value) (l : List Tok) (fp1 fp2 : List Nat) (w : World) (H1 : (sSlice sTok).R w [v1] l fp1) (H2 : (sSlice sTok).R w [v2] l fp2) :
    Calls Try.prog 10 #[v1, v2] w fun e w' => e = .returned (.bool true) ∧ Below w.heap.size w w' := by
  obtain ⟨a1, cap1, rfl, hc1, hm1, hrow1⟩ := open_rows H1
  obtain ⟨a2, cap2, rfl, hc2, hm2, hrow2⟩ := open_rows H2
  unfold maxLen at hm1 hm2
  clear H1 H2
  have hnb : ((l.length : Int) != (l.length : Int)) = false := by simp
  go_enter Try.func10, Try.ntmps10
  go_wp2
  go_loopw [5] (fun i wr => ∃ k : Nat, k ≤ l.length ∧ i = .int .i64 k ∧ Below w.heap.size w wr) (fun i _ => l.length - (intOf i).toNat)
  case atStart => exact ⟨0, by omega, rfl, Below.refl _ _⟩
  case round =>
    obtain ⟨k, hk, rfl, hb⟩ := hrel
    by_cases hlt : k < l.length
    · obtain ⟨b1, off1, fps1, rfl, hb1, -, he1⟩ := hrow1 (by omega)
      obtain ⟨b2, off2, fps2, rfl, hb2, -, he2⟩ := hrow2 (by omega)
      obtain ⟨es1, hE1, hR1⟩ := he1 k hlt
      obtain ⟨es2, hE2, hR2⟩ := he2 k hlt
      clear hrow1 hrow2 he1 he2
      obtain ⟨h1, rfl, -, -, K1⟩ := hR1
      obtain ⟨h2, rfl, -, -, K2⟩ := hR2
      replace hE1 := hE1.frame (hb.block b1 hb1)
      replace hE2 := hE2.frame (hb.block b2 hb2)
      have HC : Hid (∀ n, Calls Try.prog 37 #[h1, h2] (wr.drewN n) fun e w' => e = .returned (.bool true) ∧ ∃ m, w' = (wr.drewN n).drewN m) := fun n =>
        (sameTexts h1 h2 _ _ _ _ (wr.drewN n) ((sSlice sStr).frame (w := wr) (fun _ _ => rfl) ((sSlice sStr).below K1 hb)) ((sSlice sStr).frame (w := wr) (fun _ _ => rfl) ((sSlice sStr).below K2 hb))).mono
          fun e w' ⟨a, m, c⟩ => ⟨by rw [a, decide_eq_true rfl], m, c⟩
      have c10 : wr.cell? ⟨b1, off1 + k * 4, none⟩ = some _ := elem_cell0 hE1 (by decide) rfl
      have c11 : wr.cell? ⟨b1, off1 + k * 4 + 1, none⟩ = some _ := elem_cell (j := 1) hE1 (by decide) rfl
      have c12 : wr.cell? ⟨b1, off1 + k * 4 + 2, none⟩ = some _ := elem_cell (j := 2) hE1 (by decide) rfl
      have c13 : wr.cell? ⟨b1, off1 + k * 4 + 3, none⟩ = some _ := elem_cell (j := 3) hE1 (by decide) rfl
      have c20 : wr.cell? ⟨b2, off2 + k * 4, none⟩ = some _ := elem_cell0 hE2 (by decide) rfl
      have c21 : wr.cell? ⟨b2, off2 + k * 4 + 1, none⟩ = some _ := elem_cell (j := 1) hE2 (by decide) rfl
      have c22 : wr.cell? ⟨b2, off2 + k * 4 + 2, none⟩ = some _ := elem_cell (j := 2) hE2 (by decide) rfl
      have c23 : wr.cell? ⟨b2, off2 + k * 4 + 3, none⟩ = some _ := elem_cell (j := 3) hE2 (by decide) rfl
      clear hE1 hE2 K1 K2
      have q1 : (l[k].kind != l[k].kind) = false := by simp
      have q2 := bytes_beq (rfl : l[k].text = l[k].text)
      have q3 : (l[k].spaced != l[k].spaced) = false := by simp
      go_wp2
      go_quiet (first | (go_at_call 37; refine Calls.quiet_of (HC.out _)))
      go_wp2
      go_roundw
      case rel => exact ⟨k + 1, by omega, by go_num, belowN hb _⟩
      case measure => simp [intOf]; omega
    · go_wp2
      go_ret
      exact ⟨rfl, hb⟩

end Go.Proofs.Ytbkmapaieillmaa

/- MacroValid of both; the laws' helpers over macros by value. -/
namespace Go.Proofs.Ytbkmapaieillmaa
open Go.RowKit
theorem mi_name {m : DMacro} (h : oneTok m.name 1 = false) : macOk m = false := by rw [mac_impl, h]; rfl
theorem mi_def {m : DMacro} (h : m.name = definedB) : macOk m = false := by rw [mac_impl, decide_eq_true h]; simp
theorem mi_no {m : DMacro} (h1 : oneTok m.name 1 = true) (h2 : m.name ≠ definedB) (hf : m.function = false) : macOk m = (decide (m.params.length = 0) && bodyOkI m.body) := by rw [mac_impl, h1, decide_eq_false h2, hf]; rfl
theorem mi_yes {m : DMacro} (h1 : oneTok m.name 1 = true) (h2 : m.name ≠ definedB) (hf : m.function = true) : macOk m = (parsOk m.params && bodyOkI m.body && signsOk m) := by rw [mac_impl, h1, decide_eq_false h2, hf]; rfl
theorem mi_big {m : DMacro} (h : bodyOkI m.body = true) : m.body.length ≤ 20 := by unfold bodyOkI at h; rw [Bool.and_eq_true, Bool.and_eq_true] at h; simpa using h.1.1

end Go.Proofs.Ytbkmapaieillmaa

/- Validity of tables, of both. (Made by gen_tab2.py.) -/
namespace Go.Proofs.Ytbkmapaieillmaa
open Go.RowKit

section
variable {P : Program} {ops : Array Oper} {Q : Exit → Act → World → Prop} {md : Region.Mode} {S : World → Prop}
/-- An operation of a drawn region is taken first; its slot is written out. -/
theorem takeH (i d : Nat) {oi : Oper} {v : Value} {fuel : Nat} {listed : Array Bool} {a : Act} {w : World} (hi : ops[i]? = some oi) (hd : oi.dst = some d)
    (hs : Region.noSelect ops = true) (hf : Region.free md ops listed i = true) (hr : (Region.ready md ops listed).contains i = true)
    (hQ : ∀ c a w, Q (.panic c) (a.put (some d) v) w → Q (.panic c) a w) (hw : Region.wanted oi (yielded ops a.tmps) = true) (hS : S w)
    (hy : ∀ w, S w → (execOp a.eval oi).run P w = .ok (.value v) w)
    (h : wpAnyH P md ops Q S fuel (listed.setIfInBounds i true) (a.put (some d) v) w) : wpAnyH P md ops Q S (fuel + 1) listed a w :=
  wpAnyH_take hi hs hf hr (by rw [hd]; exact hQ) (.inl ⟨hw, hy⟩) hS (by rw [hd]; exact h)
/-- One whose guard is struck. -/
theorem skipH (i d : Nat) {oi : Oper} {fuel : Nat} {listed : Array Bool} {a : Act} {w : World} (hi : ops[i]? = some oi) (hd : oi.dst = some d)
    (hs : Region.noSelect ops = true) (hf : Region.free md ops listed i = true) (hr : (Region.ready md ops listed).contains i = true)
    (hQ : ∀ c a w, Q (.panic c) (a.put (some d) undef) w → Q (.panic c) a w) (hw : Region.wanted oi (yielded ops a.tmps) = false) (hS : S w)
    (h : wpAnyH P md ops Q S fuel (listed.setIfInBounds i true) (a.put (some d) undef) w) : wpAnyH P md ops Q S (fuel + 1) listed a w :=
  wpAnyH_take hi hs hf hr (by rw [hd]; exact hQ) (.inr ⟨hw, rfl⟩) hS (by rw [hd]; exact h)
end

def tabAt (l : List DMacro) (k : Nat) : Bool := if h : k < l.length then macOk l[k] && (decide (k = 0) || sLess (l[k - 1]'(by omega)).name l[k].name) else true
def tabOk (l : List DMacro) : Bool := decide (l.length ≤ 10) && (List.range l.length).all (tabAt l)
def TabUpto (l : List DMacro) (k : Nat) : Prop := ∀ j, j < k → tabAt l j = true
theorem TabUpto.zero (l : List DMacro) : TabUpto l 0 := fun j h => absurd h (by omega)
theorem TabUpto.succ {l : List DMacro} {k : Nat} (h : TabUpto l k) (hk : tabAt l k = true) : TabUpto l (k + 1) := fun j hj => by
  by_cases e : j = k
  · subst e; exact hk
  · exact h j (by omega)
theorem tabOk_long {l : List DMacro} (h : 10 < l.length) : tabOk l = false := by unfold tabOk; rw [decide_eq_false (by omega)]; rfl
theorem tabOk_no {l : List DMacro} {k : Nat} (hk : k < l.length) (h : tabAt l k = false) : tabOk l = false := by
  unfold tabOk
  rw [Bool.and_eq_false_iff]
  exact .inr (List.all_eq_false.2 ⟨k, List.mem_range.2 hk, by simp [h]⟩)
theorem tabOk_yes {l : List DMacro} (h : TabUpto l l.length) (hl : l.length ≤ 10) : tabOk l = true := by
  unfold tabOk
  rw [decide_eq_true hl, Bool.true_and, List.all_eq_true]
  exact fun k hk => h k (List.mem_range.1 hk)
theorem tabOk_upto {l : List DMacro} (h : TabUpto l l.length) : tabOk l = decide (l.length ≤ 10) := by
  unfold tabOk
  rw [show (List.range l.length).all (tabAt l) = true from List.all_eq_true.2 fun k hk => h k (List.mem_range.1 hk), Bool.and_true]
theorem tabOk_at {l : List DMacro} (h : tabOk l = true) : l.length ≤ 10 ∧ ∀ k, k < l.length → tabAt l k = true := by
  unfold tabOk at h
  rw [Bool.and_eq_true, decide_eq_true_eq, List.all_eq_true] at h
  exact ⟨h.1, fun k hk => h.2 k (List.mem_range.2 hk)⟩
theorem tabAt_bad {l : List DMacro} {k : Nat} (hk : k < l.length) (h : macOk l[k] = false) : tabAt l k = false := by unfold tabAt; rw [dif_pos hk, h]; rfl
theorem tabAt_first {l : List DMacro} (hk : 0 < l.length) (h : macOk l[0] = true) : tabAt l 0 = true := by unfold tabAt; rw [dif_pos hk, h]; rfl
theorem tabAt_less {l : List DMacro} {k : Nat} (hk : k < l.length) (h0 : 0 < k) (h : sLess (l[k - 1]'(by omega)).name l[k].name = false) : tabAt l k = false := by
  unfold tabAt; rw [dif_pos hk, h, decide_eq_false (by omega), Bool.or_false, Bool.and_false]
theorem tabAt_later {l : List DMacro} {k : Nat} (hk : k < l.length) (h : macOk l[k] = true) (h2 : sLess (l[k - 1]'(by omega)).name l[k].name = true) : tabAt l k = true := by
  unfold tabAt; rw [dif_pos hk, h, h2, Bool.or_true]; rfl

end Go.Proofs.Ytbkmapaieillmaa

/- Names in order: bytes alone. -/
namespace Go.Proofs.Ytbkmapaieillmaa
open Go.RowKit

theorem bytesLess_trans : ∀ x y z : List UInt8, Op.bytesLess x y = true → Op.bytesLess y z = true → Op.bytesLess x z = true
  | _, [], _, h, _ => by simp [Op.bytesLess] at h
  | _, _ :: _, [], _, h => by simp [Op.bytesLess] at h
  | [], _ :: _, _ :: _, _, _ => by simp [Op.bytesLess]
  | a :: x, b :: y, c :: z, h1, h2 => by
    have ih := bytesLess_trans x y z
    simp only [Op.bytesLess, Bool.or_eq_true, decide_eq_true_eq, Bool.and_eq_true, beq_iff_eq] at h1 h2 ⊢
    rcases h1 with h1 | ⟨rfl, h1⟩
    · rcases h2 with h2 | ⟨rfl, h2⟩
      · exact .inl (UInt8.lt_trans h1 h2)
      · exact .inl h1
    · rcases h2 with h2 | ⟨rfl, h2⟩
      · exact .inl h2
      · exact .inr ⟨rfl, ih h1 h2⟩
theorem sLess_trans {a b c : ByteArray} (h1 : sLess a b = true) (h2 : sLess b c = true) : sLess a c = true := bytesLess_trans _ _ _ h1 h2
theorem bytesLess_irrefl : ∀ x : List UInt8, Op.bytesLess x x = false
  | [] => rfl
  | a :: x => by simp [Op.bytesLess, bytesLess_irrefl x, UInt8.lt_irrefl]
theorem sLess_irrefl (a : ByteArray) : sLess a a = false := bytesLess_irrefl _

theorem bytes_same {a b : ByteArray} (h : (a.toList == b.toList) = true) : a = b := by
  by_cases e : a = b
  · exact e
  · exact absurd h (by rw [bytes_bne e]; simp)

end Go.Proofs.Ytbkmapaieillmaa

/- Names of tables are in order: no program. -/
namespace Go.Proofs.Ytbkmapaieillmaa
open Go.RowKit

theorem cmp_less : ∀ x y : List UInt8, decide (Lib.compareBytes x y < 0) = Op.bytesLess x y
  | [], [] => by simp [Lib.compareBytes, Op.bytesLess]
  | [], _ :: _ => by simp [Lib.compareBytes, Op.bytesLess]
  | _ :: _, [] => by simp [Lib.compareBytes, Op.bytesLess]
  | a :: x, b :: y => by
    have ih := cmp_less x y
    unfold Lib.compareBytes Op.bytesLess
    by_cases h1 : a < b
    · simp [h1]
    · by_cases h2 : b < a
      · have h3 : (a == b) = false := by
          simp only [beq_eq_false_iff_ne, ne_eq]
          intro e; subst e; exact absurd h2 h1
        simp [h1, h2, h3]
      · have h3 : a = b := UInt8.le_antisymm (UInt8.not_lt.1 h2) (UInt8.not_lt.1 h1)
        subst h3
        simp [h1, ih]
theorem cmp_same : ∀ x y : List UInt8, decide (Lib.compareBytes x y = 0) = (x == y)
  | [], [] => by simp [Lib.compareBytes]
  | [], _ :: _ => by simp [Lib.compareBytes]
  | _ :: _, [] => by simp [Lib.compareBytes]
  | a :: x, b :: y => by
    have ih := cmp_same x y
    unfold Lib.compareBytes
    by_cases h1 : a < b
    · have h3 : ¬ a = b := by intro e; subst e; exact absurd h1 (UInt8.lt_irrefl _)
      simp [h1, h3]
    · by_cases h2 : b < a
      · have h3 : ¬ a = b := by intro e; subst e; exact absurd h2 h1
        simp [h1, h2, h3]
      · have h3 : a = b := UInt8.le_antisymm (UInt8.not_lt.1 h2) (UInt8.not_lt.1 h1)
        subst h3
        simp [h1, ih]
/-- The names of a valid table ascend. -/
theorem tab_asc {l : List DMacro} (h : tabOk l = true) : ∀ d i : Nat, (hj : i + d + 1 < l.length) → sLess (l[i]'(by omega)).name (l[i + d + 1]'hj).name = true
  | 0, i, hj => by
    have := (tabOk_at h).2 (i + 1) (by omega)
    unfold tabAt at this
    rw [dif_pos (by omega)] at this
    simpa using (Bool.and_eq_true_iff.1 this).2
  | d + 1, i, hj => by
    have h1 := tab_asc h d i (by omega)
    have h2 := tab_asc h 0 (i + d + 1) (by omega)
    exact sLess_trans h1 (by simpa [Nat.add_assoc] using h2)
theorem tab_lt {l : List DMacro} (h : tabOk l = true) {i j : Nat} (hij : i < j) (hj : j < l.length) : sLess (l[i]'(by omega)).name l[j].name = true := by
  have := tab_asc h (j - i - 1) i (by omega)
  simpa [show i + (j - i - 1) + 1 = j by omega] using this
/-- How many names are less. -/
def lowFrom (l : List DMacro) (nm : ByteArray) (k : Nat) : Nat := if h : k < l.length then (if sLess l[k].name nm = true then lowFrom l nm (k + 1) else k) else k
termination_by l.length - k
def lowAt (l : List DMacro) (nm : ByteArray) : Nat := lowFrom l nm 0
theorem low_go {l : List DMacro} {nm : ByteArray} {k : Nat} (h : k < l.length) (h1 : sLess l[k].name nm = true) : lowFrom l nm k = lowFrom l nm (k + 1) := by rw [lowFrom, dif_pos h, if_pos h1]
theorem low_stop {l : List DMacro} {nm : ByteArray} {k : Nat} (h : k < l.length) (h1 : sLess l[k].name nm = false) : lowFrom l nm k = k := by rw [lowFrom, dif_pos h, if_neg (by simp [h1])]
theorem low_end {l : List DMacro} {nm : ByteArray} {k : Nat} (h : l.length ≤ k) : lowFrom l nm k = k := by rw [lowFrom, dif_neg (by omega)]
theorem lowFrom_ge (l : List DMacro) (nm : ByteArray) (k : Nat) : k ≤ lowFrom l nm k := by
  induction k using lowFrom.induct (l := l) (nm := nm) with
  | case1 k h h1 ih => rw [low_go h h1]; omega
  | case2 k h h1 => rw [low_stop h (by simpa using h1)]; omega
  | case3 k h => rw [low_end (by omega)]; omega
theorem lowFrom_le (l : List DMacro) (nm : ByteArray) (k : Nat) (hk : k ≤ l.length) : lowFrom l nm k ≤ l.length := by
  induction k using lowFrom.induct (l := l) (nm := nm) with
  | case1 k h h1 ih => rw [low_go h h1]; exact ih (by omega)
  | case2 k h h1 => rw [low_stop h (by simpa using h1)]; omega
  | case3 k h => rw [low_end (by omega)]; omega
theorem low_le (l : List DMacro) (nm : ByteArray) : lowAt l nm ≤ l.length := lowFrom_le l nm 0 (by omega)
theorem lowFrom_in (l : List DMacro) (nm : ByteArray) (k : Nat) : ∀ j, (hj : j < l.length) → k ≤ j → j < lowFrom l nm k → sLess l[j].name nm = true := by
  induction k using lowFrom.induct (l := l) (nm := nm) with
  | case1 k h h1 ih =>
    intro j hj hk hl
    rw [low_go h h1] at hl
    by_cases e : j = k
    · subst e; exact h1
    · exact ih j hj (by omega) hl
  | case2 k h h1 => intro j hj hk hl; rw [low_stop h (by simpa using h1)] at hl; omega
  | case3 k h => intro j hj hk hl; omega
theorem lowFrom_at (l : List DMacro) (nm : ByteArray) (k : Nat) : ∀ h : lowFrom l nm k < l.length, sLess l[lowFrom l nm k].name nm = false := by
  induction k using lowFrom.induct (l := l) (nm := nm) with
  | case1 k h h1 ih => rw [low_go h h1]; exact ih
  | case2 k h h1 => rw [low_stop h (by simpa using h1)]; intro _; simpa using h1
  | case3 k h => rw [low_end (by omega)]; intro h2; omega
/-- In a valid table a name is less exactly before that place. -/
theorem low_iff {l : List DMacro} (h : tabOk l = true) (nm : ByteArray) {j : Nat} (hj : j < l.length) : sLess l[j].name nm = decide (j < lowAt l nm) := by
  by_cases hl : j < lowAt l nm
  · rw [decide_eq_true hl]
    exact lowFrom_in l nm 0 j hj (by omega) hl
  · rw [decide_eq_false hl]
    have hlow : lowAt l nm < l.length := by omega
    have h1 := lowFrom_at l nm 0 hlow
    by_cases e : lowAt l nm = j
    · subst e; exact h1
    · have h2 := tab_lt h (show lowAt l nm < j by omega) hj
      cases h3 : sLess l[j].name nm
      · rfl
      · exact absurd (sLess_trans h2 h3) (by rw [show sLess (l[lowAt l nm]'hlow).name nm = false from h1]; simp)
/-- The place of a name, or -1. -/
def plFrom (l : List DMacro) (nm : ByteArray) (k : Nat) : Int := if h : k < l.length then (if (l[k].name.toList == nm.toList) = true then (k : Int) else plFrom l nm (k + 1)) else -1
termination_by l.length - k
def place (l : List DMacro) (nm : ByteArray) : Int := plFrom l nm 0
theorem pl_end {l : List DMacro} {nm : ByteArray} {k : Nat} (h : l.length ≤ k) : plFrom l nm k = -1 := by rw [plFrom, dif_neg (by omega)]
theorem pl_hit {l : List DMacro} {nm : ByteArray} {k : Nat} (h : k < l.length) (h1 : (l[k].name.toList == nm.toList) = true) : plFrom l nm k = k := by rw [plFrom, dif_pos h, if_pos h1]
theorem pl_miss {l : List DMacro} {nm : ByteArray} {k : Nat} (h : k < l.length) (h1 : (l[k].name.toList == nm.toList) = false) : plFrom l nm k = plFrom l nm (k + 1) := by rw [plFrom, dif_pos h, if_neg (by simp [h1])]
/-- In a valid table the place of a name is where the names cease to be less, if it is there. -/
theorem pl_low {l : List DMacro} (h : tabOk l = true) (nm : ByteArray) (k : Nat) (hk : k ≤ lowAt l nm) :
    plFrom l nm k = if hl : lowAt l nm < l.length then (if (l[lowAt l nm].name.toList == nm.toList) = true then (lowAt l nm : Int) else -1) else -1 := by
  induction k using plFrom.induct (l := l) (nm := nm) with
  | case1 k hkl h1 =>
    have hs : sLess l[k].name nm = false := by rw [bytes_same h1]; exact sLess_irrefl _
    rw [low_iff h nm hkl, decide_eq_false_iff_not] at hs
    obtain rfl : k = lowAt l nm := by omega
    rw [pl_hit hkl h1, dif_pos hkl, if_pos h1]
  | case2 k hkl h1 ih =>
    rw [pl_miss hkl (by simpa using h1)]
    by_cases e : k = lowAt l nm
    · subst e
      rw [dif_pos hkl, if_neg h1]
      -- behind it all names are greater
      have : ∀ k', lowAt l nm < k' → plFrom l nm k' = -1 := by
        intro k' hk'
        induction k' using plFrom.induct (l := l) (nm := nm) with
        | case1 k' hkl' h1' =>
          have h2 := tab_lt h hk' hkl'
          rw [bytes_same h1', low_iff h nm hkl, decide_eq_true_eq] at h2
          omega
        | case2 k' hkl' h1' ih' => rw [pl_miss hkl' (by simpa using h1')]; exact ih' (by omega)
        | case3 k' hkl' => rw [pl_end (by omega)]
      exact this _ (by omega)
    · exact ih (by omega)
  | case3 k hkl =>
    rw [pl_end (by omega)]
    rw [dif_neg (by have := low_le l nm; omega)]
/-- A name is in a table. -/
def isIn (l : List DMacro) (nm : ByteArray) : Bool := if h : lowAt l nm < l.length then l[lowAt l nm].name.toList == nm.toList else false
theorem place_in {l : List DMacro} (h : tabOk l = true) (nm : ByteArray) : place l nm = if isIn l nm = true then (lowAt l nm : Int) else -1 := by
  unfold place isIn
  rw [pl_low h nm 0 (by omega)]
  by_cases hl : lowAt l nm < l.length
  · rw [dif_pos hl, dif_pos hl]
  · rw [dif_neg hl, dif_neg hl]; rfl
def defd (l : List DMacro) (nm : ByteArray) : Bool := tabOk l && isIn l nm

end Go.Proofs.Ytbkmapaieillmaa

/- Places of names in tables, and IsDefined, of both. -/
namespace Go.Proofs.Ytbkmapaieillmaa
open Go.RowKit

def cmpI (a b : ByteArray) : Int := Lib.compareBytes a.data.toList b.data.toList
theorem cmpI_less (a b : ByteArray) : decide (cmpI a b < 0) = sLess a b := by
  unfold cmpI sLess
  rw [cmp_less, ByteArray.toList_eq, ByteArray.toList_eq]
theorem cmpI_same (a b : ByteArray) : decide (cmpI a b = 0) = (a.toList == b.toList) := by
  unfold cmpI
  rw [cmp_same, ByteArray.toList_eq, ByteArray.toList_eq]

end Go.Proofs.Ytbkmapaieillmaa

/- Copies of tokens: the model's own. -/
namespace Go.Proofs.Ytbkmapaieillmaa
open Go.RowKit

theorem run_append_nil {P : Program} {w : World} (base : Nat) (t ty e : TypeId) (i : TypeInfo) (size c : Nat) (ht : P.underlying t = some (.slice e)) (hi : P.info? e = some i)
    (v : Value) (n : Nat) (xs : List Value) (hown : w.ownsRow base e size v n xs) : (Builtin.append_ #[t, t] ty #[v, .slice none 0 c]).run P w = .ok v w := by
  rcases hown.2 with ⟨rfl, rfl⟩ | ⟨g, cap, cur, rfl, _, _, hnc, _⟩
  · simp [Builtin.append_, run_underlying ht, sizeOf, typeInfo, hi, Builtin.lenOf, Builtin.firstCells]
  · simp [Builtin.append_, run_underlying ht, sizeOf, typeInfo, hi, Builtin.lenOf, Builtin.firstCells, hnc, storeCells]
/-- append(row, texts...), the texts of any slice that can be read. -/
theorem wp_append_strsR {w : World} {ops : Array Oper} {rest : List Oper} {o : Oper} {a : Act} {Q : Exit → Act → World → Prop} (hg : o.guard = none) (s y : Operand)
    (ho : o.op = .call { callee := .builtin .append, args := #[s, y], argTypes := #[23, 23] })
    (base : Nat) (v u : Value) (L M : List ByteArray) (fp : List Nat) (hs : a.eval s = v) (hown : w.ownsRow base 9 1 v L.length (L.map Value.string)) (hy : a.eval y = u) (HM : (sSlice sStr).R w [u] M fp)
    (h63 : L.length + M.length ≤ 4000000) (hbase : base ≤ w.heap.size)
    (h : ∀ v' w', w'.ownsRow base 9 1 v' (L ++ M).length ((L ++ M).map Value.string) → w.grownBy w' v.ownBlock → wpList Try.prog ops Q rest (a.put o.dst v') w') : wpList Try.prog ops Q (o :: rest) a w := by
  obtain ⟨i, hi, hz0, hz1, hz2⟩ := info_parts ti27.2
  obtain ⟨ad, cap, rfl, hc, hm, hcell, hsz⟩ := open_strs HM
  have key : ∀ (b off : Nat), (0 < M.length → ∀ j, (hj : j < M.length) → w.cell? ⟨b, off + j, none⟩ = some (.string M[j])) → a.eval y = .slice (some ⟨b, off, none⟩) M.length cap → wpList Try.prog ops Q (o :: rest) a w := by
    intro b off hat hy'
    refine wpList_append_own _ hg s y 23 ho base 9 i _ 1 16 ti27.1 hi hz0 hz1 hz2 rfl (by decide) v L.length (L.map Value.string) hs hown ⟨b, off, none⟩ M.length cap (M.map Value.string) hy' (by simp) ?_ ?_ (by unfold maxLen; omega) (by omega) hbase fun v' w' h1 h2 _ => h v' w' ?_ h2
    · intro j x hj
      have hj' : j < M.length := by have := (List.getElem?_eq_some_iff.1 hj).1; simpa using this
      rw [Addr.add_lit, hat (by omega) j hj', ← hj]
      simp [List.getElem?_eq_getElem hj']
    · intro x hx
      obtain ⟨s, _, rfl⟩ := List.mem_map.1 hx
      rfl
    · simpa using h1
  by_cases h0 : 0 < M.length
  · obtain ⟨b, off, rfl, _, _, hc2⟩ := hcell h0
    exact key b off (fun _ j hj => hc2 j hj) hy
  · have hM : M = [] := List.length_eq_zero_iff.1 (by omega)
    subst hM
    cases ad with
    | none =>
      have hrun := run_append_nil (P := Try.prog) (w := w) base 23 o.type 9 i 1 cap ti27.1 hi v L.length _ hown
      have hK := h v w (by simpa using hown) ⟨rfl, rfl, rfl, Nat.le_refl _, fun _ _ _ => rfl⟩
      refine wpList_plain hg fun K hK' => ?_
      unfold Oper.wp
      simp only [List.length_nil] at hy
      simp [execOp, ho, resolve, invoke, builtin, hs, hy, hrun, Result.andThen]
      exact hK' _ _ hK
    | some ad =>
      refine wpList_append_own _ hg s y 23 ho base 9 i _ 1 16 ti27.1 hi hz0 hz1 hz2 rfl (by decide) v L.length (L.map Value.string) hs hown ad 0 cap [] hy rfl (by simp) (by simp) (by unfold maxLen; omega) (by omega) hbase fun v' w' h1 h2 _ => h v' w' (by simpa using h1) h2

/-- A token of the call's own. -/
def OwnTok (x : Tok) (w : World) (e : Ending) (w' : World) : Prop :=
  ∃ (ao : Option Addr) (c : Nat) (fp : List Nat), e = .returned (.agg #[.int .i64 x.kind, .string x.text, .bool x.spaced, .slice ao x.hidden.length c]) ∧ sTok.R w' [.int .i64 x.kind, .string x.text, .bool x.spaced, .slice ao x.hidden.length c] x fp ∧
    (∀ b ∈ fp, w.heap.size ≤ b) ∧ (∀ b ∈ fp, ∃ cur t fr, w'.heap[b]? = some (.cells cur t fr) ∧ t = 9) ∧ Below w.heap.size w w'

set_option maxHeartbeats 4000000 in
set_option maxRecDepth 100000 in
theorem spec_l1OwnToken (cs : List Value) (x : Tok) (fp : List Nat) (w : World) (hx : x.hidden.length ≤ 2000000) (H : sTok.R w cs x fp) : Calls Try.prog 33 #[.agg cs.toArray] w (OwnTok x w) := by
  obtain ⟨h, rfl, hk, hok, K⟩ := H
  obtain ⟨a0, cap0, rfl, -, -, -, hsz⟩ := open_strs K
  have hb3 := below3 w #[.int .i64 x.kind, .string x.text, .bool x.spaced, .slice a0 x.hidden.length cap0] #[.int .i64 0, .string ⟨#[]⟩, .bool false, .slice none 0 0] #[.int .i64 x.kind, .string x.text, .bool x.spaced, .slice a0 x.hidden.length cap0] 25 25 25
  have g0 := alloc3_blk0 w #[.int .i64 x.kind, .string x.text, .bool x.spaced, .slice a0 x.hidden.length cap0] #[.int .i64 0, .string ⟨#[]⟩, .bool false, .slice none 0 0] #[.int .i64 x.kind, .string x.text, .bool x.spaced, .slice a0 x.hidden.length cap0] 25 25 25
  obtain ⟨g1, g2, hs3⟩ := alloc3_blk w #[.int .i64 x.kind, .string x.text, .bool x.spaced, .slice a0 x.hidden.length cap0] #[.int .i64 0, .string ⟨#[]⟩, .bool false, .slice none 0 0] #[.int .i64 x.kind, .string x.text, .bool x.spaced, .slice a0 x.hidden.length cap0] 25 25 25
  have HK := Lib.hid ((sSlice sStr).below K hb3)
  have HSZ := Lib.hid hsz
  clear K hsz
  obtain ⟨hv, HV⟩ : ∃ hv : Value, Hid (hv = Value.slice a0 x.hidden.length cap0) := ⟨_, rfl⟩
  go_enter Try.func33, Try.ntmps33
  go_upto_region 2 with fail
  generalize (((w.alloc (.cells #[.int .i64 x.kind, .string x.text, .bool x.spaced, .slice a0 x.hidden.length cap0] 25)).alloc (.cells #[.int .i64 0, .string ⟨#[]⟩, .bool false, .slice none 0 0] 25)).alloc (.cells #[.int .i64 x.kind, .string x.text, .bool x.spaced, .slice a0 x.hidden.length cap0] 25)) = W3 at *
  have hba := alloc_below' W3 (.cells #[] 9)
  have c03 : (W3.alloc (.cells #[] 9)).cell? ⟨w.heap.size, 3, none⟩ = some hv := by
    rw [HV.out]
    exact (hba.cell (p := ⟨w.heap.size, 3, none⟩) (by show w.heap.size < _; omega)).trans (cell_of_row _ _ 3 _ _ _ g0)
  have hlit : Hid ((W3.alloc (.cells #[] 9)).ownsRow W3.heap.size 9 1 (.slice (some ⟨W3.heap.size, 0, none⟩) 0 0) ([] : List ByteArray).length (([] : List ByteArray).map Value.string)) :=
    World.ownsRow_lit (base := W3.heap.size) (e := 9) (size := 1) W3 #[] 0 (Nat.le_refl _) (by simp) rfl
  have HKV : Hid ((sSlice sStr).R (W3.alloc (.cells #[] 9)) [hv] x.hidden fp) := by show (sSlice sStr).R _ _ _ _; rw [HV.out]; exact (sSlice sStr).below HK.out hba
  have HG := Lib.hid (And.intro g1 (And.intro g2 hs3))
  have hb4 := Lib.hid (hb3.trans (hba.mono hb3.size))
  clear g0 g1 g2 hb3 hs3 HK hba
  go_wp2_with (
    at_builtin
    refine wp_append_strsR rfl (.tmp 5) (.tmp 7) rfl W3.heap.size (.slice (some ⟨W3.heap.size, 0, none⟩) 0 0) hv [] x.hidden _ rfl hlit.out rfl HKV.out (by simp; omega) (by simp) ?_
    intro v5 w1 hown hgrow
    rw [List.nil_append] at hown
    obtain ⟨fp1, R1, O1, hfp⟩ := own_flat (ok := okStr) hown HSZ.out
    have hs3 := HG.out.2.2
    have hblk : ∀ k, k < W3.heap.size → w1.heap[k]? = W3.heap[k]? := fun k hk => (hgrow.block k (by simp; omega) (by simp [Value.ownBlock]; omega)).trans ((alloc_below' W3 _).block k hk)
    have HG1 : Hid (w1.heap[w.heap.size + 1]? = some (.cells #[.int .i64 0, .string ⟨#[]⟩, .bool false, .slice none 0 0] 25 (0, 0)) ∧ w1.heap[w.heap.size + 1 + 1]? = some (.cells #[.int .i64 x.kind, .string x.text, .bool x.spaced, .slice a0 x.hidden.length cap0] 25 (0, 0))) :=
      ⟨(hblk _ (by omega)).trans HG.out.1, (hblk _ (by omega)).trans HG.out.2.1⟩
    have hb : Below w.heap.size w w1 := hb4.out.grown hgrow (by simp; omega) (fun b hb => by simp [Value.ownBlock] at hb; omega)
    have hty : ∀ b ∈ fp1, ∃ cur t fr, w1.heap[b]? = some (.cells cur t fr) ∧ t = 9 := fun b hb' => by
      have hv := hfp b hb'
      rcases hown.2 with ⟨rfl, _⟩ | ⟨g, cap, cur, rfl, _, hg, _⟩
      · simp [Value.ownBlock] at hv
      · simp only [Value.ownBlock, Option.some.injEq] at hv
        subst hv
        exact ⟨_, _, _, hg, rfl⟩
    have hlo : ∀ b ∈ fp1, w.heap.size + 3 ≤ b := fun b hb => by have := (O1.2 b hb).1; omega
    clear HG hblk hgrow hown hfp O1 c03 hb4 HKV hlit hs3
    obtain ⟨a1, cap1, rfl, hq⟩ := open_rows R1
    clear hq
    have c10 : w1.cell? ⟨w.heap.size + 1, 0, none⟩ = some (.int .i64 0) := cell_of_row w1 (w.heap.size + 1) 0 _ _ _ HG1.out.1
    have c11 : w1.cell? ⟨w.heap.size + 1, 1, none⟩ = some (.string ⟨#[]⟩) := cell_of_row w1 (w.heap.size + 1) 1 _ _ _ HG1.out.1
    have c12 : w1.cell? ⟨w.heap.size + 1, 2, none⟩ = some (.bool false) := cell_of_row w1 (w.heap.size + 1) 2 _ _ _ HG1.out.1
    have c13 : w1.cell? ⟨w.heap.size + 1, 3, none⟩ = some (.slice none 0 0) := cell_of_row w1 (w.heap.size + 1) 3 _ _ _ HG1.out.1
    have c20 : w1.cell? ⟨w.heap.size + 1 + 1, 0, none⟩ = some (.int .i64 x.kind) := cell_of_row w1 (w.heap.size + 1 + 1) 0 _ _ _ HG1.out.2
    have c21 : w1.cell? ⟨w.heap.size + 1 + 1, 1, none⟩ = some (.string x.text) := cell_of_row w1 (w.heap.size + 1 + 1) 1 _ _ _ HG1.out.2
    have c22 : w1.cell? ⟨w.heap.size + 1 + 1, 2, none⟩ = some (.bool x.spaced) := cell_of_row w1 (w.heap.size + 1 + 1) 2 _ _ _ HG1.out.2
    have c23 : w1.cell? ⟨w.heap.size + 1 + 1, 3, none⟩ = some (.slice a0 x.hidden.length cap0) := cell_of_row w1 (w.heap.size + 1 + 1) 3 _ _ _ HG1.out.2
    have f10 : w1.frozen? ⟨w.heap.size + 1, 0, none⟩ = false := frozen_of_row w1 (w.heap.size + 1) 0 _ _ HG1.out.1
    have f11 : w1.frozen? ⟨w.heap.size + 1, 1, none⟩ = false := frozen_of_row w1 (w.heap.size + 1) 1 _ _ HG1.out.1
    have f12 : w1.frozen? ⟨w.heap.size + 1, 2, none⟩ = false := frozen_of_row w1 (w.heap.size + 1) 2 _ _ HG1.out.1
    have f13 : w1.frozen? ⟨w.heap.size + 1, 3, none⟩ = false := frozen_of_row w1 (w.heap.size + 1) 3 _ _ HG1.out.1
    have f23 : w1.frozen? ⟨w.heap.size + 1 + 1, 3, none⟩ = false := frozen_of_row w1 (w.heap.size + 1 + 1) 3 _ _ HG1.out.2
    have hn1 : w.heap.size + 1 ∉ fp1 := fun hx => by have := hlo _ hx; omega
    have hn2 : w.heap.size + 1 + 1 ∉ fp1 := fun hx => by have := hlo _ hx; omega
    have HLO : Hid (∀ b ∈ fp1, w.heap.size ≤ b) := fun b hb => by have := hlo b hb; omega
    have HR := Lib.hid ((sSlice sStr).setB ((sSlice sStr).setB ((sSlice sStr).setB ((sSlice sStr).setB ((sSlice sStr).setB R1 hn2 3 (.slice a1 x.hidden.length cap1)) hn1 0 (.int .i64 x.kind)) hn1 1 (.string x.text)) hn1 2 (.bool x.spaced)) hn1 3 (.slice a1 x.hidden.length cap1))
    have HT : Hid (∀ b ∈ fp1, ∃ cur t fr, (((((w1.setCell ⟨w.heap.size + 1 + 1, 3, none⟩ (.slice a1 x.hidden.length cap1)).setCell ⟨w.heap.size + 1, 0, none⟩ (.int .i64 x.kind)).setCell ⟨w.heap.size + 1, 1, none⟩ (.string x.text)).setCell ⟨w.heap.size + 1, 2, none⟩ (.bool x.spaced)).setCell ⟨w.heap.size + 1, 3, none⟩ (.slice a1 x.hidden.length cap1)).heap[b]? = some (.cells cur t fr) ∧ t = 9) := fun b hb => by
      obtain ⟨cur, t, fr, q1, q2⟩ := hty b hb
      have e1 : b ≠ w.heap.size + 1 := fun e => hn1 (e ▸ hb)
      have e2 : b ≠ w.heap.size + 1 + 1 := fun e => hn2 (e ▸ hb)
      exact ⟨cur, t, fr, blk_other (blk_other (blk_other (blk_other (blk_other q1 e2 _ _) e1 _ _) e1 _ _) e1 _ _) e1 _ _, q2⟩
    have HB := Lib.hid (((((hb.setCell (p := ⟨w.heap.size + 1 + 1, 3, none⟩) (by simp; omega) (.slice a1 x.hidden.length cap1)).setCell (p := ⟨w.heap.size + 1, 0, none⟩) (by simp) (.int .i64 x.kind)).setCell (p := ⟨w.heap.size + 1, 1, none⟩) (by simp) (.string x.text)).setCell (p := ⟨w.heap.size + 1, 2, none⟩) (by simp) (.bool x.spaced)).setCell (p := ⟨w.heap.size + 1, 3, none⟩) (by simp) (.slice a1 x.hidden.length cap1))
    have HS := Lib.hid (blk_set (blk_set (blk_set (blk_set (blk_other HG1.out.1 (by omega : w.heap.size + 1 ≠ w.heap.size + 1 + 1) 3 (.slice a1 x.hidden.length cap1)) 0 (.int .i64 x.kind)) 1 (.string x.text)) 2 (.bool x.spaced)) 3 (.slice a1 x.hidden.length cap1))
    clear HG1 hty hlo)
  refine bodyPost_ret (results_cell_row rfl _ _ (w.heap.size + 1) _ _ _ _ rfl HS.out Try.underlying25 rfl (by kernel_rfl)) rfl ?_
  exact ⟨a1, cap1, fp1, rfl, ⟨_, rfl, hk, hok, HR.out⟩, HLO.out, HT.out, HB.out⟩

/-- A list of tokens as the call's own copy. -/
def OwnToks (l : List Tok) (w : World) (e : Ending) (w' : World) : Prop := ∃ v fp, e = .returned v ∧ (sSlice sTok).R w' [v] l fp ∧ Below w.heap.size w w'
/-- Blocks of tokens and of their texts alone. -/
def TokTy (w : World) (fp : List Nat) : Prop := ∀ b ∈ fp, ∃ cur t fr, w.heap[b]? = some (.cells cur t fr) ∧ (t = 25 ∨ t = 9)
theorem TokTy.same {w w' : World} {fp : List Nat} (h : TokTy w fp) (hb : ∀ b ∈ fp, b < w.heap.size → w'.heap[b]? = w.heap[b]?) : TokTy w' fp := fun b hb' => by
  obtain ⟨cur, t, fr, h1, h2⟩ := h b hb'
  exact ⟨cur, t, fr, (hb b hb' (Array.getElem?_eq_some_iff.1 h1).1).trans h1, h2⟩
theorem TokTy.below {w w' : World} {fp : List Nat} (h : TokTy w fp) (hb : Below w.heap.size w w') : TokTy w' fp := h.same fun b _ hl => hb.block b hl
def OwnToksS (l : List Tok) (w : World) (e : Ending) (w' : World) : Prop := ∃ v fp, e = .returned v ∧ (sSlice sTok).R w' [v] l fp ∧ (∀ b ∈ fp, w.heap.size ≤ b) ∧ TokTy w' fp ∧ Below w.heap.size w w'
set_option maxHeartbeats 4000000 in
set_option maxRecDepth 100000 in
theorem spec_l1OwnTokenList_s (v : Value) (l : List Tok) (fp : List Nat) (w : World) (hl : l.length ≤ 1048576) (hx : ∀ k, (hk : k < l.length) → l[k].hidden.length ≤ 2000000) (H : (sSlice sTok).R w [v] l fp) :
    Calls Try.prog 44 #[v] w (OwnToksS l w) := by
  obtain ⟨a, cap, rfl, hc, hm, hrow⟩ := open_rows H
  unfold maxLen at hm
  clear H
  have HX := Lib.hid hx
  clear hx
  have hlit : Hid (RowE sTok w.heap.size 25 (.slice (some ⟨w.heap.size, 0, none⟩) 0 0) [] (w.alloc (.cells #[] 25))) := RowE.lit [] (by simp) (by simp) (by simp) (by simp) (Nat.le_refl _) (by simp)
  have hba := alloc_below' w (.cells #[] 25)
  go_enter Try.func44, Try.ntmps44
  go_wp2
  go_loopw [3, 4] (fun o i wr => ∃ (k : Nat) (L : List (Elem Tok)), k ≤ l.length ∧ i = .int .i64 k ∧ Hid (RowE sTok w.heap.size 25 o L wr) ∧ Hid (L.map (·.d) = l.take k) ∧ Hid (∀ x ∈ L, TokTy wr x.fp) ∧ Below w.heap.size w wr) (fun _ i _ => l.length - (intOf i).toNat)
  case atStart => exact ⟨0, [], by omega, rfl, hlit, rfl, (show ∀ x ∈ ([] : List (Elem Tok)), TokTy _ x.fp from by simp), hba⟩
  case round =>
    clear hlit hba
    obtain ⟨k, L, hk, rfl, HE, HD, HN, hb⟩ := hrel
    by_cases hlt : k < l.length
    · obtain ⟨b1, off1, fps1, rfl, hb1, -, he1⟩ := hrow (by omega)
      obtain ⟨es1, hE1, hR1⟩ := he1 k hlt
      clear hrow he1
      have hR2 := sTok.below hR1 hb
      obtain ⟨h1', rfl, _, _, _⟩ := hR1
      have HC := Lib.hid (spec_l1OwnToken _ _ _ wr (HX.out k hlt) hR2)
      clear hR2
      replace hE1 := hE1.frame (hb.block b1 hb1)
      have c10 : wr.cell? ⟨b1, off1 + k * 4, none⟩ = some _ := elem_cell0 hE1 (by decide) rfl
      have c11 : wr.cell? ⟨b1, off1 + k * 4 + 1, none⟩ = some _ := elem_cell (j := 1) hE1 (by decide) rfl
      have c12 : wr.cell? ⟨b1, off1 + k * 4 + 2, none⟩ = some _ := elem_cell (j := 2) hE1 (by decide) rfl
      have c13 : wr.cell? ⟨b1, off1 + k * 4 + 3, none⟩ = some _ := elem_cell (j := 3) hE1 (by decide) rfl
      clear hE1
      have HLl : Hid (L.length = k) := by have := congrArg List.length HD.out; simp at this; show _ = _; omega
      go_wp2_with fail
      refine HC.out.mono ?_
      rintro e w2 ⟨ao, c, fp2, rfl, hR2, hlo2, hty2, hb2⟩
      obtain ⟨ar, capr, rfl, -⟩ := HE.out.val
      have hE2 := HE.out.below hb2
      have hty2' : ∀ b ∈ fp2, ∃ cur t fr, w2.heap[b]? = some (.cells cur t fr) ∧ t ≠ 25 := fun b hb => by obtain ⟨cur, t, fr, h1, h2⟩ := hty2 b hb; exact ⟨cur, t, fr, h1, by rw [h2]; decide⟩
      have HN2 : Hid (∀ x ∈ L ++ [(⟨[.int .i64 l[k].kind, .string l[k].text, .bool l[k].spaced, .slice ao l[k].hidden.length c], ⟨l[k].kind, l[k].text, l[k].spaced, l[k].hidden⟩, fp2⟩ : Elem Tok)], TokTy w2 x.fp) := fun x hx => by
        rcases List.mem_append.1 hx with hx | hx
        · exact (HN.out x hx).below hb2
        · obtain rfl := List.mem_singleton.1 hx
          intro b hb
          obtain ⟨cur, t, fr, h1, h2⟩ := hty2 b hb
          exact ⟨cur, t, fr, h1, .inr h2⟩
      have hbw := hb.trans (hb2.mono hb.size)
      have hlo3 : ∀ b ∈ fp2, w.heap.size ≤ b := fun b hx => Nat.le_trans hb.size (hlo2 b hx)
      clear c10 c11 c12 c13 HC HE
      go_wp2_with (at_builtin; refine wp_append_tokE rfl (.tmp 12) (.tmp 18) rfl w.heap.size (.slice ar L.length capr) L rfl hE2 l[k].kind l[k].text l[k].spaced ao l[k].hidden.length c l[k].hidden fp2 rfl hR2 hlo3 hty2' (by have := HLl.out; omega) hbw.size ?_; intro v3 w3 hE3 hg3)
      have hb3 : Below w.heap.size w w3 := hbw.grown hg3 hbw.size (fun b hb => (hE2.row.lt b hb).1)
      have HE3 := Lib.hid hE3
      have HN3 : Hid (∀ x ∈ L ++ [(⟨[.int .i64 l[k].kind, .string l[k].text, .bool l[k].spaced, .slice ao l[k].hidden.length c], ⟨l[k].kind, l[k].text, l[k].spaced, l[k].hidden⟩, fp2⟩ : Elem Tok)], TokTy w3 x.fp) := fun x hx => (HN2.out x hx).same fun b hb hl => hg3.block b hl (by
        rcases List.mem_append.1 hx with hx | hx
        · exact fun e => hE2.ap hx hb e.symm
        · obtain rfl := List.mem_singleton.1 hx
          intro e
          obtain ⟨cur, t, fr, h1, h2⟩ := hty2' b hb
          obtain ⟨g, capg, curg, q1, q2, q3, -⟩ : ∃ g capg curg, Value.slice ar L.length capr = .slice (some ⟨g, 0, none⟩) L.length capg ∧ w.heap.size ≤ g ∧ w2.heap[g]? = some (.cells curg 25 (0, 0)) ∧ True := by
            rcases hE2.row.2 with ⟨h0, _⟩ | ⟨g, capg, curg, q1, q2, q3, -⟩
            · rw [h0] at e; simp [Value.ownBlock] at e
            · exact ⟨g, capg, curg, q1, q2, q3, trivial⟩
          rw [q1] at e
          simp only [Value.ownBlock, Option.some.injEq] at e
          subst e
          rw [h1] at q3
          simp only [Option.some.injEq, Obj.cells.injEq] at q3
          exact h2 q3.2.1)
      have HD3 : Hid ((L ++ [(⟨[.int .i64 l[k].kind, .string l[k].text, .bool l[k].spaced, .slice ao l[k].hidden.length c], ⟨l[k].kind, l[k].text, l[k].spaced, l[k].hidden⟩, fp2⟩ : Elem Tok)]).map (·.d) = l.take (k + 1)) := by
        show _ = _
        rw [List.map_append, HD.out, List.take_succ_eq_append_getElem hlt]; rfl
      clear hE2 hE3 hg3 hR2 hty2 hty2' hlo2 hlo3 hb2 HN2 HN
      go_roundw
      case rel => exact ⟨k + 1, _, by omega, by go_num, HE3, HD3, HN3, hb3⟩
      case measure => simp [intOf]; omega
    · obtain ⟨fpr, hr, hin, -⟩ := slice_of_row HE.out.row fun x hx => ⟨HE.out.len x hx, HE.out.el x hx⟩
      have HLO : Hid (∀ b ∈ fpr, w.heap.size ≤ b) := fun b hb => by
        rcases hin b hb with h | h
        · exact HE.out.mine b h
        · obtain ⟨x, hx, hb'⟩ := List.mem_flatMap.1 h
          exact HE.out.lo x hx b hb'
      have HNM : Hid (TokTy wr fpr) := fun b hb => by
        rcases hin b hb with h | h
        · rcases HE.out.row.2 with ⟨h0, _⟩ | ⟨g, capg, curg, q1, q2, q3, -⟩
          · rw [h0] at h; simp [Value.ownBlock] at h
          · rw [q1] at h
            simp only [Value.ownBlock, Option.some.injEq] at h
            subst h
            exact ⟨_, _, _, q3, .inl rfl⟩
        · obtain ⟨x, hx, hb'⟩ := List.mem_flatMap.1 h
          exact HN.out x hx b hb'
      clear hin
      have hd := HD.out
      rw [List.take_of_length_le (by omega)] at hd
      rw [hd] at hr
      have HR := Lib.hid hr
      clear hr hd HE HD HN
      go_wp2
      go_ret
      exact ⟨_, fpr, rfl, HR.out, HLO.out, HNM.out, hb⟩
end Go.Proofs.Ytbkmapaieillmaa

/- Rows of the call's own whose elements may read memory of others, too: the elements' blocks lie before the row's. Over any program. -/
namespace Go.Proofs.Ytbkmapaieillmaa
open Go.RowKit

structure RowG {α : Type} (S : Shape α) (base : Nat) (e : TypeId) (v : Value) (L : List (Elem α)) (w : World) : Prop where
  row : w.ownsRow base e S.m v L.length (L.flatMap (·.cells))
  len : ∀ x ∈ L, x.cells.length = S.m
  el : ∀ x ∈ L, S.R w x.cells x.d x.fp
  hi : ∀ x ∈ L, ∀ b ∈ x.fp, b < base

section
variable {α : Type} {S : Shape α} {base : Nat} {e : TypeId} {v v' : Value} {L : List (Elem α)} {w w' : World}
theorem RowG.nil (S : Shape α) (base : Nat) (e : TypeId) (w : World) : RowG S base e (.slice none 0 0) [] w := ⟨World.ownsRow_nil _ _ _ _, by simp, by simp, by simp⟩
theorem RowG.ap (h : RowG S base e v L w) : ∀ x ∈ L, ∀ b ∈ x.fp, v.ownBlock ≠ some b := fun x hx b hb hv => by
  have h1 := h.hi x hx b hb
  have h2 := (h.row.lt b hv).1
  omega
/-- An empty literal's row. -/
theorem RowG.lit0 (S : Shape α) (e : TypeId) (w : World) : RowG S w.heap.size e (.slice (some ⟨w.heap.size, 0, none⟩) 0 0) [] (w.alloc (.cells #[] e)) where
  row := World.ownsRow_lit (base := w.heap.size) (e := e) (size := S.m) w #[] 0 (Nat.le_refl _) (by unfold maxLen; omega) (by simp)
  len := by simp
  el := by simp
  hi := by simp
theorem RowG.same (h : RowG S base e v L w) (hv : ∀ g, v.ownBlock = some g → w'.heap[g]? = w.heap[g]?) (hb : ∀ x ∈ L, ∀ b ∈ x.fp, w'.heap[b]? = w.heap[b]?) : RowG S base e v L w' where
  row := ownsRow_same h.row hv
  len := h.len
  el := fun x hx => S.frame (fun b hb' => hb x hx b hb') (h.el x hx)
  hi := h.hi
theorem RowG.below (h : RowG S base e v L w) (hb : Below w.heap.size w w') : RowG S base e v L w' :=
  h.same (fun g hg => hb.block g (h.row.lt g hg).2) (fun x hx b hb' => hb.block b (S.lt (h.el x hx) b hb'))
theorem RowG.kept {K : List Nat} (h : RowG S base e v L w) (hk : Kept K w w') (hv : ∀ g, v.ownBlock = some g → g ∉ K) (hb : ∀ x ∈ L, ∀ b ∈ x.fp, b ∉ K) : RowG S base e v L w' :=
  h.same (fun g hg => hk.block g (h.row.lt g hg).2 (hv g hg)) (fun x hx b hb' => hk.block b (S.lt (h.el x hx) b hb') (hb x hx b hb'))
theorem RowG.val (h : RowG S base e v L w) : ∃ a cap, v = .slice a L.length cap ∧ L.length ≤ cap ∧ cap ≤ maxLen ∧ (0 < L.length → ∃ g, a = some ⟨g, 0, none⟩ ∧ base ≤ g ∧ g < w.heap.size) := by
  rcases h.row.2 with ⟨rfl, h0⟩ | ⟨g, cap, cur, rfl, hb, hg, hn, hc, _⟩
  · exact ⟨none, 0, by rw [h0], by omega, by simp, fun h => by omega⟩
  · exact ⟨_, cap, rfl, hn, hc, fun _ => ⟨g, rfl, hb, (Array.getElem?_eq_some_iff.1 hg).1⟩⟩
theorem RowG.mine (h : RowG S base e v L w) : ∀ b, v.ownBlock = some b → base ≤ b := fun b hb => (h.row.lt b hb).1
theorem RowG.read (h : RowG S base e v L w) : ∃ fp, (sSlice S).R w [v] (L.map (·.d)) fp ∧ (∀ b ∈ fp, v.ownBlock = some b ∨ ∃ x ∈ L, b ∈ x.fp) ∧ (Own w base (L.flatMap (·.fp)) → Own w base fp) := by
  obtain ⟨fp, h1, h2, h3⟩ := slice_of_row h.row fun x hx => ⟨h.len x hx, h.el x hx⟩
  refine ⟨fp, h1, fun b hb => ?_, fun ho => h3 ho fun g hg hm => ?_⟩
  · rcases h2 b hb with h | h
    · exact .inl h
    · obtain ⟨x, hx, hb'⟩ := List.mem_flatMap.1 h
      exact .inr ⟨x, hx, hb'⟩
  · obtain ⟨x, hx, hb'⟩ := List.mem_flatMap.1 hm
    exact h.ap x hx g hb' hg
theorem RowG.len_eq {g n cap : Nat} (h : RowG S base e (.slice (some ⟨g, 0, none⟩) n cap) L w) : L.length = n := by
  rcases h.row.2 with ⟨h', _⟩ | ⟨g', cap', cur, h', _⟩
  · cases h'
  · simp only [Value.slice.injEq] at h'; exact h'.2.1.symm
theorem RowG.frozen {g n cap : Nat} (h : RowG S base e (.slice (some ⟨g, 0, none⟩) n cap) L w) (o : Nat) : w.frozen? ⟨g, o, none⟩ = false := by
  rcases h.row.2 with ⟨h', _⟩ | ⟨g', cap', cur, h', _, hg, _⟩
  · cases h'
  · simp only [Value.slice.injEq, Option.some.injEq, Addr.mk.injEq, and_true] at h'
    obtain ⟨rfl, _⟩ := h'
    exact frozen_of_row w g o cur e hg
/-- An element's cells. -/
theorem RowG.cellAt {g n cap : Nat} (h : RowG S base e (.slice (some ⟨g, 0, none⟩) n cap) L w) {k : Nat} (hk : k < L.length) {j : Nat} (hj : j < S.m) {u : Value} (hu : L[k].cells[j]? = some u) : w.cell? ⟨g, k * S.m + j, none⟩ = some u := by
  have hn : L.length = n := h.len_eq
  subst hn
  rw [h.row.cellAt (k * S.m + j) (by have : (k + 1) * S.m ≤ L.length * S.m := Nat.mul_le_mul_right _ hk; rw [Nat.succ_mul] at this; omega)]
  exact (flatMap_at (f := Elem.cells) h.len hk hj).trans hu
/-- A store into an element. -/
theorem RowG.set {g n cap : Nat} (h : RowG S base e (.slice (some ⟨g, 0, none⟩) n cap) L w) {k : Nat} (hk : k < L.length) {j : Nat} (hj : j < S.m) (u : Value) (x' : Elem α) (hx : x'.cells = L[k].cells.set j u)
    (hR : S.R w x'.cells x'.d x'.fp) (hn : ∀ b ∈ x'.fp, b < base) :
    RowG S base e (.slice (some ⟨g, 0, none⟩) n cap) (L.set k x') (w.setCell ⟨g, k * S.m + j, none⟩ u) := by
  have hblk : ∀ b : Nat, b ≠ g → (w.setCell ⟨g, k * S.m + j, none⟩ u).heap[b]? = w.heap[b]? := fun b hb => Below.heap_setCell _ _ _ _ hb
  have hmem : ∀ x ∈ L.set k x', x = x' ∨ x ∈ L := fun x hx => by
    rcases List.mem_or_eq_of_mem_set hx with h | h
    · exact .inr h
    · exact .inl h
  have hne : ∀ x ∈ L, ∀ b ∈ x.fp, b ≠ g := fun x hx b hb e => h.ap x hx b hb (by rw [e]; rfl)
  refine ⟨?_, fun x hx' => ?_, fun x hx' => ?_, fun x hx' => ?_⟩
  · have hn := h.len_eq
    have hrow := h.row
    rw [hn] at hrow
    have := (hrow.stored (k * S.m + j) u).1
    rw [flatMap_set h.len hk hj u x' hx] at this
    rw [List.length_set, hn]
    exact this
  · rcases hmem x hx' with rfl | hx'
    · rw [hx, List.length_set]; exact h.len _ (List.getElem_mem hk)
    · exact h.len x hx'
  · rcases hmem x hx' with rfl | hx'
    · exact S.frame (fun b hb => hblk b (fun e => by have h1 := hn b hb; have h2 := (h.row.lt g rfl).1; omega)) hR
    · exact S.frame (fun b hb => hblk b (hne x hx' b hb)) (h.el x hx')
  · rcases hmem x hx' with rfl | hx'
    · exact hn
    · exact h.hi x hx'
/-- Elements appended. -/
theorem RowG.appended (h : RowG S base e v L w) {X : List (Elem α)} (hrow : w'.ownsRow base e S.m v' (L ++ X).length ((L ++ X).flatMap (·.cells))) (hg : w.grownBy w' v.ownBlock)
    (hX : ∀ x ∈ X, x.cells.length = S.m ∧ S.R w x.cells x.d x.fp ∧ ∀ b ∈ x.fp, b < base) :
    RowG S base e v' (L ++ X) w' := by
  have hall : ∀ x ∈ L ++ X, x.cells.length = S.m ∧ S.R w x.cells x.d x.fp ∧ ∀ b ∈ x.fp, b < base := fun x hx => by
    rcases List.mem_append.1 hx with hx | hx
    · exact ⟨h.len x hx, h.el x hx, h.hi x hx⟩
    · exact hX x hx
  refine ⟨hrow, fun x hx => (hall x hx).1, fun x hx => ?_, fun x hx => (hall x hx).2.2⟩
  refine S.frame (fun b hb => hg.block b (S.lt (hall x hx).2.1 b hb) fun hv => ?_) (hall x hx).2.1
  have h1 := (hall x hx).2.2 b hb
  have h2 := (h.row.lt b hv.symm).1
  omega
end

/-- The elements of what can be read. -/
theorem elems_of {α : Type} {S : Shape α} {w : World} {u : Value} {M : List α} {fp : List Nat} (H : (sSlice S).R w [u] M fp) :
    ∃ (X : List (Elem α)) (a : Option Addr) (cap : Nat), X.map (·.d) = M ∧ X.length = M.length ∧ u = .slice a M.length cap ∧ M.length ≤ maxLen ∧ (∀ x ∈ X, x.cells.length = S.m ∧ S.R w x.cells x.d x.fp ∧ ∀ b ∈ x.fp, b ∈ fp) ∧
      (0 < M.length → ∃ b off, a = some ⟨b, off, none⟩ ∧ b < w.heap.size ∧ ∀ k, (hk : k < X.length) → ElemAt w b off S.m k X[k].cells) := by
  obtain ⟨a, cap, rfl, hc, hm, hrow⟩ := open_rows H
  by_cases h0 : 0 < M.length
  · obtain ⟨b, off, fps, rfl, hb, hfp, he⟩ := hrow h0
    have key : ∀ k : Fin M.length, ∃ x : Elem α, x.d = M[k.1] ∧ x.fp = fps k.1 ∧ ElemAt w b off S.m k.1 x.cells ∧ S.R w x.cells x.d x.fp := fun k => by
      obtain ⟨es, hE, hR⟩ := he k.1 k.2
      exact ⟨⟨es, M[k.1], fps k.1⟩, rfl, rfl, hE, hR⟩
    let X : List (Elem α) := List.ofFn fun k : Fin M.length => (key k).choose
    have hXl : X.length = M.length := by simp [X]
    have hX : ∀ k, (hk : k < X.length) → ∃ hk' : k < M.length, X[k] = (key ⟨k, hk'⟩).choose := fun k hk => ⟨by omega, by simp [X]⟩
    refine ⟨X, _, cap, ?_, hXl, rfl, by omega, fun x hx => ?_, fun _ => ⟨b, off, rfl, hb, fun k hk => ?_⟩⟩
    · apply List.ext_getElem
      · simp [hXl]
      · intro k h1 h2
        rw [List.getElem_map]
        obtain ⟨hk', e⟩ := hX k (by simpa using h1)
        rw [e]
        exact (key ⟨k, hk'⟩).choose_spec.1
    · obtain ⟨k, hk, rfl⟩ := List.getElem_of_mem hx
      obtain ⟨hk', e⟩ := hX k hk
      obtain ⟨s1, s2, s3, s4⟩ := (key ⟨k, hk'⟩).choose_spec
      rw [e]
      refine ⟨s3.1, s4, fun c hc => ?_⟩
      rw [s2] at hc
      rw [hfp]
      exact List.mem_cons_of_mem _ (List.mem_flatMap.2 ⟨k, List.mem_range.2 hk', hc⟩)
    · obtain ⟨hk', e⟩ := hX k hk
      rw [e]
      exact (key ⟨k, hk'⟩).choose_spec.2.2.1
  · have hM : M = [] := List.length_eq_zero_iff.1 (by omega)
    subst hM
    exact ⟨[], a, cap, rfl, rfl, rfl, by unfold maxLen; simp, by simp, fun h => absurd h (by simp)⟩

/-- append of elements that stand somewhere. -/
theorem wp_append_rowG {α : Type} {S : Shape α} {P : Program} {t e : TypeId} {z : Value} {bytes : Nat} (ti : TI P t e z S.m bytes) (hzs : z.cells.size = S.m) (h0 : 0 < S.m) (w : World) {L X : List (Elem α)} {ops : Array Oper} {rest : List Oper} {o : Oper} {a : Act} {Q : Exit → Act → World → Prop}
    (hg : o.guard = none) (s y : Operand) (ho : o.op = .call { callee := .builtin .append, args := #[s, y], argTypes := #[t, t] })
    (base : Nat) (v : Value) (hs : a.eval s = v) (hown : RowG S base e v L w) (g off m c : Nat) (hy : a.eval y = .slice (some ⟨g, off, none⟩) m c) (hm : X.length = m)
    (hX : ∀ x ∈ X, x.cells.length = S.m ∧ S.R w x.cells x.d x.fp ∧ ∀ b ∈ x.fp, b < base) (h1 : ∀ x ∈ X, ∀ u ∈ x.cells, u.oneCell' = true) (hcell : ∀ j u, (X.flatMap (·.cells))[j]? = some u → w.cell? ⟨g, off + j, none⟩ = some u)
    (h63 : L.length + m ≤ maxLen) (hbytes : (L.length + m) * bytes ≤ 140737488355328) (hbase : base ≤ w.heap.size)
    (h : ∀ v' w', RowG S base e v' (L ++ X) w' → w.grownBy w' v.ownBlock → wpList P ops Q rest (a.put o.dst v') w') : wpList P ops Q (o :: rest) a w := by
  obtain ⟨i, hi, hz0, hz1, hz2⟩ := info_parts ti.2
  subst hm
  refine wpList_append_own _ hg s y t ho base e i z S.m bytes ti.1 hi hz0 hz1 hz2 hzs h0 v L.length _ hs hown.row ⟨g, off, none⟩ X.length c (X.flatMap (·.cells)) hy (flatMap_len (f := Elem.cells) fun x hx => (hX x hx).1) ?_ ?_ h63 hbytes hbase fun v' w' r1 r2 _ => h v' w' ?_ r2
  · intro j u hj
    rw [Addr.add_lit]
    exact hcell j u hj
  · intro u hu
    obtain ⟨x, hx, hu⟩ := List.mem_flatMap.1 hu
    exact h1 x hx u hu
  · refine hown.appended ?_ r2 hX
    rw [List.length_append, List.flatMap_append]
    exact r1
theorem run_append_empty {P : Program} {w : World} (base : Nat) (t ty e : TypeId) (i : TypeInfo) (size c : Nat) (ht : P.underlying t = some (.slice e)) (hi : P.info? e = some i)
    (v : Value) (n : Nat) (xs : List Value) (hown : w.ownsRow base e size v n xs) : (Builtin.append_ #[t, t] ty #[v, .slice none 0 c]).run P w = .ok v w := by
  rcases hown.2 with ⟨rfl, rfl⟩ | ⟨g, cap, cur, rfl, _, _, hnc, _⟩
  · simp [Builtin.append_, run_underlying ht, sizeOf, typeInfo, hi, Builtin.lenOf, Builtin.firstCells]
  · simp [Builtin.append_, run_underlying ht, sizeOf, typeInfo, hi, Builtin.lenOf, Builtin.firstCells, hnc, storeCells]
/-- append(s, row...), the row any that can be read, of blocks before the own row's. -/
theorem wp_append_anyG {α : Type} {S : Shape α} {P : Program} {t e : TypeId} {z : Value} {bytes : Nat} (ti : TI P t e z S.m bytes) (hzs : z.cells.size = S.m) (h0 : 0 < S.m) (hone : ∀ w cs x fp, S.R w cs x fp → ∀ u ∈ cs, u.oneCell' = true) (w : World) {L : List (Elem α)} {ops : Array Oper} {rest : List Oper} {o : Oper} {a : Act} {Q : Exit → Act → World → Prop}
    (hg : o.guard = none) (s y : Operand) (ho : o.op = .call { callee := .builtin .append, args := #[s, y], argTypes := #[t, t] })
    (base : Nat) (v u : Value) (M : List α) (fp : List Nat) (hs : a.eval s = v) (hown : RowG S base e v L w) (hy : a.eval y = u) (HM : (sSlice S).R w [u] M fp) (hfp : ∀ b ∈ fp, b < base)
    (h63 : L.length + M.length ≤ maxLen) (hbytes : (L.length + M.length) * bytes ≤ 140737488355328) (hbase : base ≤ w.heap.size)
    (h : ∀ v' X w', X.map (·.d) = M → (∀ x ∈ X, ∀ b ∈ x.fp, b ∈ fp) → RowG S base e v' (L ++ X) w' → w.grownBy w' v.ownBlock → wpList P ops Q rest (a.put o.dst v') w') : wpList P ops Q (o :: rest) a w := by
  obtain ⟨X, ad, cap, hXM, hXl, rfl, hmm, hX, hat⟩ := elems_of HM
  rw [← hXl] at h63 hbytes
  by_cases hM : 0 < M.length
  · obtain ⟨b, off, rfl, hb, hE⟩ := hat hM
    refine wp_append_rowG ti hzs h0 w (X := X) hg s y ho base v hs hown b off M.length cap hy hXl (fun x hx => ⟨(hX x hx).1, (hX x hx).2.1, fun c hc => hfp c ((hX x hx).2.2 c hc)⟩) (fun x hx => hone _ _ _ _ (hX x hx).2.1) ?_ (by rw [← hXl]; exact h63) (by rw [← hXl]; exact hbytes) hbase fun v' w' r1 r2 => h v' X w' hXM (fun x hx => (hX x hx).2.2) r1 r2
    intro j u hj
    have hjl : j < X.length * S.m := by
      have := (List.getElem?_eq_some_iff.1 hj).1
      rwa [flatMap_len (f := Elem.cells) fun x hx => (hX x hx).1] at this
    have hk : j / S.m < X.length := Nat.div_lt_of_lt_mul (by rw [Nat.mul_comm]; exact hjl)
    have hr : j % S.m < S.m := Nat.mod_lt _ h0
    have hj2 : j / S.m * S.m + j % S.m = j := Nat.div_add_mod' _ _
    rw [← hj2, flatMap_at (f := Elem.cells) (fun x hx => (hX x hx).1) hk hr] at hj
    have := (hE (j / S.m) hk).2 (j % S.m) hr
    rw [Nat.add_assoc, hj2] at this
    rw [this]
    exact hj
  · have hX0 : X = [] := List.length_eq_zero_iff.1 (by omega)
    have hM0 : M.length = 0 := by omega
    subst hX0
    obtain ⟨i, hi, hz0, hz1, hz2⟩ := info_parts ti.2
    have hdone : wpList P ops Q rest (a.put o.dst v) w := h v [] w (by simpa using hXM) (by simp) (by simpa using hown) ⟨rfl, rfl, rfl, Nat.le_refl _, fun _ _ _ => rfl⟩
    rw [hM0] at hy
    cases ad with
    | none =>
      have hrun := run_append_empty (P := P) (w := w) base _ o.type _ i S.m cap ti.1 hi v L.length _ hown.row
      refine wpList_plain hg fun K hK' => ?_
      unfold Oper.wp
      simp [execOp, ho, resolve, invoke, builtin, hs, hy, hrun, Result.andThen]
      exact hK' _ _ hdone
    | some ad =>
      refine wpList_append_own _ hg s y t ho base e i z S.m bytes ti.1 hi hz0 hz1 hz2 hzs h0 v L.length _ hs hown.row ad 0 cap [] hy (by simp) (by simp) (by simp) (by omega) (by simpa using hbytes) hbase fun v' w' r1 r2 _ => h v' [] w' (by simpa using hXM) (by simp) ?_ r2
      exact hown.appended (X := []) (by have h1' := r1; simp only [Nat.add_zero, List.append_nil] at h1' ⊢; exact h1') r2 (by simp)

end Go.Proofs.Ytbkmapaieillmaa
