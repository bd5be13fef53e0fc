/- Texts that the proof of U stands on, in one file. -/
import Derived.Test.YtdnjpjiepnhhhabZU6
import Derived.Lib.Bytealg
set_option linter.unusedVariables false
set_option linter.unusedSimpArgs false
/- Names of tables are in order: no program. -/
namespace Go.Proofs.Ytdnjpjiepnhhhab
open Go.RowKit

theorem cmp_less : ∀ x y : List UInt8, decide (Lib.compareBytes x y < 0) = Op.bytesLess x y
  | [], [] => by simp [Lib.compareBytes, Op.bytesLess]
  | [], _ :: _ => by simp [Lib.compareBytes, Op.bytesLess]
  | _ :: _, [] => by simp [Lib.compareBytes, Op.bytesLess]
  | a :: x, b :: y => by
    have ih := cmp_less x y
    unfold Lib.compareBytes Op.bytesLess
    by_cases h1 : a < b
    · simp [h1]
    · by_cases h2 : b < a
      · have h3 : (a == b) = false := by
          simp only [beq_eq_false_iff_ne, ne_eq]
          intro e; subst e; exact absurd h2 h1
        simp [h1, h2, h3]
      · have h3 : a = b := UInt8.le_antisymm (UInt8.not_lt.1 h2) (UInt8.not_lt.1 h1)
        subst h3
        simp [h1, ih]
theorem cmp_same : ∀ x y : List UInt8, decide (Lib.compareBytes x y = 0) = (x == y)
  | [], [] => by simp [Lib.compareBytes]
  | [], _ :: _ => by simp [Lib.compareBytes]
  | _ :: _, [] => by simp [Lib.compareBytes]
  | a :: x, b :: y => by
    have ih := cmp_same x y
    unfold Lib.compareBytes
    by_cases h1 : a < b
    · have h3 : ¬ a = b := by intro e; subst e; exact absurd h1 (UInt8.lt_irrefl _)
      simp [h1, h3]
    · by_cases h2 : b < a
      · have h3 : ¬ a = b := by intro e; subst e; exact absurd h2 h1
        simp [h1, h2, h3]
      · have h3 : a = b := UInt8.le_antisymm (UInt8.not_lt.1 h2) (UInt8.not_lt.1 h1)
        subst h3
        simp [h1, ih]
theorem bytesLess_trans : ∀ x y z : List UInt8, Op.bytesLess x y = true → Op.bytesLess y z = true → Op.bytesLess x z = true
  | _, [], _, h, _ => by simp [Op.bytesLess] at h
  | _, _ :: _, [], _, h => by simp [Op.bytesLess] at h
  | [], _ :: _, _ :: _, _, _ => by simp [Op.bytesLess]
  | a :: x, b :: y, c :: z, h1, h2 => by
    have ih := bytesLess_trans x y z
    simp only [Op.bytesLess, Bool.or_eq_true, decide_eq_true_eq, Bool.and_eq_true, beq_iff_eq] at h1 h2 ⊢
    rcases h1 with h1 | ⟨rfl, h1⟩
    · rcases h2 with h2 | ⟨rfl, h2⟩
      · exact .inl (UInt8.lt_trans h1 h2)
      · exact .inl h1
    · rcases h2 with h2 | ⟨rfl, h2⟩
      · exact .inl h2
      · exact .inr ⟨rfl, ih h1 h2⟩
theorem sLess_trans {a b c : ByteArray} (h1 : sLess a b = true) (h2 : sLess b c = true) : sLess a c = true := bytesLess_trans _ _ _ h1 h2
theorem bytesLess_irrefl : ∀ x : List UInt8, Op.bytesLess x x = false
  | [] => rfl
  | a :: x => by simp [Op.bytesLess, bytesLess_irrefl x, UInt8.lt_irrefl]
theorem sLess_irrefl (a : ByteArray) : sLess a a = false := bytesLess_irrefl _

/-- The names of a valid table ascend. -/
theorem tab_asc {l : List DMacro} (h : tabOk l = true) : ∀ d i : Nat, (hj : i + d + 1 < l.length) → sLess (l[i]'(by omega)).name (l[i + d + 1]'hj).name = true
  | 0, i, hj => by
    have := (tabOk_at h).2 (i + 1) (by omega)
    unfold tabAt at this
    rw [dif_pos (by omega)] at this
    simpa using (Bool.and_eq_true_iff.1 this).2
  | d + 1, i, hj => by
    have h1 := tab_asc h d i (by omega)
    have h2 := tab_asc h 0 (i + d + 1) (by omega)
    exact sLess_trans h1 (by simpa [Nat.add_assoc] using h2)
theorem tab_lt {l : List DMacro} (h : tabOk l = true) {i j : Nat} (hij : i < j) (hj : j < l.length) : sLess (l[i]'(by omega)).name l[j].name = true := by
  have := tab_asc h (j - i - 1) i (by omega)
  simpa [show i + (j - i - 1) + 1 = j by omega] using this
/-- How many names are less. -/
def lowFrom (l : List DMacro) (nm : ByteArray) (k : Nat) : Nat := if h : k < l.length then (if sLess l[k].name nm = true then lowFrom l nm (k + 1) else k) else k
termination_by l.length - k
def lowAt (l : List DMacro) (nm : ByteArray) : Nat := lowFrom l nm 0
theorem low_go {l : List DMacro} {nm : ByteArray} {k : Nat} (h : k < l.length) (h1 : sLess l[k].name nm = true) : lowFrom l nm k = lowFrom l nm (k + 1) := by rw [lowFrom, dif_pos h, if_pos h1]
theorem low_stop {l : List DMacro} {nm : ByteArray} {k : Nat} (h : k < l.length) (h1 : sLess l[k].name nm = false) : lowFrom l nm k = k := by rw [lowFrom, dif_pos h, if_neg (by simp [h1])]
theorem low_end {l : List DMacro} {nm : ByteArray} {k : Nat} (h : l.length ≤ k) : lowFrom l nm k = k := by rw [lowFrom, dif_neg (by omega)]
theorem lowFrom_ge (l : List DMacro) (nm : ByteArray) (k : Nat) : k ≤ lowFrom l nm k := by
  induction k using lowFrom.induct (l := l) (nm := nm) with
  | case1 k h h1 ih => rw [low_go h h1]; omega
  | case2 k h h1 => rw [low_stop h (by simpa using h1)]; omega
  | case3 k h => rw [low_end (by omega)]; omega
theorem lowFrom_le (l : List DMacro) (nm : ByteArray) (k : Nat) (hk : k ≤ l.length) : lowFrom l nm k ≤ l.length := by
  induction k using lowFrom.induct (l := l) (nm := nm) with
  | case1 k h h1 ih => rw [low_go h h1]; exact ih (by omega)
  | case2 k h h1 => rw [low_stop h (by simpa using h1)]; omega
  | case3 k h => rw [low_end (by omega)]; omega
theorem low_le (l : List DMacro) (nm : ByteArray) : lowAt l nm ≤ l.length := lowFrom_le l nm 0 (by omega)
theorem lowFrom_in (l : List DMacro) (nm : ByteArray) (k : Nat) : ∀ j, (hj : j < l.length) → k ≤ j → j < lowFrom l nm k → sLess l[j].name nm = true := by
  induction k using lowFrom.induct (l := l) (nm := nm) with
  | case1 k h h1 ih =>
    intro j hj hk hl
    rw [low_go h h1] at hl
    by_cases e : j = k
    · subst e; exact h1
    · exact ih j hj (by omega) hl
  | case2 k h h1 => intro j hj hk hl; rw [low_stop h (by simpa using h1)] at hl; omega
  | case3 k h => intro j hj hk hl; omega
theorem lowFrom_at (l : List DMacro) (nm : ByteArray) (k : Nat) : ∀ h : lowFrom l nm k < l.length, sLess l[lowFrom l nm k].name nm = false := by
  induction k using lowFrom.induct (l := l) (nm := nm) with
  | case1 k h h1 ih => rw [low_go h h1]; exact ih
  | case2 k h h1 => rw [low_stop h (by simpa using h1)]; intro _; simpa using h1
  | case3 k h => rw [low_end (by omega)]; intro h2; omega
/-- In a valid table a name is less exactly before that place. -/
theorem low_iff {l : List DMacro} (h : tabOk l = true) (nm : ByteArray) {j : Nat} (hj : j < l.length) : sLess l[j].name nm = decide (j < lowAt l nm) := by
  by_cases hl : j < lowAt l nm
  · rw [decide_eq_true hl]
    exact lowFrom_in l nm 0 j hj (by omega) hl
  · rw [decide_eq_false hl]
    have hlow : lowAt l nm < l.length := by omega
    have h1 := lowFrom_at l nm 0 hlow
    by_cases e : lowAt l nm = j
    · subst e; exact h1
    · have h2 := tab_lt h (show lowAt l nm < j by omega) hj
      cases h3 : sLess l[j].name nm
      · rfl
      · exact absurd (sLess_trans h2 h3) (by rw [show sLess (l[lowAt l nm]'hlow).name nm = false from h1]; simp)
/-- The place of a name, or -1. -/
def plFrom (l : List DMacro) (nm : ByteArray) (k : Nat) : Int := if h : k < l.length then (if (l[k].name.toList == nm.toList) = true then (k : Int) else plFrom l nm (k + 1)) else -1
termination_by l.length - k
def place (l : List DMacro) (nm : ByteArray) : Int := plFrom l nm 0
theorem pl_end {l : List DMacro} {nm : ByteArray} {k : Nat} (h : l.length ≤ k) : plFrom l nm k = -1 := by rw [plFrom, dif_neg (by omega)]
theorem pl_hit {l : List DMacro} {nm : ByteArray} {k : Nat} (h : k < l.length) (h1 : (l[k].name.toList == nm.toList) = true) : plFrom l nm k = k := by rw [plFrom, dif_pos h, if_pos h1]
theorem pl_miss {l : List DMacro} {nm : ByteArray} {k : Nat} (h : k < l.length) (h1 : (l[k].name.toList == nm.toList) = false) : plFrom l nm k = plFrom l nm (k + 1) := by rw [plFrom, dif_pos h, if_neg (by simp [h1])]
theorem bytes_same {a b : ByteArray} (h : (a.toList == b.toList) = true) : a = b := by
  by_cases e : a = b
  · exact e
  · exact absurd h (by rw [bytes_bne e]; simp)
/-- In a valid table the place of a name is where the names cease to be less, if it is there. -/
theorem pl_low {l : List DMacro} (h : tabOk l = true) (nm : ByteArray) (k : Nat) (hk : k ≤ lowAt l nm) :
    plFrom l nm k = if hl : lowAt l nm < l.length then (if (l[lowAt l nm].name.toList == nm.toList) = true then (lowAt l nm : Int) else -1) else -1 := by
  induction k using plFrom.induct (l := l) (nm := nm) with
  | case1 k hkl h1 =>
    have hs : sLess l[k].name nm = false := by rw [bytes_same h1]; exact sLess_irrefl _
    rw [low_iff h nm hkl, decide_eq_false_iff_not] at hs
    obtain rfl : k = lowAt l nm := by omega
    rw [pl_hit hkl h1, dif_pos hkl, if_pos h1]
  | case2 k hkl h1 ih =>
    rw [pl_miss hkl (by simpa using h1)]
    by_cases e : k = lowAt l nm
    · subst e
      rw [dif_pos hkl, if_neg h1]
      -- behind it all names are greater
      have : ∀ k', lowAt l nm < k' → plFrom l nm k' = -1 := by
        intro k' hk'
        induction k' using plFrom.induct (l := l) (nm := nm) with
        | case1 k' hkl' h1' =>
          have h2 := tab_lt h hk' hkl'
          rw [bytes_same h1', low_iff h nm hkl, decide_eq_true_eq] at h2
          omega
        | case2 k' hkl' h1' ih' => rw [pl_miss hkl' (by simpa using h1')]; exact ih' (by omega)
        | case3 k' hkl' => rw [pl_end (by omega)]
      exact this _ (by omega)
    · exact ih (by omega)
  | case3 k hkl =>
    rw [pl_end (by omega)]
    rw [dif_neg (by have := low_le l nm; omega)]
/-- A name is in a table. -/
def isIn (l : List DMacro) (nm : ByteArray) : Bool := if h : lowAt l nm < l.length then l[lowAt l nm].name.toList == nm.toList else false
theorem place_in {l : List DMacro} (h : tabOk l = true) (nm : ByteArray) : place l nm = if isIn l nm = true then (lowAt l nm : Int) else -1 := by
  unfold place isIn
  rw [pl_low h nm 0 (by omega)]
  by_cases hl : lowAt l nm < l.length
  · rw [dif_pos hl, dif_pos hl]
  · rw [dif_neg hl, dif_neg hl]; rfl
def defd (l : List DMacro) (nm : ByteArray) : Bool := tabOk l && isIn l nm

end Go.Proofs.Ytdnjpjiepnhhhab

/- Places of names in tables, and IsDefined, of both. -/
namespace Go.Proofs.Ytdnjpjiepnhhhab
open Go.RowKit

def cmpI (a b : ByteArray) : Int := Lib.compareBytes a.data.toList b.data.toList
theorem cmpI_less (a b : ByteArray) : decide (cmpI a b < 0) = sLess a b := by
  unfold cmpI sLess
  rw [cmp_less, ByteArray.toList_eq, ByteArray.toList_eq]
theorem cmpI_same (a b : ByteArray) : decide (cmpI a b = 0) = (a.toList == b.toList) := by
  unfold cmpI
  rw [cmp_same, ByteArray.toList_eq, ByteArray.toList_eq]

set_option maxHeartbeats 2000000 in
theorem cmpName (cs : List Value) (x : DMacro) (nm : ByteArray) (fp : List Nat) (w : World) (H : sMacro.R w cs x fp) :
    Calls Try.prog 59 #[.agg cs.toArray, .string nm] w fun e w' => e = .returned (.int .i64 (cmpI x.name nm)) ∧ Below w.heap.size w w' := by
  obtain ⟨h2, h3, p2, p3, rfl, -, K2, K3, rfl⟩ := H
  obtain ⟨a2, ca2, rfl, -⟩ := open_strs K2
  obtain ⟨a3, ca3, rfl, -⟩ := open_rows K3
  clear K2 K3
  have hb := alloc_below' w (.cells #[.string x.name, .bool x.function, .slice a2 x.params.length ca2, .slice a3 x.body.length ca3] 35)
  go_enter Try.func59, Try.ntmps59
  go_wp2_with (go_at_call 60; refine (Try.strings_Compare _ _ _).mono ?_; rintro e w2 ⟨rfl, rfl⟩)
  go_ret
  exact ⟨rfl, hb⟩

set_option maxHeartbeats 4000000 in
theorem lib_Search (v : Value) (l : List DMacro) (nm : ByteArray) (fp : List Nat) (w : World) (ht : tabOk l = true) (H : (sSlice sMacro).R w [v] l fp) :
    Calls Try.prog 58 #[v, .string nm, .func (.func 59) #[] #[]] w fun e w' => e = .returned (.tuple #[.int .i64 (lowAt l nm : Nat), .bool (isIn l nm)]) ∧ Below w.heap.size w w' := by
  obtain ⟨a, cap, rfl, hc, hm, hrow⟩ := open_rows H
  unfold maxLen at hm
  clear H
  have hn10 : l.length ≤ 10 := (tabOk_at ht).1
  have HLE := Lib.hid (low_le l nm)
  have HIFF : Hid (∀ j, (hj : j < l.length) → decide (cmpI l[j].name nm < 0) = decide (j < lowAt l nm)) := fun j hj => by rw [cmpI_less, low_iff ht nm hj]
  have HIN : Hid (∀ h : lowAt l nm < l.length, isIn l nm = decide (cmpI l[lowAt l nm].name nm = 0)) := fun h => by unfold isIn; rw [dif_pos h, cmpI_same]
  have HOUT : Hid (¬ lowAt l nm < l.length → isIn l nm = false) := fun h => by unfold isIn; rw [dif_neg h]
  clear ht
  go_enter Try.func58, Try.ntmps58
  go_wp2
  go_loopw [9, 10] (fun s9 s10 wr => ∃ lo hi : Nat, s9 = .int .i64 lo ∧ s10 = .int .i64 hi ∧ lo ≤ hi ∧ hi ≤ l.length ∧ Hid (lo ≤ lowAt l nm ∧ lowAt l nm ≤ hi) ∧ Below w.heap.size w wr) (fun s9 s10 _ => (intOf s10).toNat - (intOf s9).toNat)
  case atStart => exact ⟨0, l.length, rfl, rfl, by omega, by omega, ⟨by omega, HLE.out⟩, Below.refl _ _⟩
  case round =>
    obtain ⟨lo, hi, rfl, rfl, hlh, hin, HW, hb⟩ := hrel
    by_cases hlt : lo < hi
    · obtain ⟨b1, off1, fps1, rfl, hb1, -, he1⟩ := hrow (by omega)
      obtain ⟨es, hE, hR⟩ := he1 ((lo + hi) / 2) (by omega)
      have HC := Lib.hid (cmpName _ _ nm _ _ (sMacro.below hR hb))
      obtain ⟨h2, h3, p2, p3, rfl, -, -, -, -⟩ := hR
      replace hE := hE.frame (hb.block b1 hb1)
      have c10 : wr.cell? ⟨b1, off1 + (lo + hi) / 2 * 4, none⟩ = some _ := elem_cell0 hE (by decide) rfl
      have c11 : wr.cell? ⟨b1, off1 + (lo + hi) / 2 * 4 + 1, none⟩ = some _ := elem_cell (j := 1) hE (by decide) rfl
      have c12 : wr.cell? ⟨b1, off1 + (lo + hi) / 2 * 4 + 2, none⟩ = some _ := elem_cell (j := 2) hE (by decide) rfl
      have c13 : wr.cell? ⟨b1, off1 + (lo + hi) / 2 * 4 + 3, none⟩ = some _ := elem_cell (j := 3) hE (by decide) rfl
      clear hE he1 hrow
      by_cases hyx : cmpI (l[(lo + hi) / 2]'(by omega)).name nm < 0
      · have HL : Hid ((lo + hi) / 2 + 1 ≤ lowAt l nm ∧ lowAt l nm ≤ hi) := by
          have h1 := HIFF.out ((lo + hi) / 2) (by omega)
          rw [decide_eq_true hyx] at h1
          have h2 := of_decide_eq_true h1.symm
          exact ⟨h2, HW.out.2⟩
        go_wp2_with fail
        refine HC.out.mono ?_
        rintro e w2 ⟨rfl, hb2⟩
        have hb' := hb.trans (hb2.mono hb.size)
        generalize cmpI (l[(lo + hi) / 2]'(by omega)).name nm = c at *
        go_wp2
        go_roundw
        case rel => exact ⟨(lo + hi) / 2 + 1, hi, by first | rfl | rw [show ((lo : Int) + (hi : Int)) / 2 + 1 = (((lo + hi) / 2 + 1 : Nat) : Int) by omega], rfl, by omega, hin, HL, hb'⟩
        case measure => simp [intOf]; omega
      · have HL : Hid (lo ≤ lowAt l nm ∧ lowAt l nm ≤ (lo + hi) / 2) := by
          have h1 := HIFF.out ((lo + hi) / 2) (by omega)
          rw [decide_eq_false hyx] at h1
          have h2 := of_decide_eq_false h1.symm
          exact ⟨HW.out.1, by omega⟩
        go_wp2_with fail
        refine HC.out.mono ?_
        rintro e w2 ⟨rfl, hb2⟩
        have hb' := hb.trans (hb2.mono hb.size)
        generalize cmpI (l[(lo + hi) / 2]'(by omega)).name nm = c at *
        go_wp2
        go_roundw
        case rel => exact ⟨lo, (lo + hi) / 2, rfl, by first | rfl | rw [show ((lo : Int) + (hi : Int)) / 2 = (((lo + hi) / 2 : Nat) : Int) by omega], by omega, by omega, HL, hb'⟩
        case measure => simp [intOf]; omega
    · obtain rfl : hi = lo := by omega
      have hlow : lowAt l nm = hi := by have := HW.out; omega
      by_cases hn : hi < l.length
      · have HD : Hid (isIn l nm = decide (cmpI l[hi].name nm = 0)) := by
          subst hlow
          exact HIN.out hn
        have HA := Lib.hid hlow
        clear hlow HIN HOUT HIFF HW HLE
        obtain ⟨b1, off1, fps1, rfl, hb1, -, he1⟩ := hrow (by omega)
        obtain ⟨es, hE, hR⟩ := he1 (hi) (by omega)
        have HC := Lib.hid (cmpName _ _ nm _ _ (sMacro.below hR hb))
        obtain ⟨h2, h3, p2, p3, rfl, -, -, -, -⟩ := hR
        replace hE := hE.frame (hb.block b1 hb1)
        have c10 : wr.cell? ⟨b1, off1 + hi * 4, none⟩ = some _ := elem_cell0 hE (by decide) rfl
        have c11 : wr.cell? ⟨b1, off1 + hi * 4 + 1, none⟩ = some _ := elem_cell (j := 1) hE (by decide) rfl
        have c12 : wr.cell? ⟨b1, off1 + hi * 4 + 2, none⟩ = some _ := elem_cell (j := 2) hE (by decide) rfl
        have c13 : wr.cell? ⟨b1, off1 + hi * 4 + 3, none⟩ = some _ := elem_cell (j := 3) hE (by decide) rfl
        clear hE he1 hrow
        by_cases hyx : cmpI l[hi].name nm = 0
        · have HF := Lib.hid (HD.out.trans (decide_eq_true hyx))
          rw [hyx] at HC
          clear hyx HD
          go_wp2_with fail
          refine HC.out.mono ?_
          rintro e w2 ⟨rfl, hb2⟩
          go_wp2
          go_ret2
          exact ⟨by rw [HA.out, HF.out]; rfl, hb.trans (hb2.mono hb.size)⟩
        · have HF := Lib.hid (HD.out.trans (decide_eq_false hyx))
          generalize cmpI l[hi].name nm = c at *
          have hc0 : (c == 0) = false := by simpa using hyx
          clear HD
          go_wp2_with fail
          refine HC.out.mono ?_
          rintro e w2 ⟨rfl, hb2⟩
          go_wp2
          go_ret2
          exact ⟨by rw [HA.out, HF.out]; rfl, hb.trans (hb2.mono hb.size)⟩
      · have HF := Lib.hid (HOUT.out (by omega))
        have HA := Lib.hid hlow
        clear hlow HIN HOUT HIFF HW HLE
        go_wp2
        go_ret2
        exact ⟨by rw [HA.out, HF.out]; rfl, hb⟩

theorem impl_placeOf (v : Value) (l : List DMacro) (nm : ByteArray) (fp : List Nat) (w : World) (ht : tabOk l = true) (H : (sSlice sMacro).R w [v] l fp) :
    Calls Try.prog 31 #[v, .string nm] w fun e w' => e = .returned (.tuple #[.int .i64 (lowAt l nm : Nat), .bool (isIn l nm)]) ∧ Below w.heap.size w w' := by
  have HC := Lib.hid (lib_Search v l nm fp w ht H)
  clear H ht
  go_enter Try.func31, Try.ntmps31
  go_wp2_with fail
  refine HC.out.mono ?_
  rintro e w2 ⟨rfl, hb⟩
  go_wp2
  go_ret2
  exact ⟨rfl, hb⟩

set_option maxHeartbeats 4000000 in
theorem spec_l6Place (v : Value) (l : List DMacro) (nm : ByteArray) (fp : List Nat) (w : World) (H : (sSlice sMacro).R w [v] l fp) :
    Calls Try.prog 30 #[v, .string nm] w fun e w' => e = .returned (.int .i64 (place l nm)) ∧ Below w.heap.size w w' := by
  obtain ⟨a, cap, rfl, hc, hm, hrow⟩ := open_rows H
  unfold maxLen at hm
  clear H
  go_enter Try.func30, Try.ntmps30
  go_wp2
  go_loopw [5] (fun i wr => ∃ k : Nat, k ≤ l.length ∧ i = .int .i64 k ∧ Hid (place l nm = plFrom l nm k) ∧ Below w.heap.size w wr) (fun i _ => l.length - (intOf i).toNat)
  case atStart => exact ⟨0, by omega, rfl, rfl, Below.refl _ _⟩
  case round =>
    obtain ⟨k, hk, rfl, HP, hb⟩ := hrel
    by_cases hlt : k < l.length
    · obtain ⟨b1, off1, fps1, rfl, hb1, -, he1⟩ := hrow (by omega)
      obtain ⟨es, hE, hR⟩ := he1 k hlt
      obtain ⟨h2, h3, p2, p3, rfl, -, -, -, -⟩ := hR
      replace hE := hE.frame (hb.block b1 hb1)
      have c10 : wr.cell? ⟨b1, off1 + k * 4, none⟩ = some _ := elem_cell0 hE (by decide) rfl
      clear hE he1 hrow
      cases g : (l[k].name.toList == nm.toList)
      · have HF := Lib.hid (HP.out.trans (pl_miss hlt g))
        clear HP
        go_wp2
        go_roundw
        case rel => exact ⟨k + 1, by omega, by go_num, HF, hb⟩
        case measure => simp [intOf]; omega
      · have HF := Lib.hid (HP.out.trans (pl_hit hlt g))
        clear HP
        go_wp2
        go_ret
        exact ⟨by rw [HF.out]; rfl, hb⟩
    · have HF := Lib.hid (HP.out.trans (pl_end (by omega)))
      clear HP
      go_wp2
      go_ret
      exact ⟨by rw [HF.out]; rfl, hb⟩

theorem spec_IsDefined (v : Value) (l : List DMacro) (nm : ByteArray) (fp : List Nat) (w : World) (H : (sSlice sMacro).R w [v] l fp) :
    Calls Try.prog 15 #[v, .string nm] w (Says (defd l nm) w) := by
  have HT := Lib.hid (spec_TableValid v l fp w H)
  have HP := Lib.hid (fun W (hW : Below w.heap.size w W) => spec_l6Place v l nm fp W ((sSlice sMacro).below H hW))
  clear H
  cases ht : tabOk l
  · have HF : Hid (defd l nm = false) := by show _ = _; unfold defd; rw [ht]; rfl
    rw [ht] at HT
    clear ht HP
    go_enter Try.func15, Try.ntmps15
    go_wp2_with fail
    refine HT.out.mono ?_
    rintro e w2 ⟨rfl, hb⟩
    go_wp2
    go_ret
    exact ⟨ret_bool HF.out.symm, hb⟩
  · have HF : Hid (defd l nm = isIn l nm) := by show _ = _; unfold defd; rw [ht]; rfl
    have HL := Lib.hid (place_in ht nm)
    rw [ht] at HT
    clear ht
    go_enter Try.func15, Try.ntmps15
    go_wp2_with fail
    refine HT.out.mono ?_
    rintro e w2 ⟨rfl, hb⟩
    go_wp2_with fail
    refine (HP.out _ hb).mono ?_
    rintro e w3 ⟨rfl, hb3⟩
    have hbx := hb.trans (hb3.mono hb.size)
    cases hi : isIn l nm
    · have hp : place l nm = -1 := by rw [HL.out, hi]; rfl
      rw [hp]
      rw [hi] at HF
      clear HL hp hi
      go_wp2
      go_ret
      exact ⟨ret_bool HF.out.symm, hbx⟩
    · have hp : place l nm = (lowAt l nm : Nat) := by rw [HL.out, hi]; rfl
      rw [hp]
      rw [hi] at HF
      clear HL hp hi
      have h0 : (0 : Int) ≤ (lowAt l nm : Nat) := by omega
      generalize lowAt l nm = n at *
      go_wp2
      go_ret
      exact ⟨ret_bool HF.out.symm, hbx⟩

theorem impl_IsDefined (v : Value) (l : List DMacro) (nm : ByteArray) (fp : List Nat) (w : World) (H : (sSlice sMacro).R w [v] l fp) :
    Calls Try.prog 16 #[v, .string nm] w (Says (defd l nm) w) := by
  have HT := Lib.hid (impl_TableValid v l fp w H)
  have HP := Lib.hid (fun (ht : tabOk l = true) W (hW : Below w.heap.size w W) => impl_placeOf v l nm fp W ht ((sSlice sMacro).below H hW))
  clear H
  cases ht : tabOk l
  · have HF : Hid (defd l nm = false) := by show _ = _; unfold defd; rw [ht]; rfl
    rw [ht] at HT
    clear ht HP
    go_enter Try.func16, Try.ntmps16
    go_wp2_with fail
    refine HT.out.mono ?_
    rintro e w2 ⟨rfl, hb⟩
    go_wp2
    go_ret
    exact ⟨ret_bool HF.out.symm, hb⟩
  · have HF : Hid (defd l nm = isIn l nm) := by show _ = _; unfold defd; rw [ht]; rfl
    have HP2 := Lib.hid (HP.out ht)
    rw [ht] at HT
    clear ht HP
    go_enter Try.func16, Try.ntmps16
    go_wp2_with fail
    refine HT.out.mono ?_
    rintro e w2 ⟨rfl, hb⟩
    go_wp2_with fail
    refine (HP2.out _ hb).mono ?_
    rintro e w3 ⟨rfl, hb3⟩
    have hbx := hb.trans (hb3.mono hb.size)
    go_wp2
    go_ret
    exact ⟨ret_bool HF.out.symm, hbx⟩

end Go.Proofs.Ytdnjpjiepnhhhab
