/- TokenValid of the program. -/
import Derived.Test.YtigbaeokccknaaaTok4
import Derived.Test.YtigbaeokccknaaaTok5
import Derived.Test.YtigbaeokccknaaaRecK
import Derived.Laws.Cover1
import Derived.Outline
namespace Go.Proofs.Ytigbaeokccknaaa
open Go.RowKit

/-- One token, opened: the cells of its row. -/
theorem open_one {w : World} {v : Value} {t : Tok} {fp : List Nat} (H : (sSlice sTok).R w [v] [t] fp) :
    ∃ b off cap h, v = .slice (some ⟨b, off, none⟩) 1 cap ∧ cap ≤ maxLen ∧ 1 ≤ cap ∧ b < w.heap.size ∧ w.cell? ⟨b, off, none⟩ = some (.int .i64 t.kind) ∧ w.cell? ⟨b, off + 1, none⟩ = some (.string t.text) ∧ w.cell? ⟨b, off + 2, none⟩ = some (.bool t.spaced) ∧ w.cell? ⟨b, off + 3, none⟩ = some h ∧ okInt t.kind ∧ okStr t.text := by
  obtain ⟨a, cap, rfl, hc, hm, h⟩ := open_rows H
  obtain ⟨b, off, fps, rfl, hb, _, he⟩ := h (by simp)
  obtain ⟨es, ⟨h1, h2⟩, hh, h3, h4, h5, h6⟩ := he 0 (by simp)
  subst h3
  have g := fun j (hj : j < 4) => h2 j hj
  refine ⟨b, off, cap, hh, rfl, hm, by simpa using hc, hb, ?_, ?_, ?_, ?_, h4, h5⟩
  · simpa using g 0 (by omega)
  · simpa [Nat.add_assoc] using g 1 (by omega)
  · simpa [Nat.add_assoc] using g 2 (by omega)
  · simpa [Nat.add_assoc] using g 3 (by omega)

/-- What a question leaves: an answer; nothing that was there has turned. -/
def Says (b : Bool) (w : World) (e : Ending) (w' : World) : Prop := e = .returned (.bool b) ∧ Below w.heap.size w w'

set_option maxHeartbeats 1000000 in
theorem impl_isOneToken (x : ByteArray) (k : Int) (w : World) (hs : x.size ≤ maxLen) :
    Calls Try.prog 34 #[.string x, .int .i64 k] w (Says (oneTok x k) w) := by
  have HT : Hid (∀ W, Calls Try.prog 16 #[.string x] W (TokMade (tokRes x) W)) := fun W => impl_TokensOf x W hs
  go_enter Try.func34, Try.ntmps34
  rcases one_ways x k with ⟨hr, HF⟩ | ⟨l, hr, hl, HF⟩ | ⟨t, hr, hk, HF⟩ | ⟨t, hr, hk, hx, HF⟩ | ⟨t, hr, hk, hx, _, HF⟩
  · rw [hr] at HT
    clear hr
    go_wp2_with (go_at_call 16; refine (HT.out _).mono ?_; rintro e w' ⟨v, fp, rfl, hR, hO, hB⟩)
    go_ret
    exact ⟨ret_bool HF.out.symm, hB⟩
  · rw [hr] at HT
    have hl' : ((l.length : Int) != 1) = true := by simp; omega
    clear hr hl
    go_wp2_with (go_at_call 16; refine (HT.out _).mono ?_; rintro e w' ⟨v, fp, rfl, hR, hO, hB⟩; obtain ⟨a, cap, rfl, _, _, _⟩ := open_rows hR)
    go_ret
    exact ⟨ret_bool HF.out.symm, hB⟩
  · rw [hr] at HT
    have hk' : (t.kind == k) = false := by simp [hk]
    clear hr hk
    go_wp2_with (go_at_call 16; refine (HT.out _).mono ?_; rintro e w' ⟨v, fp, rfl, hR, hO, hB⟩; obtain ⟨b, off, cap, h, rfl, hc1, hc2, hb, h0, h1, h2, h3, _, _⟩ := open_one hR)
    go_ret
    exact ⟨ret_bool HF.out.symm, hB⟩
  · rw [hr] at HT
    have hk' : (t.kind == k) = true := by simp [hk]
    have hx' : (t.text.toList == x.toList) = false := bytes_bne hx
    clear hr hk hx
    go_wp2_with (go_at_call 16; refine (HT.out _).mono ?_; rintro e w' ⟨v, fp, rfl, hR, hO, hB⟩; obtain ⟨b, off, cap, h, rfl, hc1, hc2, hb, h0, h1, h2, h3, _, _⟩ := open_one hR)
    go_ret
    exact ⟨ret_bool HF.out.symm, hB⟩
  · rw [hr] at HT
    have hk' : (t.kind == k) = true := by simp [hk]
    have hx' : (t.text.toList == x.toList) = true := bytes_beq hx
    clear hr hk hx
    go_wp2_with (go_at_call 16; refine (HT.out _).mono ?_; rintro e w' ⟨v, fp, rfl, hR, hO, hB⟩; obtain ⟨b, off, cap, h, rfl, hc1, hc2, hb, h0, h1, h2, h3, _, _⟩ := open_one hR)
    go_ret
    exact ⟨ret_bool HF.out.symm, hB⟩

set_option maxHeartbeats 2000000 in
theorem impl_hiddenValid (v : Value) (l : List ByteArray) (fp : List Nat) (w : World) (H : (sSlice sStr).R w [v] l fp) :
    Calls Try.prog 93 #[v] w (Says (hidOk l) w) := by
  obtain ⟨a, cap, rfl, hc, hm, hcell, hsz⟩ := open_strs H
  unfold maxLen at hm
  by_cases hl : 60 < l.length
  · have HF := Lib.hid (hidOk_long hl)
    go_enter Try.func93, Try.ntmps93
    go_wp2
    go_ret
    exact ⟨ret_bool HF.out.symm, Below.refl _ _⟩
  · go_enter Try.func93, Try.ntmps93
    go_wp2
    go_loopw [10] (fun i wr => ∃ k : Nat, k ≤ l.length ∧ i = .int .i64 k ∧ HidUpto l k ∧ Below w.heap.size w wr) (fun i _ => l.length - (intOf i).toNat)
    case atStart => exact ⟨0, by omega, rfl, HidUpto.zero _, Below.refl _ _⟩
    case round =>
      obtain ⟨k, hk, rfl, hall, hbel⟩ := hrel
      by_cases hlt : k < l.length
      · obtain ⟨b, off, rfl, hb, _, hc2⟩ := hcell (by omega)
        have hck := (hbel.cell (p := ⟨b, off + k, none⟩) hb).trans (hc2 k hlt)
        have hsk := hsz k hlt
        have hbr : b < wr.heap.size := Nat.lt_of_lt_of_le hb hbel.size
        have HC : Hid (∀ W, Calls Try.prog 34 #[.string l[k], .int .i64 1] W (Says (oneTok l[k] 1) W)) := fun W => impl_isOneToken l[k] 1 W hsk
        rcases hid_ways hlt with ⟨h1, HF⟩ | ⟨h1, h0, HN⟩ | ⟨hp, h1, h2, HF⟩ | ⟨hp, h1, h2, HN⟩
        · rw [h1] at HC
          have HG := Lib.hid (hidOk_no hlt HF.out)
          clear h1 hc2 hall
          go_wp2_with (go_at_call 34; refine (HC.out _).mono ?_; rintro e w1 ⟨rfl, hb1⟩)
          go_ret
          exact ⟨ret_bool HG.out.symm, hbel.trans (hb1.mono hbel.size)⟩
        · rw [h1] at HC
          have HG := Lib.hid (hall.succ HN.out)
          have h0' : ¬ (0 : Int) < (k : Int) := by omega
          clear h1 h0 hc2 hall
          go_wp2_with (go_at_call 34; refine (HC.out _).mono ?_; rintro e w1 ⟨rfl, hb1⟩)
          go_roundw
          case rel => exact ⟨k + 1, by omega, by go_num, HG.out, hbel.trans (hb1.mono hbel.size)⟩
          case measure => simp [intOf]; omega
        · rw [h1] at HC
          have HG := Lib.hid (hidOk_no hlt HF.out)
          have hcp := (hbel.cell (p := ⟨b, off + (k - 1), none⟩) hb).trans (hc2 (k - 1) (by omega))
          have h6 : ((k : Int) - 1).toNat = k - 1 := by omega
          have h0' : (0 : Int) < (k : Int) := by omega
          have h2' : Op.bytesLess (l[k - 1]'(by omega)).toList l[k].toList = false := h2
          clear h1 h2 hc2 hall
          go_wp2_with (go_at_call 34; refine (HC.out _).mono ?_; rintro e w1 ⟨rfl, hb1⟩; have hcp1 := (hb1.cell (p := ⟨b, off + (k - 1), none⟩) hbr).trans hcp)
          go_ret
          exact ⟨ret_bool HG.out.symm, hbel.trans (hb1.mono hbel.size)⟩
        · rw [h1] at HC
          have HG := Lib.hid (hall.succ HN.out)
          have hcp := (hbel.cell (p := ⟨b, off + (k - 1), none⟩) hb).trans (hc2 (k - 1) (by omega))
          have h6 : ((k : Int) - 1).toNat = k - 1 := by omega
          have h0' : (0 : Int) < (k : Int) := by omega
          have h2' : Op.bytesLess (l[k - 1]'(by omega)).toList l[k].toList = true := h2
          clear h1 h2 hc2 hall
          go_wp2_with (go_at_call 34; refine (HC.out _).mono ?_; rintro e w1 ⟨rfl, hb1⟩; have hcp1 := (hb1.cell (p := ⟨b, off + (k - 1), none⟩) hbr).trans hcp)
          go_roundw
          case rel => exact ⟨k + 1, by omega, by go_num, HG.out, hbel.trans (hb1.mono hbel.size)⟩
          case measure => simp [intOf]; omega
      · have HG := Lib.hid (hidOk_yes hall (by omega) (by omega))
        clear hall
        go_wp2
        go_ret
        exact ⟨ret_bool HG.out.symm, hbel⟩

/-- A token as a value. -/
def tokV (t : Tok) (h : Value) : Value := .agg #[.int .i64 t.kind, .string t.text, .bool t.spaced, h]


set_option maxHeartbeats 1000000 in
theorem impl_TokenValid_a (t : Tok) (h : Value) (fp : List Nat) (w : World) (ht : okStr t.text) (H : (sSlice sStr).R w [h] t.hidden fp) :
    Calls Try.prog 80 #[.agg #[.int .i64 t.kind, .string t.text, .bool t.spaced, h]] w (Says (tokOk t) w) := by
  have HF : Hid (tokOk t = (oneTok t.text t.kind && hidOk t.hidden)) := rfl
  have HC : Hid (∀ W, Calls Try.prog 34 #[.string t.text, .int .i64 t.kind] W (Says (oneTok t.text t.kind) W)) := fun W => impl_isOneToken t.text t.kind W ht
  have HD : Hid (∀ W, Below w.heap.size w W → Calls Try.prog 93 #[h] W (Says (hidOk t.hidden) W)) := fun W hb => impl_hiddenValid h t.hidden fp W ((sSlice sStr).below H hb)
  go_enter Try.func80, Try.ntmps80
  have hb0 := alloc_below' w (.cells #[.int .i64 t.kind, .string t.text, .bool t.spaced, h] 60)
  cases h1 : oneTok t.text t.kind
  · rw [h1] at HC HF
    clear h1
    go_wp2_with (go_at_call 34; refine (HC.out _).mono ?_; rintro e w1 ⟨rfl, hb1⟩)
    go_ret
    exact ⟨ret_bool (by rw [HF.out]; rfl), hb0.trans (hb1.mono hb0.size)⟩
  · rw [h1] at HC HF
    clear h1
    go_wp2_with (first
      | (go_at_call 34; refine (HC.out _).mono ?_; rintro e w1 ⟨rfl, hb1⟩; have hcd := (hb1.cell (p := ⟨w.heap.size, 3, none⟩) (by simp)))
      | (go_at_call 93; refine (HD.out _ (hb0.trans (hb1.mono hb0.size))).mono ?_; rintro e w2 ⟨rfl, hb2⟩))
    go_ret
    exact ⟨ret_bool (by rw [HF.out]; rfl), hb0.trans ((hb1.trans (hb2.mono hb1.size)).mono hb0.size)⟩

theorem impl_TokenValid (cs : List Value) (x : Tok) (fp : List Nat) (w : World) (H : sTok.R w cs x fp) : Calls Try.prog 80 #[.agg cs.toArray] w (Says (tokOk x) w) := by
  obtain ⟨h, rfl, _, hok, K⟩ := H
  exact impl_TokenValid_a x h fp w hok K

end Go.Proofs.Ytigbaeokccknaaa
