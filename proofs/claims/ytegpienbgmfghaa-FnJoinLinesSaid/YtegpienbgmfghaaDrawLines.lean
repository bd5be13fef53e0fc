/- The drawing of lines of a file. -/
import Derived.Test.YtegpienbgmfghaaRegionT
namespace Go.Proofs.Ytegpienbgmfghaa
open Go.RowKit

def source_lits : List ByteArray := [⟨#[35, 100, 101, 102, 105, 110, 101, 32, 97, 32, 49]⟩, ⟨#[35, 100, 101, 102, 105, 110, 101, 32, 98, 32, 97, 32, 43, 32, 50]⟩, ⟨#[35, 100, 101, 102, 105, 110, 101, 32, 102, 40, 120, 41, 32, 120, 32, 43, 32, 120]⟩, ⟨#[35, 117, 110, 100, 101, 102, 32, 97]⟩, ⟨#[35, 105, 102, 32, 97]⟩, ⟨#[35, 105, 102, 100, 101, 102, 32, 97]⟩, ⟨#[35, 105, 102, 110, 100, 101, 102, 32, 98]⟩, ⟨#[35, 101, 108, 105, 102, 32, 98, 32, 61, 61, 32, 51]⟩, ⟨#[35, 101, 108, 115, 101]⟩, ⟨#[35, 101, 110, 100, 105, 102]⟩, ⟨#[35, 101, 110, 100, 105, 102]⟩, ⟨#[35, 105, 110, 99, 108, 117, 100, 101, 32, 34, 111, 110, 101, 34]⟩, ⟨#[35, 105, 110, 99, 108, 117, 100, 101, 32, 34, 116, 119, 111, 34]⟩, ⟨#[35, 101, 114, 114, 111, 114]⟩, ⟨#[97, 32, 98]⟩, ⟨#[102, 40, 97, 41, 32, 47, 47, 32, 99]⟩, ⟨#[120, 32, 47, 42, 32, 99, 32, 42, 47, 32, 121]⟩, ⟨#[]⟩, ⟨#[35, 105, 102, 32, 100, 101, 102, 105, 110, 101, 100, 40, 97, 41, 32, 38, 38, 32, 98, 32, 62, 32, 49]⟩, ⟨#[35, 32, 100, 101, 102, 105, 110, 101, 32, 65, 66, 40, 120, 44, 121, 41, 32, 120, 32, 35, 35, 32, 121]⟩, ⟨#[65, 66, 40, 97, 44, 49, 41]⟩]
theorem source_lits_size : ∀ s ∈ source_lits, s.size ≤ 30 := by decide
def end_lits : List ByteArray := [⟨#[10]⟩, ⟨#[34, 115]⟩, ⟨#[35, 100, 101, 102, 105, 110, 101]⟩, ⟨#[35, 105, 102]⟩]
theorem end_lits_size : ∀ s ∈ end_lits, s.size ≤ 10 := by decide

set_option maxHeartbeats 2000000 in
theorem l20Source {rb p0 m : Nat} {w0 w : World} (h : jRd rb p0 w0 m w) (hp : p0 + m < 1000000) :
    Calls Try.prog 34 #[.pointer (some ⟨rb, 0, none⟩)] w fun e w' => ∃ s : ByteArray, e = .returned (.string s) ∧ s.size ≤ 30 ∧ jRd rb p0 w0 (m + 1) w' ∧ Kept [rb] w w' := by
  have hlt := h.lt
  go_enter Try.func34, Try.ntmps34
  go_wp2_with fail
  refine (pickJ _ (h.made _) hp (by omega) (by omega)).mono ?_
  rintro e w2 ⟨r, rfl, h0, h1, hJ, hK⟩
  obtain ⟨s, hs, hc⟩ := lit_pick source_lits 30 source_lits_size h0 (by show r < 21; omega) hlt hK
  go_wp2
  go_ret
  exact ⟨s, rfl, hs, hJ, (Kept.of_below ((Below.refl _ _).alloc (Nat.le_refl _) _)).trans hK⟩

/-- Texts of at most M bytes. -/
def Brief (M : Nat) (L : List ByteArray) : Prop := ∀ s ∈ L, s.size ≤ M
theorem Brief.snoc {M : Nat} {L : List ByteArray} (h : Brief M L) {s : ByteArray} (hs : s.size ≤ M) : Brief M (L ++ [s]) := by
  intro x hx
  rcases List.mem_append.1 hx with hx | hx
  · exact h x hx
  · have : x = s := by simpa using hx
    subst this; exact hs
theorem own_snoc {w : World} {B n : Nat} {v : Value} {L : List ByteArray} {s : ByteArray} (h : w.ownsRow B 9 1 v (n + 1) (L.map Value.string ++ [.string s])) (hn : L.length = n) :
    w.ownsRow B 9 1 v (L ++ [s]).length ((L ++ [s]).map Value.string) := by
  subst hn; simpa using h

/-- Lines that the call has made. -/
def DrawnLines (B : Nat) (rb p0 m : Nat) (w0 : World) (e : Ending) (w' : World) : Prop :=
  ∃ (v : Value) (L : List ByteArray), e = .returned v ∧ w'.ownsRow B 9 1 v L.length (L.map Value.string) ∧ L.length ≤ 30 ∧ Brief 40 L ∧ jRd rb p0 w0 m w'

set_option maxHeartbeats 8000000 in
theorem l20Lines {rb p : Nat} {w : World} (n : Int) (H : Rd w rb p) (hp : p ≤ 100000) (hn : n ≤ 100) (hn0 : 0 ≤ n) :
    Calls Try.prog 26 #[.pointer (some ⟨rb, 0, none⟩), .int .i64 n] w (DrawnLines w.heap.size rb p 100 w) := by
  have hrb := H.lt
  go_enter Try.func26, Try.ntmps26
  go_wp2_with fail
  refine (pickJ _ ((jRd.begin H).made _) (by omega) (by omega) (by omega)).mono ?_
  rintro e w2 ⟨r, rfl, h0, h1, hJ0, hK0⟩
  have hown0 : w2.ownsRow w.heap.size 9 1 (.slice (some ⟨w.heap.size, 0, none⟩) 0 0) 0 (([] : List ByteArray).map Value.string) := own_kept (World.ownsRow_made w #[] 0 (Nat.le_refl _) (by simp) rfl) hK0 hrb
  go_wp2_with fail
  go_loopw [5, 6, 7, 8] (fun o d i sv wr => ∃ (k : Nat) (L : List ByteArray) (dp : Int), k ≤ 7 ∧ L.length + k ≤ 7 ∧ Brief 40 L ∧ dp ≤ 7 - k ∧ -100 ≤ dp - k ∧ i = .int .i64 k ∧ d = .int .i64 dp ∧ wr.ownsRow w.heap.size 9 1 o L.length (L.map Value.string) ∧ jRd rb p w (1 + 4 * (7 - k)) wr) (fun _ _ i _ _ => (intOf i).toNat)
  case atStart => exact ⟨r.toNat, [], 0, by omega, by simp; omega, (fun s hs => by cases hs), by omega, by omega, by go_num, rfl, hown0, hJ0.le (by omega)⟩
  case round =>
    obtain ⟨k, L, dp, hk, hL, hbr, hd1, hd2, rfl, rfl, hown, hJ⟩ := hrel
    clear hown0 hJ0 hK0
    by_cases hlt : 0 < k
    · have hm : 1 + 4 * (7 - k) ≤ 29 := by omega
      go_wp2_with fail
      refine (l20Source hJ (by omega)).mono ?_
      rintro e w3 ⟨s, rfl, hs, hJ3, hK3⟩
      have hown3 := own_kept hown hK3 hrb
      clear hown hJ hK3
      go_wp2_with (first
        | (go_at_call 27; refine (pickJ _ hJ3 (by omega) (by omega) (by omega)).mono ?_; rintro e w4 ⟨r4, rfl, hr40, hr41, hJ4, hK4⟩; replace hown3 := own_kept hown3 hK4 hrb; replace hJ3 := hJ4; clear hJ4)
        | (at_builtin; refine wp_append_one ti27 rfl _ (.string _) rfl rfl (.tmp 43) (.tmp 45) rfl w.heap.size _ L.length (L.map Value.string) rfl hown3 rfl (by unfold maxLen; omega) (by omega) hJ3.2.size ?_; intro v1 w5 hown5 hg5; replace hJ3 := jRd.grown hJ3 hg5 hrb (fun b hb => (hown3.lt b hb).1)))
      all_goals
        go_roundw
        case rel =>
          first
            | exact ⟨k - 1, L ++ [s], dp, by omega, by simp; omega, hbr.snoc (by omega), by omega, by omega, by go_num, by first | rfl | go_num, own_snoc hown5 rfl, hJ3.le (by omega)⟩
            | exact ⟨k - 1, L ++ [s], dp + 1, by omega, by simp; omega, hbr.snoc (by omega), by omega, by omega, by go_num, by first | rfl | go_num, own_snoc hown5 rfl, hJ3.le (by omega)⟩
            | exact ⟨k - 1, L ++ [s], dp - 1, by omega, by simp; omega, hbr.snoc (by omega), by omega, by omega, by go_num, by first | rfl | go_num, own_snoc hown5 rfl, hJ3.le (by omega)⟩
            | exact ⟨k - 1, L ++ [⟨#[97]⟩], dp, by omega, by simp; omega, hbr.snoc (by decide), by omega, by omega, by go_num, by first | rfl | go_num, own_snoc hown5 rfl, hJ3.le (by omega)⟩
        case measure => simp [intOf]; omega
    · have hm : 1 + 4 * (7 - k) ≤ 29 := by omega
      go_wp2_with fail
      go_loopw [5, 6] (fun o d wr => ∃ (L : List ByteArray) (z : Int) (m : Nat), L.length ≤ 14 ∧ L.length + z ≤ 14 ∧ m ≤ 50 ∧ m + z ≤ 50 ∧ -200 ≤ z ∧ Brief 40 L ∧ d = .int .i64 z ∧ wr.ownsRow w.heap.size 9 1 o L.length (L.map Value.string) ∧ jRd rb p w m wr) (fun _ d _ => (intOf d).toNat)
      case atStart => exact ⟨L, dp, 1 + 4 * (7 - k), by omega, by omega, by omega, by omega, by omega, hbr, rfl, hown, hJ⟩
      case round =>
        obtain ⟨L, z, m, hL, hLz, hm, hmz, hz, hbr, rfl, hown, hJ⟩ := hrel
        by_cases hzp : 0 < z
        · go_wp2_with fail
          refine (pickJ _ hJ (by omega) (by omega) (by omega)).mono ?_
          rintro e w4 ⟨r4, rfl, hr40, hr41, hJ4, hK4⟩
          have hown4 := own_kept hown hK4 hrb
          by_cases hr0 : 0 < r4
          · go_wp2_with (at_builtin; refine wp_append_one ti27 rfl _ (.string _) rfl rfl (.tmp 54) (.tmp 55) rfl w.heap.size _ L.length (L.map Value.string) rfl hown4 rfl (by unfold maxLen; omega) (by omega) hJ4.2.size ?_; intro v1 w5 hown5 hg5)
            have hJ5 := jRd.grown hJ4 hg5 hrb (fun b hb => (hown4.lt b hb).1)
            go_roundw
            case rel => exact ⟨L ++ [⟨#[35, 101, 110, 100, 105, 102]⟩], z - 1, m + 1, by simp; omega, by simp; omega, by omega, by omega, by omega, hbr.snoc (by decide), by first | rfl | go_num, own_snoc hown5 rfl, hJ5⟩
            case measure => simp [intOf]; omega
          · have r40 : r4 = 0 := by omega
            subst r40
            go_wp2_with fail
            refine (oddJ _ hJ4 (by omega) (by omega) (by omega)).mono ?_
            rintro e w6 ⟨b, rfl, hJ6, hK6⟩
            have hown6 := own_kept hown4 hK6 hrb
            cases b
            · go_wp2
              go_ret
              exact ⟨_, L, rfl, hown6, by omega, hbr, hJ6.le (by omega)⟩
            · have hlt6 := hJ6.lt
              go_wp2_with (first
                | (go_at_call 27; refine (pickJ _ (hJ6.made _) (by omega) (by omega) (by omega)).mono ?_; rintro e w7 ⟨r7, rfl, hr70, hr71, hJ7, hK7⟩; obtain ⟨s7, hs7, hc7⟩ := lit_pick end_lits 10 end_lits_size hr70 (by show r7 < 4; omega) hlt6 hK7; have hown7 := own_kept (hown6.alloc _) hK7 hrb)
                | (at_builtin; refine wp_append_one ti27 rfl _ (.string _) rfl rfl (.tmp 62) (.tmp 68) rfl w.heap.size _ L.length (L.map Value.string) rfl hown7 rfl (by unfold maxLen; omega) (by omega) hJ7.2.size ?_; intro v1 w8 hown8 hg8))
              have hJ8 := jRd.grown hJ7 hg8 hrb (fun b hb => (hown7.lt b hb).1)
              go_ret
              exact ⟨_, L ++ [s7], rfl, own_snoc hown8 rfl, by simp; omega, hbr.snoc (by omega), hJ8.le (by omega)⟩
        · go_wp2_with fail
          refine (oddJ _ hJ (by omega) (by omega) (by omega)).mono ?_
          rintro e w6 ⟨b, rfl, hJ6, hK6⟩
          have hown6 := own_kept hown hK6 hrb
          cases b
          · go_wp2
            go_ret
            exact ⟨_, L, rfl, hown6, by omega, hbr, hJ6.le (by omega)⟩
          · have hlt6 := hJ6.lt
            go_wp2_with (first
              | (go_at_call 27; refine (pickJ _ (hJ6.made _) (by omega) (by omega) (by omega)).mono ?_; rintro e w7 ⟨r7, rfl, hr70, hr71, hJ7, hK7⟩; obtain ⟨s7, hs7, hc7⟩ := lit_pick end_lits 10 end_lits_size hr70 (by show r7 < 4; omega) hlt6 hK7; have hown7 := own_kept (hown6.alloc _) hK7 hrb)
              | (at_builtin; refine wp_append_one ti27 rfl _ (.string _) rfl rfl (.tmp 62) (.tmp 68) rfl w.heap.size _ L.length (L.map Value.string) rfl hown7 rfl (by unfold maxLen; omega) (by omega) hJ7.2.size ?_; intro v1 w8 hown8 hg8))
            have hJ8 := jRd.grown hJ7 hg8 hrb (fun b hb => (hown7.lt b hb).1)
            go_ret
            exact ⟨_, L ++ [s7], rfl, own_snoc hown8 rfl, by simp; omega, hbr.snoc (by omega), hJ8.le (by omega)⟩

/-- Lines that stand in memory of the call's own. -/
def OwnLines (w0 : World) (n M : Nat) (e : Ending) (w' : World) : Prop :=
  ∃ (v : Value) (L : List ByteArray), e = .returned v ∧ w'.ownsRow w0.heap.size 9 1 v L.length (L.map Value.string) ∧ L.length ≤ n ∧ Brief M L ∧ Below w0.heap.size w0 w'
theorem own_mono {w : World} {B B' e n : Nat} {v : Value} {xs : List Value} (h : w.ownsRow B e 1 v n xs) (hB : B' ≤ B) : w.ownsRow B' e 1 v n xs := by
  refine ⟨h.1, ?_⟩
  rcases h.2 with h0 | ⟨g, cap, cur, rfl, hb, hr⟩
  · exact .inl h0
  · exact .inr ⟨g, cap, cur, rfl, by omega, hr⟩

set_option maxHeartbeats 2000000 in
theorem DrawLinesValid (v : Value) (l : List UInt8) (fp : List Nat) (w : World) (H : (sSlice sByte).R w [v] l fp) :
    Calls Try.prog 12 #[v] w (OwnLines w 50 40) := by
  go_enter Try.func12, Try.ntmps12
  go_wp2_with fail
  refine (l20Open _ l fp _ H).mono ?_
  rintro e w1 ⟨rb, rfl, hrb, hR, hB⟩
  go_wp2_with fail
  refine (oddJ _ (jRd.begin hR) (by omega) (by omega) (by omega)).mono ?_
  rintro e w3 ⟨b, rfl, hJ3, hK3⟩
  have hB3 := kept_below hB hK3 hrb hB.size
  cases b
  · go_wp2_with fail
    obtain ⟨⟨p3, hp3, hR3⟩, _⟩ := hJ3
    refine (l20Lines _ hR3 (by omega) (by omega) (by omega)).mono ?_
    rintro e w4 ⟨v4, L, rfl, hown, hL, hbr, hJ4⟩
    go_wp2
    go_ret
    exact ⟨v4, L, rfl, own_mono hown hB3.size, by omega, hbr, kept_below hB3 hJ4.2 hrb hB3.size⟩
  · go_wp2_with (at_make; refine wp_make_full ti27 _ rfl _ _ rfl w3.heap.size 41 rfl rfl (by decide) (by decide) (Nat.le_refl _) ?_; intro w4 hown hgrow)
    have hB4 := hB3.grown hgrow hB3.size (by simp)
    go_ret
    refine ⟨_, List.replicate 41 ⟨#[]⟩, rfl, ?_, by simp, ?_, hB4⟩
    · have e : (madeCells (Value.string ⟨#[]⟩).cells (41 * 1)).toList = (List.replicate 41 (⟨#[]⟩ : ByteArray)).map Value.string := by simp [Value.cells, toList_madeCells_one]
      rw [e] at hown
      simpa using own_mono hown hB3.size
    · intro s hs
      rw [List.eq_of_mem_replicate hs]; decide

end Go.Proofs.Ytegpienbgmfghaa
