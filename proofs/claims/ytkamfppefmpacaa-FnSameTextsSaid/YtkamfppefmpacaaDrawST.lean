/- The drawing of two lists of tokens that have much in common. -/
import Derived.Test.YtkamfppefmpacaaDrawTks
import Derived.Test.YtkamfppefmpacaaSlices
namespace Go.Proofs.Ytkamfppefmpacaa
open Go.RowKit

/-- Blocks from base on and below top stand. -/
def Fix (base top : Nat) (w w' : World) : Prop := ∀ b, base ≤ b → b < top → w'.heap[b]? = w.heap[b]?
theorem Fix.refl (base top : Nat) (w : World) : Fix base top w w := fun _ _ _ => rfl
theorem Fix.set {base top g : Nat} {w w' : World} (h : Fix base top w w') (hg : top ≤ g) (o : Nat) (v : Value) : Fix base top w (w'.setCell ⟨g, o, none⟩ v) :=
  fun b h1 h2 => (Below.heap_setCell _ _ _ _ (by show b ≠ g; omega)).trans (h b h1 h2)
theorem Fix.kept {base top rb : Nat} {w w' w2 : World} (h : Fix base top w w') (hk : Kept [rb] w' w2) (hr : rb < base) (ht : top ≤ w'.heap.size) : Fix base top w w2 :=
  fun b h1 h2 => (hk.block b (by omega) (by simp; omega)).trans (h b h1 h2)
theorem Fix.put {base top g : Nat} {w w' : World} (h : Fix base top w w') (hg : top ≤ g) (ht : top ≤ w'.heap.size) (o : Nat) (cs : List Value) : Fix base top w (putAll w' g o cs) :=
  fun b h1 h2 => ((putAll_kept (g := g) cs w' o).block b (by omega) (by simp; omega)).trans (h b h1 h2)
theorem putAll_rd {rb g p : Nat} {w : World} (h : Rd w rb p) (hr : rb < g) (o : Nat) (cs : List Value) : Rd (putAll w g o cs) rb p :=
  h.kept (putAll_kept (g := g) cs w o) (fun b hb => by have e : b = g := (by simpa using hb); omega)

theorem size_setCell (w : World) (p : Addr) (v : Value) : (w.setCell p v).heap.size = w.heap.size := by simp [World.setCell]
/-- Two lists of tokens. -/
def DrawnTwo (w : World) (e : Ending) (w' : World) : Prop :=
  ∃ (v1 v2 : Value) (L1 : List (Elem Tok)) (l2 : List Tok) (f2 : List Nat), e = .returned (.tuple #[v1, v2]) ∧ RowE sTok w.heap.size 36 v1 L1 w' ∧ (sSlice sTok).R w' [v2] l2 f2 ∧ L1.length ≤ 61 ∧ Below w.heap.size w w'

set_option maxHeartbeats 8000000 in
set_option maxRecDepth 100000 in
theorem DrawSameTexts (v : Value) (l : List UInt8) (fp : List Nat) (w : World) (H : (sSlice sByte).R w [v] l fp) :
    Calls Try.prog 22 #[v] w (DrawnTwo w) := by
  go_enter Try.func22, Try.ntmps22
  go_wp2_with fail
  refine (l20Open _ l fp _ H).mono ?_
  rintro e w1 ⟨rb, rfl, hrb, hR, hB⟩
  have hs1 := hB.size
  have hlt1 := hR.lt
  go_wp2_with fail
  refine (l20Tokens rb 0 _ _ hR (by omega) (by omega) (by omega) 0 (by omega) (by omega)).mono ?_
  rintro e w3 ⟨v3, La, q3, rfl, hE, hok, -, hl, hq3, hR3, hK3⟩
  have hB3 := kept_below hB hK3 hrb hB.size
  have HOK0 := Lib.hid hok
  have hw3 := hK3.size
  have hlit : Hid (RowE sTok w1.heap.size 36 (.slice (some ⟨w3.heap.size, 0, none⟩) 0 0) [] (w3.alloc (.cells #[] 36))) := RowE.lit [] (by simp) (by simp) (by simp) (by simp) hw3 (by simp)
  have hba := alloc_below' w3 (.cells #[] 36)
  have HE4 := Lib.hid (hE.below hba)
  have h1c : ∀ x ∈ La, ∀ u ∈ x.cells, u.oneCell' = true := fun x hx u hu => by
    obtain ⟨h, hcs, _, _, hK⟩ := hE.el x hx
    obtain ⟨ao, c, rfl, -⟩ := open_rows hK
    rw [hcs] at hu
    simp only [List.mem_cons, List.not_mem_nil, or_false] at hu
    rcases hu with rfl | rfl | rfl | rfl <;> rfl
  have hn0 : ∀ b, Value.ownBlock (.slice (some ⟨w3.heap.size, 0, none⟩) 0 0) = some b → w3.heap.size ≤ b := fun b hb => by
    simp only [Value.ownBlock, Option.some.injEq] at hb; omega
  have HA := Lib.hid hE
  have hR3' := hR3.grow hba
  clear hE hok hK3 hB hR
  go_wp2_with (at_builtin; refine wp_append_rowsB (S := sTok) ti_tok rfl (by decide) _ rfl (.tmp 12) (.tmp 13) rfl w1.heap.size w3.heap.size _ _ rfl hlit.out rfl HE4.out h1c (by unfold maxLen; simp; omega) (by simp; omega) hw3 hba.size hn0 ?_; intro v5 w5 hE5 hg5 hv5)
  have hb35 := hba.grown hg5 hba.size hn0
  have hb5 := Lib.hid (hB3.trans (hb35.mono hB3.size))
  have HF5 : Hid (Fix w1.heap.size w3.heap.size w3 w5) := fun b h1 h2 => hb35.block b h2
  have hR5 := Lib.hid (hR3.grow hb35)
  have HE5 := Lib.hid hE5
  have ht5 := hb35.size
  obtain ⟨ab, cap, rfl, hc, hm, hpos⟩ := hE5.val
  rw [List.nil_append] at HE5 hc hpos ⊢
  unfold maxLen at hm
  clear hE5 hg5 hb35 hlit HE4 hba hn0 h1c hR3 hR3' hB3
  go_wp2
  go_loopw [7] (fun i wr => ∃ (k q : Nat) (L : List (Elem Tok)), k ≤ La.length ∧ i = .int .i64 k ∧ q ≤ q3 + 702 * k ∧ Hid (L.length = La.length) ∧ Hid (RowE sTok w1.heap.size 36 (.slice ab La.length cap) L wr) ∧ Hid (Rd wr rb q) ∧ Hid (Below w.heap.size w wr) ∧ Hid (Fix w1.heap.size w3.heap.size w3 wr) ∧ w3.heap.size ≤ wr.heap.size) (fun i _ => La.length - (intOf i).toNat)
  case atStart => exact ⟨0, q3, La, by omega, rfl, by omega, rfl, HE5, hR5, hb5, HF5, ht5⟩
  case round =>
    obtain ⟨k, q, L, hk, rfl, hq, HL, HE, HR, HB, HF, ht⟩ := hrel
    clear HE5 hR5 hb5 HF5 ht5
    by_cases hlt : k < La.length
    · obtain ⟨g, rfl, hg1, -⟩ := hpos (by omega)
      have hg3 : w3.heap.size ≤ g := hv5 g rfl
      have hkL : k < L.length := by rw [HL.out]; exact hlt
      go_wp2_with fail
      refine (pick rb q _ _ HR.out (by omega) (by omega) (by omega)).mono ?_
      rintro e w4 ⟨r, rfl, h0, h1, hR4, hK4⟩
      have HE4 := Lib.hid (HE.out.keptR hK4 hlt1)
      have HB4 := Lib.hid (kept_below HB.out hK4 hrb HB.out.size)
      have HF4 := Lib.hid (HF.out.kept hK4 hlt1 ht)
      have ht4 : w3.heap.size ≤ w4.heap.size := Nat.le_trans ht hK4.size
      have HR4 := Lib.hid hR4
      clear hR4 hK4 HE HB HF HR
      by_cases hr : r = 0
      · have hr' : (r == 0) = true := by simp [hr]
        clear hr
        go_wp2_with fail
        refine (l20Token rb (q + 1) _ _ HR4.out (by omega) (by omega) (by omega)).mono ?_
        rintro e w5' ⟨tk, ts, sp, ao, m, c, tl, tf, q5, rfl, hT, hokT, hlo, hty, hq5, hR5, hK5⟩
        have hE5 := HE4.out.keptR hK5 hlt1
        have HB5 := Lib.hid (kept_below HB4.out hK5 hrb HB4.out.size)
        have HF5 := Lib.hid (HF4.out.kept hK5 hlt1 ht4)
        have ht5 : w3.heap.size ≤ w5'.heap.size := Nat.le_trans ht4 hK5.size
        have hs14 : w1.heap.size ≤ w4.heap.size := by omega
        have HP := Lib.hid (hE5.put hkL (⟨[.int .i64 tk, .string ts, .bool sp, .slice ao m c], ⟨tk, ts, sp, tl⟩, tf⟩ : Elem Tok) rfl hT (fun b hb => by have := hlo b hb; omega) hty)
        have hLp : k < (L.set k (⟨[.int .i64 tk, .string ts, .bool sp, .slice ao m c], ⟨tk, ts, sp, tl⟩, tf⟩ : Elem Tok)).length := by rw [List.length_set]; exact hkL
        have HLp : Hid ((L.set k (⟨[.int .i64 tk, .string ts, .bool sp, .slice ao m c], ⟨tk, ts, sp, tl⟩, tf⟩ : Elem Tok)).length = La.length) := by show _ = _; rw [List.length_set]; exact HL.out
        have HRp := Lib.hid (putAll_rd hR5 (by omega : rb < g) (k * 4) [.int .i64 tk, .string ts, .bool sp, .slice ao m c])
        have HBp := Lib.hid (putAll_below (g := g) (by omega : w.heap.size ≤ g) [.int .i64 tk, .string ts, .bool sp, .slice ao m c] w5' (k * 4) HB5.out)
        have HFp := Lib.hid (HF5.out.put hg3 ht5 (k * 4) [.int .i64 tk, .string ts, .bool sp, .slice ao m c])
        obtain ⟨u0, u1, u2, d0, d1, d2, d3, -⟩ := hE5.tokAt hkL
        have f0 := hE5.frozen (k * 4)
        have f1 := hE5.frozen (k * 4 + 1)
        have f2 := hE5.frozen (k * 4 + 2)
        have f3 := hE5.frozen (k * 4 + 3)
        have htp : w3.heap.size ≤ (putAll w5' g (k * 4) [.int .i64 tk, .string ts, .bool sp, .slice ao m c]).heap.size := Nat.le_trans ht5 (putAll_kept (g := g) _ _ _).size
        generalize (L.set k (⟨[.int .i64 tk, .string ts, .bool sp, .slice ao m c], ⟨tk, ts, sp, tl⟩, tf⟩ : Elem Tok)) = L5 at HP hLp HLp
        clear hE5 hR5 hK5 hT hlo hty hokT HE4 HB4 HF4 HR4
        go_wp2_with fail
        refine (pick rb q5 _ _ HRp.out (by omega) (by omega) (by omega)).mono ?_
        rintro e w6 ⟨r2, rfl, h20, h21, hR6, hK6⟩
        have HE6 := Lib.hid (HP.out.keptR hK6 hlt1)
        have HB6 := Lib.hid (kept_below HBp.out hK6 hrb HBp.out.size)
        have HF6 := Lib.hid (HFp.out.kept hK6 hlt1 htp)
        have ht6 : w3.heap.size ≤ w6.heap.size := Nat.le_trans htp hK6.size
        obtain ⟨y0, y1, y2, -, -, d22, -, -⟩ := HE6.out.tokAt hLp
        have f22 := HE6.out.frozen (k * 4 + 2)
        obtain ⟨x', hx1, -⟩ := HE6.out.spaced hLp (r2 == 0)
        have HX := Lib.hid hx1
        have HLs : Hid ((List.set L5 k x').length = La.length) := by show _ = _; rw [List.length_set]; exact HLp.out
        have hRn := Lib.hid (rdSet hR6 (by omega : rb < g) (k * 4 + 2) (.bool (r2 == 0)))
        have hbn := Lib.hid (HB6.out.setCell (p := ⟨g, k * 4 + 2, none⟩) (by show w.heap.size ≤ g; omega) (.bool (r2 == 0)))
        have hFn := Lib.hid (HF6.out.set hg3 (k * 4 + 2) (.bool (r2 == 0)))
        have htn : w3.heap.size ≤ (w6.setCell ⟨g, k * 4 + 2, none⟩ (.bool (r2 == 0))).heap.size := by rw [size_setCell]; exact ht6
        clear hx1 hR6 hK6
        go_wp2
        go_roundw
        case rel => exact ⟨k + 1, _, _, by omega, by go_num, by omega, HLs, HX, hRn, hbn, hFn, htn⟩
        case measure => simp [intOf]; omega
      · have hr' : (r == 0) = false := by simp [hr]
        clear hr
        go_wp2_with fail
        refine (pick rb (q + 1) _ _ HR4.out (by omega) (by omega) (by omega)).mono ?_
        rintro e w6 ⟨r2, rfl, h20, h21, hR6, hK6⟩
        have HE6 := Lib.hid (HE4.out.keptR hK6 hlt1)
        have HB6 := Lib.hid (kept_below HB4.out hK6 hrb HB4.out.size)
        have HF6 := Lib.hid (HF4.out.kept hK6 hlt1 ht4)
        have ht6 : w3.heap.size ≤ w6.heap.size := Nat.le_trans ht4 hK6.size
        obtain ⟨y0, y1, y2, -, -, d22, -, -⟩ := HE6.out.tokAt hkL
        have f22 := HE6.out.frozen (k * 4 + 2)
        obtain ⟨x', hx1, -⟩ := HE6.out.spaced hkL (r2 == 0)
        have HX := Lib.hid hx1
        have HLs : Hid ((List.set L k x').length = La.length) := by show _ = _; rw [List.length_set]; exact HL.out
        have hRn := Lib.hid (rdSet hR6 (by omega : rb < g) (k * 4 + 2) (.bool (r2 == 0)))
        have hbn := Lib.hid (HB6.out.setCell (p := ⟨g, k * 4 + 2, none⟩) (by show w.heap.size ≤ g; omega) (.bool (r2 == 0)))
        have hFn := Lib.hid (HF6.out.set hg3 (k * 4 + 2) (.bool (r2 == 0)))
        have htn : w3.heap.size ≤ (w6.setCell ⟨g, k * 4 + 2, none⟩ (.bool (r2 == 0))).heap.size := by rw [size_setCell]; exact ht6
        clear hx1 hR6 hK6
        go_wp2
        go_roundw
        case rel => exact ⟨k + 1, _, _, by omega, by go_num, by omega, HLs, HX, hRn, hbn, hFn, htn⟩
        case measure => simp [intOf]; omega
    · have hbs := HB.out.size
      go_wp2_with fail
      refine (odd rb q _ _ HR.out (by omega) (by omega) (by omega)).mono ?_
      rintro e w6 ⟨b, q6, rfl, hq61, hq62, hR6, hK6⟩
      have hB6 := kept_below HB.out hK6 hrb hbs
      have HF6 := Lib.hid (HF.out.kept hK6 hlt1 ht)
      have HFin := Lib.hid ((HA.out.same fun b h1 h2 => HF6.out b h2 h1).lower hs1)
      obtain ⟨fb, rb', -⟩ := (HE.out.keptR hK6 hlt1).read
      have hml : (L.map (·.d)).length = La.length := by rw [List.length_map]; exact HL.out
      generalize L.map (·.d) = lb at rb' hml
      clear HF HF6 HA HE HB hR6 hK6 HR HL
      cases b
      · go_wp2
        go_ret2
        exact ⟨v3, _, La, lb, fb, rfl, HFin.out, rb', hl, hB6⟩
      · by_cases hz : La.length = 0
        · have hz0 : ¬ (0 : Int) < (La.length : Int) := by omega
          have HZ := Lib.hid rb'
          rw [hz] at HZ
          clear rb'
          have rb' := HZ.out
          go_wp2
          go_ret2
          exact ⟨v3, _, La, lb, fb, rfl, HFin.out, rb', hl, hB6⟩
        · obtain ⟨g, rfl, -, -⟩ := hpos (by omega)
          have hz0 : (0 : Int) < (La.length : Int) := by omega
          rw [← hml] at rb'
          obtain ⟨fd, HD, -⟩ := slice_drop 1 (by omega) rb'
          rw [hml] at HD
          clear rb'
          by_cases hcc : cap = 1
          · subst hcc
            rw [if_pos rfl, show La.length - 1 = 0 by omega] at HD
            have HD' := Lib.hid HD
            clear HD
            go_wp2
            go_ret2
            exact ⟨v3, _, La, _, fd, rfl, HFin.out, HD'.out, hl, hB6⟩
          · rw [if_neg hcc, Option.map_some, addr_add] at HD
            have HD' : Hid ((sSlice sTok).R w6 [.slice (some ⟨g, 4, none⟩) (La.length - 1) (cap - 1)] (lb.drop 1) fd) := HD
            clear HD
            go_wp2
            go_ret2
            exact ⟨v3, _, La, _, fd, rfl, HFin.out, HD'.out, hl, hB6⟩

end Go.Proofs.Ytkamfppefmpacaa
