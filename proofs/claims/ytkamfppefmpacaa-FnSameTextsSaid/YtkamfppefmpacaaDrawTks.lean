/- The drawing of lists of tokens. -/
import Derived.Test.YtkamfppefmpacaaDrawTok
import Derived.Test.YtkamfppefmpacaaRowF
namespace Go.Proofs.Ytkamfppefmpacaa
open Go.RowKit

/-- Tokens are drawn. -/
def DrawnList (w : World) (e : Ending) (w' : World) : Prop :=
  ∃ (v : Value) (L : List (Elem Tok)), e = .returned v ∧ RowE sTok w.heap.size 36 v L w' ∧ (∀ x ∈ L, okTok x.d) ∧ L.length ≤ 61 ∧ Below w.heap.size w w'
theorem okPlus : okTok ⟨4, ⟨#[43]⟩, false, []⟩ := ⟨by decide, by decide, by decide, by decide⟩
/-- A token's Spaced is stored. -/
theorem RowE.spaced {base g n cap : Nat} {L : List (Elem Tok)} {w : World} (h : RowE sTok base 36 (.slice (some ⟨g, 0, none⟩) n cap) L w) {k : Nat} (hk : k < L.length) (b : Bool) :
    ∃ x', RowE sTok base 36 (.slice (some ⟨g, 0, none⟩) n cap) (L.set k x') (w.setCell ⟨g, k * 4 + 2, none⟩ (.bool b)) ∧ (okTok L[k].d → okTok x'.d) := by
  have hm := List.getElem_mem hk
  obtain ⟨hh, hcs, hi, hs, hK⟩ := h.el _ hm
  refine ⟨⟨[.int .i64 L[k].d.kind, .string L[k].d.text, .bool b, hh], ⟨L[k].d.kind, L[k].d.text, b, L[k].d.hidden⟩, L[k].fp⟩, h.set hk (j := 2) (by decide) _ _ (by rw [hcs]; rfl) ⟨hh, rfl, hi, hs, hK⟩ (fun b hb => h.lo L[k] hm b hb) (fun b hb => h.ty L[k] hm b hb), fun h => h⟩
theorem okSet {L : List (Elem Tok)} (h : ∀ x ∈ L, okTok x.d) {k : Nat} {x' : Elem Tok} (hx : okTok x'.d) : ∀ x ∈ L.set k x', okTok x.d := fun x hm => by
  rcases List.mem_or_eq_of_mem_set hm with h1 | h1
  · exact h x h1
  · subst h1; exact hx

set_option maxHeartbeats 8000000 in
set_option maxRecDepth 100000 in
theorem DrawTokensValid (v : Value) (l : List UInt8) (fp : List Nat) (w : World) (H : (sSlice sByte).R w [v] l fp) :
    Calls Try.prog 18 #[v] w (DrawnList w) := by
  go_enter Try.func18, Try.ntmps18
  go_wp2_with fail
  refine (l20Open _ l fp _ H).mono ?_
  rintro e w1 ⟨rb, rfl, hrb, hR, hB⟩
  have hs1 := hB.size
  go_wp2_with fail
  refine (odd rb 0 _ _ hR (by omega) (by omega) (by omega)).mono ?_
  rintro e w2 ⟨b, q2, rfl, hq1, hq2, hR2, hK2⟩
  have hB2 := kept_below hB hK2 hrb hB.size
  cases b
  · go_wp2_with fail
    refine (l20Tokens rb q2 _ _ hR2 (by omega) (by omega) (by omega) 0 (by omega) (by omega)).mono ?_
    rintro e w3 ⟨v3, L, q3, rfl, hE, hok, -, hl, hq3, hR3, hK3⟩
    go_wp2
    go_ret
    exact ⟨v3, L, rfl, hE.lower hB2.size, hok, hl, kept_below hB2 hK3 hrb hB2.size⟩
  · have HE0 : Hid (RowE sTok w.heap.size 36 (.slice (some ⟨w2.heap.size, 0, none⟩) 0 0) [] (w2.alloc (.cells #[] 36))) := RowE.lit [] (by simp) (by simp) (by simp) (by simp) hB2.size (by simp)
    have hB3 := hB2.alloc hB2.size (.cells #[] 36)
    go_wp2
    go_loopw [4, 5] (fun o i wr => ∃ (k : Nat) (L : List (Elem Tok)), k ≤ 61 ∧ i = .int .i64 k ∧ Hid (RowE sTok w.heap.size 36 o L wr) ∧ Hid (∀ x ∈ L, okTok x.d) ∧ L.length = k ∧ Below w.heap.size w wr) (fun _ i _ => 61 - (intOf i).toNat)
    case atStart => exact ⟨0, [], by omega, rfl, HE0, (show ∀ x ∈ ([] : List (Elem Tok)), okTok x.d from by simp), rfl, hB3⟩
    case round =>
      obtain ⟨k, L, hk, rfl, HE, HOK, hLk, hb⟩ := hrel
      by_cases hlt : k ≤ 60
      · have hbs := hb.size
        have HR : Hid (sTok.R wr [.int .i64 4, .string ⟨#[43]⟩, .bool false, .slice none 0 0] ⟨4, ⟨#[43]⟩, false, []⟩ []) := ⟨_, rfl, ⟨by decide, by decide⟩, by unfold okStr; decide, slice_empty sStr wr none 0 (by simp)⟩
        go_wp2_with (at_builtin; refine wp_append_tokE rfl (.tmp 15) (.tmp 17) rfl w.heap.size u4 L rfl HE.out 4 ⟨#[43]⟩ false none 0 0 [] [] rfl HR.out (by simp) (by simp) (by omega) hbs ?_; intro v5 w5 hE5 hg5)
        have HE5 := Lib.hid hE5
        have HOK5 := Lib.hid (okApp HOK.out (x := ⟨[.int .i64 4, .string ⟨#[43]⟩, .bool false, .slice none 0 0], ⟨4, ⟨#[43]⟩, false, []⟩, []⟩) okPlus)
        have hb5 := hb.grown hg5 hbs HE.out.mine
        clear hE5 hg5 HR
        go_wp2
        go_roundw
        case rel => exact ⟨k + 1, _, by omega, by go_num, HE5, HOK5, by simp [hLk], hb5⟩
        case measure => simp [intOf]; omega
      · go_wp2
        go_ret
        exact ⟨_, L, rfl, HE.out, HOK.out, by omega, hb⟩

set_option maxHeartbeats 8000000 in
set_option maxRecDepth 100000 in
theorem DrawPrintTokens (v : Value) (l : List UInt8) (fp : List Nat) (w : World) (H : (sSlice sByte).R w [v] l fp) :
    Calls Try.prog 20 #[v] w (DrawnList w) := by
  go_enter Try.func20, Try.ntmps20
  go_wp2_with fail
  refine (l20Open _ l fp _ H).mono ?_
  rintro e w1 ⟨rb, rfl, hrb, hR, hB⟩
  have hs1 := hB.size
  go_wp2_with fail
  refine (l20Tokens rb 0 _ _ hR (by omega) (by omega) (by omega) 0 (by omega) (by omega)).mono ?_
  rintro e w3 ⟨v3, L0, q3, rfl, hE, hok, -, hl, hq3, hR3, hK3⟩
  have hB3 := kept_below hB hK3 hrb hB.size
  have hlt1 := hR.lt
  have HE0 := Lib.hid hE
  have HOK0 := Lib.hid hok
  obtain ⟨a, cap, rfl, hc, hm, hpos⟩ := hE.val
  unfold maxLen at hm
  clear hE hok hK3 hB hR
  go_wp2
  go_loopw [5] (fun i wr => ∃ (k q : Nat) (L : List (Elem Tok)), k ≤ L0.length ∧ i = .int .i64 k ∧ q ≤ q3 + k ∧ Hid (L.length = L0.length) ∧ Hid (RowE sTok w1.heap.size 36 (.slice a L0.length cap) L wr) ∧ Hid (∀ x ∈ L, okTok x.d) ∧ Rd wr rb q ∧ Below w.heap.size w wr) (fun i _ => L0.length - (intOf i).toNat)
  case atStart => exact ⟨0, q3, L0, by omega, rfl, by omega, rfl, HE0, HOK0, hR3, hB3⟩
  case round =>
    obtain ⟨k, q, L, hk, rfl, hq, HL, HE, HOK, hRk, hb⟩ := hrel
    clear HE0 HOK0 hR3 hB3
    have hbs := hb.size
    by_cases hlt : k < L0.length
    · obtain ⟨g, rfl, hg1, -⟩ := hpos (by omega)
      have hkL : k < L.length := by rw [HL.out]; exact hlt
      obtain ⟨ao, m, c, -, -, c2, -, -⟩ := HE.out.tokAt hkL
      cases hsp : L[k].d.spaced
      · rw [hsp] at c2
        obtain ⟨x', hx1, hx2⟩ := HE.out.spaced hkL false
        have HX := Lib.hid hx1
        have HO := Lib.hid (okSet HOK.out (k := k) (hx2 (HOK.out _ (List.getElem_mem hkL))))
        have HLs : Hid ((L.set k x').length = L0.length) := by show _ = _; rw [List.length_set]; exact HL.out
        have f2 := HE.out.frozen (k * 4 + 2)
        have hRn := Lib.hid (rdSet hRk (by omega : rb < g) (k * 4 + 2) (.bool false))
        have hbn := Lib.hid (hb.setCell (p := ⟨g, k * 4 + 2, none⟩) (by show w.heap.size ≤ g; omega) (.bool false))
        clear hx1 hx2
        go_wp2
        go_roundw
        case rel => exact ⟨k + 1, q, _, by omega, by go_num, by omega, HLs, HX, HO, hRn.out, hbn.out⟩
        case measure => simp [intOf]; omega
      · rw [hsp] at c2
        go_wp2_with fail
        refine (pick rb q _ _ hRk (by omega) (by omega) (by omega)).mono ?_
        rintro e w4 ⟨r, rfl, h0, h1, hR4, hK4⟩
        have HE4 := Lib.hid (HE.out.keptR hK4 hlt1)
        have hb4 := kept_below hb hK4 hrb hb.size
        obtain ⟨ao, m, c, -, -, c2', -, -⟩ := HE4.out.tokAt hkL
        obtain ⟨x', hx1, hx2⟩ := HE4.out.spaced hkL (r == 0)
        have HX := Lib.hid hx1
        have HO := Lib.hid (okSet HOK.out (k := k) (hx2 (HOK.out _ (List.getElem_mem hkL))))
        have HLs : Hid ((L.set k x').length = L0.length) := by show _ = _; rw [List.length_set]; exact HL.out
        have f2 := HE4.out.frozen (k * 4 + 2)
        have hRn := Lib.hid (rdSet hR4 (by omega : rb < g) (k * 4 + 2) (.bool (r == 0)))
        have hbn := Lib.hid (hb4.setCell (p := ⟨g, k * 4 + 2, none⟩) (by show w.heap.size ≤ g; omega) (.bool (r == 0)))
        clear hx1 hx2 c2 hK4 hb4 hR4
        go_wp2
        go_roundw
        case rel => exact ⟨k + 1, q + 1, _, by omega, by go_num, by omega, HLs, HX, HO, hRn.out, hbn.out⟩
        case measure => simp [intOf]; omega
    · go_wp2
      go_ret
      exact ⟨_, L, rfl, HE.out.lower (by omega), HOK.out, by rw [HL.out]; exact hl, hb⟩

end Go.Proofs.Ytkamfppefmpacaa
