/- Texts that the proof of U stands on, in one file. -/
import Derived.Test.YthbojipdhgidlaaZU6
import Derived.Test.YthbojipdhgidlaaZU4
import Derived.Test.YthbojipdhgidlaaZU5
import Derived.Deep.Cut
import Derived.Test.YthbojipdhgidlaaZU3
import Derived.Test.YthbojipdhgidlaaZU2
set_option linter.unusedVariables false
set_option linter.unusedSimpArgs false
/- The drawing of a line. -/
namespace Go.Proofs.Ythbojipdhgidlaa
open Go.RowKit

/-- A text of at most M bytes is drawn, by at most n picks. -/
def Drawn (rb p n M : Nat) (w : World) (e : Ending) (w' : World) : Prop := ∃ (s : ByteArray) (q : Nat), e = .returned (.string s) ∧ s.size ≤ M ∧ q ≤ p + n ∧ Rd w' rb q ∧ Kept [rb] w w'
def line_lits : List ByteArray := [⟨#[10]⟩, ⟨#[127]⟩, ⟨#[64]⟩, ⟨#[34, 115]⟩, ⟨#[97, 98, 99, 100, 101, 102, 103, 104, 105, 106, 107, 108, 109]⟩, ⟨#[92]⟩]
theorem line_lits_size : ∀ s ∈ line_lits, s.size ≤ 13 := by decide

set_option maxHeartbeats 8000000 in
theorem l20Line (rb p : Nat) (n : Int) (w : World) (H : Rd w rb p) (hp : p ≤ 100000) (hn : n ≤ 100) (hn0 : 0 ≤ n) :
    Calls Try.prog 64 #[.pointer (some ⟨rb, 0, none⟩), .int .i64 n] w (Drawn rb p 110 1000 w) := by
  go_enter Try.func64, Try.ntmps64
  go_wp2_with (go_at_call 35; refine (pick rb p _ _ H (by omega) (by omega) (by omega)).mono ?_; rintro e w2 ⟨r, rfl, h0, h1, hR2, hK⟩)
  go_loopw [5, 6] (fun o i wr => ∃ (k q : Nat) (out : ByteArray), k ≤ 6 ∧ q + 14 * k ≤ p + 100 ∧ out.size + 20 * k ≤ 500 ∧ o = .string out ∧ i = .int .i64 k ∧ Rd wr rb q ∧ Kept [rb] w wr) (fun _ i _ => (intOf i).toNat)
  case atStart => exact ⟨r.toNat, p + 1, _, by omega, by omega, by show 0 + _ ≤ _; omega, rfl, by go_num, hR2, hK⟩
  case round =>
    obtain ⟨k, q, out, hk, hq, ho, rfl, rfl, hR, hB⟩ := hrel
    clear hR2 hK
    by_cases hlt : 0 < k
    · go_wp2
      refine wp_region_types (P := Try.prog) (by kernel_rfl) (by kernel_rfl) (Kept [rb]) [pVal (.string out), pLits [rb] 20 6, pVal (.pointer (some ⟨rb, 0, none⟩)), pInt 20, pPtr [rb] 6, pStr 6, pStr (out.size + 6), pLits [rb] 2 1, pVal (.pointer (some ⟨rb, 0, none⟩)), pInt 2, pPtr [rb] 1, pStr 1, pStr ((out.size + 6) + 1), pStr ((out.size + 6) + 1)] (stab_all ⟨stVal _, stLits _ _, stVal _, stInt _, stPtr _, stStr _, stStr _, stLits _ _, stVal _, stInt _, stPtr _, stStr _, stStr _, stStr _, trivial⟩) (jRd rb q wr) ?start (steps_all ⟨?s0, ?s1, ?s2, ?s3, ?s4, ?s5, ?s6, ?s7, ?s8, ?s9, ?s10, ?s11, ?s12, ?s13, trivial⟩) ?done
      case start => exact jRd.start hR
      case s0 =>
        intro xs w' m hl hm hJ hlast hf ho K hK
        replace hm : m < 14 := hm
        obtain ⟨x0, x1, x2, x3, x4, x5, x6, x7, x8, x9, x10, x11, x12, x13, rfl⟩ := len14 hl
        obtain rfl : x13 = .string out := by have := ho 13 _ rfl (.inr ⟨⟨0, .phase⟩, by simp, rfl, rfl⟩); simpa [origs] using this
        clear hlast
        clear hf ho
        simp only [fill, Act.put, List.map_cons, List.map_nil, List.setIfInBounds_toArray, List.set_cons_succ, List.set_cons_zero] at hK ⊢
        go_wp2
        exact hK _ _ (At.mk rfl rfl) (Kept.refl _ _) hJ.same
      case s1 =>
        intro xs w' m hl hm hJ hlast hf ho K hK
        replace hm : m < 14 := hm
        obtain ⟨x0, x1, x2, x3, x4, x5, x6, x7, x8, x9, x10, x11, x12, x13, rfl⟩ := len14 hl
        clear hlast
        clear hf ho
        simp only [fill, Act.put, List.map_cons, List.map_nil, List.setIfInBounds_toArray, List.set_cons_succ, List.set_cons_zero] at hK ⊢
        go_wp2
        exact hK _ _ (At.mk rfl (pLits_new [⟨#[97]⟩, ⟨#[98]⟩, ⟨#[102, 40]⟩, ⟨#[120]⟩, ⟨#[41]⟩, ⟨#[32]⟩, ⟨#[44]⟩, ⟨#[43]⟩, ⟨#[49]⟩, ⟨#[49, 50]⟩, ⟨#[34, 115, 34]⟩, ⟨#[103, 40, 49, 44, 50, 41]⟩, ⟨#[102, 40, 97, 41]⟩, ⟨#[40]⟩, ⟨#[65, 66]⟩, ⟨#[32, 45, 32]⟩, ⟨#[61, 61]⟩, ⟨#[104, 40, 98, 32, 99, 41]⟩, ⟨#[101, 40, 41]⟩, ⟨#[38, 38]⟩] 6 [rb] w' (by decide) hJ.lts 20 rfl)) (Kept.of_below ((Below.refl _ _).alloc (Nat.le_refl _) _)) (hJ.alloc _)
      case s2 =>
        intro xs w' m hl hm hJ hlast hf ho K hK
        replace hm : m < 14 := hm
        obtain ⟨x0, x1, x2, x3, x4, x5, x6, x7, x8, x9, x10, x11, x12, x13, rfl⟩ := len14 hl
        clear hlast
        clear hf ho
        simp only [fill, Act.put, List.map_cons, List.map_nil, List.setIfInBounds_toArray, List.set_cons_succ, List.set_cons_zero] at hK ⊢
        go_wp2
        exact hK _ _ (At.mk rfl rfl) (Kept.refl _ _) hJ.same
      case s3 =>
        intro xs w' m hl hm hJ hlast hf ho K hK
        replace hm : m < 14 := hm
        obtain ⟨x0, x1, x2, x3, x4, x5, x6, x7, x8, x9, x10, x11, x12, x13, rfl⟩ := len14 hl
        have f2 : pVal (.pointer (some ⟨rb, 0, none⟩)) x2 w' := hf ⟨2, .data⟩ (by simp) rfl _ rfl _ rfl
        clear hlast
        clear hf ho
        obtain rfl := f2
        obtain ⟨⟨p1, hp1, hR1⟩, hK1⟩ := hJ
        simp only [fill, Act.put, List.map_cons, List.map_nil, List.setIfInBounds_toArray, List.set_cons_succ, List.set_cons_zero] at hK ⊢
        go_wp2_with (go_at_call 35; refine (pick rb p1 _ _ hR1 (by omega) (by omega) (by omega)).mono ?_; rintro e w2 ⟨rr, rfl, hr0, hr1, hRq, hkq⟩)
        exact hK _ _ (At.mk rfl ⟨rr, rfl, hr0, by omega⟩) hkq ⟨⟨p1 + 1, by omega, hRq⟩, hK1.trans hkq⟩
      case s4 =>
        intro xs w' m hl hm hJ hlast hf ho K hK
        replace hm : m < 14 := hm
        obtain ⟨x0, x1, x2, x3, x4, x5, x6, x7, x8, x9, x10, x11, x12, x13, rfl⟩ := len14 hl
        have f1 : pLits [rb] 20 6 x1 w' := hf ⟨1, .data⟩ (by simp) rfl _ rfl _ rfl
        have f3 : pInt 20 x3 w' := hf ⟨3, .data⟩ (by simp) rfl _ rfl _ rfl
        clear hlast
        clear hf ho
        obtain ⟨ba, rfl, hnea, hba, hca⟩ := f1
        obtain ⟨ri, rfl, hii, hji⟩ := f3
        obtain ⟨s, hc1, hs1⟩ := hca ri.toNat (by omega)
        simp only [fill, Act.put, List.map_cons, List.map_nil, List.setIfInBounds_toArray, List.set_cons_succ, List.set_cons_zero] at hK ⊢
        go_wp2
        exact hK _ _ (At.mk rfl ⟨ba, _, s, rfl, hnea, hba, hc1, hs1⟩) (Kept.refl _ _) hJ.same
      case s5 =>
        intro xs w' m hl hm hJ hlast hf ho K hK
        replace hm : m < 14 := hm
        obtain ⟨x0, x1, x2, x3, x4, x5, x6, x7, x8, x9, x10, x11, x12, x13, rfl⟩ := len14 hl
        have f4 : pPtr [rb] 6 x4 w' := hf ⟨4, .data⟩ (by simp) rfl _ rfl _ rfl
        clear hlast
        clear hf ho
        obtain ⟨ba, ja, sa, rfl, hnea, hba, hca, hsa⟩ := f4
        simp only [fill, Act.put, List.map_cons, List.map_nil, List.setIfInBounds_toArray, List.set_cons_succ, List.set_cons_zero] at hK ⊢
        go_wp2
        exact hK _ _ (At.mk rfl ⟨_, rfl, hsa⟩) (Kept.refl _ _) hJ.same
      case s6 =>
        intro xs w' m hl hm hJ hlast hf ho K hK
        replace hm : m < 14 := hm
        obtain ⟨x0, x1, x2, x3, x4, x5, x6, x7, x8, x9, x10, x11, x12, x13, rfl⟩ := len14 hl
        have f0 : pVal (.string out) x0 w' := hf ⟨0, .data⟩ (by simp) rfl _ rfl _ rfl
        have f5 : pStr 6 x5 w' := hf ⟨5, .data⟩ (by simp) rfl _ rfl _ rfl
        clear hlast
        clear hf ho
        obtain rfl := f0
        obtain ⟨sb, rfl, hsb⟩ := f5
        have hadd := fun W => run_string_add_sum (P := Try.prog) W out sb (by omega)
        simp only [fill, Act.put, List.map_cons, List.map_nil, List.setIfInBounds_toArray, List.set_cons_succ, List.set_cons_zero] at hK ⊢
        go_wp2
        exact hK _ _ (At.mk rfl ⟨_, rfl, by rw [ByteArray.size_append]; omega⟩) (Kept.refl _ _) hJ.same
      case s7 =>
        intro xs w' m hl hm hJ hlast hf ho K hK
        replace hm : m < 14 := hm
        obtain ⟨x0, x1, x2, x3, x4, x5, x6, x7, x8, x9, x10, x11, x12, x13, rfl⟩ := len14 hl
        clear hlast
        clear hf ho
        simp only [fill, Act.put, List.map_cons, List.map_nil, List.setIfInBounds_toArray, List.set_cons_succ, List.set_cons_zero] at hK ⊢
        go_wp2
        exact hK _ _ (At.mk rfl (pLits_new [⟨#[]⟩, ⟨#[32]⟩] 1 [rb] w' (by decide) hJ.lts 2 rfl)) (Kept.of_below ((Below.refl _ _).alloc (Nat.le_refl _) _)) (hJ.alloc _)
      case s8 =>
        intro xs w' m hl hm hJ hlast hf ho K hK
        replace hm : m < 14 := hm
        obtain ⟨x0, x1, x2, x3, x4, x5, x6, x7, x8, x9, x10, x11, x12, x13, rfl⟩ := len14 hl
        clear hlast
        clear hf ho
        simp only [fill, Act.put, List.map_cons, List.map_nil, List.setIfInBounds_toArray, List.set_cons_succ, List.set_cons_zero] at hK ⊢
        go_wp2
        exact hK _ _ (At.mk rfl rfl) (Kept.refl _ _) hJ.same
      case s9 =>
        intro xs w' m hl hm hJ hlast hf ho K hK
        replace hm : m < 14 := hm
        obtain ⟨x0, x1, x2, x3, x4, x5, x6, x7, x8, x9, x10, x11, x12, x13, rfl⟩ := len14 hl
        have f8 : pVal (.pointer (some ⟨rb, 0, none⟩)) x8 w' := hf ⟨8, .data⟩ (by simp) rfl _ rfl _ rfl
        clear hlast
        clear hf ho
        obtain rfl := f8
        obtain ⟨⟨p1, hp1, hR1⟩, hK1⟩ := hJ
        simp only [fill, Act.put, List.map_cons, List.map_nil, List.setIfInBounds_toArray, List.set_cons_succ, List.set_cons_zero] at hK ⊢
        go_wp2_with (go_at_call 35; refine (pick rb p1 _ _ hR1 (by omega) (by omega) (by omega)).mono ?_; rintro e w2 ⟨rr, rfl, hr0, hr1, hRq, hkq⟩)
        exact hK _ _ (At.mk rfl ⟨rr, rfl, hr0, by omega⟩) hkq ⟨⟨p1 + 1, by omega, hRq⟩, hK1.trans hkq⟩
      case s10 =>
        intro xs w' m hl hm hJ hlast hf ho K hK
        replace hm : m < 14 := hm
        obtain ⟨x0, x1, x2, x3, x4, x5, x6, x7, x8, x9, x10, x11, x12, x13, rfl⟩ := len14 hl
        have f7 : pLits [rb] 2 1 x7 w' := hf ⟨7, .data⟩ (by simp) rfl _ rfl _ rfl
        have f9 : pInt 2 x9 w' := hf ⟨9, .data⟩ (by simp) rfl _ rfl _ rfl
        clear hlast
        clear hf ho
        obtain ⟨ba, rfl, hnea, hba, hca⟩ := f7
        obtain ⟨ri, rfl, hii, hji⟩ := f9
        obtain ⟨s, hc1, hs1⟩ := hca ri.toNat (by omega)
        simp only [fill, Act.put, List.map_cons, List.map_nil, List.setIfInBounds_toArray, List.set_cons_succ, List.set_cons_zero] at hK ⊢
        go_wp2
        exact hK _ _ (At.mk rfl ⟨ba, _, s, rfl, hnea, hba, hc1, hs1⟩) (Kept.refl _ _) hJ.same
      case s11 =>
        intro xs w' m hl hm hJ hlast hf ho K hK
        replace hm : m < 14 := hm
        obtain ⟨x0, x1, x2, x3, x4, x5, x6, x7, x8, x9, x10, x11, x12, x13, rfl⟩ := len14 hl
        have f10 : pPtr [rb] 1 x10 w' := hf ⟨10, .data⟩ (by simp) rfl _ rfl _ rfl
        clear hlast
        clear hf ho
        obtain ⟨ba, ja, sa, rfl, hnea, hba, hca, hsa⟩ := f10
        simp only [fill, Act.put, List.map_cons, List.map_nil, List.setIfInBounds_toArray, List.set_cons_succ, List.set_cons_zero] at hK ⊢
        go_wp2
        exact hK _ _ (At.mk rfl ⟨_, rfl, hsa⟩) (Kept.refl _ _) hJ.same
      case s12 =>
        intro xs w' m hl hm hJ hlast hf ho K hK
        replace hm : m < 14 := hm
        obtain ⟨x0, x1, x2, x3, x4, x5, x6, x7, x8, x9, x10, x11, x12, x13, rfl⟩ := len14 hl
        have f6 : pStr (out.size + 6) x6 w' := hf ⟨6, .data⟩ (by simp) rfl _ rfl _ rfl
        have f11 : pStr 1 x11 w' := hf ⟨11, .data⟩ (by simp) rfl _ rfl _ rfl
        clear hlast
        clear hf ho
        obtain ⟨sa, rfl, hsa⟩ := f6
        obtain ⟨sb, rfl, hsb⟩ := f11
        have hadd := fun W => run_string_add_sum (P := Try.prog) W sa sb (by omega)
        simp only [fill, Act.put, List.map_cons, List.map_nil, List.setIfInBounds_toArray, List.set_cons_succ, List.set_cons_zero] at hK ⊢
        go_wp2
        exact hK _ _ (At.mk rfl ⟨_, rfl, by rw [ByteArray.size_append]; omega⟩) (Kept.refl _ _) hJ.same
      case s13 =>
        intro xs w' m hl hm hJ hlast hf ho K hK
        replace hm : m < 14 := hm
        obtain ⟨x0, x1, x2, x3, x4, x5, x6, x7, x8, x9, x10, x11, x12, x13, rfl⟩ := len14 hl
        have f12 : pStr ((out.size + 6) + 1) x12 w' := hf ⟨12, .data⟩ (by simp) rfl _ rfl _ rfl
        clear hlast
        clear hf ho
        obtain ⟨sa, rfl, hsa⟩ := f12
        simp only [fill, Act.put, List.map_cons, List.map_nil, List.setIfInBounds_toArray, List.set_cons_succ, List.set_cons_zero] at hK ⊢
        go_wp2
        exact hK _ _ (At.mk rfl ⟨_, rfl, hsa⟩) (Kept.refl _ _) hJ.same
      case done =>
        intro xs w' hl hf hJ
        obtain ⟨x0, x1, x2, x3, x4, x5, x6, x7, x8, x9, x10, x11, x12, x13, rfl⟩ := len14 hl
        have f13 : pStr ((out.size + 6) + 1) x13 w' := hf 13 _ rfl _ rfl
        obtain ⟨sz, rfl, hsz⟩ := f13
        clear hf
        obtain ⟨⟨p1, hp1, hR1⟩, hK1⟩ := hJ
        replace hp1 : p1 ≤ q + 14 := hp1
        simp only [fill, Act.put, List.map_cons, List.map_nil, List.setIfInBounds_toArray, List.set_cons_succ, List.set_cons_zero]
        go_wp2
        go_roundw
        case rel => exact ⟨k - 1, p1, sz, by omega, by omega, by omega, rfl, by go_num, hR1, hB.trans hK1⟩
        case measure => simp [intOf]; omega
    · go_wp2_with fail
      refine (odd rb q _ _ hR (by omega) (by omega) (by omega)).mono ?_
      rintro e w3 ⟨b, q2, rfl, hq1, hq2, hR3, hK3⟩
      cases b
      · go_wp2
        go_ret
        exact ⟨out, q2, rfl, by omega, by omega, hR3, hB.trans hK3⟩
      · go_wp2_with (go_at_call 35; refine (pick rb q2 _ _ (hR3.grow ((Below.refl _ _).alloc (Nat.le_refl _) _)) (by omega) (by omega) (by omega)).mono ?_; rintro e w4 ⟨r2, rfl, h20, h21, hR4, hK4⟩; obtain ⟨s, hs, hc⟩ := lit_pick line_lits 13 line_lits_size h20 (by show r2 < 6; omega) hR3.lt hK4; have hadd := fun W => run_string_add_sum (P := Try.prog) W out s (by omega))
        go_ret
        exact ⟨out ++ s, q2 + 1, rfl, by rw [ByteArray.size_append]; omega, by omega, hR4, (hB.trans hK3).trans ((Kept.of_below ((Below.refl _ _).alloc (Nat.le_refl _) _)).trans hK4)⟩

end Go.Proofs.Ythbojipdhgidlaa

/- The drawing of tokens. -/
namespace Go.Proofs.Ythbojipdhgidlaa
open Go.RowKit

/-- A drawn token: small. -/
def okTok (t : Tok) : Prop := t.text.size ≤ 1000 ∧ 0 ≤ t.kind ∧ t.kind ≤ 4 ∧ t.hidden.length ≤ 3
def elemTok (t : Tok) : Elem Tok := ⟨freshCells t, t, []⟩
theorem toks_rowE {base : Nat} {v : Value} {l : List Tok} {w : World} {B : Nat} (h : TokRow base v l w) (hf : Fresh B l) (hB : B ≤ 1000) :
    RowE sTok base 56 v (l.map elemTok) w ∧ ∀ x ∈ l.map elemTok, okTok x.d := by
  have hL : (l.map elemTok).flatMap (·.cells) = l.flatMap freshCells := by rw [List.flatMap_map]; rfl
  have hx : ∀ x ∈ l.map elemTok, ∃ t ∈ l, x = elemTok t := fun x hx => by
    obtain ⟨t, ht, rfl⟩ := List.mem_map.1 hx
    exact ⟨t, ht, rfl⟩
  refine ⟨⟨by rw [hL, List.length_map]; exact h, fun x hm => ?_, fun x hm => ?_, fun x hm b hb => ?_, fun x hm b hb => ?_⟩, fun x hm => ?_⟩ <;> obtain ⟨t, ht, rfl⟩ := hx x hm
  · rfl
  · obtain ⟨a1, a2, a3, a4⟩ := hf t ht
    have b1 : okInt t.kind := ⟨by omega, by omega⟩
    have b2 : okStr t.text := by unfold okStr maxLen; omega
    have b3 : (sSlice sStr).R w [.slice none 0 0] t.hidden [] := by rw [a2]; exact slice_empty sStr w none 0 (by simp)
    exact ⟨_, rfl, b1, b2, b3⟩
  · simp [elemTok] at hb
  · simp [elemTok] at hb
  · obtain ⟨a1, a2, a3, a4⟩ := hf t ht
    exact ⟨Nat.le_trans a1 hB, by show 0 ≤ t.kind; omega, a4, by show t.hidden.length ≤ 3; rw [a2]; simp⟩

/-- The lists of names out of which a token's hidden ones are drawn. -/
abbrev hidW (w : World) : World :=
  (((((w.alloc (.cells #[.string ⟨#[97]⟩] 9)).alloc (.cells #[.string ⟨#[97]⟩, .string ⟨#[98]⟩] 9)).alloc (.cells #[.string ⟨#[102]⟩] 9)).alloc (.cells #[.string ⟨#[97]⟩, .string ⟨#[102]⟩, .string ⟨#[103]⟩] 9)).alloc
    (.cells #[.slice (some ⟨w.heap.size, 0, none⟩) 1 1, .slice (some ⟨w.heap.size + 1, 0, none⟩) 2 2, .slice (some ⟨w.heap.size + 1 + 1, 0, none⟩) 1 1, .slice (some ⟨w.heap.size + 1 + 1 + 1, 0, none⟩) 3 3] 22))
def hidL (n : Nat) : List Obj := [.cells #[.string ⟨#[97]⟩] 9, .cells #[.string ⟨#[97]⟩, .string ⟨#[98]⟩] 9, .cells #[.string ⟨#[102]⟩] 9, .cells #[.string ⟨#[97]⟩, .string ⟨#[102]⟩, .string ⟨#[103]⟩] 9,
  .cells #[.slice (some ⟨n, 0, none⟩) 1 1, .slice (some ⟨n + 1, 0, none⟩) 2 2, .slice (some ⟨n + 1 + 1, 0, none⟩) 1 1, .slice (some ⟨n + 1 + 1 + 1, 0, none⟩) 3 3] 22]
theorem hidW_eq (w : World) : hidW w = allocs w (hidL w.heap.size) := rfl
theorem hidW_below (w : World) : Below w.heap.size w (hidW w) := by rw [hidW_eq]; exact allocs_below _ _ (Below.refl _ _) (Nat.le_refl _)
theorem hidW_blk (w : World) (j : Nat) (hj : j < 5) : (hidW w).heap[w.heap.size + j]? = some ((hidL w.heap.size)[j]'hj) := by rw [hidW_eq]; exact allocs_blk w (hidL w.heap.size) j hj
theorem hidW_size (w : World) : (hidW w).heap.size = w.heap.size + 5 := by rw [hidW_eq, allocs_size]; rfl
/-- A literal row of texts. -/
theorem lit_strs {w : World} {b : Nat} {l : List ByteArray} {t : TypeId} {fr : Nat × Nat} (h : w.heap[b]? = some (.cells (l.map Value.string).toArray t fr)) (hs : ∀ s ∈ l, s.size ≤ 1000) (h0 : 0 < l.length) (hl : l.length ≤ 1000) (n : Nat) (hn : l.length = n) :
    (sSlice sStr).R w [.slice (some ⟨b, 0, none⟩) n n] l [b] := by
  subst hn
  refine ⟨_, _, rfl, Nat.le_refl _, by unfold maxLen; omega, .inr ⟨h0, b, 0, fun _ => [], rfl, by simp, (Array.getElem?_eq_some_iff.1 h).1, fun i hi => ⟨[.string l[i]], ⟨rfl, fun j hj => ?_⟩, rfl, ?_, rfl⟩⟩⟩
  · have hj0 : j = 0 := by simp [sStr, sFlat] at hj; omega
    subst hj0
    have := cell_of_row w b i _ _ _ h
    simp only [sStr, sFlat, Nat.mul_one, Nat.zero_add, Nat.add_zero] at *
    rw [this]; simp [List.getElem?_eq_getElem hi]
  · have := hs _ (List.getElem_mem hi)
    unfold okStr maxLen; omega
theorem hid_lits {w w3 : World} {rb : Nat} {r : Int} (hr : rb < w.heap.size) (hK : Kept [rb] (hidW w) w3) (h0 : 0 ≤ r) (h1 : r < 4) :
    ∃ b n l, w3.cell? ⟨w.heap.size + 1 + 1 + 1 + 1, r.toNat, none⟩ = some (.slice (some ⟨b, 0, none⟩) n n) ∧ (sSlice sStr).R w3 [.slice (some ⟨b, 0, none⟩) n n] l [b] ∧ l.length ≤ 3 ∧ w.heap.size ≤ b ∧ ∃ cur fr, w3.heap[b]? = some (.cells cur 9 fr) := by
  have gs := hidW_size w
  have g0 := hidW_blk w 0 (by omega)
  have g1 := hidW_blk w 1 (by omega)
  have g2 := hidW_blk w 2 (by omega)
  have g3 := hidW_blk w 3 (by omega)
  have g4 := hidW_blk w 4 (by omega)
  have k0 := (hK.block _ (by omega) (by simp; omega)).trans g0
  have k1 := (hK.block _ (by omega) (by simp; omega)).trans g1
  have k2 := (hK.block _ (by omega) (by simp; omega)).trans g2
  have k3 := (hK.block _ (by omega) (by simp; omega)).trans g3
  have k4 := (hK.block _ (by omega) (by simp; omega)).trans g4
  have hc := fun j => cell_of_row w3 (w.heap.size + 1 + 1 + 1 + 1) j _ _ _ k4
  have hr4 : r = 0 ∨ r = 1 ∨ r = 2 ∨ r = 3 := by omega
  rcases hr4 with rfl | rfl | rfl | rfl
  · exact ⟨_, 1, [⟨#[97]⟩], hc 0, lit_strs (l := [⟨#[97]⟩]) k0 (by decide) (by decide) (by decide) 1 rfl, by decide, by omega, _, _, k0⟩
  · exact ⟨_, 2, [⟨#[97]⟩, ⟨#[98]⟩], hc 1, lit_strs (l := [⟨#[97]⟩, ⟨#[98]⟩]) k1 (by decide) (by decide) (by decide) 2 rfl, by decide, by omega, _, _, k1⟩
  · exact ⟨_, 1, [⟨#[102]⟩], hc 2, lit_strs (l := [⟨#[102]⟩]) k2 (by decide) (by decide) (by decide) 1 rfl, by decide, by omega, _, _, k2⟩
  · exact ⟨_, 3, [⟨#[97]⟩, ⟨#[102]⟩, ⟨#[103]⟩], hc 3, lit_strs (l := [⟨#[97]⟩, ⟨#[102]⟩, ⟨#[103]⟩]) k3 (by decide) (by decide) (by decide) 3 rfl, by decide, by omega, _, _, k3⟩

def tokE (k : Int) (s : ByteArray) (ao : Option Addr) (m : Nat) (l : List ByteArray) (fp : List Nat) : Elem Tok := ⟨[.int .i64 k, .string s, .bool false, .slice ao m m], ⟨k, s, false, l⟩, fp⟩
/-- The tokens that are not valid, out of which one is drawn. -/
def badE (n : Nat) : List (Elem Tok) := [tokE 0 ⟨#[]⟩ none 0 [] [], tokE 1 ⟨#[49, 97]⟩ none 0 [] [], tokE 1 ⟨#[97, 32, 98]⟩ none 0 [] [], tokE 2 ⟨#[97]⟩ none 0 [] [], tokE 4 ⟨#[64]⟩ none 0 [] [], tokE 3 ⟨#[34, 97]⟩ none 0 [] [],
  tokE 1 ⟨#[97]⟩ (some ⟨n, 0, none⟩) 2 [⟨#[98]⟩, ⟨#[97]⟩] [n], tokE 1 ⟨#[97]⟩ (some ⟨n + 1, 0, none⟩) 1 [⟨#[49]⟩] [n + 1]]
def badL (n : Nat) : List Obj := [.cells #[.string ⟨#[98]⟩, .string ⟨#[97]⟩] 9, .cells #[.string ⟨#[49]⟩] 9, .cells ((badE n).flatMap (·.cells)).toArray 56]
abbrev badW (w : World) : World :=
  ((w.alloc (.cells #[.string ⟨#[98]⟩, .string ⟨#[97]⟩] 9)).alloc (.cells #[.string ⟨#[49]⟩] 9)).alloc
    (.cells #[.int .i64 0, .string ⟨#[]⟩, .bool false, .slice none 0 0, .int .i64 1, .string ⟨#[49, 97]⟩, .bool false, .slice none 0 0, .int .i64 1, .string ⟨#[97, 32, 98]⟩, .bool false, .slice none 0 0, .int .i64 2, .string ⟨#[97]⟩, .bool false, .slice none 0 0,
      .int .i64 4, .string ⟨#[64]⟩, .bool false, .slice none 0 0, .int .i64 3, .string ⟨#[34, 97]⟩, .bool false, .slice none 0 0, .int .i64 1, .string ⟨#[97]⟩, .bool false, .slice (some ⟨w.heap.size, 0, none⟩) 2 2, .int .i64 1, .string ⟨#[97]⟩, .bool false, .slice (some ⟨w.heap.size + 1, 0, none⟩) 1 1] 56)
theorem badW_eq (w : World) : badW w = allocs w (badL w.heap.size) := rfl
theorem badW_below (w : World) : Below w.heap.size w (badW w) := by rw [badW_eq]; exact allocs_below _ _ (Below.refl _ _) (Nat.le_refl _)
theorem badW_blk (w : World) (j : Nat) (hj : j < 3) : (badW w).heap[w.heap.size + j]? = some ((badL w.heap.size)[j]'hj) := by rw [badW_eq]; exact allocs_blk w (badL w.heap.size) j hj
theorem badW_size (w : World) : (badW w).heap.size = w.heap.size + 3 := by rw [badW_eq, allocs_size]; rfl
theorem badE_len (n : Nat) : ∀ x ∈ badE n, x.cells.length = 4 := by
  intro x hx
  simp only [badE, List.mem_cons, List.not_mem_nil, or_false] at hx
  rcases hx with rfl | rfl | rfl | rfl | rfl | rfl | rfl | rfl <;> rfl
theorem badE_form (n : Nat) : ∀ x ∈ badE n, okTok x.d ∧ ∃ k s ao m l fp, x = tokE k s ao m l fp ∧ (fp = [] ∧ l = [] ∧ ao = none ∧ m = 0 ∨ fp = [n] ∧ l = [⟨#[98]⟩, ⟨#[97]⟩] ∧ ao = some ⟨n, 0, none⟩ ∧ m = 2 ∨ fp = [n + 1] ∧ l = [⟨#[49]⟩] ∧ ao = some ⟨n + 1, 0, none⟩ ∧ m = 1) := by
  intro x hx
  simp only [badE, List.mem_cons, List.not_mem_nil, or_false] at hx
  have ok : ∀ (k : Int) (s : ByteArray) (l : List ByteArray), s.size ≤ 1000 → 0 ≤ k → k ≤ 4 → l.length ≤ 3 → okTok ⟨k, s, false, l⟩ := fun k s l a b c d => ⟨a, b, c, d⟩
  rcases hx with rfl | rfl | rfl | rfl | rfl | rfl | rfl | rfl
  · exact ⟨ok _ _ _ (by decide) (by decide) (by decide) (by decide), _, _, _, _, _, _, rfl, .inl ⟨rfl, rfl, rfl, rfl⟩⟩
  · exact ⟨ok _ _ _ (by decide) (by decide) (by decide) (by decide), _, _, _, _, _, _, rfl, .inl ⟨rfl, rfl, rfl, rfl⟩⟩
  · exact ⟨ok _ _ _ (by decide) (by decide) (by decide) (by decide), _, _, _, _, _, _, rfl, .inl ⟨rfl, rfl, rfl, rfl⟩⟩
  · exact ⟨ok _ _ _ (by decide) (by decide) (by decide) (by decide), _, _, _, _, _, _, rfl, .inl ⟨rfl, rfl, rfl, rfl⟩⟩
  · exact ⟨ok _ _ _ (by decide) (by decide) (by decide) (by decide), _, _, _, _, _, _, rfl, .inl ⟨rfl, rfl, rfl, rfl⟩⟩
  · exact ⟨ok _ _ _ (by decide) (by decide) (by decide) (by decide), _, _, _, _, _, _, rfl, .inl ⟨rfl, rfl, rfl, rfl⟩⟩
  · exact ⟨ok _ _ _ (by decide) (by decide) (by decide) (by decide), _, _, _, _, _, _, rfl, .inr (.inl ⟨rfl, rfl, rfl, rfl⟩)⟩
  · exact ⟨ok _ _ _ (by decide) (by decide) (by decide) (by decide), _, _, _, _, _, _, rfl, .inr (.inr ⟨rfl, rfl, rfl, rfl⟩)⟩
/-- One of them, picked. -/
def PickedTok (B g : Nat) (i : Nat) (w : World) : Prop :=
  ∃ (k : Int) (s : ByteArray) (ao : Option Addr) (m : Nat) (l : List ByteArray) (fp : List Nat),
    w.cell? ⟨g, i * 4, none⟩ = some (.int .i64 k) ∧ w.cell? ⟨g, i * 4 + 1, none⟩ = some (.string s) ∧ w.cell? ⟨g, i * 4 + 2, none⟩ = some (.bool false) ∧ w.cell? ⟨g, i * 4 + 3, none⟩ = some (.slice ao m m) ∧
    sTok.R w [.int .i64 k, .string s, .bool false, .slice ao m m] ⟨k, s, false, l⟩ fp ∧ okTok ⟨k, s, false, l⟩ ∧ (∀ b ∈ fp, B ≤ b) ∧ (∀ b ∈ fp, ∃ cur t fr, w.heap[b]? = some (.cells cur t fr) ∧ t ≠ 56)
theorem bad_pick {w w4 : World} {rb : Nat} {r : Int} (hr : rb < w.heap.size) (hK : Kept [rb] (badW w) w4) (h0 : 0 ≤ r) (h1 : r < 8) : PickedTok w.heap.size (w.heap.size + 1 + 1) r.toNat w4 := by
  have gs := badW_size w
  have k0 := (hK.block _ (by omega) (by simp; omega)).trans (badW_blk w 0 (by omega))
  have k1 := (hK.block _ (by omega) (by simp; omega)).trans (badW_blk w 1 (by omega))
  have k2 := (hK.block _ (by omega) (by simp; omega)).trans (badW_blk w 2 (by omega))
  have hr8 : r.toNat < (badE w.heap.size).length := by show _ < 8; omega
  have hmem := List.getElem_mem hr8
  obtain ⟨hok, k, s, ao, m, l, fp, hx, hways⟩ := badE_form _ _ hmem
  have hc : ∀ j, j < 4 → w4.cell? ⟨w.heap.size + 1 + 1, r.toNat * 4 + j, none⟩ = (tokE k s ao m l fp).cells[j]? := fun j hj => by
    rw [cell_of_row w4 (w.heap.size + 1 + 1) (r.toNat * 4 + j) _ _ _ k2, List.getElem?_toArray, flatMap_at (f := Elem.cells) (badE_len _) hr8 hj, hx]
  rw [hx] at hok
  obtain ⟨o1, o2, o3, o4⟩ := hok
  have b1 : okInt k := ⟨by have : 0 ≤ k := o2; omega, by have : k ≤ 4 := o3; omega⟩
  have b2 : okStr s := by unfold okStr maxLen; have : s.size ≤ 1000 := o1; omega
  refine ⟨k, s, ao, m, l, fp, hc 0 (by omega), hc 1 (by omega), hc 2 (by omega), hc 3 (by omega), ?_, ⟨o1, o2, o3, o4⟩, ?_, ?_⟩
  · rcases hways with ⟨rfl, rfl, rfl, rfl⟩ | ⟨rfl, rfl, rfl, rfl⟩ | ⟨rfl, rfl, rfl, rfl⟩
    · exact ⟨_, rfl, b1, b2, slice_empty sStr _ _ _ (by simp)⟩
    · exact ⟨_, rfl, b1, b2, lit_strs (l := [⟨#[98]⟩, ⟨#[97]⟩]) k0 (by decide) (by decide) (by decide) 2 rfl⟩
    · exact ⟨_, rfl, b1, b2, lit_strs (l := [⟨#[49]⟩]) k1 (by decide) (by decide) (by decide) 1 rfl⟩
  · intro b hb
    rcases hways with ⟨rfl, _⟩ | ⟨rfl, _⟩ | ⟨rfl, _⟩ <;> simp at hb <;> omega
  · intro b hb
    rcases hways with ⟨rfl, _⟩ | ⟨rfl, _⟩ | ⟨rfl, _⟩ <;> simp at hb <;> subst hb
    · exact ⟨_, _, _, k0, by decide⟩
    · exact ⟨_, _, _, k1, by decide⟩

/-- append of one token out of its literal's own block. -/
theorem wp_append_tokE {w : World} {ops : Array Oper} {rest : List Oper} {o : Oper} {a : Act} {Q : Exit → Act → World → Prop} (hg : o.guard = none) (s y : Operand)
    (ho : o.op = .call { callee := .builtin .append, args := #[s, y], argTypes := #[30, 30] })
    (base : Nat) (v : Value) (L : List (Elem Tok)) (hs : a.eval s = v) (hown : RowE sTok base 56 v L w) (k : Int) (x : ByteArray) (b : Bool) (ao : Option Addr) (m c : Nat) (l : List ByteArray) (fp : List Nat)
    (hy : a.eval y = .slice (some ⟨w.heap.size, 0, none⟩) 1 1) (hR : sTok.R w [.int .i64 k, .string x, .bool b, .slice ao m c] ⟨k, x, b, l⟩ fp) (hlo : ∀ b ∈ fp, base ≤ b) (hty : ∀ b ∈ fp, ∃ cur t fr, w.heap[b]? = some (.cells cur t fr) ∧ t ≠ 56)
    (h63 : L.length ≤ 2000000) (hbase : base ≤ w.heap.size)
    (h : ∀ v' w', RowE sTok base 56 v' (L ++ [⟨[.int .i64 k, .string x, .bool b, .slice ao m c], ⟨k, x, b, l⟩, fp⟩]) w' → w.grownBy w' v.ownBlock → wpList Try.prog ops Q rest (a.put o.dst v') w') :
    wpList Try.prog ops Q (o :: rest) a (w.alloc (.cells #[.int .i64 k, .string x, .bool b, .slice ao m c] 56)) := by
  have hb := alloc_below' w (.cells #[.int .i64 k, .string x, .bool b, .slice ao m c] 56)
  refine wp_append_rowE (S := sTok) ti_tok rfl (by decide) _ (X := [⟨[.int .i64 k, .string x, .bool b, .slice ao m c], ⟨k, x, b, l⟩, fp⟩]) hg s y ho base v hs (hown.below hb) w.heap.size 1 1 hy rfl ?_ ?_ ?_ ?_ ?_ ?_ (by unfold maxLen; omega) (by omega) (by simp; omega) fun v' w' a b => h v' w' a (grown_trans (World.grownBy_alloc _ _ _) b)
  · intro x hx; obtain rfl := List.mem_singleton.1 hx; rfl
  · intro x hx; obtain rfl := List.mem_singleton.1 hx; simp [Value.oneCell']
  · intro j u hj
    rw [World.cell?_alloc_at _ _ _ _ rfl]
    simpa using hj
  · intro x hx; obtain rfl := List.mem_singleton.1 hx; exact sTok.below hR hb
  · intro x hx; obtain rfl := List.mem_singleton.1 hx; exact hlo
  · intro x hx b' hb'
    obtain rfl := List.mem_singleton.1 hx
    obtain ⟨cur, t, fr, h1, h2⟩ := hty b' hb'
    exact ⟨cur, t, fr, (hb.block b' (Array.getElem?_eq_some_iff.1 h1).1).trans h1, h2⟩

theorem okApp {L : List (Elem Tok)} {x : Elem Tok} (h : ∀ x ∈ L, okTok x.d) (hx : okTok x.d) : ∀ y ∈ L ++ [x], okTok y.d := fun y hy => by
  rcases List.mem_append.1 hy with hy | hy
  · exact h y hy
  · obtain rfl := List.mem_singleton.1 hy; exact hx
theorem okApp2 {L : List (Elem Tok)} {x x' : Elem Tok} (h : ∀ x ∈ L, okTok x.d) (hx : okTok x.d) (hx' : okTok x'.d) : ∀ y ∈ L ++ [x, x'], okTok y.d := fun y hy => by
  rcases List.mem_append.1 hy with hy | hy
  · exact h y hy
  · simp only [List.mem_cons, List.not_mem_nil, or_false] at hy
    rcases hy with rfl | rfl
    · exact hx
    · exact hx'
theorem grownRd {rb p B : Nat} {w w' : World} {ob : Option Nat} (h : Rd w rb p) (hg : w.grownBy w' ob) (hr : rb < B) (ho : ∀ b, ob = some b → B ≤ b) : Rd w' rb p := by
  obtain ⟨⟨a, l, cap, fp, h2, h3, h4, h5⟩, h6⟩ := h
  have hlt := (Array.getElem?_eq_some_iff.1 h2).1
  have hblk : ∀ b, b ≤ rb → w'.heap[b]? = w.heap[b]? := fun b hb => hg.block b (by omega) (by intro he; have := ho b he.symm; omega)
  exact ⟨⟨a, l, cap, fp, (hblk rb (Nat.le_refl _)).trans h2, (sSlice sByte).frame (fun b hb => hblk b (Nat.le_of_lt (h4 b hb))) h3, h4, h5⟩, h6⟩
theorem grownKept {rb : Nat} {w0 w w' : World} {ob : Option Nat} (h : Kept [rb] w0 w) (hg : w.grownBy w' ob) (ho : ∀ b, ob = some b → w0.heap.size ≤ b) : Kept [rb] w0 w' :=
  ⟨hg.os.trans h.os, hg.tape.trans h.tape, hg.output.trans h.output, Nat.le_trans h.size hg.size, fun k hk hn => (hg.block k (Nat.lt_of_lt_of_le hk h.size) (by intro he; have := ho k he.symm; omega)).trans (h.block k hk hn)⟩
theorem rdSet {rb g p : Nat} {w : World} (h : Rd w rb p) (hr : rb < g) (o : Nat) (u : Value) : Rd (w.setCell ⟨g, o, none⟩ u) rb p :=
  h.kept ((Kept.refl [g] w).setCell (p := ⟨g, o, none⟩) (by simp) u) (fun b hb => by have e : b = g := (by simpa using hb); omega)
theorem keptSet {rb g : Nat} {w w' : World} (hk : Kept [rb] w w') (hg : w.heap.size ≤ g) (u : Value) (o : Nat) : Kept [rb] w (w'.setCell ⟨g, o, none⟩ u) :=
  ⟨hk.os, hk.tape, hk.output, by simp [World.setCell]; exact hk.size, fun k h1 h2 => (Below.heap_setCell _ _ _ _ (by show k ≠ g; omega)).trans (hk.block k h1 h2)⟩
/-- Tokens are drawn, by at most n picks. -/
def DrawnToks (rb p n : Nat) (least : Nat) (w : World) (e : Ending) (w' : World) : Prop :=
  ∃ (v : Value) (L : List (Elem Tok)) (q : Nat), e = .returned v ∧ RowE sTok w.heap.size 56 v L w' ∧ (∀ x ∈ L, okTok x.d) ∧ least ≤ L.length ∧ L.length ≤ 61 ∧ q ≤ p + n ∧ Rd w' rb q ∧ Kept [rb] w w'

/-- .. 'odd' of 1 is true. -/
def OddT (rb p : Nat) (n : Int) (w : World) (e : Ending) (w' : World) : Prop := ∃ b : Bool, ∃ q : Nat, e = .returned (.bool b) ∧ Hid (n = 1 → b = true) ∧ p ≤ q ∧ q ≤ p + 1 ∧ Rd w' rb q ∧ Kept [rb] w w'
set_option maxHeartbeats 1000000 in
theorem oddT (rb p : Nat) (n : Int) (w : World) (H : Rd w rb p) (hp : p < 1000000) (hn : n ≤ 1000000) (hn0 : 0 ≤ n) :
    Calls Try.prog 57 #[.pointer (some ⟨rb, 0, none⟩), .int .i64 n] w (OddT rb p n w) := by
  by_cases h0 : 0 < n
  · go_enter Try.func57, Try.ntmps57
    go_wp2_with (go_at_call 35; refine (pick _ _ _ _ H hp hn (by omega)).mono ?_; rintro e w' ⟨r, rfl, hr0, hr1, hr2, hr3⟩)
    go_ret
    exact ⟨_, p + 1, rfl, (fun h => by simp; omega), by omega, by omega, hr2, hr3⟩
  · have e0 : n = 0 := by omega
    subst e0
    go_enter Try.func57, Try.ntmps57
    go_wp2
    go_ret
    exact ⟨_, p, rfl, (fun h => absurd h (by decide)), by omega, by omega, H, Kept.refl _ _⟩

set_option maxHeartbeats 8000000 in
set_option maxRecDepth 100000 in
theorem l20Tokens (rb p : Nat) (n : Int) (w : World) (H : Rd w rb p) (hp : p ≤ 100000) (hn : n ≤ 100) (hn0 : 0 ≤ n) (least : Nat) (hl : least ≤ 1) (hl1 : 0 < least → n = 1) :
    Calls Try.prog 36 #[.pointer (some ⟨rb, 0, none⟩), .int .i64 n] w (DrawnToks rb p 300 least w) := by
  have hrb := H.lt
  go_enter Try.func36, Try.ntmps36
  go_wp2_with fail
  refine (l20Line rb p _ _ H hp (by omega) (by omega)).mono ?_
  rintro e w1 ⟨s, q1, rfl, hs, hq1, hR1, hK1⟩
  go_wp2_with fail
  refine (spec_TokensOf_row s _ (by unfold maxLen; omega)).mono ?_
  rintro e w2 ⟨v, rfl, hrow, hfr, hB2⟩
  have hcnt := (tokRes_all s).1
  obtain ⟨hE0, hok0⟩ := toks_rowE hrow hfr hs
  have hR2 := hR1.grow hB2
  have hK2 := hK1.trans (Kept.of_below (fp := [rb]) hB2)
  replace hE0 := hE0.lower hK1.size
  have HN : Hid (((tokRes s).1.map elemTok).length ≤ 60) := by show _ ≤ _; rw [List.length_map]; exact hcnt
  generalize (tokRes s).1.map elemTok = L0 at hE0 hok0 HN
  generalize (tokRes s).2 = b0 at *
  clear hrow hfr hcnt hB2 hR1 hK1
  obtain ⟨a, cap, rfl, hc, hm, hpos⟩ := hE0.val
  unfold maxLen at hm
  have hlen := HN.out
  go_wp2
  go_loopw [7] (fun i wr => ∃ (k q : Nat) (L : List (Elem Tok)), k ≤ L0.length ∧ i = .int .i64 k ∧ q ≤ q1 + 2 * k ∧ Hid (L.length = L0.length) ∧ RowE sTok w.heap.size 56 (.slice a L0.length cap) L wr ∧ (∀ x ∈ L, okTok x.d) ∧ Rd wr rb q ∧ Kept [rb] w wr) (fun i _ => L0.length - (intOf i).toNat)
  case atStart => exact ⟨0, q1, L0, by omega, rfl, by omega, rfl, hE0, hok0, hR2, hK2⟩
  case round =>
    obtain ⟨k, q, L, hk, rfl, hq, HL, hE, hok, hR, hK⟩ := hrel
    clear hE0 hok0 hR2 hK2
    by_cases hlt : k < L0.length
    · obtain ⟨g, rfl, hg1, hg2⟩ := hpos (by omega)
      go_wp2_with fail
      refine (pick rb q _ _ hR (by omega) (by omega) (by omega)).mono ?_
      rintro e w3 ⟨r, rfl, h0, h1, hR3, hK3⟩
      have hE3 := hE.keptR hK3 hrb
      have hK3' := hK.trans hK3
      by_cases hr : r = 0
      · have hr' : (r == 0) = true := by simp [hr]
        clear hr
        go_wp2_with fail
        refine (pick rb (q + 1) _ _ (hR3.grow (hidW_below w3)) (by omega) (by omega) (by omega)).mono ?_
        rintro e w4 ⟨r2, rfl, h20, h21, hR4, hK4⟩
        obtain ⟨hb, hn', l, hcl, hRl, hll, hlb, hty⟩ := hid_lits hR3.lt hK4 h20 (by omega)
        have hE4 := (hE3.below (hidW_below w3)).keptR hK4 hrb
        have hK4' := (hK3'.trans (Kept.of_below (fp := [rb]) (hidW_below w3))).trans hK4
        have hkL : k < L.length := by rw [HL.out]; exact hlt
        have hkm := List.getElem_mem hkL
        obtain ⟨hh, hcs, hi, hst, _⟩ := hE4.el _ hkm
        have HCS := Lib.hid hcs
        have c3 : w4.cell? ⟨g, k * 4 + 3, none⟩ = some hh := hE4.cellAt hkL (j := 3) (by decide) (by rw [hcs]; rfl)
        have f3 : w4.frozen? ⟨g, k * 4 + 3, none⟩ = false := hE4.frozen _
        have HOK := Lib.hid (hok _ hkm)
        have HI := Lib.hid (And.intro hi hst)
        obtain ⟨cur, fr, hcur⟩ := hty
        have HS : Hid (RowE sTok w.heap.size 56 (.slice (some ⟨g, 0, none⟩) L0.length cap) (L.set k ⟨[.int .i64 L[k].d.kind, .string L[k].d.text, .bool L[k].d.spaced, .slice (some ⟨hb, 0, none⟩) hn' hn'], ⟨L[k].d.kind, L[k].d.text, L[k].d.spaced, l⟩, [hb]⟩) (w4.setCell ⟨g, k * 4 + 3, none⟩ (.slice (some ⟨hb, 0, none⟩) hn' hn'))) := by
          refine hE4.set hkL (j := 3) (by decide) _ _ (by rw [HCS.out]; rfl) ⟨_, rfl, HI.out.1, HI.out.2, hRl⟩ (fun b hb' => ?_) (fun b hb' => ?_)
          · have e : b = hb := by simpa using hb'
            subst e
            have := hK3'.size; omega
          · have e : b = hb := by simpa using hb'
            subst e
            exact ⟨cur, _, fr, hcur, by decide⟩
        have HOKs : Hid (∀ x ∈ L.set k ⟨[.int .i64 L[k].d.kind, .string L[k].d.text, .bool L[k].d.spaced, .slice (some ⟨hb, 0, none⟩) hn' hn'], ⟨L[k].d.kind, L[k].d.text, L[k].d.spaced, l⟩, [hb]⟩, okTok x.d) := by
          intro x hx
          rcases List.mem_or_eq_of_mem_set hx with h | h
          · exact hok x h
          · subst h; exact ⟨HOK.out.1, HOK.out.2.1, HOK.out.2.2.1, hll⟩
        have HLs : Hid ((L.set k ⟨[.int .i64 L[k].d.kind, .string L[k].d.text, .bool L[k].d.spaced, .slice (some ⟨hb, 0, none⟩) hn' hn'], ⟨L[k].d.kind, L[k].d.text, L[k].d.spaced, l⟩, [hb]⟩).length = L0.length) := by show _ = _; rw [List.length_set]; exact HL.out
        have hR5 : Hid (Rd (w4.setCell ⟨g, k * 4 + 3, none⟩ (.slice (some ⟨hb, 0, none⟩) hn' hn')) rb (q + 1 + 1)) := hR4.kept ((Kept.refl [g] w4).setCell (p := ⟨g, k * 4 + 3, none⟩) (by simp) _) (fun b hb' => by have e : b = g := (by simpa using hb'); omega)
        have hK5 : Hid (Kept [rb] w (w4.setCell ⟨g, k * 4 + 3, none⟩ (.slice (some ⟨hb, 0, none⟩) hn' hn'))) := keptSet hK4' hg1 _ _
        clear hcs hok hE hE3 hE4 hi hst HCS HI hcur hR3 hK hK3 hK3' hK4 hR hRl hkm hR4 hK4'
        go_wp2
        go_roundw
        case rel => exact ⟨k + 1, q + 1 + 1, _, by omega, by go_num, by omega, HLs.out, HS.out, HOKs.out, hR5.out, hK5.out⟩
        case measure => simp [intOf]; omega
      · have hr' : (r == 0) = false := by simp [hr]
        clear hr
        go_wp2
        go_roundw
        case rel => exact ⟨k + 1, q + 1, L, by omega, by go_num, by omega, HL, hE3, hok, hR3, hK3'⟩
        case measure => simp [intOf]; omega
    · go_wp2_with fail
      refine (oddT rb q _ _ hR (by omega) (by omega) (by omega)).mono ?_
      rintro e w3 ⟨b, q2, rfl, hb1, hq1', hq2, hR3, hK3⟩
      have hE3 := hE.keptR hK3 hrb
      have hK3' := hK.trans hK3
      have HL1 := HL.out
      clear hE hK hR
      cases b
      · have HZ : Hid (least = 0) := by
          show _ = _
          by_cases h : 0 < least
          · exact absurd (hb1.out (hl1 h)) (by decide)
          · omega
        go_wp2
        go_ret
        exact ⟨_, L, q2, rfl, hE3, hok, by rw [HZ.out]; omega, by omega, by omega, hR3, hK3'⟩
      · go_wp2_with fail
        refine (pick rb q2 _ _ (hR3.grow (badW_below w3)) (by omega) (by omega) (by omega)).mono ?_
        rintro e w4 ⟨r2, rfl, h20, h21, hR4, hK4⟩
        obtain ⟨tk, ts, ao, tm, tl, tf, d0, d1, d2, d3, dR, dok, dlo, dty⟩ := bad_pick hR3.lt hK4 h20 (by omega)
        have hE4 := (hE3.below (badW_below w3)).keptR hK4 hrb
        have hK4' := (hK3'.trans (Kept.of_below (fp := [rb]) (badW_below w3))).trans hK4
        have hw4 : w3.heap.size ≤ w4.heap.size := Nat.le_trans (badW_below w3).size hK4.size
        have hw0 := hK4'.size
        have HT := Lib.hid (And.intro dR (And.intro (fun b hb => Nat.le_trans (Nat.le_trans hK3'.size (Nat.le_refl _)) (dlo b hb)) dty))
        have HR4 := Lib.hid hR4
        have HE4 := Lib.hid hE4
        have HOK := Lib.hid hok
        have HDK := Lib.hid dok
        have HK4' := Lib.hid hK4'
        clear hE3 hK3 hK3' hK4 hR3 dR dlo dty hE4 hR4 hok dok hK4' HL HN
        go_wp2_with (at_builtin; refine wp_append_tokE rfl (.tmp 51) (.tmp 59) rfl w.heap.size (.slice a L0.length cap) L rfl HE4.out tk ts false ao tm tm tl tf rfl HT.out.1 HT.out.2.1 HT.out.2.2 (by omega) hw0 ?_; intro v5 w5 hE5 hg5)
        go_ret
        exact ⟨v5, _, q2 + 1, rfl, hE5, okApp HOK.out HDK.out, by rw [List.length_append]; simp; omega, by rw [List.length_append]; simp; omega, by omega, grownRd HR4.out hg5 hrb HE4.out.mine, grownKept HK4'.out hg5 HE4.out.mine⟩

/-- append of two tokens out of their literal's own block. -/
theorem wp_append_tok2 {w : World} {ops : Array Oper} {rest : List Oper} {o : Oper} {a : Act} {Q : Exit → Act → World → Prop} (hg : o.guard = none) (s y : Operand)
    (ho : o.op = .call { callee := .builtin .append, args := #[s, y], argTypes := #[30, 30] })
    (base : Nat) (v : Value) (L : List (Elem Tok)) (hs : a.eval s = v) (hown : RowE sTok base 56 v L w) (k1 : Int) (x1 : ByteArray) (k2 : Int) (x2 : ByteArray)
    (hy : a.eval y = .slice (some ⟨w.heap.size, 0, none⟩) 2 2) (h1 : okTok ⟨k1, x1, false, []⟩) (h2 : okTok ⟨k2, x2, false, []⟩) (h63 : L.length ≤ 2000000) (hbase : base ≤ w.heap.size)
    (h : ∀ v' w', RowE sTok base 56 v' (L ++ [tokE k1 x1 none 0 [] [], tokE k2 x2 none 0 [] []]) w' → w.grownBy w' v.ownBlock → wpList Try.prog ops Q rest (a.put o.dst v') w') :
    wpList Try.prog ops Q (o :: rest) a (w.alloc (.cells #[.int .i64 k1, .string x1, .bool false, .slice none 0 0, .int .i64 k2, .string x2, .bool false, .slice none 0 0] 56)) := by
  have hb := alloc_below' w (.cells #[.int .i64 k1, .string x1, .bool false, .slice none 0 0, .int .i64 k2, .string x2, .bool false, .slice none 0 0] 56)
  have hX : ∀ {P : Elem Tok → Prop}, P (tokE k1 x1 none 0 [] []) → P (tokE k2 x2 none 0 [] []) → ∀ x ∈ [tokE k1 x1 none 0 [] [], tokE k2 x2 none 0 [] []], P x := fun a b x hx => by
    simp only [List.mem_cons, List.not_mem_nil, or_false] at hx
    rcases hx with rfl | rfl
    · exact a
    · exact b
  have R : ∀ (k : Int) (x : ByteArray) (W : World), okTok ⟨k, x, false, []⟩ → sTok.R W (tokE k x none 0 [] []).cells (tokE k x none 0 [] []).d [] := fun k x W h => by
    obtain ⟨a1, a2, a3, a4⟩ := h
    have b1 : okInt k := ⟨by have : 0 ≤ k := a2; omega, by have : k ≤ 4 := a3; omega⟩
    have b2 : okStr x := by unfold okStr maxLen; have : x.size ≤ 1000 := a1; omega
    exact ⟨_, rfl, b1, b2, slice_empty sStr W none 0 (by simp)⟩
  refine wp_append_rowE (S := sTok) ti_tok rfl (by decide) _ (X := [tokE k1 x1 none 0 [] [], tokE k2 x2 none 0 [] []]) hg s y ho base v hs (hown.below hb) w.heap.size 2 2 hy rfl (hX rfl rfl) (hX (by simp [tokE, Value.oneCell']) (by simp [tokE, Value.oneCell'])) ?_ (hX (R _ _ _ h1) (R _ _ _ h2)) (hX (by simp [tokE]) (by simp [tokE])) (hX (by simp [tokE]) (by simp [tokE])) (by unfold maxLen; omega) (by omega) (by simp; omega) fun v' w' a b => h v' w' a (grown_trans (World.grownBy_alloc _ _ _) b)
  intro j u hj
  rw [World.cell?_alloc_at _ _ _ _ rfl]
  simpa [tokE] using hj

theorem okA : okTok ⟨1, ⟨#[97]⟩, false, []⟩ := ⟨by decide, by decide, by decide, by decide⟩
theorem ok12 : okTok ⟨2, ⟨#[49, 50]⟩, false, []⟩ := ⟨by decide, by decide, by decide, by decide⟩
/-- A token is drawn. -/
def DrawnTok (rb p n : Nat) (w : World) (e : Ending) (w' : World) : Prop :=
  ∃ (k : Int) (s : ByteArray) (sp : Bool) (ao : Option Addr) (m c : Nat) (l : List ByteArray) (fp : List Nat) (q : Nat), e = .returned (.agg #[.int .i64 k, .string s, .bool sp, .slice ao m c]) ∧
    sTok.R w' [.int .i64 k, .string s, .bool sp, .slice ao m c] ⟨k, s, sp, l⟩ fp ∧ okTok ⟨k, s, sp, l⟩ ∧ (∀ b ∈ fp, w.heap.size ≤ b) ∧ (∀ b ∈ fp, ∃ cur t fr, w'.heap[b]? = some (.cells cur t fr) ∧ t ≠ 56) ∧ q ≤ p + n ∧ Rd w' rb q ∧ Kept [rb] w w'
theorem RowE.tokAt {base e g n cap : Nat} {L : List (Elem Tok)} {w : World} (h : RowE sTok base e (.slice (some ⟨g, 0, none⟩) n cap) L w) {i : Nat} (hi : i < L.length) :
    ∃ ao m c, w.cell? ⟨g, i * 4, none⟩ = some (.int .i64 L[i].d.kind) ∧ w.cell? ⟨g, i * 4 + 1, none⟩ = some (.string L[i].d.text) ∧ w.cell? ⟨g, i * 4 + 2, none⟩ = some (.bool L[i].d.spaced) ∧ w.cell? ⟨g, i * 4 + 3, none⟩ = some (.slice ao m c) ∧
      sTok.R w [.int .i64 L[i].d.kind, .string L[i].d.text, .bool L[i].d.spaced, .slice ao m c] L[i].d L[i].fp := by
  have hR := h.el _ (List.getElem_mem hi)
  have hR' := hR
  obtain ⟨hh, hcs, _, _, hK⟩ := hR
  obtain ⟨ao, c, rfl, -⟩ := open_rows hK
  have hc := fun j (hj : j < 4) u (hu : L[i].cells[j]? = some u) => h.cellAt hi hj hu
  rw [hcs] at hR'
  exact ⟨ao, _, c, hc 0 (by omega) _ (by rw [hcs]; rfl), hc 1 (by omega) _ (by rw [hcs]; rfl), hc 2 (by omega) _ (by rw [hcs]; rfl), hc 3 (by omega) _ (by rw [hcs]; rfl), hR'⟩
theorem blkKept {rb g : Nat} {w w' : World} {o : Obj} (h : w.heap[g]? = some o) (hk : Kept [rb] w w') (hn : g ≠ rb) : w'.heap[g]? = some o :=
  (hk.block g (Array.getElem?_eq_some_iff.1 h).1 (by simpa using hn)).trans h

theorem ty_sets {w : World} {g : Nat} {fp : List Nat} {e : TypeId} (h : ∀ b ∈ fp, ∃ cur t fr, w.heap[b]? = some (.cells cur t fr) ∧ t ≠ e) (hn : g ∉ fp) (v0 v1 v2 v3 : Value) :
    ∀ b ∈ fp, ∃ cur t fr, ((((w.setCell ⟨g, 0, none⟩ v0).setCell ⟨g, 1, none⟩ v1).setCell ⟨g, 2, none⟩ v2).setCell ⟨g, 3, none⟩ v3).heap[b]? = some (.cells cur t fr) ∧ t ≠ e := fun b hb => by
  obtain ⟨cur, t, fr, h1, h2⟩ := h b hb
  have hne : b ≠ g := fun e => hn (e ▸ hb)
  exact ⟨cur, t, fr, blk_other (blk_other (blk_other (blk_other h1 hne 0 v0) hne 1 v1) hne 2 v2) hne 3 v3, h2⟩

set_option maxHeartbeats 8000000 in
set_option maxRecDepth 100000 in
theorem l20Token (rb p : Nat) (n : Int) (w : World) (H : Rd w rb p) (hp : p ≤ 50000) (hn : n ≤ 100) (hn0 : 0 ≤ n) :
    Calls Try.prog 58 #[.pointer (some ⟨rb, 0, none⟩), .int .i64 n] w (DrawnTok rb p 700 w) := by
  have hrb := H.lt
  have hB0 := alloc_below' w (.cells #[.int .i64 0, .string ⟨#[]⟩, .bool false, .slice none 0 0] 56)
  have HX := Lib.hid (show (w.alloc (.cells #[.int .i64 0, .string ⟨#[]⟩, .bool false, .slice none 0 0] 56)).heap[w.heap.size]? = some (.cells #[.int .i64 0, .string ⟨#[]⟩, .bool false, .slice none 0 0] 56 (0, 0)) from by show (w.heap.push _)[_]? = _; simp)
  have hs0 : (w.alloc (.cells #[.int .i64 0, .string ⟨#[]⟩, .bool false, .slice none 0 0] 56)).heap.size = w.heap.size + 1 := Array.size_push _
  have HS := Lib.hid hs0
  clear hs0
  have hK0 : Kept [rb] w (w.alloc (.cells #[.int .i64 0, .string ⟨#[]⟩, .bool false, .slice none 0 0] 56)) := Kept.of_below hB0
  go_enter Try.func58, Try.ntmps58
  go_wp2_with fail
  refine (l20Tokens rb p _ _ (H.grow hB0) (by omega) (by omega) (by omega) 0 (by omega) (by omega)).mono ?_
  rintro e w1 ⟨v1, L, q1, rfl, hE1, hok1, -, hl1, hq1, hR1, hK1⟩
  rw [HS.out] at hE1
  have HX1 := Lib.hid (blkKept HX.out hK1 (by omega))
  have hK1' := hK0.trans hK1
  have hw1 : w.heap.size + 1 ≤ w1.heap.size := by have := hK1.size; rw [HS.out] at this; exact this
  go_wp2_with (at_builtin; refine wp_append_tok2 rfl (.tmp 7) (.tmp 10) rfl (w.heap.size + 1) v1 L rfl hE1 1 ⟨#[97]⟩ 2 ⟨#[49, 50]⟩ rfl okA ok12 (by omega) hw1 ?_; intro v2 w2 hE2 hg2)
  have hL2 : (L ++ [tokE 1 ⟨#[97]⟩ none 0 [] [], tokE 2 ⟨#[49, 50]⟩ none 0 [] []]).length = L.length + 2 := by simp
  have HOK := Lib.hid (okApp2 hok1 (x := tokE 1 ⟨#[97]⟩ none 0 [] []) (x' := tokE 2 ⟨#[49, 50]⟩ none 0 [] []) okA ok12)
  have HR2 := grownRd hR1 hg2 (by omega : rb < w.heap.size + 1) hE1.mine
  have HX2 := Lib.hid ((hg2.block _ (Array.getElem?_eq_some_iff.1 HX1.out).1 (fun h => by have := hE1.mine _ h.symm; omega)).trans HX1.out)
  have HK2 := grownKept hK1' hg2 (fun b hb => by have := hE1.mine b hb; omega)
  generalize (L ++ [tokE 1 ⟨#[97]⟩ none 0 [] [], tokE 2 ⟨#[49, 50]⟩ none 0 [] []]) = L2 at *
  clear hE1 hok1 hg2 HX1 hR1 hK1 hK1' HX hK0 hB0 H
  have HE2 := Lib.hid hE2
  have HK2' := Lib.hid HK2
  have hw2 := HK2.size
  go_wp2_with fail
  refine (odd rb q1 _ _ HR2 (by omega) (by omega) (by omega)).mono ?_
  rintro e w3 ⟨b, q2, rfl, hq2, hq3, hR3, hK3⟩
  have HE3 := Lib.hid (HE2.out.keptR hK3 (by omega))
  have HX3 := Lib.hid (blkKept HX2.out hK3 (by omega))
  have HK3 := Lib.hid (HK2'.out.trans hK3)
  have hw3s : w.heap.size + 1 ≤ w3.heap.size := (Array.getElem?_eq_some_iff.1 HX3.out).1
  clear hE2 HE2 HX2 HK2 HK2' hK3 HR2
  cases b
  · obtain ⟨a, cap, rfl, hc, hm, hpos⟩ := HE3.out.val
    unfold maxLen at hm
    obtain ⟨g, rfl, hg1, hg2⟩ := hpos (by omega)
    clear hpos
    go_wp2_with fail
    refine (pick rb q2 _ _ hR3 (by omega) (by omega) (by omega)).mono ?_
    rintro e w4 ⟨r, rfl, h0, h1, hR4, hK4⟩
    have HE4 := Lib.hid (HE3.out.keptR hK4 (by omega))
    have HX4 := Lib.hid (blkKept HX3.out hK4 (by omega))
    have HK4 := Lib.hid (HK3.out.trans hK4)
    have HR4 := Lib.hid hR4
    have hi : r.toNat < L2.length := by omega
    clear HE3 HX3 HK3 hK4 hR3 hR4
    obtain ⟨ao, tm, tc, d0, d1, d2, d3, dR⟩ := HE4.out.tokAt hi
    have dn : w.heap.size ∉ L2[r.toNat].fp := fun hx => by have := HE4.out.lo _ (List.getElem_mem hi) _ hx; omega
    have dlo := Lib.hid (show ∀ b ∈ L2[r.toNat].fp, w.heap.size ≤ b from fun b hx => by have := HE4.out.lo _ (List.getElem_mem hi) _ hx; omega)
    have qc0 : w4.cell? ⟨w.heap.size, 0, none⟩ = some (.int .i64 0) := cell_of_row _ _ 0 _ _ _ HX4.out
    have qc1 : w4.cell? ⟨w.heap.size, 1, none⟩ = some (.string ⟨#[]⟩) := cell_of_row _ _ 1 _ _ _ HX4.out
    have qc2 : w4.cell? ⟨w.heap.size, 2, none⟩ = some (.bool false) := cell_of_row _ _ 2 _ _ _ HX4.out
    have qc3 : w4.cell? ⟨w.heap.size, 3, none⟩ = some (.slice none 0 0) := cell_of_row _ _ 3 _ _ _ HX4.out
    have f0 : w4.frozen? ⟨w.heap.size, 0, none⟩ = false := frozen_of_row _ _ 0 _ _ HX4.out
    have f1 : w4.frozen? ⟨w.heap.size, 1, none⟩ = false := frozen_of_row _ _ 1 _ _ HX4.out
    have f2 : w4.frozen? ⟨w.heap.size, 2, none⟩ = false := frozen_of_row _ _ 2 _ _ HX4.out
    have f3 : w4.frozen? ⟨w.heap.size, 3, none⟩ = false := frozen_of_row _ _ 3 _ _ HX4.out
    have HOK1 := Lib.hid (HOK.out _ (List.getElem_mem hi))
    have dty := HE4.out.ty _ (List.getElem_mem hi)
    generalize L2[r.toNat].fp = tf at dR dn dlo dty
    have HTY := Lib.hid (ty_sets dty dn (.int .i64 L2[r.toNat].d.kind) (.string L2[r.toNat].d.text) (.bool L2[r.toNat].d.spaced) (.slice ao tm tc))
    clear dty
    have HBK := Lib.hid (blk_set (blk_set (blk_set (blk_set HX4.out 0 (.int .i64 L2[r.toNat].d.kind)) 1 (.string L2[r.toNat].d.text)) 2 (.bool L2[r.toNat].d.spaced)) 3 (.slice ao tm tc))
    have HDR := Lib.hid (sTok.setB (sTok.setB (sTok.setB (sTok.setB dR dn 0 (.int .i64 L2[r.toNat].d.kind)) dn 1 (.string L2[r.toNat].d.text)) dn 2 (.bool L2[r.toNat].d.spaced)) dn 3 (.slice ao tm tc))
    have HRF := Lib.hid (rdSet (rdSet (rdSet (rdSet HR4.out hrb 0 (.int .i64 L2[r.toNat].d.kind)) hrb 1 (.string L2[r.toNat].d.text)) hrb 2 (.bool L2[r.toNat].d.spaced)) hrb 3 (.slice ao tm tc))
    have HKF := Lib.hid (keptSet (keptSet (keptSet (keptSet HK4.out (Nat.le_refl _) (.int .i64 L2[r.toNat].d.kind) 0) (Nat.le_refl _) (.string L2[r.toNat].d.text) 1) (Nat.le_refl _) (.bool L2[r.toNat].d.spaced) 2) (Nat.le_refl _) (.slice ao tm tc) 3)
    clear dR dn
    go_wp2
    refine bodyPost_ret (results_cell_row rfl _ _ w.heap.size _ _ _ _ rfl HBK.out Try.underlying56 rfl (by kernel_rfl)) rfl ?_
    exact ⟨_, _, _, ao, tm, tc, _, tf, q2 + 1, rfl, HDR.out, HOK1.out, dlo.out, HTY.out, by omega, HRF.out, HKF.out⟩
  · go_wp2_with fail
    refine (l20Tokens rb q2 _ _ hR3 (by omega) (by omega) (by omega) 1 (by omega) (by omega)).mono ?_
    rintro e w4 ⟨v4, L4, q4, rfl, hE4, hok4, hl4, hl5, hq4, hR4, hK4⟩
    have hw3 : w.heap.size + 1 ≤ w3.heap.size := hw3s
    have HE4 := Lib.hid (hE4.lower hw3)
    have HX4 := Lib.hid (blkKept HX3.out hK4 (by omega))
    have HK4 := Lib.hid (HK3.out.trans hK4)
    have HR4 := Lib.hid hR4
    have HOK4 := Lib.hid hok4
    clear HE3 HX3 HK3 hK4 hR3 hR4 hE4 hok4
    obtain ⟨a, cap, rfl, hc, hm, hpos⟩ := HE4.out.val
    unfold maxLen at hm
    obtain ⟨g, rfl, hg1, hg2⟩ := hpos (by omega)
    clear hpos
    have hi : L4.length - 1 < L4.length := by omega
    have h6 : ((L4.length : Int) - 1).toNat = L4.length - 1 := by omega
    obtain ⟨ao, tm, tc, d0, d1, d2, d3, dR⟩ := HE4.out.tokAt hi
    have dn : w.heap.size ∉ L4[L4.length - 1].fp := fun hx => by have := HE4.out.lo _ (List.getElem_mem hi) _ hx; omega
    have dlo := Lib.hid (show ∀ b ∈ L4[L4.length - 1].fp, w.heap.size ≤ b from fun b hx => by have := HE4.out.lo _ (List.getElem_mem hi) _ hx; omega)
    have qc0 : w4.cell? ⟨w.heap.size, 0, none⟩ = some (.int .i64 0) := cell_of_row _ _ 0 _ _ _ HX4.out
    have qc1 : w4.cell? ⟨w.heap.size, 1, none⟩ = some (.string ⟨#[]⟩) := cell_of_row _ _ 1 _ _ _ HX4.out
    have qc2 : w4.cell? ⟨w.heap.size, 2, none⟩ = some (.bool false) := cell_of_row _ _ 2 _ _ _ HX4.out
    have qc3 : w4.cell? ⟨w.heap.size, 3, none⟩ = some (.slice none 0 0) := cell_of_row _ _ 3 _ _ _ HX4.out
    have f0 : w4.frozen? ⟨w.heap.size, 0, none⟩ = false := frozen_of_row _ _ 0 _ _ HX4.out
    have f1 : w4.frozen? ⟨w.heap.size, 1, none⟩ = false := frozen_of_row _ _ 1 _ _ HX4.out
    have f2 : w4.frozen? ⟨w.heap.size, 2, none⟩ = false := frozen_of_row _ _ 2 _ _ HX4.out
    have f3 : w4.frozen? ⟨w.heap.size, 3, none⟩ = false := frozen_of_row _ _ 3 _ _ HX4.out
    have HOK1 := Lib.hid (HOK4.out _ (List.getElem_mem hi))
    have dty := HE4.out.ty _ (List.getElem_mem hi)
    generalize L4[L4.length - 1].fp = tf at dR dn dlo dty
    have HTY := Lib.hid (ty_sets dty dn (.int .i64 L4[L4.length - 1].d.kind) (.string L4[L4.length - 1].d.text) (.bool L4[L4.length - 1].d.spaced) (.slice ao tm tc))
    clear dty
    have HBK := Lib.hid (blk_set (blk_set (blk_set (blk_set HX4.out 0 (.int .i64 L4[L4.length - 1].d.kind)) 1 (.string L4[L4.length - 1].d.text)) 2 (.bool L4[L4.length - 1].d.spaced)) 3 (.slice ao tm tc))
    have HDR := Lib.hid (sTok.setB (sTok.setB (sTok.setB (sTok.setB dR dn 0 (.int .i64 L4[L4.length - 1].d.kind)) dn 1 (.string L4[L4.length - 1].d.text)) dn 2 (.bool L4[L4.length - 1].d.spaced)) dn 3 (.slice ao tm tc))
    have HRF := Lib.hid (rdSet (rdSet (rdSet (rdSet HR4.out hrb 0 (.int .i64 L4[L4.length - 1].d.kind)) hrb 1 (.string L4[L4.length - 1].d.text)) hrb 2 (.bool L4[L4.length - 1].d.spaced)) hrb 3 (.slice ao tm tc))
    have HKF := Lib.hid (keptSet (keptSet (keptSet (keptSet HK4.out (Nat.le_refl _) (.int .i64 L4[L4.length - 1].d.kind) 0) (Nat.le_refl _) (.string L4[L4.length - 1].d.text) 1) (Nat.le_refl _) (.bool L4[L4.length - 1].d.spaced) 2) (Nat.le_refl _) (.slice ao tm tc) 3)
    clear dR dn
    go_wp2
    refine bodyPost_ret (results_cell_row rfl _ _ w.heap.size _ _ _ _ rfl HBK.out Try.underlying56 rfl (by kernel_rfl)) rfl ?_
    exact ⟨_, _, _, ao, tm, tc, _, tf, q4, rfl, HDR.out, HOK1.out, dlo.out, HTY.out, by omega, HRF.out, HKF.out⟩

end Go.Proofs.Ythbojipdhgidlaa

/- Copies of tokens: the model's own. -/
namespace Go.Proofs.Ythbojipdhgidlaa
open Go.RowKit

theorem run_append_nil {P : Program} {w : World} (base : Nat) (t ty e : TypeId) (i : TypeInfo) (size c : Nat) (ht : P.underlying t = some (.slice e)) (hi : P.info? e = some i)
    (v : Value) (n : Nat) (xs : List Value) (hown : w.ownsRow base e size v n xs) : (Builtin.append_ #[t, t] ty #[v, .slice none 0 c]).run P w = .ok v w := by
  rcases hown.2 with ⟨rfl, rfl⟩ | ⟨g, cap, cur, rfl, _, _, hnc, _⟩
  · simp [Builtin.append_, run_underlying ht, sizeOf, typeInfo, hi, Builtin.lenOf, Builtin.firstCells]
  · simp [Builtin.append_, run_underlying ht, sizeOf, typeInfo, hi, Builtin.lenOf, Builtin.firstCells, hnc, storeCells]
/-- append(row, texts...), the texts of any slice that can be read. -/
theorem wp_append_strsR {w : World} {ops : Array Oper} {rest : List Oper} {o : Oper} {a : Act} {Q : Exit → Act → World → Prop} (hg : o.guard = none) (s y : Operand)
    (ho : o.op = .call { callee := .builtin .append, args := #[s, y], argTypes := #[22, 22] })
    (base : Nat) (v u : Value) (L M : List ByteArray) (fp : List Nat) (hs : a.eval s = v) (hown : w.ownsRow base 9 1 v L.length (L.map Value.string)) (hy : a.eval y = u) (HM : (sSlice sStr).R w [u] M fp)
    (h63 : L.length + M.length ≤ 4000000) (hbase : base ≤ w.heap.size)
    (h : ∀ v' w', w'.ownsRow base 9 1 v' (L ++ M).length ((L ++ M).map Value.string) → w.grownBy w' v.ownBlock → wpList Try.prog ops Q rest (a.put o.dst v') w') : wpList Try.prog ops Q (o :: rest) a w := by
  obtain ⟨i, hi, hz0, hz1, hz2⟩ := info_parts ti27.2
  obtain ⟨ad, cap, rfl, hc, hm, hcell, hsz⟩ := open_strs HM
  have key : ∀ (b off : Nat), (0 < M.length → ∀ j, (hj : j < M.length) → w.cell? ⟨b, off + j, none⟩ = some (.string M[j])) → a.eval y = .slice (some ⟨b, off, none⟩) M.length cap → wpList Try.prog ops Q (o :: rest) a w := by
    intro b off hat hy'
    refine wpList_append_own _ hg s y 22 ho base 9 i _ 1 16 ti27.1 hi hz0 hz1 hz2 rfl (by decide) v L.length (L.map Value.string) hs hown ⟨b, off, none⟩ M.length cap (M.map Value.string) hy' (by simp) ?_ ?_ (by unfold maxLen; omega) (by omega) hbase fun v' w' h1 h2 _ => h v' w' ?_ h2
    · intro j x hj
      have hj' : j < M.length := by have := (List.getElem?_eq_some_iff.1 hj).1; simpa using this
      rw [Addr.add_lit, hat (by omega) j hj', ← hj]
      simp [List.getElem?_eq_getElem hj']
    · intro x hx
      obtain ⟨s, _, rfl⟩ := List.mem_map.1 hx
      rfl
    · simpa using h1
  by_cases h0 : 0 < M.length
  · obtain ⟨b, off, rfl, _, _, hc2⟩ := hcell h0
    exact key b off (fun _ j hj => hc2 j hj) hy
  · have hM : M = [] := List.length_eq_zero_iff.1 (by omega)
    subst hM
    cases ad with
    | none =>
      have hrun := run_append_nil (P := Try.prog) (w := w) base 22 o.type 9 i 1 cap ti27.1 hi v L.length _ hown
      have hK := h v w (by simpa using hown) ⟨rfl, rfl, rfl, Nat.le_refl _, fun _ _ _ => rfl⟩
      refine wpList_plain hg fun K hK' => ?_
      unfold Oper.wp
      simp only [List.length_nil] at hy
      simp [execOp, ho, resolve, invoke, builtin, hs, hy, hrun, Result.andThen]
      exact hK' _ _ hK
    | some ad =>
      refine wpList_append_own _ hg s y 22 ho base 9 i _ 1 16 ti27.1 hi hz0 hz1 hz2 rfl (by decide) v L.length (L.map Value.string) hs hown ad 0 cap [] hy rfl (by simp) (by simp) (by unfold maxLen; omega) (by omega) hbase fun v' w' h1 h2 _ => h v' w' (by simpa using h1) h2

/-- A token of the call's own. -/
def OwnTok (x : Tok) (w : World) (e : Ending) (w' : World) : Prop :=
  ∃ (ao : Option Addr) (c : Nat) (fp : List Nat), e = .returned (.agg #[.int .i64 x.kind, .string x.text, .bool x.spaced, .slice ao x.hidden.length c]) ∧ sTok.R w' [.int .i64 x.kind, .string x.text, .bool x.spaced, .slice ao x.hidden.length c] x fp ∧
    (∀ b ∈ fp, w.heap.size ≤ b) ∧ (∀ b ∈ fp, ∃ cur t fr, w'.heap[b]? = some (.cells cur t fr) ∧ t = 9) ∧ Below w.heap.size w w'

set_option maxHeartbeats 4000000 in
set_option maxRecDepth 100000 in
theorem spec_l1OwnToken (cs : List Value) (x : Tok) (fp : List Nat) (w : World) (hx : x.hidden.length ≤ 2000000) (H : sTok.R w cs x fp) : Calls Try.prog 67 #[.agg cs.toArray] w (OwnTok x w) := by
  obtain ⟨h, rfl, hk, hok, K⟩ := H
  obtain ⟨a0, cap0, rfl, -, -, -, hsz⟩ := open_strs K
  have hb3 := below3 w #[.int .i64 x.kind, .string x.text, .bool x.spaced, .slice a0 x.hidden.length cap0] #[.int .i64 0, .string ⟨#[]⟩, .bool false, .slice none 0 0] #[.int .i64 x.kind, .string x.text, .bool x.spaced, .slice a0 x.hidden.length cap0] 56 56 56
  have g0 := alloc3_blk0 w #[.int .i64 x.kind, .string x.text, .bool x.spaced, .slice a0 x.hidden.length cap0] #[.int .i64 0, .string ⟨#[]⟩, .bool false, .slice none 0 0] #[.int .i64 x.kind, .string x.text, .bool x.spaced, .slice a0 x.hidden.length cap0] 56 56 56
  obtain ⟨g1, g2, hs3⟩ := alloc3_blk w #[.int .i64 x.kind, .string x.text, .bool x.spaced, .slice a0 x.hidden.length cap0] #[.int .i64 0, .string ⟨#[]⟩, .bool false, .slice none 0 0] #[.int .i64 x.kind, .string x.text, .bool x.spaced, .slice a0 x.hidden.length cap0] 56 56 56
  have HK := Lib.hid ((sSlice sStr).below K hb3)
  have HSZ := Lib.hid hsz
  clear K hsz
  obtain ⟨hv, HV⟩ : ∃ hv : Value, Hid (hv = Value.slice a0 x.hidden.length cap0) := ⟨_, rfl⟩
  go_enter Try.func67, Try.ntmps67
  go_upto_region 2 with fail
  generalize (((w.alloc (.cells #[.int .i64 x.kind, .string x.text, .bool x.spaced, .slice a0 x.hidden.length cap0] 56)).alloc (.cells #[.int .i64 0, .string ⟨#[]⟩, .bool false, .slice none 0 0] 56)).alloc (.cells #[.int .i64 x.kind, .string x.text, .bool x.spaced, .slice a0 x.hidden.length cap0] 56)) = W3 at *
  have hba := alloc_below' W3 (.cells #[] 9)
  have c03 : (W3.alloc (.cells #[] 9)).cell? ⟨w.heap.size, 3, none⟩ = some hv := by
    rw [HV.out]
    exact (hba.cell (p := ⟨w.heap.size, 3, none⟩) (by show w.heap.size < _; omega)).trans (cell_of_row _ _ 3 _ _ _ g0)
  have hlit : Hid ((W3.alloc (.cells #[] 9)).ownsRow W3.heap.size 9 1 (.slice (some ⟨W3.heap.size, 0, none⟩) 0 0) ([] : List ByteArray).length (([] : List ByteArray).map Value.string)) :=
    World.ownsRow_lit (base := W3.heap.size) (e := 9) (size := 1) W3 #[] 0 (Nat.le_refl _) (by simp) rfl
  have HKV : Hid ((sSlice sStr).R (W3.alloc (.cells #[] 9)) [hv] x.hidden fp) := by show (sSlice sStr).R _ _ _ _; rw [HV.out]; exact (sSlice sStr).below HK.out hba
  have HG := Lib.hid (And.intro g1 (And.intro g2 hs3))
  have hb4 := Lib.hid (hb3.trans (hba.mono hb3.size))
  clear g0 g1 g2 hb3 hs3 HK hba
  go_wp2_with (
    at_builtin
    refine wp_append_strsR rfl (.tmp 5) (.tmp 7) rfl W3.heap.size (.slice (some ⟨W3.heap.size, 0, none⟩) 0 0) hv [] x.hidden _ rfl hlit.out rfl HKV.out (by simp; omega) (by simp) ?_
    intro v5 w1 hown hgrow
    rw [List.nil_append] at hown
    obtain ⟨fp1, R1, O1, hfp⟩ := own_flat (ok := okStr) hown HSZ.out
    have hs3 := HG.out.2.2
    have hblk : ∀ k, k < W3.heap.size → w1.heap[k]? = W3.heap[k]? := fun k hk => (hgrow.block k (by simp; omega) (by simp [Value.ownBlock]; omega)).trans ((alloc_below' W3 _).block k hk)
    have HG1 : Hid (w1.heap[w.heap.size + 1]? = some (.cells #[.int .i64 0, .string ⟨#[]⟩, .bool false, .slice none 0 0] 56 (0, 0)) ∧ w1.heap[w.heap.size + 1 + 1]? = some (.cells #[.int .i64 x.kind, .string x.text, .bool x.spaced, .slice a0 x.hidden.length cap0] 56 (0, 0))) :=
      ⟨(hblk _ (by omega)).trans HG.out.1, (hblk _ (by omega)).trans HG.out.2.1⟩
    have hb : Below w.heap.size w w1 := hb4.out.grown hgrow (by simp; omega) (fun b hb => by simp [Value.ownBlock] at hb; omega)
    have hty : ∀ b ∈ fp1, ∃ cur t fr, w1.heap[b]? = some (.cells cur t fr) ∧ t = 9 := fun b hb' => by
      have hv := hfp b hb'
      rcases hown.2 with ⟨rfl, _⟩ | ⟨g, cap, cur, rfl, _, hg, _⟩
      · simp [Value.ownBlock] at hv
      · simp only [Value.ownBlock, Option.some.injEq] at hv
        subst hv
        exact ⟨_, _, _, hg, rfl⟩
    have hlo : ∀ b ∈ fp1, w.heap.size + 3 ≤ b := fun b hb => by have := (O1.2 b hb).1; omega
    clear HG hblk hgrow hown hfp O1 c03 hb4 HKV hlit hs3
    obtain ⟨a1, cap1, rfl, hq⟩ := open_rows R1
    clear hq
    have c10 : w1.cell? ⟨w.heap.size + 1, 0, none⟩ = some (.int .i64 0) := cell_of_row w1 (w.heap.size + 1) 0 _ _ _ HG1.out.1
    have c11 : w1.cell? ⟨w.heap.size + 1, 1, none⟩ = some (.string ⟨#[]⟩) := cell_of_row w1 (w.heap.size + 1) 1 _ _ _ HG1.out.1
    have c12 : w1.cell? ⟨w.heap.size + 1, 2, none⟩ = some (.bool false) := cell_of_row w1 (w.heap.size + 1) 2 _ _ _ HG1.out.1
    have c13 : w1.cell? ⟨w.heap.size + 1, 3, none⟩ = some (.slice none 0 0) := cell_of_row w1 (w.heap.size + 1) 3 _ _ _ HG1.out.1
    have c20 : w1.cell? ⟨w.heap.size + 1 + 1, 0, none⟩ = some (.int .i64 x.kind) := cell_of_row w1 (w.heap.size + 1 + 1) 0 _ _ _ HG1.out.2
    have c21 : w1.cell? ⟨w.heap.size + 1 + 1, 1, none⟩ = some (.string x.text) := cell_of_row w1 (w.heap.size + 1 + 1) 1 _ _ _ HG1.out.2
    have c22 : w1.cell? ⟨w.heap.size + 1 + 1, 2, none⟩ = some (.bool x.spaced) := cell_of_row w1 (w.heap.size + 1 + 1) 2 _ _ _ HG1.out.2
    have c23 : w1.cell? ⟨w.heap.size + 1 + 1, 3, none⟩ = some (.slice a0 x.hidden.length cap0) := cell_of_row w1 (w.heap.size + 1 + 1) 3 _ _ _ HG1.out.2
    have f10 : w1.frozen? ⟨w.heap.size + 1, 0, none⟩ = false := frozen_of_row w1 (w.heap.size + 1) 0 _ _ HG1.out.1
    have f11 : w1.frozen? ⟨w.heap.size + 1, 1, none⟩ = false := frozen_of_row w1 (w.heap.size + 1) 1 _ _ HG1.out.1
    have f12 : w1.frozen? ⟨w.heap.size + 1, 2, none⟩ = false := frozen_of_row w1 (w.heap.size + 1) 2 _ _ HG1.out.1
    have f13 : w1.frozen? ⟨w.heap.size + 1, 3, none⟩ = false := frozen_of_row w1 (w.heap.size + 1) 3 _ _ HG1.out.1
    have f23 : w1.frozen? ⟨w.heap.size + 1 + 1, 3, none⟩ = false := frozen_of_row w1 (w.heap.size + 1 + 1) 3 _ _ HG1.out.2
    have hn1 : w.heap.size + 1 ∉ fp1 := fun hx => by have := hlo _ hx; omega
    have hn2 : w.heap.size + 1 + 1 ∉ fp1 := fun hx => by have := hlo _ hx; omega
    have HLO : Hid (∀ b ∈ fp1, w.heap.size ≤ b) := fun b hb => by have := hlo b hb; omega
    have HR := Lib.hid ((sSlice sStr).setB ((sSlice sStr).setB ((sSlice sStr).setB ((sSlice sStr).setB ((sSlice sStr).setB R1 hn2 3 (.slice a1 x.hidden.length cap1)) hn1 0 (.int .i64 x.kind)) hn1 1 (.string x.text)) hn1 2 (.bool x.spaced)) hn1 3 (.slice a1 x.hidden.length cap1))
    have HT : Hid (∀ b ∈ fp1, ∃ cur t fr, (((((w1.setCell ⟨w.heap.size + 1 + 1, 3, none⟩ (.slice a1 x.hidden.length cap1)).setCell ⟨w.heap.size + 1, 0, none⟩ (.int .i64 x.kind)).setCell ⟨w.heap.size + 1, 1, none⟩ (.string x.text)).setCell ⟨w.heap.size + 1, 2, none⟩ (.bool x.spaced)).setCell ⟨w.heap.size + 1, 3, none⟩ (.slice a1 x.hidden.length cap1)).heap[b]? = some (.cells cur t fr) ∧ t = 9) := fun b hb => by
      obtain ⟨cur, t, fr, q1, q2⟩ := hty b hb
      have e1 : b ≠ w.heap.size + 1 := fun e => hn1 (e ▸ hb)
      have e2 : b ≠ w.heap.size + 1 + 1 := fun e => hn2 (e ▸ hb)
      exact ⟨cur, t, fr, blk_other (blk_other (blk_other (blk_other (blk_other q1 e2 _ _) e1 _ _) e1 _ _) e1 _ _) e1 _ _, q2⟩
    have HB := Lib.hid (((((hb.setCell (p := ⟨w.heap.size + 1 + 1, 3, none⟩) (by simp; omega) (.slice a1 x.hidden.length cap1)).setCell (p := ⟨w.heap.size + 1, 0, none⟩) (by simp) (.int .i64 x.kind)).setCell (p := ⟨w.heap.size + 1, 1, none⟩) (by simp) (.string x.text)).setCell (p := ⟨w.heap.size + 1, 2, none⟩) (by simp) (.bool x.spaced)).setCell (p := ⟨w.heap.size + 1, 3, none⟩) (by simp) (.slice a1 x.hidden.length cap1))
    have HS := Lib.hid (blk_set (blk_set (blk_set (blk_set (blk_other HG1.out.1 (by omega : w.heap.size + 1 ≠ w.heap.size + 1 + 1) 3 (.slice a1 x.hidden.length cap1)) 0 (.int .i64 x.kind)) 1 (.string x.text)) 2 (.bool x.spaced)) 3 (.slice a1 x.hidden.length cap1))
    clear HG1 hty hlo)
  refine bodyPost_ret (results_cell_row rfl _ _ (w.heap.size + 1) _ _ _ _ rfl HS.out Try.underlying56 rfl (by kernel_rfl)) rfl ?_
  exact ⟨a1, cap1, fp1, rfl, ⟨_, rfl, hk, hok, HR.out⟩, HLO.out, HT.out, HB.out⟩

/-- A list of tokens as the call's own copy. -/
def OwnToks (l : List Tok) (w : World) (e : Ending) (w' : World) : Prop := ∃ v fp, e = .returned v ∧ (sSlice sTok).R w' [v] l fp ∧ Below w.heap.size w w'
/-- .. and in which blocks it lies. -/
def NoMac (w : World) (fp : List Nat) : Prop := ∀ b ∈ fp, ∃ cur t fr, w.heap[b]? = some (.cells cur t fr) ∧ t ≠ 32
theorem NoMac.same {w w' : World} {fp : List Nat} (h : NoMac w fp) (hb : ∀ b ∈ fp, b < w.heap.size → w'.heap[b]? = w.heap[b]?) : NoMac w' fp := fun b hb' => by
  obtain ⟨cur, t, fr, h1, h2⟩ := h b hb'
  exact ⟨cur, t, fr, (hb b hb' (Array.getElem?_eq_some_iff.1 h1).1).trans h1, h2⟩
theorem NoMac.below {w w' : World} {fp : List Nat} (h : NoMac w fp) (hb : Below w.heap.size w w') : NoMac w' fp := h.same fun b _ hl => hb.block b hl
/-- Blocks of tokens and of their texts alone. -/
def TokTy (w : World) (fp : List Nat) : Prop := ∀ b ∈ fp, ∃ cur t fr, w.heap[b]? = some (.cells cur t fr) ∧ (t = 56 ∨ t = 9)
theorem TokTy.same {w w' : World} {fp : List Nat} (h : TokTy w fp) (hb : ∀ b ∈ fp, b < w.heap.size → w'.heap[b]? = w.heap[b]?) : TokTy w' fp := fun b hb' => by
  obtain ⟨cur, t, fr, h1, h2⟩ := h b hb'
  exact ⟨cur, t, fr, (hb b hb' (Array.getElem?_eq_some_iff.1 h1).1).trans h1, h2⟩
theorem TokTy.below {w w' : World} {fp : List Nat} (h : TokTy w fp) (hb : Below w.heap.size w w') : TokTy w' fp := h.same fun b _ hl => hb.block b hl
theorem TokTy.mac {w : World} {fp : List Nat} (h : TokTy w fp) : NoMac w fp := fun b hb => by
  obtain ⟨cur, t, fr, h1, h2⟩ := h b hb
  refine ⟨cur, t, fr, h1, ?_⟩
  rcases h2 with rfl | rfl <;> decide
def OwnToksS (l : List Tok) (w : World) (e : Ending) (w' : World) : Prop := ∃ v fp, e = .returned v ∧ (sSlice sTok).R w' [v] l fp ∧ (∀ b ∈ fp, w.heap.size ≤ b) ∧ TokTy w' fp ∧ Below w.heap.size w w'
set_option maxHeartbeats 4000000 in
set_option maxRecDepth 100000 in
theorem spec_l1OwnTokenList_s (v : Value) (l : List Tok) (fp : List Nat) (w : World) (hl : l.length ≤ 1048576) (hx : ∀ k, (hk : k < l.length) → l[k].hidden.length ≤ 2000000) (H : (sSlice sTok).R w [v] l fp) :
    Calls Try.prog 43 #[v] w (OwnToksS l w) := by
  obtain ⟨a, cap, rfl, hc, hm, hrow⟩ := open_rows H
  unfold maxLen at hm
  clear H
  have HX := Lib.hid hx
  clear hx
  have hlit : Hid (RowE sTok w.heap.size 56 (.slice (some ⟨w.heap.size, 0, none⟩) 0 0) [] (w.alloc (.cells #[] 56))) := RowE.lit [] (by simp) (by simp) (by simp) (by simp) (Nat.le_refl _) (by simp)
  have hba := alloc_below' w (.cells #[] 56)
  go_enter Try.func43, Try.ntmps43
  go_wp2
  go_loopw [3, 4] (fun o i wr => ∃ (k : Nat) (L : List (Elem Tok)), k ≤ l.length ∧ i = .int .i64 k ∧ Hid (RowE sTok w.heap.size 56 o L wr) ∧ Hid (L.map (·.d) = l.take k) ∧ Hid (∀ x ∈ L, TokTy wr x.fp) ∧ Below w.heap.size w wr) (fun _ i _ => l.length - (intOf i).toNat)
  case atStart => exact ⟨0, [], by omega, rfl, hlit, rfl, (show ∀ x ∈ ([] : List (Elem Tok)), TokTy _ x.fp from by simp), hba⟩
  case round =>
    clear hlit hba
    obtain ⟨k, L, hk, rfl, HE, HD, HN, hb⟩ := hrel
    by_cases hlt : k < l.length
    · obtain ⟨b1, off1, fps1, rfl, hb1, -, he1⟩ := hrow (by omega)
      obtain ⟨es1, hE1, hR1⟩ := he1 k hlt
      clear hrow he1
      have hR2 := sTok.below hR1 hb
      obtain ⟨h1', rfl, _, _, _⟩ := hR1
      have HC := Lib.hid (spec_l1OwnToken _ _ _ wr (HX.out k hlt) hR2)
      clear hR2
      replace hE1 := hE1.frame (hb.block b1 hb1)
      have c10 : wr.cell? ⟨b1, off1 + k * 4, none⟩ = some _ := elem_cell0 hE1 (by decide) rfl
      have c11 : wr.cell? ⟨b1, off1 + k * 4 + 1, none⟩ = some _ := elem_cell (j := 1) hE1 (by decide) rfl
      have c12 : wr.cell? ⟨b1, off1 + k * 4 + 2, none⟩ = some _ := elem_cell (j := 2) hE1 (by decide) rfl
      have c13 : wr.cell? ⟨b1, off1 + k * 4 + 3, none⟩ = some _ := elem_cell (j := 3) hE1 (by decide) rfl
      clear hE1
      have HLl : Hid (L.length = k) := by have := congrArg List.length HD.out; simp at this; show _ = _; omega
      go_wp2_with fail
      refine HC.out.mono ?_
      rintro e w2 ⟨ao, c, fp2, rfl, hR2, hlo2, hty2, hb2⟩
      obtain ⟨ar, capr, rfl, -⟩ := HE.out.val
      have hE2 := HE.out.below hb2
      have hty2' : ∀ b ∈ fp2, ∃ cur t fr, w2.heap[b]? = some (.cells cur t fr) ∧ t ≠ 56 := fun b hb => by obtain ⟨cur, t, fr, h1, h2⟩ := hty2 b hb; exact ⟨cur, t, fr, h1, by rw [h2]; decide⟩
      have HN2 : Hid (∀ x ∈ L ++ [(⟨[.int .i64 l[k].kind, .string l[k].text, .bool l[k].spaced, .slice ao l[k].hidden.length c], ⟨l[k].kind, l[k].text, l[k].spaced, l[k].hidden⟩, fp2⟩ : Elem Tok)], TokTy w2 x.fp) := fun x hx => by
        rcases List.mem_append.1 hx with hx | hx
        · exact (HN.out x hx).below hb2
        · obtain rfl := List.mem_singleton.1 hx
          intro b hb
          obtain ⟨cur, t, fr, h1, h2⟩ := hty2 b hb
          exact ⟨cur, t, fr, h1, .inr h2⟩
      have hbw := hb.trans (hb2.mono hb.size)
      have hlo3 : ∀ b ∈ fp2, w.heap.size ≤ b := fun b hx => Nat.le_trans hb.size (hlo2 b hx)
      clear c10 c11 c12 c13 HC HE
      go_wp2_with (at_builtin; refine wp_append_tokE rfl (.tmp 12) (.tmp 18) rfl w.heap.size (.slice ar L.length capr) L rfl hE2 l[k].kind l[k].text l[k].spaced ao l[k].hidden.length c l[k].hidden fp2 rfl hR2 hlo3 hty2' (by have := HLl.out; omega) hbw.size ?_; intro v3 w3 hE3 hg3)
      have hb3 : Below w.heap.size w w3 := hbw.grown hg3 hbw.size (fun b hb => (hE2.row.lt b hb).1)
      have HE3 := Lib.hid hE3
      have HN3 : Hid (∀ x ∈ L ++ [(⟨[.int .i64 l[k].kind, .string l[k].text, .bool l[k].spaced, .slice ao l[k].hidden.length c], ⟨l[k].kind, l[k].text, l[k].spaced, l[k].hidden⟩, fp2⟩ : Elem Tok)], TokTy w3 x.fp) := fun x hx => (HN2.out x hx).same fun b hb hl => hg3.block b hl (by
        rcases List.mem_append.1 hx with hx | hx
        · exact fun e => hE2.ap hx hb e.symm
        · obtain rfl := List.mem_singleton.1 hx
          intro e
          obtain ⟨cur, t, fr, h1, h2⟩ := hty2' b hb
          obtain ⟨g, capg, curg, q1, q2, q3, -⟩ : ∃ g capg curg, Value.slice ar L.length capr = .slice (some ⟨g, 0, none⟩) L.length capg ∧ w.heap.size ≤ g ∧ w2.heap[g]? = some (.cells curg 56 (0, 0)) ∧ True := by
            rcases hE2.row.2 with ⟨h0, _⟩ | ⟨g, capg, curg, q1, q2, q3, -⟩
            · rw [h0] at e; simp [Value.ownBlock] at e
            · exact ⟨g, capg, curg, q1, q2, q3, trivial⟩
          rw [q1] at e
          simp only [Value.ownBlock, Option.some.injEq] at e
          subst e
          rw [h1] at q3
          simp only [Option.some.injEq, Obj.cells.injEq] at q3
          exact h2 q3.2.1)
      have HD3 : Hid ((L ++ [(⟨[.int .i64 l[k].kind, .string l[k].text, .bool l[k].spaced, .slice ao l[k].hidden.length c], ⟨l[k].kind, l[k].text, l[k].spaced, l[k].hidden⟩, fp2⟩ : Elem Tok)]).map (·.d) = l.take (k + 1)) := by
        show _ = _
        rw [List.map_append, HD.out, List.take_succ_eq_append_getElem hlt]; rfl
      clear hE2 hE3 hg3 hR2 hty2 hty2' hlo2 hlo3 hb2 HN2 HN
      go_roundw
      case rel => exact ⟨k + 1, _, by omega, by go_num, HE3, HD3, HN3, hb3⟩
      case measure => simp [intOf]; omega
    · obtain ⟨fpr, hr, hin, -⟩ := slice_of_row HE.out.row fun x hx => ⟨HE.out.len x hx, HE.out.el x hx⟩
      have HLO : Hid (∀ b ∈ fpr, w.heap.size ≤ b) := fun b hb => by
        rcases hin b hb with h | h
        · exact HE.out.mine b h
        · obtain ⟨x, hx, hb'⟩ := List.mem_flatMap.1 h
          exact HE.out.lo x hx b hb'
      have HNM : Hid (TokTy wr fpr) := fun b hb => by
        rcases hin b hb with h | h
        · rcases HE.out.row.2 with ⟨h0, _⟩ | ⟨g, capg, curg, q1, q2, q3, -⟩
          · rw [h0] at h; simp [Value.ownBlock] at h
          · rw [q1] at h
            simp only [Value.ownBlock, Option.some.injEq] at h
            subst h
            exact ⟨_, _, _, q3, .inl rfl⟩
        · obtain ⟨x, hx, hb'⟩ := List.mem_flatMap.1 h
          exact HN.out x hx b hb'
      clear hin
      have hd := HD.out
      rw [List.take_of_length_le (by omega)] at hd
      rw [hd] at hr
      have HR := Lib.hid hr
      clear hr hd HE HD HN
      go_wp2
      go_ret
      exact ⟨_, fpr, rfl, HR.out, HLO.out, HNM.out, hb⟩
def OwnToksT (l : List Tok) (w : World) (e : Ending) (w' : World) : Prop := ∃ v fp, e = .returned v ∧ (sSlice sTok).R w' [v] l fp ∧ (∀ b ∈ fp, w.heap.size ≤ b) ∧ NoMac w' fp ∧ Below w.heap.size w w'
theorem spec_l1OwnTokenList_t (v : Value) (l : List Tok) (fp : List Nat) (w : World) (hl : l.length ≤ 1048576) (hx : ∀ k, (hk : k < l.length) → l[k].hidden.length ≤ 2000000) (H : (sSlice sTok).R w [v] l fp) :
    Calls Try.prog 43 #[v] w (OwnToksT l w) := (spec_l1OwnTokenList_s v l fp w hl hx H).mono fun _ _ ⟨v, fp, h1, h2, h3, h4, h5⟩ => ⟨v, fp, h1, h2, h3, h4.mac, h5⟩
theorem spec_l1OwnTokenList (v : Value) (l : List Tok) (fp : List Nat) (w : World) (hl : l.length ≤ 1048576) (hx : ∀ k, (hk : k < l.length) → l[k].hidden.length ≤ 2000000) (H : (sSlice sTok).R w [v] l fp) :
    Calls Try.prog 43 #[v] w (OwnToks l w) := (spec_l1OwnTokenList_t v l fp w hl hx H).mono fun _ _ ⟨v, fp, h1, h2, _, _, h3⟩ => ⟨v, fp, h1, h2, h3⟩

end Go.Proofs.Ythbojipdhgidlaa

/- The program's reading of parameters: the closing bracket. -/
namespace Go.Proofs.Ythbojipdhgidlaa
open Go.RowKit
/-- The place of the first closing bracket from k on, or -1. -/
def idxCl (l : List Tok) (k : Nat) : Int := if h : k < l.length then (if l[k].text.toList == [41] then (k : Int) else idxCl l (k + 1)) else -1
termination_by l.length - k
theorem cl_end {l : List Tok} {k : Nat} (h : l.length ≤ k) : idxCl l k = -1 := by rw [idxCl, dif_neg (by omega)]
theorem cl_hit {l : List Tok} {k : Nat} (h : k < l.length) (h1 : (l[k].text.toList == [41]) = true) : idxCl l k = k := by rw [idxCl, dif_pos h, if_pos h1]
theorem cl_miss {l : List Tok} {k : Nat} (h : k < l.length) (h1 : (l[k].text.toList == [41]) = false) : idxCl l k = idxCl l (k + 1) := by rw [idxCl, dif_pos h, h1]; rfl

theorem rowE_own' {α : Type} {S : Shape α} {base : Nat} {e : TypeId} {v : Value} {L : List (Elem α)} {w : World} (h : RowE S base e v L w) (hf : ∀ x ∈ L, x.fp = []) : ∃ fp, (sSlice S).R w [v] (L.map (·.d)) fp ∧ Own w base fp := by
  obtain ⟨fp, h1, _, h3⟩ := slice_of_row h.row fun x hx => ⟨h.len x hx, h.el x hx⟩
  have e0 : L.flatMap (·.fp) = [] := by rw [List.flatMap_eq_nil_iff]; exact hf
  rw [e0] at h3
  exact ⟨fp, h1, h3 (Own.nil _ _) (by simp)⟩

theorem rowE_ownM {base : Nat} {v : Value} {L : List (Elem Tok)} {w : World} (h : RowE sTok base 56 v L w) (hf : ∀ x ∈ L, x.fp = []) : ∃ fp, (sSlice sTok).R w [v] (L.map (·.d)) fp ∧ Own w base fp ∧ NoMac w fp := by
  obtain ⟨fp, h1, h2, h3⟩ := slice_of_row h.row fun x hx => ⟨h.len x hx, h.el x hx⟩
  have e0 : L.flatMap (·.fp) = [] := by rw [List.flatMap_eq_nil_iff]; exact hf
  rw [e0] at h2 h3
  refine ⟨fp, h1, h3 (Own.nil _ _) (by simp), fun b hb => ?_⟩
  rcases h2 b hb with h0 | h0
  · rcases h.row.2 with ⟨h', _⟩ | ⟨g, cap, cur, q1, q2, q3, -⟩
    · rw [h'] at h0; simp [Value.ownBlock] at h0
    · rw [q1] at h0
      simp only [Value.ownBlock, Option.some.injEq] at h0
      subst h0
      exact ⟨_, _, _, q3, by decide⟩
  · simp at h0

/-- A body's token at a place. -/
def bodyF (i : Nat) (t : Tok) : Tok := ⟨t.kind, t.text, t.spaced && decide (0 < i), []⟩
theorem bodyF_take {l : List Tok} {k : Nat} (h : k < l.length) : (l.take (k + 1)).mapIdx bodyF = (l.take k).mapIdx bodyF ++ [bodyF k l[k]] := by
  rw [List.take_succ_eq_append_getElem h, List.mapIdx_append]
  simp [Nat.min_eq_left (Nat.le_of_lt h)]

end Go.Proofs.Ythbojipdhgidlaa

/- The program's reading of parameters. -/
namespace Go.Proofs.Ythbojipdhgidlaa
open Go.RowKit

theorem cl_ways (l : List Tok) (k : Nat) : idxCl l k = -1 ∨ ∃ e : Nat, idxCl l k = (e : Int) ∧ k ≤ e ∧ e < l.length := by
  induction k using idxCl.induct (l := l) with
  | case1 k h hc => exact .inr ⟨k, cl_hit h hc, Nat.le_refl _, h⟩
  | case2 k h hc ih =>
    rw [cl_miss h (by simpa using hc)]
    rcases ih with h1 | ⟨e, h1, h2, h3⟩
    · exact .inl h1
    · exact .inr ⟨e, h1, by omega, h3⟩
  | case3 k h => exact .inl (cl_end (by omega))
/-- The texts at even places, of the first k. -/
def evs (ins : List Tok) : Nat → List ByteArray
  | 0 => []
  | k + 1 => if h : k < ins.length then (if k % 2 = 0 then evs ins k ++ [ins[k].text] else evs ins k) else evs ins k
/-- Whether those at odd places, of the first k, are commas. -/
def coms (ins : List Tok) : Nat → Bool
  | 0 => true
  | k + 1 => coms ins k && (if h : k < ins.length then (k % 2 == 0 || ins[k].text.toList == [44]) else true)
def insOf (l : List Tok) (e : Nat) : List Tok := (l.take e).drop 1
/-- What the program reads: the parameters, and the place behind them, or -1. -/
def rpRes (l : List Tok) : List ByteArray × Int :=
  if idxCl l 0 < 0 then ([], -1) else
    (if 0 < (insOf l (idxCl l 0).toNat).length ∧ (insOf l (idxCl l 0).toNat).length % 2 = 0 then ([], -1) else
      (if coms (insOf l (idxCl l 0).toNat) (insOf l (idxCl l 0).toNat).length = true then (evs (insOf l (idxCl l 0).toNat) (insOf l (idxCl l 0).toNat).length, idxCl l 0 + 1) else ([], -1)))
theorem evs_even {ins : List Tok} {k : Nat} (h : k < ins.length) (h2 : k % 2 = 0) : evs ins (k + 1) = evs ins k ++ [ins[k].text] := by rw [evs, dif_pos h, if_pos h2]
theorem evs_odd {ins : List Tok} {k : Nat} (h2 : ¬ k % 2 = 0) : evs ins (k + 1) = evs ins k := by rw [evs]; split <;> simp [h2]
theorem evs_len (ins : List Tok) : ∀ k, (evs ins k).length ≤ k
  | 0 => Nat.le_refl _
  | k + 1 => by
    have := evs_len ins k
    rw [evs]
    split
    · split
      · rw [List.length_append]; simp; omega
      · omega
    · omega
theorem coms_even {ins : List Tok} {k : Nat} (h2 : k % 2 = 0) : coms ins (k + 1) = coms ins k := by rw [coms]; split <;> simp [h2]
theorem coms_odd {ins : List Tok} {k : Nat} (h : k < ins.length) (h2 : ¬ k % 2 = 0) : coms ins (k + 1) = (coms ins k && ins[k].text.toList == [44]) := by
  rw [coms, dif_pos h]
  have : (k % 2 == 0) = false := by simp [h2]
  rw [this, Bool.false_or]
theorem coms_no {ins : List Tok} {k : Nat} (h : coms ins k = false) : ∀ j, k ≤ j → coms ins j = false := by
  intro j hj
  induction j with
  | zero => have : k = 0 := by omega
            subst this; exact h
  | succ j ih =>
    by_cases e : k = j + 1
    · subst e; exact h
    · rw [coms, ih (by omega), Bool.false_and]
theorem ins_len {l : List Tok} {e : Nat} (h : e < l.length) : (insOf l e).length = e - 1 := by unfold insOf; simp; omega
theorem ins_get {l : List Tok} {e k : Nat} (h : e < l.length) (hk : k < (insOf l e).length) : (insOf l e)[k] = l[k + 1]'(by have := ins_len h; omega) := by
  unfold insOf
  simp [Nat.add_comm]

/-- What is read, as a contract. -/
def RP (l : List Tok) (w : World) (e : Ending) (w' : World) : Prop := ∃ v' fp', e = .returned (.tuple #[v', .int .i64 (rpRes l).2]) ∧ (sSlice sStr).R w' [v'] (rpRes l).1 fp' ∧ Own w' w.heap.size fp' ∧ Below w.heap.size w w'
theorem rp_none {l : List Tok} {w w' : World} (h : rpRes l = ([], -1)) (hb : Below w.heap.size w w') : RP l w (.returned (.tuple #[.slice none 0 0, .int .i64 (-1)])) w' :=
  ⟨.slice none 0 0, [], by rw [h], by rw [h]; exact slice_empty sStr w' none 0 (by simp), Own.nil _ _, hb⟩

end Go.Proofs.Ythbojipdhgidlaa

/- Parameters as they are read: the model. -/
namespace Go.Proofs.Ythbojipdhgidlaa
open Go.RowKit

def parRes (l : List Tok) : List ByteArray × Int := match parsOf l with | some p => (p.1, (p.2 : Int)) | none => ([], -1)
theorem parRes_some {l : List Tok} {p : List ByteArray × Nat} (h : parsOf l = some p) : parRes l = (p.1, (p.2 : Int)) := by unfold parRes; rw [h]
theorem parRes_none {l : List Tok} (h : parsOf l = none) : parRes l = ([], -1) := by unfold parRes; rw [h]
def PMade (l : List Tok) (w : World) (e : Ending) (w' : World) : Prop :=
  ∃ (pv : Value) (fp : List Nat), e = .returned (.tuple #[pv, .int .i64 (parRes l).2]) ∧ (sSlice sStr).R w' [pv] (parRes l).1 fp ∧ Own w' w.heap.size fp ∧ Below w.heap.size w w'
theorem pm_none {l : List Tok} {w w1 : World} (h : parsOf l = none) (hb : Below w.heap.size w w1) : PMade l w (.returned (.tuple #[.slice (some ⟨w1.heap.size, 0, none⟩) 0 0, .int .i64 (-1)])) (w1.alloc (.cells #[] 9)) :=
  ⟨_, [], by rw [parRes_none h], by rw [parRes_none h]; exact slice_empty sStr _ _ _ (by simp), Own.nil _ _, hb.trans ((alloc_below' w1 _).mono hb.size)⟩
theorem pm_some {l : List Tok} {w w1 : World} {v : Value} {L : List ByteArray} {n : Int} {p : List ByteArray × Nat} (h : parsOf l = some p) (h1 : p.1 = L) (h2 : (p.2 : Int) = n) (hb : Below w.heap.size w w1) (ho : w1.ownsRow w.heap.size 9 1 v L.length (L.map Value.string))
    (hs : ∀ i, (hi : i < L.length) → L[i].size ≤ maxLen) : PMade l w (.returned (.tuple #[v, .int .i64 n])) w1 := by
  obtain ⟨fp, h3, h4, _⟩ := own_flat (ok := okStr) ho hs
  exact ⟨v, fp, by rw [parRes_some h, h2], by rw [parRes_some h]; show (sSlice sStr).R w1 [v] p.1 fp; rw [h1]; exact h3, h4, hb⟩
theorem pa_kind {l : List Tok} {k : Nat} (h : k + 1 < l.length) (h1 : (l[k]'(by omega)).kind ≠ 1) : parsAt l k = none := by rw [parsAt, dif_pos h, if_neg h1]
theorem pa_close {l : List Tok} {k : Nat} (h : k + 1 < l.length) (h1 : (l[k]'(by omega)).kind = 1) (h2 : l[k + 1].text = closeB) : parsAt l k = some ([(l[k]'(by omega)).text], k + 2) := by rw [parsAt, dif_pos h, if_pos h1, if_pos h2]
theorem pa_comma {l : List Tok} {k : Nat} (h : k + 1 < l.length) (h1 : (l[k]'(by omega)).kind = 1) (h2 : l[k + 1].text ≠ closeB) (h3 : l[k + 1].text = commaB) : parsAt l k = (parsAt l (k + 2)).map (fun p => ((l[k]'(by omega)).text :: p.1, p.2)) := by rw [parsAt, dif_pos h, if_pos h1, if_neg h2, if_pos h3]
theorem pa_other {l : List Tok} {k : Nat} (h : k + 1 < l.length) (h1 : (l[k]'(by omega)).kind = 1) (h2 : l[k + 1].text ≠ closeB) (h3 : l[k + 1].text ≠ commaB) : parsAt l k = none := by rw [parsAt, dif_pos h, if_pos h1, if_neg h2, if_neg h3]
theorem pa_end {l : List Tok} {k : Nat} (h : ¬ k + 1 < l.length) : parsAt l k = none := by rw [parsAt, dif_neg h]
theorem snoc_row {w : World} {base e : Nat} {v : Value} {L : List ByteArray} {x : ByteArray} (h : w.ownsRow base e 1 v (L.length + 1) (L.map Value.string ++ [.string x])) : w.ownsRow base e 1 v (L ++ [x]).length ((L ++ [x]).map Value.string) := by
  simpa using h
theorem snoc_size {L : List ByteArray} {x : ByteArray} (h : ∀ i, (hi : i < L.length) → L[i].size ≤ maxLen) (hx : x.size ≤ maxLen) : ∀ i, (hi : i < (L ++ [x]).length) → (L ++ [x])[i].size ≤ maxLen := by
  intro i hi
  by_cases h1 : i < L.length
  · rw [List.getElem_append_left h1]; exact h i h1
  · have : i = L.length := by simp at hi; omega
    subst this; simp [hx]


set_option maxHeartbeats 16000000 in
set_option maxRecDepth 100000 in
theorem spec_l5Params (v : Value) (l : List Tok) (fp : List Nat) (w : World) (hl : l.length ≤ 60) (H : (sSlice sTok).R w [v] l fp) :
    Calls Try.prog 75 #[v] w (PMade l w) := by
  obtain ⟨a, cap, rfl, hc, hm, hrow⟩ := open_rows H
  unfold maxLen at hm
  clear H
  have hlit : Hid ((w.alloc (.cells #[] 9)).ownsRow w.heap.size 9 1 (.slice (some ⟨w.heap.size, 0, none⟩) 0 0) ([] : List ByteArray).length (([] : List ByteArray).map Value.string)) :=
    World.ownsRow_lit (base := w.heap.size) (e := 9) (size := 1) w #[] 0 (Nat.le_refl _) (by simp) rfl
  have hba := alloc_below' w (.cells #[] 9)
  have fin : (¬ ∃ h : 2 < l.length, l[2].text = closeB ∧ l[2].kind = 4) → Hid (parsOf l = (parsAt l 2).map (fun p => (([] : List ByteArray) ++ p.1, p.2))) := fun hne => by
    show _ = _
    have e : (fun p : List ByteArray × Nat => (([] : List ByteArray) ++ p.1, p.2)) = id := by funext p; simp
    rw [e, Option.map_id]
    unfold parsOf
    by_cases h2 : 2 < l.length
    · rw [dif_pos h2, if_neg (fun h => hne ⟨h2, h⟩)]; rfl
    · rw [dif_neg h2, pa_end (by omega)]; rfl
  by_cases h2 : 2 < l.length
  · obtain ⟨b1, off1, fps1, rfl, hb1, hfp, he1⟩ := hrow (by omega)
    obtain ⟨es1, hE1, hR1⟩ := he1 2 h2
    obtain ⟨hh, rfl, -, -, -⟩ := hR1
    have hrow : Hid (0 < l.length → ∃ b off fps, (some ⟨b1, off1, none⟩ : Option Addr) = some ⟨b, off, none⟩ ∧ b < w.heap.size ∧ fp = b :: (List.range l.length).flatMap fps ∧ ∀ i, (hi : i < l.length) → ∃ es, ElemAt w b off sTok.m i es ∧ sTok.R w es l[i] (fps i)) := fun _ => ⟨b1, off1, fps1, rfl, hb1, hfp, he1⟩
    have hE2 := hE1.frame (hba.block b1 hb1)
    have c0 : (w.alloc (.cells #[] 9)).cell? ⟨b1, off1 + 8, none⟩ = some (.int .i64 l[2].kind) := elem_cell0 (i := 2) (m := 4) hE2 (by decide) rfl
    have c1 : (w.alloc (.cells #[] 9)).cell? ⟨b1, off1 + 8 + 1, none⟩ = some (.string l[2].text) := elem_cell (i := 2) (m := 4) (j := 1) hE2 (by decide) rfl
    have f3 : (2 : Int) < (l.length : Int) := by omega
    clear hE1 hE2 he1
    by_cases h3 : l[2].text = closeB
    · have f1 := txt_t (l := [41]) h3
      by_cases h4 : l[2].kind = 4
      · have f2 : (l[2].kind == 4) = true := by simp [h4]
        have HP : Hid (parsOf l = some ([], 3)) := by show _ = _; unfold parsOf; rw [dif_pos h2, if_pos ⟨h3, h4⟩]
        clear h3 h4 fin
        go_enter Try.func75, Try.ntmps75
        go_wp2
        go_ret2
        exact pm_some (p := ([], 3)) HP.out rfl rfl hba hlit.out (by simp)
      · have f2 : (l[2].kind == 4) = false := by simp [h4]
        have HPA := fin (by rintro ⟨_, _, h⟩; exact h4 h)
        clear h3 h4 fin
        go_enter Try.func75, Try.ntmps75
        go_wp2
        go_loopw [4, 5] (fun o i wr => ∃ (k : Nat) (L : List ByteArray), k ≤ l.length + 2 ∧ L.length ≤ k ∧ i = .int .i64 k ∧ Hid (wr.ownsRow w.heap.size 9 1 o L.length (L.map Value.string)) ∧ Hid (∀ i, (hi : i < L.length) → L[i].size ≤ maxLen) ∧ Hid (parsOf l = (parsAt l k).map (fun p => (L ++ p.1, p.2))) ∧ Below w.heap.size w wr) (fun _ i _ => l.length + 2 - (intOf i).toNat)
        case atStart => exact ⟨2, [], by omega, by simp, rfl, hlit, by intro i hi; simp at hi, HPA, hba⟩
        case round =>
          clear hlit hba HPA
          obtain ⟨k, L, hk, hLk, rfl, HO, HS, HP, hb⟩ := hrel
          by_cases hlt : k + 1 < l.length
          · obtain ⟨b1, off1, fps1, heq, hb1, -, he1⟩ := hrow.out (by omega)
            first
              | subst heq
              | (simp only [Option.some.injEq, Addr.mk.injEq, and_true] at heq; obtain ⟨rfl, rfl⟩ := heq)
            obtain ⟨es1, hE1, hR1⟩ := he1 k (by omega)
            obtain ⟨es2, hE2, hR2⟩ := he1 (k + 1) hlt
            clear hrow he1
            obtain ⟨h1', rfl, -, okt, -⟩ := hR1
            obtain ⟨h2', rfl, -, -, -⟩ := hR2
            have hE1' := hE1.frame (hb.block b1 hb1)
            have hE2' := hE2.frame (hb.block b1 hb1)
            have c0 : wr.cell? ⟨b1, off1 + k * 4, none⟩ = some _ := elem_cell0 hE1' (by decide) rfl
            have c1 : wr.cell? ⟨b1, off1 + k * 4 + 1, none⟩ = some _ := elem_cell (j := 1) hE1' (by decide) rfl
            have d1 : wr.cell? ⟨b1, off1 + (k + 1) * 4 + 1, none⟩ = some _ := elem_cell (j := 1) hE2' (by decide) rfl
            have d1w : w.cell? ⟨b1, off1 + (k + 1) * 4 + 1, none⟩ = some _ := elem_cell (j := 1) hE2 (by decide) rfl
            clear hE1 hE2 hE1' hE2'
            obtain ⟨fpo, hRo, -, -⟩ := own_flat (ok := okStr) HO.out HS.out
            obtain ⟨ao, co, rfl, -⟩ := open_strs hRo
            clear hRo
            have h6 : ((k : Int) + 1).toNat = k + 1 := by omega
            have hk1 : (k : Int) + 1 < (l.length : Int) := by omega
            by_cases e1 : (l[k]'(by omega)).kind = 1
            · have g1 : ((l[k]'(by omega)).kind != 1) = false := by simp [e1]
              have OKT := Lib.hid okt
              by_cases e2 : l[k + 1].text = closeB
              · have g2 := txt_t (l := [41]) e2
                have HN := Lib.hid (HP.out.trans (by rw [pa_close hlt e1 e2]; try rfl))
                clear e1 e2 okt
                go_wp2_with (
                  at_builtin
                  refine wp_append_one ti27 rfl _ (.string (l[k]'(by omega)).text) rfl rfl (.tmp 39) (.tmp 45) rfl w.heap.size (.slice ao L.length co) L.length _ rfl HO.out rfl (by unfold maxLen; omega) (by omega) hb.size ?_
                  intro v3 w3 hown hgrow
                  have hb3 := hb.grown hgrow hb.size (fun b hb' => (HO.out.lt b hb').1)
                  have d3 := (hb3.cell (p := ⟨b1, off1 + (k + 1) * 4 + 1, none⟩) hb1).trans d1w
                  have HB3 := Lib.hid hb3
                  have HOW := Lib.hid (snoc_row hown)
                  clear hgrow hown)
                go_ret2
                exact pm_some HN.out rfl (by go_num) HB3.out HOW.out (snoc_size HS.out OKT.out)
              · have g2 := txt_f (l := [41]) e2
                by_cases e3 : l[k + 1].text = commaB
                · have g3 := txt_t (l := [44]) e3
                  have HN : Hid (parsOf l = (parsAt l (k + 2)).map (fun p => ((L ++ [(l[k]'(by omega)).text]) ++ p.1, p.2))) := by
                    show _ = _
                    rw [HP.out, pa_comma hlt e1 e2 e3, Option.map_map]
                    congr 1
                    funext p
                    simp
                  clear e1 e2 e3 okt
                  go_wp2_with (
                    at_builtin
                    refine wp_append_one ti27 rfl _ (.string (l[k]'(by omega)).text) rfl rfl (.tmp 39) (.tmp 45) rfl w.heap.size (.slice ao L.length co) L.length _ rfl HO.out rfl (by unfold maxLen; omega) (by omega) hb.size ?_
                    intro v3 w3 hown hgrow
                    have hb3 := hb.grown hgrow hb.size (fun b hb' => (HO.out.lt b hb').1)
                    have d3 := (hb3.cell (p := ⟨b1, off1 + (k + 1) * 4 + 1, none⟩) hb1).trans d1w
                    have HB3 := Lib.hid hb3
                    have HOW := Lib.hid (snoc_row hown)
                    clear hgrow hown)
                  go_roundw
                  case rel => exact ⟨k + 2, _, by omega, by simp; omega, by go_num, HOW, snoc_size HS.out OKT.out, HN, HB3.out⟩
                  case measure => simp [intOf]; omega
                · have g3 := txt_f (l := [44]) e3
                  have HN := Lib.hid (HP.out.trans (by rw [pa_other hlt e1 e2 e3]; try rfl))
                  clear e1 e2 e3 okt
                  go_wp2_with (
                    at_builtin
                    refine wp_append_one ti27 rfl _ (.string (l[k]'(by omega)).text) rfl rfl (.tmp 39) (.tmp 45) rfl w.heap.size (.slice ao L.length co) L.length _ rfl HO.out rfl (by unfold maxLen; omega) (by omega) hb.size ?_
                    intro v3 w3 hown hgrow
                    have hb3 := hb.grown hgrow hb.size (fun b hb' => (HO.out.lt b hb').1)
                    have d3 := (hb3.cell (p := ⟨b1, off1 + (k + 1) * 4 + 1, none⟩) hb1).trans d1w
                    have HB3 := Lib.hid hb3
                    clear hgrow hown)
                  go_ret2
                  exact pm_none HN.out HB3.out
            · have g1 : ((l[k]'(by omega)).kind != 1) = true := by simp [e1]
              have HN := Lib.hid (HP.out.trans (by rw [pa_kind hlt e1]; try rfl))
              clear e1
              go_wp2
              go_ret2
              exact pm_none HN.out hb
          · have HN := Lib.hid (HP.out.trans (by rw [pa_end hlt]; try rfl))
            have hk1 : ¬ (k : Int) + 1 < (l.length : Int) := by omega
            go_wp2
            go_ret2
            exact pm_none HN.out hb
    · have f1 := txt_f (l := [41]) h3
      have HPA := fin (by rintro ⟨_, h, _⟩; exact h3 h)
      clear h3 fin
      go_enter Try.func75, Try.ntmps75
      go_wp2
      go_loopw [4, 5] (fun o i wr => ∃ (k : Nat) (L : List ByteArray), k ≤ l.length + 2 ∧ L.length ≤ k ∧ i = .int .i64 k ∧ Hid (wr.ownsRow w.heap.size 9 1 o L.length (L.map Value.string)) ∧ Hid (∀ i, (hi : i < L.length) → L[i].size ≤ maxLen) ∧ Hid (parsOf l = (parsAt l k).map (fun p => (L ++ p.1, p.2))) ∧ Below w.heap.size w wr) (fun _ i _ => l.length + 2 - (intOf i).toNat)
      case atStart => exact ⟨2, [], by omega, by simp, rfl, hlit, by intro i hi; simp at hi, HPA, hba⟩
      case round =>
        clear hlit hba HPA
        obtain ⟨k, L, hk, hLk, rfl, HO, HS, HP, hb⟩ := hrel
        by_cases hlt : k + 1 < l.length
        · obtain ⟨b1, off1, fps1, heq, hb1, -, he1⟩ := hrow.out (by omega)
          first
            | subst heq
            | (simp only [Option.some.injEq, Addr.mk.injEq, and_true] at heq; obtain ⟨rfl, rfl⟩ := heq)
          obtain ⟨es1, hE1, hR1⟩ := he1 k (by omega)
          obtain ⟨es2, hE2, hR2⟩ := he1 (k + 1) hlt
          clear hrow he1
          obtain ⟨h1', rfl, -, okt, -⟩ := hR1
          obtain ⟨h2', rfl, -, -, -⟩ := hR2
          have hE1' := hE1.frame (hb.block b1 hb1)
          have hE2' := hE2.frame (hb.block b1 hb1)
          have c0 : wr.cell? ⟨b1, off1 + k * 4, none⟩ = some _ := elem_cell0 hE1' (by decide) rfl
          have c1 : wr.cell? ⟨b1, off1 + k * 4 + 1, none⟩ = some _ := elem_cell (j := 1) hE1' (by decide) rfl
          have d1 : wr.cell? ⟨b1, off1 + (k + 1) * 4 + 1, none⟩ = some _ := elem_cell (j := 1) hE2' (by decide) rfl
          have d1w : w.cell? ⟨b1, off1 + (k + 1) * 4 + 1, none⟩ = some _ := elem_cell (j := 1) hE2 (by decide) rfl
          clear hE1 hE2 hE1' hE2'
          obtain ⟨fpo, hRo, -, -⟩ := own_flat (ok := okStr) HO.out HS.out
          obtain ⟨ao, co, rfl, -⟩ := open_strs hRo
          clear hRo
          have h6 : ((k : Int) + 1).toNat = k + 1 := by omega
          have hk1 : (k : Int) + 1 < (l.length : Int) := by omega
          by_cases e1 : (l[k]'(by omega)).kind = 1
          · have g1 : ((l[k]'(by omega)).kind != 1) = false := by simp [e1]
            have OKT := Lib.hid okt
            by_cases e2 : l[k + 1].text = closeB
            · have g2 := txt_t (l := [41]) e2
              have HN := Lib.hid (HP.out.trans (by rw [pa_close hlt e1 e2]; try rfl))
              clear e1 e2 okt
              go_wp2_with (
                at_builtin
                refine wp_append_one ti27 rfl _ (.string (l[k]'(by omega)).text) rfl rfl (.tmp 39) (.tmp 45) rfl w.heap.size (.slice ao L.length co) L.length _ rfl HO.out rfl (by unfold maxLen; omega) (by omega) hb.size ?_
                intro v3 w3 hown hgrow
                have hb3 := hb.grown hgrow hb.size (fun b hb' => (HO.out.lt b hb').1)
                have d3 := (hb3.cell (p := ⟨b1, off1 + (k + 1) * 4 + 1, none⟩) hb1).trans d1w
                have HB3 := Lib.hid hb3
                have HOW := Lib.hid (snoc_row hown)
                clear hgrow hown)
              go_ret2
              exact pm_some HN.out rfl (by go_num) HB3.out HOW.out (snoc_size HS.out OKT.out)
            · have g2 := txt_f (l := [41]) e2
              by_cases e3 : l[k + 1].text = commaB
              · have g3 := txt_t (l := [44]) e3
                have HN : Hid (parsOf l = (parsAt l (k + 2)).map (fun p => ((L ++ [(l[k]'(by omega)).text]) ++ p.1, p.2))) := by
                  show _ = _
                  rw [HP.out, pa_comma hlt e1 e2 e3, Option.map_map]
                  congr 1
                  funext p
                  simp
                clear e1 e2 e3 okt
                go_wp2_with (
                  at_builtin
                  refine wp_append_one ti27 rfl _ (.string (l[k]'(by omega)).text) rfl rfl (.tmp 39) (.tmp 45) rfl w.heap.size (.slice ao L.length co) L.length _ rfl HO.out rfl (by unfold maxLen; omega) (by omega) hb.size ?_
                  intro v3 w3 hown hgrow
                  have hb3 := hb.grown hgrow hb.size (fun b hb' => (HO.out.lt b hb').1)
                  have d3 := (hb3.cell (p := ⟨b1, off1 + (k + 1) * 4 + 1, none⟩) hb1).trans d1w
                  have HB3 := Lib.hid hb3
                  have HOW := Lib.hid (snoc_row hown)
                  clear hgrow hown)
                go_roundw
                case rel => exact ⟨k + 2, _, by omega, by simp; omega, by go_num, HOW, snoc_size HS.out OKT.out, HN, HB3.out⟩
                case measure => simp [intOf]; omega
              · have g3 := txt_f (l := [44]) e3
                have HN := Lib.hid (HP.out.trans (by rw [pa_other hlt e1 e2 e3]; try rfl))
                clear e1 e2 e3 okt
                go_wp2_with (
                  at_builtin
                  refine wp_append_one ti27 rfl _ (.string (l[k]'(by omega)).text) rfl rfl (.tmp 39) (.tmp 45) rfl w.heap.size (.slice ao L.length co) L.length _ rfl HO.out rfl (by unfold maxLen; omega) (by omega) hb.size ?_
                  intro v3 w3 hown hgrow
                  have hb3 := hb.grown hgrow hb.size (fun b hb' => (HO.out.lt b hb').1)
                  have d3 := (hb3.cell (p := ⟨b1, off1 + (k + 1) * 4 + 1, none⟩) hb1).trans d1w
                  have HB3 := Lib.hid hb3
                  clear hgrow hown)
                go_ret2
                exact pm_none HN.out HB3.out
          · have g1 : ((l[k]'(by omega)).kind != 1) = true := by simp [e1]
            have HN := Lib.hid (HP.out.trans (by rw [pa_kind hlt e1]; try rfl))
            clear e1
            go_wp2
            go_ret2
            exact pm_none HN.out hb
        · have HN := Lib.hid (HP.out.trans (by rw [pa_end hlt]; try rfl))
          have hk1 : ¬ (k : Int) + 1 < (l.length : Int) := by omega
          go_wp2
          go_ret2
          exact pm_none HN.out hb
  · have f3 : ¬ (2 : Int) < (l.length : Int) := by omega
    have HPA := fin (by rintro ⟨h, _⟩; exact h2 h)
    have hrow := Lib.hid hrow
    clear fin
    go_enter Try.func75, Try.ntmps75
    go_wp2
    go_loopw [4, 5] (fun o i wr => ∃ (k : Nat) (L : List ByteArray), k ≤ l.length + 2 ∧ L.length ≤ k ∧ i = .int .i64 k ∧ Hid (wr.ownsRow w.heap.size 9 1 o L.length (L.map Value.string)) ∧ Hid (∀ i, (hi : i < L.length) → L[i].size ≤ maxLen) ∧ Hid (parsOf l = (parsAt l k).map (fun p => (L ++ p.1, p.2))) ∧ Below w.heap.size w wr) (fun _ i _ => l.length + 2 - (intOf i).toNat)
    case atStart => exact ⟨2, [], by omega, by simp, rfl, hlit, by intro i hi; simp at hi, HPA, hba⟩
    case round =>
      clear hlit hba HPA
      obtain ⟨k, L, hk, hLk, rfl, HO, HS, HP, hb⟩ := hrel
      by_cases hlt : k + 1 < l.length
      · obtain ⟨b1, off1, fps1, heq, hb1, -, he1⟩ := hrow.out (by omega)
        first
          | subst heq
          | (simp only [Option.some.injEq, Addr.mk.injEq, and_true] at heq; obtain ⟨rfl, rfl⟩ := heq)
        obtain ⟨es1, hE1, hR1⟩ := he1 k (by omega)
        obtain ⟨es2, hE2, hR2⟩ := he1 (k + 1) hlt
        clear hrow he1
        obtain ⟨h1', rfl, -, okt, -⟩ := hR1
        obtain ⟨h2', rfl, -, -, -⟩ := hR2
        have hE1' := hE1.frame (hb.block b1 hb1)
        have hE2' := hE2.frame (hb.block b1 hb1)
        have c0 : wr.cell? ⟨b1, off1 + k * 4, none⟩ = some _ := elem_cell0 hE1' (by decide) rfl
        have c1 : wr.cell? ⟨b1, off1 + k * 4 + 1, none⟩ = some _ := elem_cell (j := 1) hE1' (by decide) rfl
        have d1 : wr.cell? ⟨b1, off1 + (k + 1) * 4 + 1, none⟩ = some _ := elem_cell (j := 1) hE2' (by decide) rfl
        have d1w : w.cell? ⟨b1, off1 + (k + 1) * 4 + 1, none⟩ = some _ := elem_cell (j := 1) hE2 (by decide) rfl
        clear hE1 hE2 hE1' hE2'
        obtain ⟨fpo, hRo, -, -⟩ := own_flat (ok := okStr) HO.out HS.out
        obtain ⟨ao, co, rfl, -⟩ := open_strs hRo
        clear hRo
        have h6 : ((k : Int) + 1).toNat = k + 1 := by omega
        have hk1 : (k : Int) + 1 < (l.length : Int) := by omega
        by_cases e1 : (l[k]'(by omega)).kind = 1
        · have g1 : ((l[k]'(by omega)).kind != 1) = false := by simp [e1]
          have OKT := Lib.hid okt
          by_cases e2 : l[k + 1].text = closeB
          · have g2 := txt_t (l := [41]) e2
            have HN := Lib.hid (HP.out.trans (by rw [pa_close hlt e1 e2]; try rfl))
            clear e1 e2 okt
            go_wp2_with (
              at_builtin
              refine wp_append_one ti27 rfl _ (.string (l[k]'(by omega)).text) rfl rfl (.tmp 39) (.tmp 45) rfl w.heap.size (.slice ao L.length co) L.length _ rfl HO.out rfl (by unfold maxLen; omega) (by omega) hb.size ?_
              intro v3 w3 hown hgrow
              have hb3 := hb.grown hgrow hb.size (fun b hb' => (HO.out.lt b hb').1)
              have d3 := (hb3.cell (p := ⟨b1, off1 + (k + 1) * 4 + 1, none⟩) hb1).trans d1w
              have HB3 := Lib.hid hb3
              have HOW := Lib.hid (snoc_row hown)
              clear hgrow hown)
            go_ret2
            exact pm_some HN.out rfl (by go_num) HB3.out HOW.out (snoc_size HS.out OKT.out)
          · have g2 := txt_f (l := [41]) e2
            by_cases e3 : l[k + 1].text = commaB
            · have g3 := txt_t (l := [44]) e3
              have HN : Hid (parsOf l = (parsAt l (k + 2)).map (fun p => ((L ++ [(l[k]'(by omega)).text]) ++ p.1, p.2))) := by
                show _ = _
                rw [HP.out, pa_comma hlt e1 e2 e3, Option.map_map]
                congr 1
                funext p
                simp
              clear e1 e2 e3 okt
              go_wp2_with (
                at_builtin
                refine wp_append_one ti27 rfl _ (.string (l[k]'(by omega)).text) rfl rfl (.tmp 39) (.tmp 45) rfl w.heap.size (.slice ao L.length co) L.length _ rfl HO.out rfl (by unfold maxLen; omega) (by omega) hb.size ?_
                intro v3 w3 hown hgrow
                have hb3 := hb.grown hgrow hb.size (fun b hb' => (HO.out.lt b hb').1)
                have d3 := (hb3.cell (p := ⟨b1, off1 + (k + 1) * 4 + 1, none⟩) hb1).trans d1w
                have HB3 := Lib.hid hb3
                have HOW := Lib.hid (snoc_row hown)
                clear hgrow hown)
              go_roundw
              case rel => exact ⟨k + 2, _, by omega, by simp; omega, by go_num, HOW, snoc_size HS.out OKT.out, HN, HB3.out⟩
              case measure => simp [intOf]; omega
            · have g3 := txt_f (l := [44]) e3
              have HN := Lib.hid (HP.out.trans (by rw [pa_other hlt e1 e2 e3]; try rfl))
              clear e1 e2 e3 okt
              go_wp2_with (
                at_builtin
                refine wp_append_one ti27 rfl _ (.string (l[k]'(by omega)).text) rfl rfl (.tmp 39) (.tmp 45) rfl w.heap.size (.slice ao L.length co) L.length _ rfl HO.out rfl (by unfold maxLen; omega) (by omega) hb.size ?_
                intro v3 w3 hown hgrow
                have hb3 := hb.grown hgrow hb.size (fun b hb' => (HO.out.lt b hb').1)
                have d3 := (hb3.cell (p := ⟨b1, off1 + (k + 1) * 4 + 1, none⟩) hb1).trans d1w
                have HB3 := Lib.hid hb3
                clear hgrow hown)
              go_ret2
              exact pm_none HN.out HB3.out
        · have g1 : ((l[k]'(by omega)).kind != 1) = true := by simp [e1]
          have HN := Lib.hid (HP.out.trans (by rw [pa_kind hlt e1]; try rfl))
          clear e1
          go_wp2
          go_ret2
          exact pm_none HN.out hb
      · have HN := Lib.hid (HP.out.trans (by rw [pa_end hlt]; try rfl))
        have hk1 : ¬ (k : Int) + 1 < (l.length : Int) := by omega
        go_wp2
        go_ret2
        exact pm_none HN.out hb

end Go.Proofs.Ythbojipdhgidlaa

/- MacroValid of the model. (Made by gen_mac3.py.) -/
namespace Go.Proofs.Ythbojipdhgidlaa
open Go.RowKit

set_option maxHeartbeats 16000000 in
set_option maxRecDepth 100000 in
theorem spec_MacroValid_no (m : DMacro) (h2 h3 : Value) (fp2 fp3 : List Nat) (w : World) (k0 : okStr m.name) (K2 : (sSlice sStr).R w [h2] m.params fp2) (K3 : (sSlice sTok).R w [h3] m.body fp3) (hf : m.function = false) :
    Calls Try.prog 29 #[.agg #[.string m.name, .bool m.function, h2, h3]] w (Says (macOk m) w) := by
  obtain ⟨a2, cap2, rfl, hc2, hm2, hcell2, hsz2⟩ := open_strs K2
  have K3' := K3
  obtain ⟨a3, cap3, rfl, hc3, hm3, hrow3⟩ := open_rows K3
  unfold maxLen at hm2 hm3
  rw [hf]
  have HN := Lib.hid (fun W => spec_l5Name m.name W k0)
  have hb0 := alloc_below' w (.cells #[.string m.name, .bool false, .slice a2 m.params.length cap2, .slice a3 m.body.length cap3] 32)
  have HX := Lib.hid (heap_alloc_new w (.cells #[.string m.name, .bool false, .slice a2 m.params.length cap2, .slice a3 m.body.length cap3] 32))
  go_enter Try.func29, Try.ntmps29
  rcases head_ways m with ⟨g1, HF⟩ | ⟨g1, g2, HF⟩ | ⟨g1, g2, g3, HF⟩ | ⟨g1, g2, g3, g4, g5, HF⟩ | ⟨g1, g2, g3, g4, g5, HF⟩ | ⟨g1, g2, g3, g4, g5, HH⟩
  · rw [g1] at HN
    clear g1
    go_wp2_with (go_at_call 60; refine (HN.out _).mono ?_; rintro e w1 ⟨rfl, hb1⟩)
    go_ret
    exact ⟨ret_bool HF.out.symm, hb0.trans (hb1.mono hb0.size)⟩
  · rw [g1] at HN
    have e2 := txt_t (l := [100, 101, 102, 105, 110, 101, 100]) g2
    clear g1 g2
    go_wp2_with (go_at_call 60; refine (HN.out _).mono ?_; rintro e w1 ⟨rfl, hb1⟩; have q0 : w1.cell? ⟨w.heap.size, 0, none⟩ = some _ := cell_of_row _ _ 0 _ _ _ ((hb1.block _ (Array.getElem?_eq_some_iff.1 HX.out).1).trans HX.out))
    go_ret
    exact ⟨ret_bool HF.out.symm, hb0.trans (hb1.mono hb0.size)⟩
  · rw [g1] at HN
    have e2 := txt_f (l := [100, 101, 102, 105, 110, 101, 100]) g2
    clear g1 g2
    go_wp2_with (go_at_call 60; refine (HN.out _).mono ?_; rintro e w1 ⟨rfl, hb1⟩; have q0 : w1.cell? ⟨w.heap.size, 0, none⟩ = some _ := cell_of_row _ _ 0 _ _ _ ((hb1.block _ (Array.getElem?_eq_some_iff.1 HX.out).1).trans HX.out); have q2 : w1.cell? ⟨w.heap.size, 2, none⟩ = some _ := cell_of_row _ _ 2 _ _ _ ((hb1.block _ (Array.getElem?_eq_some_iff.1 HX.out).1).trans HX.out))
    go_ret
    exact ⟨ret_bool HF.out.symm, hb0.trans (hb1.mono hb0.size)⟩
  · rw [g1] at HN
    have e2 := txt_f (l := [100, 101, 102, 105, 110, 101, 100]) g2
    clear g1 g2
    go_wp2_with (go_at_call 60; refine (HN.out _).mono ?_; rintro e w1 ⟨rfl, hb1⟩; have q0 : w1.cell? ⟨w.heap.size, 0, none⟩ = some _ := cell_of_row _ _ 0 _ _ _ ((hb1.block _ (Array.getElem?_eq_some_iff.1 HX.out).1).trans HX.out); have q1 : w1.cell? ⟨w.heap.size, 1, none⟩ = some _ := cell_of_row _ _ 1 _ _ _ ((hb1.block _ (Array.getElem?_eq_some_iff.1 HX.out).1).trans HX.out); have q2 : w1.cell? ⟨w.heap.size, 2, none⟩ = some _ := cell_of_row _ _ 2 _ _ _ ((hb1.block _ (Array.getElem?_eq_some_iff.1 HX.out).1).trans HX.out))
    go_ret
    exact ⟨ret_bool HF.out.symm, hb0.trans (hb1.mono hb0.size)⟩
  · rw [g1] at HN
    have e2 := txt_f (l := [100, 101, 102, 105, 110, 101, 100]) g2
    have g6 : ¬ (0 : Int) < (m.params.length : Int) := by rcases g4 with h | h; rw [hf] at h; simp at h; omega
    have g7 : ¬ 0 < m.params.length := by omega
    clear g1 g2 g4
    go_wp2_with (go_at_call 60; refine (HN.out _).mono ?_; rintro e w1 ⟨rfl, hb1⟩; have q0 : w1.cell? ⟨w.heap.size, 0, none⟩ = some _ := cell_of_row _ _ 0 _ _ _ ((hb1.block _ (Array.getElem?_eq_some_iff.1 HX.out).1).trans HX.out); have q1 : w1.cell? ⟨w.heap.size, 1, none⟩ = some _ := cell_of_row _ _ 1 _ _ _ ((hb1.block _ (Array.getElem?_eq_some_iff.1 HX.out).1).trans HX.out); have q2 : w1.cell? ⟨w.heap.size, 2, none⟩ = some _ := cell_of_row _ _ 2 _ _ _ ((hb1.block _ (Array.getElem?_eq_some_iff.1 HX.out).1).trans HX.out); have q3 : w1.cell? ⟨w.heap.size, 3, none⟩ = some _ := cell_of_row _ _ 3 _ _ _ ((hb1.block _ (Array.getElem?_eq_some_iff.1 HX.out).1).trans HX.out))
    go_ret
    exact ⟨ret_bool HF.out.symm, hb0.trans (hb1.mono hb0.size)⟩
  · rw [g1] at HN
    have e2 := txt_f (l := [100, 101, 102, 105, 110, 101, 100]) g2
    have g6 : ¬ (0 : Int) < (m.params.length : Int) := by rcases g4 with h | h; rw [hf] at h; simp at h; omega
    have g7 : ¬ 0 < m.params.length := by omega
    clear g1 g2 g4
    go_wp2_with (go_at_call 60; refine (HN.out _).mono ?_; rintro e w1 ⟨rfl, hb1⟩; have q0 : w1.cell? ⟨w.heap.size, 0, none⟩ = some _ := cell_of_row _ _ 0 _ _ _ ((hb1.block _ (Array.getElem?_eq_some_iff.1 HX.out).1).trans HX.out); have q1 : w1.cell? ⟨w.heap.size, 1, none⟩ = some _ := cell_of_row _ _ 1 _ _ _ ((hb1.block _ (Array.getElem?_eq_some_iff.1 HX.out).1).trans HX.out); have q2 : w1.cell? ⟨w.heap.size, 2, none⟩ = some _ := cell_of_row _ _ 2 _ _ _ ((hb1.block _ (Array.getElem?_eq_some_iff.1 HX.out).1).trans HX.out); have q3 : w1.cell? ⟨w.heap.size, 3, none⟩ = some _ := cell_of_row _ _ 3 _ _ _ ((hb1.block _ (Array.getElem?_eq_some_iff.1 HX.out).1).trans HX.out))
    have hB1 := hb0.trans (hb1.mono hb0.size)
    have HX1 := Lib.hid ((hb1.block _ (Array.getElem?_eq_some_iff.1 HX.out).1).trans HX.out)
    have HM := Lib.hid (fun W (hb : Below w.heap.size w W) => sMacro.below (show sMacro.R w [.string m.name, .bool false, .slice a2 m.params.length cap2, .slice a3 m.body.length cap3] m (fp2 ++ fp3) from ⟨_, _, fp2, fp3, by rw [hf], k0, K2, K3, rfl⟩) hb)
    clear q0 q1 q2 q3 HN hb0 HX hb1 K3' K2 K3
    go_loopw [3] (fun i wr => ∃ k : Nat, k ≤ m.params.length ∧ i = .int .i64 k ∧ ParUpto m.params k ∧ Below w1.heap.size w1 wr) (fun i _ => m.params.length - (intOf i).toNat)
    case atStart => exact ⟨0, by omega, rfl, ParUpto.zero _, Below.refl _ _⟩
    case round =>
      obtain ⟨k, hk, rfl, hall, hb⟩ := hrel
      have HX2 := Lib.hid ((hb.block _ (Array.getElem?_eq_some_iff.1 HX1.out).1).trans HX1.out)
      have q2 : wr.cell? ⟨w.heap.size, 2, none⟩ = some _ := cell_of_row _ _ 2 _ _ _ HX2.out
      have q3 : wr.cell? ⟨w.heap.size, 3, none⟩ = some _ := cell_of_row _ _ 3 _ _ _ HX2.out
      have hbw := hB1.trans (hb.mono hB1.size)
      by_cases hlt : k < m.params.length
      · omega
      · have HP := Lib.hid (show ParUpto m.params m.params.length from fun j hj => hall j (by omega))
        have hz : decide (k < m.params.length) = false := decide_eq_false hlt
        clear hall hk
        go_wp2
        try rw [hz]
        clear q2 q3 HX2 hbw hlt hz
        go_loopw [6] (fun i wr => ∃ k : Nat, k ≤ m.body.length ∧ i = .int .i64 k ∧ BodUpto (bodOk m) k ∧ Below w1.heap.size w1 wr) (fun i _ => m.body.length - (intOf i).toNat)
        case atStart => exact ⟨0, by omega, rfl, BodUpto.zero _, hb⟩
        case round =>
          clear hb
          obtain ⟨k, hk, rfl, hall, hb⟩ := hrel
          have HX3 := Lib.hid ((hb.block _ (Array.getElem?_eq_some_iff.1 HX1.out).1).trans HX1.out)
          have q3 : wr.cell? ⟨w.heap.size, 3, none⟩ = some _ := cell_of_row _ _ 3 _ _ _ HX3.out
          have hbw := hB1.trans (hb.mono hB1.size)
          by_cases hlt : k < m.body.length
          · obtain ⟨b1, off1, fps1, rfl, hb1', -, he1⟩ := hrow3 (by omega)
            obtain ⟨es1, hE1, hR1⟩ := he1 k hlt
            have hR1' := hR1
            obtain ⟨hh, rfl, -, -, K1⟩ := hR1
            obtain ⟨ah, caph, rfl, -⟩ := open_rows K1
            replace hE1 := hE1.frame (hbw.block b1 hb1')
            have c10 : wr.cell? ⟨b1, off1 + k * 4, none⟩ = some _ := elem_cell0 hE1 (by decide) rfl
            have c11 : wr.cell? ⟨b1, off1 + k * 4 + 1, none⟩ = some _ := elem_cell (j := 1) hE1 (by decide) rfl
            have c12 : wr.cell? ⟨b1, off1 + k * 4 + 2, none⟩ = some _ := elem_cell (j := 2) hE1 (by decide) rfl
            have c13 : wr.cell? ⟨b1, off1 + k * 4 + 3, none⟩ = some _ := elem_cell (j := 3) hE1 (by decide) rfl
            have hbx : Below wr.heap.size wr (wr.alloc (.cells #[.int .i64 m.body[k].kind, .string m.body[k].text, .bool m.body[k].spaced, .slice ah m.body[k].hidden.length caph] 56)) := alloc_below' _ _
            have HT := Lib.hid (heap_alloc_new wr (.cells #[.int .i64 m.body[k].kind, .string m.body[k].text, .bool m.body[k].spaced, .slice ah m.body[k].hidden.length caph] 56))
            have HV := Lib.hid (fun W (hW : Below (wr.alloc (.cells #[.int .i64 m.body[k].kind, .string m.body[k].text, .bool m.body[k].spaced, .slice ah m.body[k].hidden.length caph] 56)).heap.size (wr.alloc (.cells #[.int .i64 m.body[k].kind, .string m.body[k].text, .bool m.body[k].spaced, .slice ah m.body[k].hidden.length caph] 56)) W) => spec_TokenValid _ _ _ W (sTok.below (sTok.below (sTok.below hR1' hbw) hbx) hW))
            clear K1 hR1' hE1
            go_wp2_with fail
            refine (HV.out _ (Below.refl _ _)).mono ?_
            rintro e w2 ⟨rfl, hb2⟩
            have HT2 := Lib.hid ((hb2.block _ (Array.getElem?_eq_some_iff.1 HT.out).1).trans HT.out)
            have hb02 := hbx.trans (hb2.mono hbx.size)
            have hbq := hb.trans (hb02.mono hb.size)
            have hbw2 := hB1.trans (hbq.mono hB1.size)
            have HX4 := Lib.hid ((hb02.block _ (Array.getElem?_eq_some_iff.1 HX3.out).1).trans HX3.out)
            have p1 : w2.cell? ⟨wr.heap.size, 1, none⟩ = some _ := cell_of_row _ _ 1 _ _ _ HT2.out
            have p2 : w2.cell? ⟨wr.heap.size, 2, none⟩ = some _ := cell_of_row _ _ 2 _ _ _ HT2.out
            have p3 : w2.cell? ⟨wr.heap.size, 3, none⟩ = some _ := cell_of_row _ _ 3 _ _ _ HT2.out
            clear q3 c10 c11 c12 c13 HV HT hb2 HX3 hbx hb02 hbw hb
            have q0 : w2.cell? ⟨w.heap.size, 0, none⟩ = some _ := cell_of_row _ _ 0 _ _ _ HX4.out
            have q1 : w2.cell? ⟨w.heap.size, 1, none⟩ = some _ := cell_of_row _ _ 1 _ _ _ HX4.out
            have q2 : w2.cell? ⟨w.heap.size, 2, none⟩ = some _ := cell_of_row _ _ 2 _ _ _ HX4.out
            have q3 : w2.cell? ⟨w.heap.size, 3, none⟩ = some _ := cell_of_row _ _ 3 _ _ _ HX4.out
            cases hv : tokOk m.body[k]
            · have HF := Lib.hid (macOk_bod hlt (by rw [bodOk_split _ _ hlt, hv]; rfl))
              clear hv hall
              go_wp2
              go_ret
              exact ⟨ret_bool HF.out.symm, hbw2⟩
            have HS := Lib.hid (bodOk_split m k hlt)
            rw [hv] at HS
            clear hv
            have g00 : ((k : Int) == 0) = decide (k = 0) := by rw [Bool.eq_iff_iff]; simp
            have g01 : ((k : Int) == (m.body.length : Int) - 1) = decide (k + 1 = m.body.length) := by rw [Bool.eq_iff_iff]; simp; omega
            rcases bodI_ways hlt with ⟨e1, HI⟩ | ⟨e1, e2, e3, HI⟩ | ⟨e1, e2, e3, e4, HI⟩ | ⟨e1, e2, e3, e4, HI⟩ | ⟨e1, e2, e4, e5, HI⟩ | ⟨e1, e2, e4, e5, e6, HI⟩ | ⟨e1, e2, e4, e5, e6, HI⟩ | ⟨e1, e2, e4, HI⟩
            · have HF := Lib.hid (macOk_bod hlt (by rw [HS.out, HI.out]; simp))
              have f0 : (0 : Int) < (m.body[k].hidden.length : Int) := by omega
              have f01 : 0 < m.body[k].hidden.length := by omega
              have f02 : decide ((0 : Int) < (m.body[k].hidden.length : Int)) = true := decide_eq_true f0
              clear e1 hall
              go_wp2
              go_ret
              exact ⟨ret_bool HF.out.symm, hbw2⟩
            · have HF := Lib.hid (macOk_bod hlt (by rw [HS.out, HI.out]; simp))
              have f0 : ¬ (0 : Int) < (m.body[k].hidden.length : Int) := by omega
              have f01 : ¬ 0 < m.body[k].hidden.length := by omega
              rw [decide_eq_true e2] at g00
              rw [e3] at p2
              clear e2 e3
              clear e1 hall
              go_wp2
              go_ret
              exact ⟨ret_bool HF.out.symm, hbw2⟩
            · have HF := Lib.hid (macOk_bod hlt (by rw [HS.out, HI.out]; simp))
              have f0 : ¬ (0 : Int) < (m.body[k].hidden.length : Int) := by omega
              have f01 : ¬ 0 < m.body[k].hidden.length := by omega
              rw [decide_eq_true e2] at g00
              rw [e3] at p2
              have f4 := txt_t (l := [35, 35]) e4
              have E4 := Lib.hid e4
              clear e4
              clear e2 e3
              clear e1 hall
              go_wp2
              go_ret
              exact ⟨ret_bool HF.out.symm, hbw2⟩
            · have f0 : ¬ (0 : Int) < (m.body[k].hidden.length : Int) := by omega
              have f01 : ¬ 0 < m.body[k].hidden.length := by omega
              rw [decide_eq_true e2] at g00
              rw [e3] at p2
              have f4 := txt_f (l := [35, 35]) e4
              have E4 := Lib.hid e4
              clear e4
              clear e1 e2 e3
              have HN := Lib.hid (hall.succ (by rw [HS.out, HI.out, hf]; rfl))
              clear hall
              go_wp2
              go_quiet (fail)
              go_wp2
              go_roundw
              case rel => first | exact ⟨k + 1, by omega, by go_num, HN.out, belowN hbq _⟩ | ((repeat apply Exists.intro); exact ⟨⟨k + 1, by omega, by go_num, HN.out, belowN hbq _⟩, rfl⟩)
              case measure => simp [intOf]; omega
            · have HF := Lib.hid (macOk_bod hlt (by rw [HS.out, HI.out]; simp))
              have f0 : ¬ (0 : Int) < (m.body[k].hidden.length : Int) := by omega
              have f01 : ¬ 0 < m.body[k].hidden.length := by omega
              rw [decide_eq_false e2] at g00
              have f4 := txt_t (l := [35, 35]) e4
              have E4 := Lib.hid e4
              clear e4
              rw [decide_eq_true e5] at g01
              clear e2 e5
              clear e1 hall
              go_wp2
              go_ret
              exact ⟨ret_bool HF.out.symm, hbw2⟩
            · have HF := Lib.hid (macOk_bod hlt (by rw [HS.out, HI.out]; simp))
              have f0 : ¬ (0 : Int) < (m.body[k].hidden.length : Int) := by omega
              have f01 : ¬ 0 < m.body[k].hidden.length := by omega
              rw [decide_eq_false e2] at g00
              have f4 := txt_t (l := [35, 35]) e4
              have E4 := Lib.hid e4
              clear e4
              rw [decide_eq_false e5] at g01
              obtain ⟨es2, hE2, hR2⟩ := he1 (k - 1) (by omega)
              obtain ⟨h9, rfl, -, -, -⟩ := hR2
              replace hE2 := hE2.frame (hbw2.block b1 hb1')
              have c21 : w2.cell? ⟨b1, off1 + (k - 1) * 4 + 1, none⟩ = some _ := elem_cell (j := 1) hE2 (by decide) rfl
              have h6 : ((k : Int) - 1).toNat = k - 1 := by omega
              have hwl : IntKind.i64.wrap ((k : Int) - 1) = (k : Int) - 1 := IntWalk.i64_in _ (by omega)
              have hi1 : (0 : Int) ≤ (k : Int) - 1 := by omega
              have hi2 : (k : Int) - 1 < (m.body.length : Int) := by omega
              clear hE2
              have f6 := txt_t (l := [35, 35]) e6
              clear e2 e5 e6
              clear e1 hall
              go_wp2
              go_ret
              exact ⟨ret_bool HF.out.symm, hbw2⟩
            · have f0 : ¬ (0 : Int) < (m.body[k].hidden.length : Int) := by omega
              have f01 : ¬ 0 < m.body[k].hidden.length := by omega
              rw [decide_eq_false e2] at g00
              have f4 := txt_t (l := [35, 35]) e4
              have E4 := Lib.hid e4
              clear e4
              rw [decide_eq_false e5] at g01
              obtain ⟨es2, hE2, hR2⟩ := he1 (k - 1) (by omega)
              obtain ⟨h9, rfl, -, -, -⟩ := hR2
              replace hE2 := hE2.frame (hbw2.block b1 hb1')
              have c21 : w2.cell? ⟨b1, off1 + (k - 1) * 4 + 1, none⟩ = some _ := elem_cell (j := 1) hE2 (by decide) rfl
              have h6 : ((k : Int) - 1).toNat = k - 1 := by omega
              have hwl : IntKind.i64.wrap ((k : Int) - 1) = (k : Int) - 1 := IntWalk.i64_in _ (by omega)
              have hi1 : (0 : Int) ≤ (k : Int) - 1 := by omega
              have hi2 : (k : Int) - 1 < (m.body.length : Int) := by omega
              clear hE2
              have f6 := txt_f (l := [35, 35]) e6
              clear e1 e2 e5 e6
              have HN := Lib.hid (hall.succ (by rw [HS.out, HI.out, hf]; rfl))
              clear hall
              go_wp2
              go_quiet (fail)
              go_wp2
              go_roundw
              case rel => first | exact ⟨k + 1, by omega, by go_num, HN.out, belowN hbq _⟩ | ((repeat apply Exists.intro); exact ⟨⟨k + 1, by omega, by go_num, HN.out, belowN hbq _⟩, rfl⟩)
              case measure => simp [intOf]; omega
            · have f0 : ¬ (0 : Int) < (m.body[k].hidden.length : Int) := by omega
              have f01 : ¬ 0 < m.body[k].hidden.length := by omega
              rw [decide_eq_false e2] at g00
              have f4 := txt_f (l := [35, 35]) e4
              have E4 := Lib.hid e4
              clear e4
              clear e1 e2
              have HN := Lib.hid (hall.succ (by rw [HS.out, HI.out, hf]; rfl))
              clear hall
              go_wp2
              go_quiet (fail)
              go_wp2
              go_roundw
              case rel => first | exact ⟨k + 1, by omega, by go_num, HN.out, belowN hbq _⟩ | ((repeat apply Exists.intro); exact ⟨⟨k + 1, by omega, by go_num, HN.out, belowN hbq _⟩, rfl⟩)
              case measure => simp [intOf]; omega
          · have HF := Lib.hid (macOk_yes HH.out HP.out (fun j hj => hall j (by omega)))
            clear hall
            go_wp2
            go_ret
            exact ⟨ret_bool HF.out.symm, hbw⟩

set_option maxHeartbeats 16000000 in
set_option maxRecDepth 100000 in
theorem spec_MacroValid_yes (m : DMacro) (h2 h3 : Value) (fp2 fp3 : List Nat) (w : World) (k0 : okStr m.name) (K2 : (sSlice sStr).R w [h2] m.params fp2) (K3 : (sSlice sTok).R w [h3] m.body fp3) (hf : m.function = true) :
    Calls Try.prog 29 #[.agg #[.string m.name, .bool m.function, h2, h3]] w (Says (macOk m) w) := by
  obtain ⟨a2, cap2, rfl, hc2, hm2, hcell2, hsz2⟩ := open_strs K2
  have K3' := K3
  obtain ⟨a3, cap3, rfl, hc3, hm3, hrow3⟩ := open_rows K3
  unfold maxLen at hm2 hm3
  rw [hf]
  have HN := Lib.hid (fun W => spec_l5Name m.name W k0)
  have hb0 := alloc_below' w (.cells #[.string m.name, .bool true, .slice a2 m.params.length cap2, .slice a3 m.body.length cap3] 32)
  have HX := Lib.hid (heap_alloc_new w (.cells #[.string m.name, .bool true, .slice a2 m.params.length cap2, .slice a3 m.body.length cap3] 32))
  go_enter Try.func29, Try.ntmps29
  rcases head_ways m with ⟨g1, HF⟩ | ⟨g1, g2, HF⟩ | ⟨g1, g2, g3, HF⟩ | ⟨g1, g2, g3, g4, g5, HF⟩ | ⟨g1, g2, g3, g4, g5, HF⟩ | ⟨g1, g2, g3, g4, g5, HH⟩
  · rw [g1] at HN
    clear g1
    go_wp2_with (go_at_call 60; refine (HN.out _).mono ?_; rintro e w1 ⟨rfl, hb1⟩)
    go_ret
    exact ⟨ret_bool HF.out.symm, hb0.trans (hb1.mono hb0.size)⟩
  · rw [g1] at HN
    have e2 := txt_t (l := [100, 101, 102, 105, 110, 101, 100]) g2
    clear g1 g2
    go_wp2_with (go_at_call 60; refine (HN.out _).mono ?_; rintro e w1 ⟨rfl, hb1⟩; have q0 : w1.cell? ⟨w.heap.size, 0, none⟩ = some _ := cell_of_row _ _ 0 _ _ _ ((hb1.block _ (Array.getElem?_eq_some_iff.1 HX.out).1).trans HX.out))
    go_ret
    exact ⟨ret_bool HF.out.symm, hb0.trans (hb1.mono hb0.size)⟩
  · rw [g1] at HN
    have e2 := txt_f (l := [100, 101, 102, 105, 110, 101, 100]) g2
    clear g1 g2
    go_wp2_with (go_at_call 60; refine (HN.out _).mono ?_; rintro e w1 ⟨rfl, hb1⟩; have q0 : w1.cell? ⟨w.heap.size, 0, none⟩ = some _ := cell_of_row _ _ 0 _ _ _ ((hb1.block _ (Array.getElem?_eq_some_iff.1 HX.out).1).trans HX.out); have q2 : w1.cell? ⟨w.heap.size, 2, none⟩ = some _ := cell_of_row _ _ 2 _ _ _ ((hb1.block _ (Array.getElem?_eq_some_iff.1 HX.out).1).trans HX.out))
    go_ret
    exact ⟨ret_bool HF.out.symm, hb0.trans (hb1.mono hb0.size)⟩
  · rw [hf] at g4; exact absurd g4 (by simp)
  · rw [g1] at HN
    have e2 := txt_f (l := [100, 101, 102, 105, 110, 101, 100]) g2
    clear g1 g2 g4
    go_wp2_with (go_at_call 60; refine (HN.out _).mono ?_; rintro e w1 ⟨rfl, hb1⟩; have q0 : w1.cell? ⟨w.heap.size, 0, none⟩ = some _ := cell_of_row _ _ 0 _ _ _ ((hb1.block _ (Array.getElem?_eq_some_iff.1 HX.out).1).trans HX.out); have q1 : w1.cell? ⟨w.heap.size, 1, none⟩ = some _ := cell_of_row _ _ 1 _ _ _ ((hb1.block _ (Array.getElem?_eq_some_iff.1 HX.out).1).trans HX.out); have q2 : w1.cell? ⟨w.heap.size, 2, none⟩ = some _ := cell_of_row _ _ 2 _ _ _ ((hb1.block _ (Array.getElem?_eq_some_iff.1 HX.out).1).trans HX.out); have q3 : w1.cell? ⟨w.heap.size, 3, none⟩ = some _ := cell_of_row _ _ 3 _ _ _ ((hb1.block _ (Array.getElem?_eq_some_iff.1 HX.out).1).trans HX.out))
    go_ret
    exact ⟨ret_bool HF.out.symm, hb0.trans (hb1.mono hb0.size)⟩
  · rw [g1] at HN
    have e2 := txt_f (l := [100, 101, 102, 105, 110, 101, 100]) g2
    clear g1 g2 g4
    go_wp2_with (go_at_call 60; refine (HN.out _).mono ?_; rintro e w1 ⟨rfl, hb1⟩; have q0 : w1.cell? ⟨w.heap.size, 0, none⟩ = some _ := cell_of_row _ _ 0 _ _ _ ((hb1.block _ (Array.getElem?_eq_some_iff.1 HX.out).1).trans HX.out); have q1 : w1.cell? ⟨w.heap.size, 1, none⟩ = some _ := cell_of_row _ _ 1 _ _ _ ((hb1.block _ (Array.getElem?_eq_some_iff.1 HX.out).1).trans HX.out); have q2 : w1.cell? ⟨w.heap.size, 2, none⟩ = some _ := cell_of_row _ _ 2 _ _ _ ((hb1.block _ (Array.getElem?_eq_some_iff.1 HX.out).1).trans HX.out); have q3 : w1.cell? ⟨w.heap.size, 3, none⟩ = some _ := cell_of_row _ _ 3 _ _ _ ((hb1.block _ (Array.getElem?_eq_some_iff.1 HX.out).1).trans HX.out))
    have hB1 := hb0.trans (hb1.mono hb0.size)
    have HX1 := Lib.hid ((hb1.block _ (Array.getElem?_eq_some_iff.1 HX.out).1).trans HX.out)
    have HM := Lib.hid (fun W (hb : Below w.heap.size w W) => sMacro.below (show sMacro.R w [.string m.name, .bool true, .slice a2 m.params.length cap2, .slice a3 m.body.length cap3] m (fp2 ++ fp3) from ⟨_, _, fp2, fp3, by rw [hf], k0, K2, K3, rfl⟩) hb)
    clear q0 q1 q2 q3 HN hb0 HX hb1 K3' K2 K3
    go_loopw [3] (fun i wr => ∃ k : Nat, k ≤ m.params.length ∧ i = .int .i64 k ∧ ParUpto m.params k ∧ Below w1.heap.size w1 wr) (fun i _ => m.params.length - (intOf i).toNat)
    case atStart => exact ⟨0, by omega, rfl, ParUpto.zero _, Below.refl _ _⟩
    case round =>
      obtain ⟨k, hk, rfl, hall, hb⟩ := hrel
      have HX2 := Lib.hid ((hb.block _ (Array.getElem?_eq_some_iff.1 HX1.out).1).trans HX1.out)
      have q2 : wr.cell? ⟨w.heap.size, 2, none⟩ = some _ := cell_of_row _ _ 2 _ _ _ HX2.out
      have q3 : wr.cell? ⟨w.heap.size, 3, none⟩ = some _ := cell_of_row _ _ 3 _ _ _ HX2.out
      have hbw := hB1.trans (hb.mono hB1.size)
      by_cases hlt : k < m.params.length
      · obtain ⟨b, off, rfl, hbl, _, hce⟩ := hcell2 (by omega)
        have hck := (hbw.cell (p := ⟨b, off + k, none⟩) hbl).trans (hce k hlt)
        have HN := Lib.hid (fun W => spec_l5Name m.params[k] W (hsz2 k hlt))
        cases h1 : oneTok m.params[k] 1
        · rw [h1] at HN
          have HF := Lib.hid (macOk_par hlt (par_name hlt h1))
          clear h1 hce hall
          go_wp2_with (go_at_call 60; refine (HN.out _).mono ?_; rintro e w2 ⟨rfl, hb2⟩)
          go_ret
          exact ⟨ret_bool HF.out.symm, hbw.trans (hb2.mono hbw.size)⟩
        · rw [h1] at HN
          have H1 := Lib.hid h1
          clear h1
          go_wp2_with (go_at_call 60; refine (HN.out _).mono ?_; rintro e w2 ⟨rfl, hb2⟩)
          have HX3 := Lib.hid ((hb2.block _ (Array.getElem?_eq_some_iff.1 HX2.out).1).trans HX2.out)
          have hb12 := hb.trans (hb2.mono hb.size)
          clear q2 q3 hck HX2
          go_loopw [4] (fun i wr => ∃ j : Nat, j ≤ k ∧ i = .int .i64 j ∧ NotUpto m.params m.params[k] j ∧ Below w2.heap.size w2 wr) (fun i _ => k - (intOf i).toNat)
          case atStart => exact ⟨0, by omega, rfl, NotUpto.zero _ _, Below.refl _ _⟩
          case round =>
            obtain ⟨j, hj, rfl, hnot, hb3⟩ := hrel
            have HX4 := Lib.hid ((hb3.block _ (Array.getElem?_eq_some_iff.1 HX3.out).1).trans HX3.out)
            have hb13 := hb12.trans (hb3.mono hb12.size)
            have hbw3 := hB1.trans (hb13.mono hB1.size)
            have q2 : wr.cell? ⟨w.heap.size, 2, none⟩ = some _ := cell_of_row _ _ 2 _ _ _ HX4.out
            by_cases hjk : j < k
            · have hcj := (hbw3.cell (p := ⟨b, off + j, none⟩) hbl).trans (hce j (by omega))
              have hck := (hbw3.cell (p := ⟨b, off + k, none⟩) hbl).trans (hce k hlt)
              by_cases e : m.params[j] = m.params[k]
              · have e' := bytes_beq e
                have HF := Lib.hid (macOk_par hlt (par_twice hlt hjk e))
                clear e hce hall hnot
                go_wp2
                go_quiet (fail)
                go_wp2
                go_ret
                exact ⟨ret_bool HF.out.symm, belowN hbw3 _⟩
              · have e' : (m.params[j].toList == m.params[k].toList) = false := bytes_bne e
                have HG := Lib.hid (hnot.succ (by omega) e)
                clear e hce hall hnot
                go_wp2
                go_quiet (fail)
                go_wp2
                go_roundw
                case rel => exact ⟨j + 1, by omega, by go_num, HG.out, belowN hb3 _⟩
                case measure => simp [intOf]; omega
            · have hjk' : j = k := by omega
              subst hjk'
              have HG := Lib.hid (hall.succ (par_yes hlt H1.out hnot))
              clear hce hall hnot
              go_wp2
              go_roundw
              case rel => exact ⟨j + 1, by omega, by go_num, HG.out, hb13⟩
              case measure => simp [intOf]; omega
      · have HP := Lib.hid (show ParUpto m.params m.params.length from fun j hj => hall j (by omega))
        have hz : decide (k < m.params.length) = false := decide_eq_false hlt
        clear hall hk
        go_wp2
        try rw [hz]
        clear q2 q3 HX2 hbw hlt hz
        go_loopw [6] (fun i wr => ∃ k : Nat, k ≤ m.body.length ∧ i = .int .i64 k ∧ BodUpto (bodOk m) k ∧ Below w1.heap.size w1 wr) (fun i _ => m.body.length - (intOf i).toNat)
        case atStart => exact ⟨0, by omega, rfl, BodUpto.zero _, hb⟩
        case round =>
          clear hb
          obtain ⟨k, hk, rfl, hall, hb⟩ := hrel
          have HX3 := Lib.hid ((hb.block _ (Array.getElem?_eq_some_iff.1 HX1.out).1).trans HX1.out)
          have q3 : wr.cell? ⟨w.heap.size, 3, none⟩ = some _ := cell_of_row _ _ 3 _ _ _ HX3.out
          have hbw := hB1.trans (hb.mono hB1.size)
          by_cases hlt : k < m.body.length
          · obtain ⟨b1, off1, fps1, rfl, hb1', -, he1⟩ := hrow3 (by omega)
            obtain ⟨es1, hE1, hR1⟩ := he1 k hlt
            have hR1' := hR1
            obtain ⟨hh, rfl, -, -, K1⟩ := hR1
            obtain ⟨ah, caph, rfl, -⟩ := open_rows K1
            replace hE1 := hE1.frame (hbw.block b1 hb1')
            have c10 : wr.cell? ⟨b1, off1 + k * 4, none⟩ = some _ := elem_cell0 hE1 (by decide) rfl
            have c11 : wr.cell? ⟨b1, off1 + k * 4 + 1, none⟩ = some _ := elem_cell (j := 1) hE1 (by decide) rfl
            have c12 : wr.cell? ⟨b1, off1 + k * 4 + 2, none⟩ = some _ := elem_cell (j := 2) hE1 (by decide) rfl
            have c13 : wr.cell? ⟨b1, off1 + k * 4 + 3, none⟩ = some _ := elem_cell (j := 3) hE1 (by decide) rfl
            have hbx : Below wr.heap.size wr (wr.alloc (.cells #[.int .i64 m.body[k].kind, .string m.body[k].text, .bool m.body[k].spaced, .slice ah m.body[k].hidden.length caph] 56)) := alloc_below' _ _
            have HT := Lib.hid (heap_alloc_new wr (.cells #[.int .i64 m.body[k].kind, .string m.body[k].text, .bool m.body[k].spaced, .slice ah m.body[k].hidden.length caph] 56))
            have HV := Lib.hid (fun W (hW : Below (wr.alloc (.cells #[.int .i64 m.body[k].kind, .string m.body[k].text, .bool m.body[k].spaced, .slice ah m.body[k].hidden.length caph] 56)).heap.size (wr.alloc (.cells #[.int .i64 m.body[k].kind, .string m.body[k].text, .bool m.body[k].spaced, .slice ah m.body[k].hidden.length caph] 56)) W) => spec_TokenValid _ _ _ W (sTok.below (sTok.below (sTok.below hR1' hbw) hbx) hW))
            clear K1 hR1' hE1
            go_wp2_with fail
            refine (HV.out _ (Below.refl _ _)).mono ?_
            rintro e w2 ⟨rfl, hb2⟩
            have HT2 := Lib.hid ((hb2.block _ (Array.getElem?_eq_some_iff.1 HT.out).1).trans HT.out)
            have hb02 := hbx.trans (hb2.mono hbx.size)
            have hbq := hb.trans (hb02.mono hb.size)
            have hbw2 := hB1.trans (hbq.mono hB1.size)
            have HX4 := Lib.hid ((hb02.block _ (Array.getElem?_eq_some_iff.1 HX3.out).1).trans HX3.out)
            have p1 : w2.cell? ⟨wr.heap.size, 1, none⟩ = some _ := cell_of_row _ _ 1 _ _ _ HT2.out
            have p2 : w2.cell? ⟨wr.heap.size, 2, none⟩ = some _ := cell_of_row _ _ 2 _ _ _ HT2.out
            have p3 : w2.cell? ⟨wr.heap.size, 3, none⟩ = some _ := cell_of_row _ _ 3 _ _ _ HT2.out
            clear q3 c10 c11 c12 c13 HV HT hb2 HX3 hbx hb02 hbw hb
            have q0 : w2.cell? ⟨w.heap.size, 0, none⟩ = some _ := cell_of_row _ _ 0 _ _ _ HX4.out
            have q1 : w2.cell? ⟨w.heap.size, 1, none⟩ = some _ := cell_of_row _ _ 1 _ _ _ HX4.out
            have q2 : w2.cell? ⟨w.heap.size, 2, none⟩ = some _ := cell_of_row _ _ 2 _ _ _ HX4.out
            have q3 : w2.cell? ⟨w.heap.size, 3, none⟩ = some _ := cell_of_row _ _ 3 _ _ _ HX4.out
            cases hv : tokOk m.body[k]
            · have HF := Lib.hid (macOk_bod hlt (by rw [bodOk_split _ _ hlt, hv]; rfl))
              clear hv hall
              go_wp2
              go_ret
              exact ⟨ret_bool HF.out.symm, hbw2⟩
            have HS := Lib.hid (bodOk_split m k hlt)
            rw [hv] at HS
            clear hv
            have g00 : ((k : Int) == 0) = decide (k = 0) := by rw [Bool.eq_iff_iff]; simp
            have g01 : ((k : Int) == (m.body.length : Int) - 1) = decide (k + 1 = m.body.length) := by rw [Bool.eq_iff_iff]; simp; omega
            rcases bodI_ways hlt with ⟨e1, HI⟩ | ⟨e1, e2, e3, HI⟩ | ⟨e1, e2, e3, e4, HI⟩ | ⟨e1, e2, e3, e4, HI⟩ | ⟨e1, e2, e4, e5, HI⟩ | ⟨e1, e2, e4, e5, e6, HI⟩ | ⟨e1, e2, e4, e5, e6, HI⟩ | ⟨e1, e2, e4, HI⟩
            · have HF := Lib.hid (macOk_bod hlt (by rw [HS.out, HI.out]; simp))
              have f0 : (0 : Int) < (m.body[k].hidden.length : Int) := by omega
              have f01 : 0 < m.body[k].hidden.length := by omega
              have f02 : decide ((0 : Int) < (m.body[k].hidden.length : Int)) = true := decide_eq_true f0
              clear e1 hall
              go_wp2
              go_ret
              exact ⟨ret_bool HF.out.symm, hbw2⟩
            · have HF := Lib.hid (macOk_bod hlt (by rw [HS.out, HI.out]; simp))
              have f0 : ¬ (0 : Int) < (m.body[k].hidden.length : Int) := by omega
              have f01 : ¬ 0 < m.body[k].hidden.length := by omega
              rw [decide_eq_true e2] at g00
              rw [e3] at p2
              clear e2 e3
              clear e1 hall
              go_wp2
              go_ret
              exact ⟨ret_bool HF.out.symm, hbw2⟩
            · have HF := Lib.hid (macOk_bod hlt (by rw [HS.out, HI.out]; simp))
              have f0 : ¬ (0 : Int) < (m.body[k].hidden.length : Int) := by omega
              have f01 : ¬ 0 < m.body[k].hidden.length := by omega
              rw [decide_eq_true e2] at g00
              rw [e3] at p2
              have f4 := txt_t (l := [35, 35]) e4
              have E4 := Lib.hid e4
              clear e4
              clear e2 e3
              clear e1 hall
              go_wp2
              go_ret
              exact ⟨ret_bool HF.out.symm, hbw2⟩
            · have f0 : ¬ (0 : Int) < (m.body[k].hidden.length : Int) := by omega
              have f01 : ¬ 0 < m.body[k].hidden.length := by omega
              rw [decide_eq_true e2] at g00
              rw [e3] at p2
              have f4 := txt_f (l := [35, 35]) e4
              have E4 := Lib.hid e4
              clear e4
              clear e1 e2 e3
              by_cases e7 : m.body[k].text = hash1
              · have f7 := txt_t (l := [35]) e7
                have E7 := Lib.hid e7
                clear e7
                by_cases e8 : k + 1 = m.body.length
                · have HF := Lib.hid (macOk_bod hlt (by rw [HS.out, HI.out, hf, signS_last hlt E7.out e8]; rfl))
                  rw [decide_eq_true e8] at g01
                  clear e8 hall
                  go_wp2
                  go_quiet (fail)
                  go_wp2
                  go_ret
                  exact ⟨ret_bool HF.out.symm, belowN hbw2 _⟩
                · have hk1 : k + 1 < m.body.length := by omega
                  obtain ⟨es3, hE3, hR3⟩ := he1 (k + 1) hk1
                  have hR3' := hR3
                  obtain ⟨h9, rfl, -, -, -⟩ := hR3
                  replace hE3 := hE3.frame (hbw2.block b1 hb1')
                  have c30 : w2.cell? ⟨b1, off1 + (k + 1) * 4, none⟩ = some _ := elem_cell0 hE3 (by decide) rfl
                  have c31 : w2.cell? ⟨b1, off1 + (k + 1) * 4 + 1, none⟩ = some _ := elem_cell (j := 1) hE3 (by decide) rfl
                  have c32 : w2.cell? ⟨b1, off1 + (k + 1) * 4 + 2, none⟩ = some _ := elem_cell (j := 2) hE3 (by decide) rfl
                  have c33 : w2.cell? ⟨b1, off1 + (k + 1) * 4 + 3, none⟩ = some _ := elem_cell (j := 3) hE3 (by decide) rfl
                  have HC := Lib.hid (fun W (hW : Below w2.heap.size w2 W) => spec_l5Param _ _ m m.body[k + 1] _ _ W (HM.out W (hbw2.trans (hW.mono hbw2.size))) (sTok.below (sTok.below hR3' hbw2) hW))
                  have h6 : ((k : Int) + 1).toNat = k + 1 := by omega
                  have hwl : IntKind.i64.wrap ((k : Int) + 1) = (k : Int) + 1 := IntWalk.i64_in _ (by omega)
                  have hi1 : (0 : Int) ≤ (k : Int) + 1 := by omega
                  have hi2 : (k : Int) + 1 < (m.body.length : Int) := by omega
                  rw [decide_eq_false e8] at g01
                  clear hE3 hR3' e8 he1 hrow3
                  go_wp2
                  go_still_tail 19, (by kernel_rfl)
                  change wpList _ _ _ _ _ w2.drew
                  have hd : Below w2.heap.size w2 w2.drew := belowN (Below.refl _ _) 1
                  generalize w2.drew = w3 at *
                  by_cases e9 : parOf m.params m.body[k + 1] < 0
                  · have HF := Lib.hid (macOk_bod hlt (by rw [HS.out, HI.out, hf, signS_no hk1 E7.out e9]; rfl))
                    clear hall
                    go_wp2_with (go_at_call 62; refine (HC.out _ hd).mono ?_; rintro e w4 ⟨rfl, hb4⟩)
                    go_ret
                    exact ⟨ret_bool HF.out.symm, (hbw2.trans (hd.mono hbw2.size)).trans (hb4.mono (Nat.le_trans hbw2.size hd.size))⟩
                  · have HN := Lib.hid (hall.succ (by rw [HS.out, HI.out, hf, signS_yes hk1 E7.out e9]; rfl))
                    clear hall
                    go_wp2_with (go_at_call 62; refine (HC.out _ hd).mono ?_; rintro e w4 ⟨rfl, hb4⟩)
                    go_roundw
                    case rel => first | exact ⟨k + 1, by omega, by go_num, HN.out, (hbq.trans (hd.mono hbq.size)).trans (hb4.mono (Nat.le_trans hbq.size hd.size))⟩ | ((repeat apply Exists.intro); exact ⟨⟨k + 1, by omega, by go_num, HN.out, (hbq.trans (hd.mono hbq.size)).trans (hb4.mono (Nat.le_trans hbq.size hd.size))⟩, rfl⟩)
                    case measure => simp [intOf]; omega
              · have f7 := txt_f (l := [35]) e7
                have HN := Lib.hid (hall.succ (by rw [HS.out, HI.out, hf, signS_other hlt e7]; rfl))
                clear e7 hall
                go_wp2
                go_quiet (fail)
                go_wp2
                go_roundw
                case rel => first | exact ⟨k + 1, by omega, by go_num, HN.out, belowN hbq _⟩ | ((repeat apply Exists.intro); exact ⟨⟨k + 1, by omega, by go_num, HN.out, belowN hbq _⟩, rfl⟩)
                case measure => simp [intOf]; omega
            · have HF := Lib.hid (macOk_bod hlt (by rw [HS.out, HI.out]; simp))
              have f0 : ¬ (0 : Int) < (m.body[k].hidden.length : Int) := by omega
              have f01 : ¬ 0 < m.body[k].hidden.length := by omega
              rw [decide_eq_false e2] at g00
              have f4 := txt_t (l := [35, 35]) e4
              have E4 := Lib.hid e4
              clear e4
              rw [decide_eq_true e5] at g01
              clear e2 e5
              clear e1 hall
              go_wp2
              go_ret
              exact ⟨ret_bool HF.out.symm, hbw2⟩
            · have HF := Lib.hid (macOk_bod hlt (by rw [HS.out, HI.out]; simp))
              have f0 : ¬ (0 : Int) < (m.body[k].hidden.length : Int) := by omega
              have f01 : ¬ 0 < m.body[k].hidden.length := by omega
              rw [decide_eq_false e2] at g00
              have f4 := txt_t (l := [35, 35]) e4
              have E4 := Lib.hid e4
              clear e4
              rw [decide_eq_false e5] at g01
              obtain ⟨es2, hE2, hR2⟩ := he1 (k - 1) (by omega)
              obtain ⟨h9, rfl, -, -, -⟩ := hR2
              replace hE2 := hE2.frame (hbw2.block b1 hb1')
              have c21 : w2.cell? ⟨b1, off1 + (k - 1) * 4 + 1, none⟩ = some _ := elem_cell (j := 1) hE2 (by decide) rfl
              have h6 : ((k : Int) - 1).toNat = k - 1 := by omega
              have hwl : IntKind.i64.wrap ((k : Int) - 1) = (k : Int) - 1 := IntWalk.i64_in _ (by omega)
              have hi1 : (0 : Int) ≤ (k : Int) - 1 := by omega
              have hi2 : (k : Int) - 1 < (m.body.length : Int) := by omega
              clear hE2
              have f6 := txt_t (l := [35, 35]) e6
              clear e2 e5 e6
              clear e1 hall
              go_wp2
              go_ret
              exact ⟨ret_bool HF.out.symm, hbw2⟩
            · have f0 : ¬ (0 : Int) < (m.body[k].hidden.length : Int) := by omega
              have f01 : ¬ 0 < m.body[k].hidden.length := by omega
              rw [decide_eq_false e2] at g00
              have f4 := txt_t (l := [35, 35]) e4
              have E4 := Lib.hid e4
              clear e4
              rw [decide_eq_false e5] at g01
              obtain ⟨es2, hE2, hR2⟩ := he1 (k - 1) (by omega)
              obtain ⟨h9, rfl, -, -, -⟩ := hR2
              replace hE2 := hE2.frame (hbw2.block b1 hb1')
              have c21 : w2.cell? ⟨b1, off1 + (k - 1) * 4 + 1, none⟩ = some _ := elem_cell (j := 1) hE2 (by decide) rfl
              have h6 : ((k : Int) - 1).toNat = k - 1 := by omega
              have hwl : IntKind.i64.wrap ((k : Int) - 1) = (k : Int) - 1 := IntWalk.i64_in _ (by omega)
              have hi1 : (0 : Int) ≤ (k : Int) - 1 := by omega
              have hi2 : (k : Int) - 1 < (m.body.length : Int) := by omega
              clear hE2
              have f6 := txt_f (l := [35, 35]) e6
              clear e1 e2 e5 e6
              by_cases e7 : m.body[k].text = hash1
              · exact absurd (e7.symm.trans E4.out) (by decide)
              · have f7 := txt_f (l := [35]) e7
                have HN := Lib.hid (hall.succ (by rw [HS.out, HI.out, hf, signS_other hlt e7]; rfl))
                clear e7 hall
                go_wp2
                go_quiet (fail)
                go_wp2
                go_roundw
                case rel => first | exact ⟨k + 1, by omega, by go_num, HN.out, belowN hbq _⟩ | ((repeat apply Exists.intro); exact ⟨⟨k + 1, by omega, by go_num, HN.out, belowN hbq _⟩, rfl⟩)
                case measure => simp [intOf]; omega
            · have f0 : ¬ (0 : Int) < (m.body[k].hidden.length : Int) := by omega
              have f01 : ¬ 0 < m.body[k].hidden.length := by omega
              rw [decide_eq_false e2] at g00
              have f4 := txt_f (l := [35, 35]) e4
              have E4 := Lib.hid e4
              clear e4
              clear e1 e2
              by_cases e7 : m.body[k].text = hash1
              · have f7 := txt_t (l := [35]) e7
                have E7 := Lib.hid e7
                clear e7
                by_cases e8 : k + 1 = m.body.length
                · have HF := Lib.hid (macOk_bod hlt (by rw [HS.out, HI.out, hf, signS_last hlt E7.out e8]; rfl))
                  rw [decide_eq_true e8] at g01
                  clear e8 hall
                  go_wp2
                  go_quiet (fail)
                  go_wp2
                  go_ret
                  exact ⟨ret_bool HF.out.symm, belowN hbw2 _⟩
                · have hk1 : k + 1 < m.body.length := by omega
                  obtain ⟨es3, hE3, hR3⟩ := he1 (k + 1) hk1
                  have hR3' := hR3
                  obtain ⟨h9, rfl, -, -, -⟩ := hR3
                  replace hE3 := hE3.frame (hbw2.block b1 hb1')
                  have c30 : w2.cell? ⟨b1, off1 + (k + 1) * 4, none⟩ = some _ := elem_cell0 hE3 (by decide) rfl
                  have c31 : w2.cell? ⟨b1, off1 + (k + 1) * 4 + 1, none⟩ = some _ := elem_cell (j := 1) hE3 (by decide) rfl
                  have c32 : w2.cell? ⟨b1, off1 + (k + 1) * 4 + 2, none⟩ = some _ := elem_cell (j := 2) hE3 (by decide) rfl
                  have c33 : w2.cell? ⟨b1, off1 + (k + 1) * 4 + 3, none⟩ = some _ := elem_cell (j := 3) hE3 (by decide) rfl
                  have HC := Lib.hid (fun W (hW : Below w2.heap.size w2 W) => spec_l5Param _ _ m m.body[k + 1] _ _ W (HM.out W (hbw2.trans (hW.mono hbw2.size))) (sTok.below (sTok.below hR3' hbw2) hW))
                  have h6 : ((k : Int) + 1).toNat = k + 1 := by omega
                  have hwl : IntKind.i64.wrap ((k : Int) + 1) = (k : Int) + 1 := IntWalk.i64_in _ (by omega)
                  have hi1 : (0 : Int) ≤ (k : Int) + 1 := by omega
                  have hi2 : (k : Int) + 1 < (m.body.length : Int) := by omega
                  rw [decide_eq_false e8] at g01
                  clear hE3 hR3' e8 he1 hrow3
                  go_wp2
                  go_still_tail 19, (by kernel_rfl)
                  change wpList _ _ _ _ _ w2.drew
                  have hd : Below w2.heap.size w2 w2.drew := belowN (Below.refl _ _) 1
                  generalize w2.drew = w3 at *
                  by_cases e9 : parOf m.params m.body[k + 1] < 0
                  · have HF := Lib.hid (macOk_bod hlt (by rw [HS.out, HI.out, hf, signS_no hk1 E7.out e9]; rfl))
                    clear hall
                    go_wp2_with (go_at_call 62; refine (HC.out _ hd).mono ?_; rintro e w4 ⟨rfl, hb4⟩)
                    go_ret
                    exact ⟨ret_bool HF.out.symm, (hbw2.trans (hd.mono hbw2.size)).trans (hb4.mono (Nat.le_trans hbw2.size hd.size))⟩
                  · have HN := Lib.hid (hall.succ (by rw [HS.out, HI.out, hf, signS_yes hk1 E7.out e9]; rfl))
                    clear hall
                    go_wp2_with (go_at_call 62; refine (HC.out _ hd).mono ?_; rintro e w4 ⟨rfl, hb4⟩)
                    go_roundw
                    case rel => first | exact ⟨k + 1, by omega, by go_num, HN.out, (hbq.trans (hd.mono hbq.size)).trans (hb4.mono (Nat.le_trans hbq.size hd.size))⟩ | ((repeat apply Exists.intro); exact ⟨⟨k + 1, by omega, by go_num, HN.out, (hbq.trans (hd.mono hbq.size)).trans (hb4.mono (Nat.le_trans hbq.size hd.size))⟩, rfl⟩)
                    case measure => simp [intOf]; omega
              · have f7 := txt_f (l := [35]) e7
                have HN := Lib.hid (hall.succ (by rw [HS.out, HI.out, hf, signS_other hlt e7]; rfl))
                clear e7 hall
                go_wp2
                go_quiet (fail)
                go_wp2
                go_roundw
                case rel => first | exact ⟨k + 1, by omega, by go_num, HN.out, belowN hbq _⟩ | ((repeat apply Exists.intro); exact ⟨⟨k + 1, by omega, by go_num, HN.out, belowN hbq _⟩, rfl⟩)
                case measure => simp [intOf]; omega
          · have HF := Lib.hid (macOk_yes HH.out HP.out (fun j hj => hall j (by omega)))
            clear hall
            go_wp2
            go_ret
            exact ⟨ret_bool HF.out.symm, hbw⟩


end Go.Proofs.Ythbojipdhgidlaa

/- MacroValid of the program, from its parts. (Made by gen_mac5.py.) -/
namespace Go.Proofs.Ythbojipdhgidlaa
open Go.RowKit

theorem bodyI_long {b : List Tok} (h : 20 < b.length) : bodyOkI b = false := by unfold bodyOkI; rw [decide_eq_false (by omega)]; rfl
theorem bodyI_toks {b : List Tok} (h : toksOk b = false) : bodyOkI b = false := by unfold bodyOkI; rw [h]; simp
theorem bodyI_no {b : List Tok} {k : Nat} (hk : k < b.length) (h : bodI b k = false) : bodyOkI b = false := by unfold bodyOkI; rw [range_no hk h, Bool.and_false]
theorem bodyI_yes {b : List Tok} (h1 : b.length ≤ 20) (h2 : toksOk b = true) (h3 : BodUpto (bodI b) b.length) : bodyOkI b = true := by unfold bodyOkI; rw [range_yes h3, decide_eq_true h1, h2]; rfl

set_option maxHeartbeats 16000000 in
set_option maxRecDepth 100000 in
theorem impl_bodyValid (v : Value) (l : List Tok) (fp : List Nat) (w : World) (H : (sSlice sTok).R w [v] l fp) :
    Calls Try.prog 38 #[v] w (Says (bodyOkI l) w) := by
  have HV := Lib.hid (impl_TokensValid v l fp w H)
  obtain ⟨a, cap, rfl, hc, hm, hrow⟩ := open_rows H
  unfold maxLen at hm
  clear H
  by_cases hl : 20 < l.length
  · have HF := Lib.hid (bodyI_long hl)
    go_enter Try.func38, Try.ntmps38
    go_wp2
    go_ret
    exact ⟨ret_bool HF.out.symm, Below.refl _ _⟩
  cases hv : toksOk l
  · rw [hv] at HV
    have HF := Lib.hid (bodyI_toks hv)
    clear hv
    go_enter Try.func38, Try.ntmps38
    go_wp2_with (go_at_call 49; refine HV.out.mono ?_; rintro e w1 ⟨rfl, hb1⟩)
    go_ret
    exact ⟨ret_bool HF.out.symm, hb1⟩
  rw [hv] at HV
  have HTV := Lib.hid hv
  clear hv
  go_enter Try.func38, Try.ntmps38
  go_wp2_with (go_at_call 49; refine HV.out.mono ?_; rintro e w1 ⟨rfl, hb1⟩)
  go_loopw [15] (fun i wr => ∃ k : Nat, k ≤ l.length ∧ i = .int .i64 k ∧ BodUpto (bodI l) k ∧ Below w.heap.size w wr) (fun i _ => l.length - (intOf i).toNat)
  case atStart => exact ⟨0, by omega, rfl, BodUpto.zero _, hb1⟩
  case round =>
    clear hb1
    obtain ⟨k, hk, rfl, hall, hb⟩ := hrel
    by_cases hlt : k < l.length
    · obtain ⟨b1, off1, fps1, rfl, hb1', -, he1⟩ := hrow (by omega)
      obtain ⟨es1, hE1, hR1⟩ := he1 k hlt
      obtain ⟨hh, rfl, -, -, K1⟩ := hR1
      obtain ⟨ah, caph, rfl, -⟩ := open_rows K1
      replace hE1 := hE1.frame (hb.block b1 hb1')
      have c10 : wr.cell? ⟨b1, off1 + k * 4, none⟩ = some _ := elem_cell0 hE1 (by decide) rfl
      have c11 : wr.cell? ⟨b1, off1 + k * 4 + 1, none⟩ = some _ := elem_cell (j := 1) hE1 (by decide) rfl
      have c12 : wr.cell? ⟨b1, off1 + k * 4 + 2, none⟩ = some _ := elem_cell (j := 2) hE1 (by decide) rfl
      have c13 : wr.cell? ⟨b1, off1 + k * 4 + 3, none⟩ = some _ := elem_cell (j := 3) hE1 (by decide) rfl
      have hbx : Below wr.heap.size wr (wr.alloc (.cells #[.int .i64 l[k].kind, .string l[k].text, .bool l[k].spaced, .slice ah l[k].hidden.length caph] 56)) := alloc_below' _ _
      have HT := Lib.hid (heap_alloc_new wr (.cells #[.int .i64 l[k].kind, .string l[k].text, .bool l[k].spaced, .slice ah l[k].hidden.length caph] 56))
      have hbq := hb.trans (hbx.mono hb.size)
      clear K1 hE1
      have g00 : ((k : Int) == 0) = decide (k = 0) := by rw [Bool.eq_iff_iff]; simp
      have g01 : ((k : Int) == (l.length : Int) - 1) = decide (k + 1 = l.length) := by rw [Bool.eq_iff_iff]; simp; omega
      rcases bodI_ways hlt with ⟨e1, HI⟩ | ⟨e1, e2, e3, HI⟩ | ⟨e1, e2, e3, e4, HI⟩ | ⟨e1, e2, e3, e4, HI⟩ | ⟨e1, e2, e4, e5, HI⟩ | ⟨e1, e2, e4, e5, e6, HI⟩ | ⟨e1, e2, e4, e5, e6, HI⟩ | ⟨e1, e2, e4, HI⟩
      · have HF := Lib.hid (bodyI_no hlt HI.out)
        have f0 : (0 : Int) < (l[k].hidden.length : Int) := by omega
        have f01 : 0 < l[k].hidden.length := by omega
        have f02 : decide ((0 : Int) < (l[k].hidden.length : Int)) = true := decide_eq_true f0
        clear e1
        clear hall
        go_wp2
        go_ret
        exact ⟨ret_bool HF.out.symm, hb.trans ((alloc_below' wr _).mono hb.size)⟩
      · have HF := Lib.hid (bodyI_no hlt HI.out)
        have f0 : ¬ (0 : Int) < (l[k].hidden.length : Int) := by omega
        have f01 : ¬ 0 < l[k].hidden.length := by omega
        rw [decide_eq_true e2] at g00
        rw [e3] at c12
        clear e1 e2 e3
        clear hall
        go_wp2
        go_ret
        exact ⟨ret_bool HF.out.symm, hb.trans ((alloc_below' wr _).mono hb.size)⟩
      · have HF := Lib.hid (bodyI_no hlt HI.out)
        have f0 : ¬ (0 : Int) < (l[k].hidden.length : Int) := by omega
        have f01 : ¬ 0 < l[k].hidden.length := by omega
        rw [decide_eq_true e2] at g00
        rw [e3] at c12
        have f4 := txt_t (l := [35, 35]) e4
        clear e4
        clear e1 e2 e3
        clear hall
        go_wp2
        go_ret
        exact ⟨ret_bool HF.out.symm, hb.trans ((alloc_below' wr _).mono hb.size)⟩
      · have HN := Lib.hid (hall.succ HI.out)
        have f0 : ¬ (0 : Int) < (l[k].hidden.length : Int) := by omega
        have f01 : ¬ 0 < l[k].hidden.length := by omega
        rw [decide_eq_true e2] at g00
        rw [e3] at c12
        have f4 := txt_f (l := [35, 35]) e4
        clear e4
        clear e1 e2 e3
        clear hall
        go_wp2
        go_roundw
        case rel => first | exact ⟨k + 1, by omega, by go_num, HN.out, hb.trans ((alloc_below' wr _).mono hb.size)⟩ | ((repeat apply Exists.intro); exact ⟨⟨k + 1, by omega, by go_num, HN.out, hb.trans ((alloc_below' wr _).mono hb.size)⟩, rfl⟩)
        case measure => simp [intOf]; omega
      · have HF := Lib.hid (bodyI_no hlt HI.out)
        have f0 : ¬ (0 : Int) < (l[k].hidden.length : Int) := by omega
        have f01 : ¬ 0 < l[k].hidden.length := by omega
        rw [decide_eq_false e2] at g00
        have f4 := txt_t (l := [35, 35]) e4
        clear e4
        rw [decide_eq_true e5] at g01
        clear e1 e2 e5
        clear hall
        go_wp2
        go_ret
        exact ⟨ret_bool HF.out.symm, hb.trans ((alloc_below' wr _).mono hb.size)⟩
      · have HF := Lib.hid (bodyI_no hlt HI.out)
        have f0 : ¬ (0 : Int) < (l[k].hidden.length : Int) := by omega
        have f01 : ¬ 0 < l[k].hidden.length := by omega
        rw [decide_eq_false e2] at g00
        have f4 := txt_t (l := [35, 35]) e4
        clear e4
        rw [decide_eq_false e5] at g01
        obtain ⟨es2, hE2, hR2⟩ := he1 (k - 1) (by omega)
        obtain ⟨h9, rfl, -, -, -⟩ := hR2
        replace hE2 := hE2.frame (hbq.block b1 hb1')
        have c21 : (wr.alloc (.cells #[.int .i64 l[k].kind, .string l[k].text, .bool l[k].spaced, .slice ah l[k].hidden.length caph] 56)).cell? ⟨b1, off1 + (k - 1) * 4 + 1, none⟩ = some _ := elem_cell (j := 1) hE2 (by decide) rfl
        have h6 : ((k : Int) - 1).toNat = k - 1 := by omega
        have hwl : IntKind.i64.wrap ((k : Int) - 1) = (k : Int) - 1 := IntWalk.i64_in _ (by omega)
        have hi1 : (0 : Int) ≤ (k : Int) - 1 := by omega
        have hi2 : (k : Int) - 1 < (l.length : Int) := by omega
        clear hE2
        have f6 := txt_t (l := [35, 35]) e6
        clear e1 e2 e5 e6
        clear hall
        go_wp2
        go_ret
        exact ⟨ret_bool HF.out.symm, hb.trans ((alloc_below' wr _).mono hb.size)⟩
      · have HN := Lib.hid (hall.succ HI.out)
        have f0 : ¬ (0 : Int) < (l[k].hidden.length : Int) := by omega
        have f01 : ¬ 0 < l[k].hidden.length := by omega
        rw [decide_eq_false e2] at g00
        have f4 := txt_t (l := [35, 35]) e4
        clear e4
        rw [decide_eq_false e5] at g01
        obtain ⟨es2, hE2, hR2⟩ := he1 (k - 1) (by omega)
        obtain ⟨h9, rfl, -, -, -⟩ := hR2
        replace hE2 := hE2.frame (hbq.block b1 hb1')
        have c21 : (wr.alloc (.cells #[.int .i64 l[k].kind, .string l[k].text, .bool l[k].spaced, .slice ah l[k].hidden.length caph] 56)).cell? ⟨b1, off1 + (k - 1) * 4 + 1, none⟩ = some _ := elem_cell (j := 1) hE2 (by decide) rfl
        have h6 : ((k : Int) - 1).toNat = k - 1 := by omega
        have hwl : IntKind.i64.wrap ((k : Int) - 1) = (k : Int) - 1 := IntWalk.i64_in _ (by omega)
        have hi1 : (0 : Int) ≤ (k : Int) - 1 := by omega
        have hi2 : (k : Int) - 1 < (l.length : Int) := by omega
        clear hE2
        have f6 := txt_f (l := [35, 35]) e6
        clear e1 e2 e5 e6
        clear hall
        go_wp2
        go_roundw
        case rel => first | exact ⟨k + 1, by omega, by go_num, HN.out, hb.trans ((alloc_below' wr _).mono hb.size)⟩ | ((repeat apply Exists.intro); exact ⟨⟨k + 1, by omega, by go_num, HN.out, hb.trans ((alloc_below' wr _).mono hb.size)⟩, rfl⟩)
        case measure => simp [intOf]; omega
      · have HN := Lib.hid (hall.succ HI.out)
        have f0 : ¬ (0 : Int) < (l[k].hidden.length : Int) := by omega
        have f01 : ¬ 0 < l[k].hidden.length := by omega
        rw [decide_eq_false e2] at g00
        have f4 := txt_f (l := [35, 35]) e4
        clear e4
        clear e1 e2
        clear hall
        go_wp2
        go_roundw
        case rel => first | exact ⟨k + 1, by omega, by go_num, HN.out, hb.trans ((alloc_below' wr _).mono hb.size)⟩ | ((repeat apply Exists.intro); exact ⟨⟨k + 1, by omega, by go_num, HN.out, hb.trans ((alloc_below' wr _).mono hb.size)⟩, rfl⟩)
        case measure => simp [intOf]; omega
    · have HF := Lib.hid (bodyI_yes (by omega) HTV.out (fun j hj => hall j (by omega)))
      clear hall
      go_wp2
      go_ret
      exact ⟨ret_bool HF.out.symm, hb⟩

/-! ### Number signs -/
theorem signI_other {m : DMacro} {k : Nat} (hk : k < m.body.length) (h : m.body[k].text ≠ hash1) : signI m k = true := by unfold signI; rw [dif_pos hk, decide_eq_false h]; rfl
theorem signI_last {m : DMacro} {k : Nat} (hk : k < m.body.length) (h : m.body[k].text = hash1) (hl : k + 1 = m.body.length) : signI m k = false := by unfold signI; rw [dif_pos hk, decide_eq_true h, dif_neg (by omega)]; rfl
theorem signI_in {m : DMacro} {k : Nat} (hk : k + 1 < m.body.length) (h : (m.body[k]'(by omega)).text = hash1) : signI m k = hasTx m.params m.body[k + 1].text := by unfold signI; rw [dif_pos (by omega), decide_eq_true h, dif_pos hk]; simp
theorem signs_no {m : DMacro} {k : Nat} (hk : k < m.body.length) (h : signI m k = false) : signsOk m = false := range_no hk h
theorem signs_yes {m : DMacro} (h : BodUpto (signI m) m.body.length) : signsOk m = true := range_yes h

set_option maxHeartbeats 16000000 in
set_option maxRecDepth 100000 in
theorem impl_numberSignsFit (m : DMacro) (h2 h3 : Value) (fp2 fp3 : List Nat) (w : World) (K2 : (sSlice sStr).R w [h2] m.params fp2) (K3 : (sSlice sTok).R w [h3] m.body fp3) (hl : m.body.length ≤ 1000) :
    Calls Try.prog 40 #[.agg #[.string m.name, .bool m.function, h2, h3]] w (Says (signsOk m) w) := by
  obtain ⟨a2, cap2, rfl, -⟩ := open_strs K2
  obtain ⟨a3, cap3, rfl, hc3, hm3, hrow⟩ := open_rows K3
  unfold maxLen at hm3
  clear K3
  have hb0 := alloc_below' w (.cells #[.string m.name, .bool m.function, .slice a2 m.params.length cap2, .slice a3 m.body.length cap3] 32)
  have HX := Lib.hid (heap_alloc_new w (.cells #[.string m.name, .bool m.function, .slice a2 m.params.length cap2, .slice a3 m.body.length cap3] 32))
  go_enter Try.func40, Try.ntmps40
  go_wp2
  generalize (w.alloc (.cells #[.string m.name, .bool m.function, .slice a2 m.params.length cap2, .slice a3 m.body.length cap3] 32)) = W1 at *
  go_loopw [8] (fun i wr => ∃ k : Nat, k ≤ m.body.length ∧ i = .int .i64 k ∧ BodUpto (signI m) k ∧ Below W1.heap.size W1 wr) (fun i _ => m.body.length - (intOf i).toNat)
  case atStart => exact ⟨0, by omega, rfl, BodUpto.zero _, Below.refl _ _⟩
  case round =>
    obtain ⟨k, hk, rfl, hall, hb⟩ := hrel
    have hbw := hb0.trans (hb.mono hb0.size)
    by_cases hlt : k < m.body.length
    · obtain ⟨b1, off1, fps1, rfl, hb1', -, he1⟩ := hrow (by omega)
      obtain ⟨es1, hE1, hR1⟩ := he1 k hlt
      obtain ⟨hh, rfl, -, -, K1⟩ := hR1
      obtain ⟨ah, caph, rfl, -⟩ := open_rows K1
      replace hE1 := hE1.frame (hbw.block b1 hb1')
      have c10 : wr.cell? ⟨b1, off1 + k * 4, none⟩ = some _ := elem_cell0 hE1 (by decide) rfl
      have c11 : wr.cell? ⟨b1, off1 + k * 4 + 1, none⟩ = some _ := elem_cell (j := 1) hE1 (by decide) rfl
      have c12 : wr.cell? ⟨b1, off1 + k * 4 + 2, none⟩ = some _ := elem_cell (j := 2) hE1 (by decide) rfl
      have c13 : wr.cell? ⟨b1, off1 + k * 4 + 3, none⟩ = some _ := elem_cell (j := 3) hE1 (by decide) rfl
      have hbx : Below wr.heap.size wr (wr.alloc (.cells #[.int .i64 m.body[k].kind, .string m.body[k].text, .bool m.body[k].spaced, .slice ah m.body[k].hidden.length caph] 56)) := alloc_below' _ _
      have HT := Lib.hid (heap_alloc_new wr (.cells #[.int .i64 m.body[k].kind, .string m.body[k].text, .bool m.body[k].spaced, .slice ah m.body[k].hidden.length caph] 56))
      have hbq := hb.trans (hbx.mono hb.size)
      have hbw2 := hbw.trans (hbx.mono hbw.size)
      have HX2 := Lib.hid ((hbq.block _ (Array.getElem?_eq_some_iff.1 HX.out).1).trans HX.out)
      have HC := Lib.hid (fun x W (hW : Below (wr.alloc (.cells #[.int .i64 m.body[k].kind, .string m.body[k].text, .bool m.body[k].spaced, .slice ah m.body[k].hidden.length caph] 56)).heap.size (wr.alloc (.cells #[.int .i64 m.body[k].kind, .string m.body[k].text, .bool m.body[k].spaced, .slice ah m.body[k].hidden.length caph] 56)) W) => lib_Contains _ _ _ x W ((sSlice sStr).below ((sSlice sStr).below K2 hbw2) hW))
      clear K1 hE1 hbx
      by_cases e7 : m.body[k].text = hash1
      · have f7 := txt_t (l := [35]) e7
        have E7 := Lib.hid e7
        clear e7
        go_wp2
        generalize wr.alloc (.cells #[.int .i64 m.body[k].kind, .string m.body[k].text, .bool m.body[k].spaced, .slice ah m.body[k].hidden.length caph] 56) = W2 at *
        have p1 : W2.cell? ⟨wr.heap.size, 1, none⟩ = some (.string m.body[k].text) := cell_of_row _ _ 1 _ _ _ HT.out
        clear c10 c11 c12 c13
        have q2 : W2.cell? ⟨w.heap.size, 2, none⟩ = some (.slice a2 m.params.length cap2) := cell_of_row _ _ 2 _ _ _ HX2.out
        have q3 : W2.cell? ⟨w.heap.size, 3, none⟩ = some (.slice (some ⟨b1, off1, none⟩) m.body.length cap3) := cell_of_row _ _ 3 _ _ _ HX2.out
        have g01 : ((k : Int) == (m.body.length : Int) - 1) = decide (k + 1 = m.body.length) := by rw [Bool.eq_iff_iff]; simp; omega
        have hwm : IntKind.i64.wrap ((m.body.length : Int) - 1) = (m.body.length : Int) - 1 := IntWalk.i64_in _ (by omega)
        by_cases e8 : k + 1 = m.body.length
        · have HF := Lib.hid (signs_no hlt (signI_last hlt E7.out e8))
          rw [decide_eq_true e8] at g01
          clear e8 hall
          go_quiet (fail)
          go_wp2
          go_ret
          exact ⟨ret_bool HF.out.symm, belowN hbw2 _⟩
        · have hk1 : k + 1 < m.body.length := by omega
          obtain ⟨es3, hE3, hR3⟩ := he1 (k + 1) hk1
          obtain ⟨h9, rfl, -, -, -⟩ := hR3
          replace hE3 := hE3.frame (hbw2.block b1 hb1')
          have c31 : W2.cell? ⟨b1, off1 + (k + 1) * 4 + 1, none⟩ = some _ := elem_cell (j := 1) hE3 (by decide) rfl
          have h6 : ((k : Int) + 1).toNat = k + 1 := by omega
          have hwl : IntKind.i64.wrap ((k : Int) + 1) = (k : Int) + 1 := IntWalk.i64_in _ (by omega)
          have hi1 : (0 : Int) ≤ (k : Int) + 1 := by omega
          have hi2 : (k : Int) + 1 < (m.body.length : Int) := by omega
          have hs := signI_in hk1 E7.out
          rw [decide_eq_false e8] at g01
          clear hE3 e8 he1 hrow
          go_still_tail 16, (by kernel_rfl)
          change wpList _ _ _ _ _ W2.drew
          have hd : Below W2.heap.size W2 W2.drew := belowN (Below.refl _ _) 1
          generalize W2.drew = w3 at *
          have hbw3 := hbw2.trans (hd.mono hbw2.size)
          have hbq3 := hbq.trans (hd.mono hbq.size)
          cases e9 : hasTx m.params m.body[k + 1].text
          · rw [e9] at hs
            have HF := Lib.hid (signs_no hlt hs)
            clear hall hs
            go_wp2_with (go_at_call 66; refine (HC.out _ _ hd).mono ?_; rintro e w4 ⟨rfl, rfl⟩; rw [e9]; clear e9)
            go_ret
            exact ⟨ret_bool HF.out.symm, hbw3⟩
          · rw [e9] at hs
            have HN := Lib.hid (hall.succ hs)
            clear hall hs
            go_wp2_with (go_at_call 66; refine (HC.out _ _ hd).mono ?_; rintro e w4 ⟨rfl, rfl⟩; rw [e9]; clear e9)
            go_roundw
            case rel => first | exact ⟨k + 1, by omega, by go_num, HN.out, hbq3⟩ | ((repeat apply Exists.intro); exact ⟨⟨k + 1, by omega, by go_num, HN.out, hbq3⟩, rfl⟩)
            case measure => simp [intOf]; omega
      · have f7 := txt_f (l := [35]) e7
        have HN := Lib.hid (hall.succ (signI_other hlt e7))
        clear e7 hall
        go_wp2
        go_roundw
        case rel => first | exact ⟨k + 1, by omega, by go_num, HN.out, hbq⟩ | ((repeat apply Exists.intro); exact ⟨⟨k + 1, by omega, by go_num, HN.out, hbq⟩, rfl⟩)
        case measure => simp [intOf]; omega
    · have HF := Lib.hid (signs_yes (fun j hj => hall j (by omega)))
      clear hall
      go_wp2
      go_ret
      exact ⟨ret_bool HF.out.symm, hbw⟩

end Go.Proofs.Ythbojipdhgidlaa
