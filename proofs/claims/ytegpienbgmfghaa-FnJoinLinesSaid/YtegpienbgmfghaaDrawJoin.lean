/- The drawing of lines that are joined. -/
import Derived.Test.YtegpienbgmfghaaDrawLines
import Derived.Test.YtegpienbgmfghaaSlices
namespace Go.Proofs.Ytegpienbgmfghaa
open Go.RowKit

theorem Brief.mono {M M' : Nat} {L : List ByteArray} (h : Brief M L) (hM : M ≤ M') : Brief M' L := fun s hs => Nat.le_trans (h s hs) hM
theorem Brief.set {M : Nat} {L : List ByteArray} (h : Brief M L) {k : Nat} {s : ByteArray} (hs : s.size ≤ M) : Brief M (L.set k s) := fun x hx => by
  rcases List.mem_or_eq_of_mem_set hx with hx | rfl
  · exact h x hx
  · exact hs
/-- From k on they are as short as at first. -/
def From (k : Nat) (L : List ByteArray) : Prop := ∀ j, (h : j < L.length) → k ≤ j → L[j].size ≤ 40
theorem From.set {k : Nat} {L : List ByteArray} (h : From k L) (s : ByteArray) : From (k + 1) (L.set k s) := fun j hj hk => by
  rw [List.getElem_set_ne (by omega)]
  exact h j (by simpa using hj) (by omega)
theorem From.succ {k : Nat} {L : List ByteArray} (h : From k L) : From (k + 1) L := fun j hj hk => h j hj (by omega)
theorem From.of {L : List ByteArray} (h : Brief 40 L) : From 0 L := fun j hj _ => h _ (List.getElem_mem hj)
theorem own_some {w : World} {B e n : Nat} {v : Value} {xs : List Value} (h : w.ownsRow B e 1 v n xs) (hn : 0 < n) : ∃ g cap, v = .slice (some ⟨g, 0, none⟩) n cap ∧ B ≤ g := by
  rcases h.2 with ⟨_, h0⟩ | ⟨g, cap, cur, rfl, hb, _⟩
  · omega
  · exact ⟨g, cap, rfl, hb⟩
theorem own_len {w : World} {B e n : Nat} {v : Value} {xs : List Value} (h : w.ownsRow B e 1 v n xs) : ∃ a cap, v = .slice a n cap := by
  rcases h.2 with ⟨rfl, h0⟩ | ⟨g, cap, cur, rfl, hb, _⟩
  · exact ⟨none, 0, by rw [h0]⟩
  · exact ⟨_, cap, rfl⟩

set_option maxRecDepth 100000 in
set_option maxHeartbeats 16000000 in
theorem DrawJoinLines (v : Value) (l : List UInt8) (fp : List Nat) (w : World) (H : (sSlice sByte).R w [v] l fp) :
    Calls Try.prog 15 #[v] w (OwnLines w 60 300) := by
  go_enter Try.func15, Try.ntmps15
  go_wp2_with fail
  refine (l20Open _ l fp _ H).mono ?_
  rintro e w1 ⟨rb, rfl, hr00, hR, hB1⟩
  go_wp2_with fail
  refine (l20Lines _ hR (by omega) (by omega) (by omega)).mono ?_
  rintro e w2 ⟨v2, L0, rfl, hown0, hL0, hbr0, hJ2⟩
  have hrb := hR.lt
  have hw0 : w.heap.size ≤ w1.heap.size := hB1.size
  have hB2 := kept_below hB1 hJ2.2 hr00 hB1.size
  have hz2 := hJ2.2.size
  obtain ⟨⟨q2, hq2, hR2⟩, _⟩ := hJ2
  generalize hn0 : L0.length = n0 at hown0 hL0
  obtain ⟨a2, cap2, rfl⟩ := own_len hown0
  go_wp2_with fail
  go_loopw [5] (fun i wr => ∃ (k q : Nat) (L : List ByteArray), k ≤ L.length ∧ L.length = n0 ∧ q ≤ 200 + 20 * k ∧ Brief 60 L ∧ From k L ∧ i = .int .i64 k ∧ wr.ownsRow w1.heap.size 9 1 (.slice a2 n0 cap2) n0 (L.map Value.string) ∧ Rd wr rb q ∧ w1.heap.size ≤ wr.heap.size ∧ Below w.heap.size w wr) (fun i _ => n0 - (intOf i).toNat)
  case atStart => exact ⟨0, q2, L0, by omega, hn0, by omega, hbr0.mono (by omega), From.of hbr0, rfl, hown0, hR2, hz2, hB2⟩
  case round =>
    obtain ⟨k, q, L, hk, hLL, hq, hbr, hfr, rfl, hown, hR, hz1, hB⟩ := hrel
    by_cases hlt : k < L.length
    · subst hLL
      have hkL := hlt
      have hk40 := hfr k hlt (Nat.le_refl _)
      obtain ⟨g, cap, hv, hgb⟩ := own_some hown (by omega)
      simp only [Value.slice.injEq, true_and] at hv
      obtain ⟨rfl, rfl⟩ := hv
      go_wp2_with fail
      refine (pick rb q _ _ hR (by omega) (by omega) (by omega)).mono ?_
      rintro e w4 ⟨r4, rfl, hr40, hr41, hR4, hK4⟩
      have hown4 := own_kept hown hK4 hrb
      have hB4 := kept_below hB hK4 hr00 hB.size
      have hz4 := hK4.size
      by_cases hr0 : r4 = 0
      · subst hr0
        have hJ0 : jOwn rb (q + 1) w w1.heap.size (.slice (some ⟨g, 0, none⟩) L.length cap2) L k 14 60 0 w4 := ⟨⟨q + 1, by omega, hR4⟩, hB4, .inl hown4⟩
        clear hown hown4 hR hR4 hK4 hB hB4 hR2 hown0 hB2
        go_wp2
        refine wp_region_types (P := Try.prog) (by kernel_rfl) (by kernel_rfl) (Kept [rb, g]) [pVal (.slice (some ⟨g, 0, none⟩) L.length cap2), pVal (.int .i64 (k : Int)), pVal (.slice (some ⟨g, 0, none⟩) L.length cap2), pVal (.int .i64 (k : Int)), pVal (.pointer (some ⟨g, k, none⟩)), pVal (.string L[k]), pLits [rb, g] 3 2, pVal (.pointer (some ⟨rb, 0, none⟩)), pInt 3, pPtr [rb, g] 2, pStr 2, pStr (L[k].size + 2), pVal (.pointer (some ⟨g, k, none⟩)), pAny] (stab_all ⟨stVal _, stVal _, stVal _, stVal _, stVal _, stVal _, stLits _ _, stVal _, stInt _, stPtr _, stStr _, stStr _, stVal _, stAny, trivial⟩) (jOwn rb (q + 1) w w1.heap.size (.slice (some ⟨g, 0, none⟩) L.length cap2) L k 14 60) ?start (steps_all ⟨?s0, ?s1, ?s2, ?s3, ?s4, ?s5, ?s6, ?s7, ?s8, ?s9, ?s10, ?s11, ?s12, ?s13, trivial⟩) ?done
        case start => exact jOwn.start hJ0
        case s0 =>
          intro xs w' m hl hm hJ hlast hf ho K hK
          replace hm : m < 14 := hm
          obtain ⟨x0, x1, x2, x3, x4, x5, x6, x7, x8, x9, x10, x11, x12, x13, rfl⟩ := len14 hl
          clear hlast
          clear hf ho
          simp only [fill, Act.put, List.map_cons, List.map_nil, List.setIfInBounds_toArray, List.set_cons_succ, List.set_cons_zero] at hK ⊢
          go_wp2
          exact hK _ _ (At.mk rfl rfl) (Kept.refl _ _) (hJ.same hm)
        case s1 =>
          intro xs w' m hl hm hJ hlast hf ho K hK
          replace hm : m < 14 := hm
          obtain ⟨x0, x1, x2, x3, x4, x5, x6, x7, x8, x9, x10, x11, x12, x13, rfl⟩ := len14 hl
          clear hlast
          clear hf ho
          simp only [fill, Act.put, List.map_cons, List.map_nil, List.setIfInBounds_toArray, List.set_cons_succ, List.set_cons_zero] at hK ⊢
          go_wp2
          exact hK _ _ (At.mk rfl rfl) (Kept.refl _ _) (hJ.same hm)
        case s2 =>
          intro xs w' m hl hm hJ hlast hf ho K hK
          replace hm : m < 14 := hm
          obtain ⟨x0, x1, x2, x3, x4, x5, x6, x7, x8, x9, x10, x11, x12, x13, rfl⟩ := len14 hl
          clear hlast
          clear hf ho
          simp only [fill, Act.put, List.map_cons, List.map_nil, List.setIfInBounds_toArray, List.set_cons_succ, List.set_cons_zero] at hK ⊢
          go_wp2
          exact hK _ _ (At.mk rfl rfl) (Kept.refl _ _) (hJ.same hm)
        case s3 =>
          intro xs w' m hl hm hJ hlast hf ho K hK
          replace hm : m < 14 := hm
          obtain ⟨x0, x1, x2, x3, x4, x5, x6, x7, x8, x9, x10, x11, x12, x13, rfl⟩ := len14 hl
          clear hlast
          clear hf ho
          simp only [fill, Act.put, List.map_cons, List.map_nil, List.setIfInBounds_toArray, List.set_cons_succ, List.set_cons_zero] at hK ⊢
          go_wp2
          exact hK _ _ (At.mk rfl rfl) (Kept.refl _ _) (hJ.same hm)
        case s4 =>
          intro xs w' m hl hm hJ hlast hf ho K hK
          replace hm : m < 14 := hm
          obtain ⟨x0, x1, x2, x3, x4, x5, x6, x7, x8, x9, x10, x11, x12, x13, rfl⟩ := len14 hl
          have f2 : pVal (.slice (some ⟨g, 0, none⟩) L.length cap2) x2 w' := hf ⟨2, .data⟩ (by simp) rfl _ rfl _ rfl
          have f3 : pVal (.int .i64 (k : Int)) x3 w' := hf ⟨3, .data⟩ (by simp) rfl _ rfl _ rfl
          clear hlast
          clear hf ho
          obtain rfl := f2
          obtain rfl := f3
          simp only [fill, Act.put, List.map_cons, List.map_nil, List.setIfInBounds_toArray, List.set_cons_succ, List.set_cons_zero] at hK ⊢
          go_wp2
          exact hK _ _ (At.mk rfl rfl) (Kept.refl _ _) (hJ.same hm)
        case s5 =>
          intro xs w' m hl hm hJ hlast hf ho K hK
          replace hm : m < 14 := hm
          obtain ⟨x0, x1, x2, x3, x4, x5, x6, x7, x8, x9, x10, x11, x12, x13, rfl⟩ := len14 hl
          have f4 : pVal (.pointer (some ⟨g, k, none⟩)) x4 w' := hf ⟨4, .data⟩ (by simp) rfl _ rfl _ rfl
          clear hlast
          clear hf ho
          obtain rfl := f4
          have hcl := own_cell (hJ.row hm) hkL
          simp only [fill, Act.put, List.map_cons, List.map_nil, List.setIfInBounds_toArray, List.set_cons_succ, List.set_cons_zero] at hK ⊢
          go_wp2
          exact hK _ _ (At.mk rfl rfl) (Kept.refl _ _) (hJ.same hm)
        case s6 =>
          intro xs w' m hl hm hJ hlast hf ho K hK
          replace hm : m < 14 := hm
          obtain ⟨x0, x1, x2, x3, x4, x5, x6, x7, x8, x9, x10, x11, x12, x13, rfl⟩ := len14 hl
          clear hlast
          clear hf ho
          simp only [fill, Act.put, List.map_cons, List.map_nil, List.setIfInBounds_toArray, List.set_cons_succ, List.set_cons_zero] at hK ⊢
          go_wp2
          exact hK _ _ (At.mk rfl (pLits_new [⟨#[92]⟩, ⟨#[92, 32]⟩, ⟨#[92, 92]⟩] 2 [rb, g] w' (by decide) (hJ.lts hm hgb) 3 rfl)) (Kept.of_below ((Below.refl _ _).alloc (Nat.le_refl _) _)) (hJ.alloc hm _)
        case s7 =>
          intro xs w' m hl hm hJ hlast hf ho K hK
          replace hm : m < 14 := hm
          obtain ⟨x0, x1, x2, x3, x4, x5, x6, x7, x8, x9, x10, x11, x12, x13, rfl⟩ := len14 hl
          clear hlast
          clear hf ho
          simp only [fill, Act.put, List.map_cons, List.map_nil, List.setIfInBounds_toArray, List.set_cons_succ, List.set_cons_zero] at hK ⊢
          go_wp2
          exact hK _ _ (At.mk rfl rfl) (Kept.refl _ _) (hJ.same hm)
        case s8 =>
          intro xs w' m hl hm hJ hlast hf ho K hK
          replace hm : m < 14 := hm
          obtain ⟨x0, x1, x2, x3, x4, x5, x6, x7, x8, x9, x10, x11, x12, x13, rfl⟩ := len14 hl
          have f7 : pVal (.pointer (some ⟨rb, 0, none⟩)) x7 w' := hf ⟨7, .data⟩ (by simp) rfl _ rfl _ rfl
          clear hlast
          clear hf ho
          obtain rfl := f7
          obtain ⟨p1, hp1, hR1⟩ := hJ.1
          simp only [fill, Act.put, List.map_cons, List.map_nil, List.setIfInBounds_toArray, List.set_cons_succ, List.set_cons_zero] at hK ⊢
          go_wp2_with (go_at_call 27; refine (pick rb p1 _ _ hR1 (by omega) (by omega) (by omega)).mono ?_; rintro e w2 ⟨rr, rfl, hr0, hr1, hRq, hkq⟩)
          exact hK _ _ (At.mk rfl ⟨rr, rfl, hr0, by omega⟩) (hkq.wide (by simp)) (hJ.pick hm hp1 hRq hkq hrb hr00)
        case s9 =>
          intro xs w' m hl hm hJ hlast hf ho K hK
          replace hm : m < 14 := hm
          obtain ⟨x0, x1, x2, x3, x4, x5, x6, x7, x8, x9, x10, x11, x12, x13, rfl⟩ := len14 hl
          have f6 : pLits [rb, g] 3 2 x6 w' := hf ⟨6, .data⟩ (by simp) rfl _ rfl _ rfl
          have f8 : pInt 3 x8 w' := hf ⟨8, .data⟩ (by simp) rfl _ rfl _ rfl
          clear hlast
          clear hf ho
          obtain ⟨ba, rfl, hnea, hba, hca⟩ := f6
          obtain ⟨ri, rfl, hii, hji⟩ := f8
          obtain ⟨s, hc1, hs1⟩ := hca ri.toNat (by omega)
          simp only [fill, Act.put, List.map_cons, List.map_nil, List.setIfInBounds_toArray, List.set_cons_succ, List.set_cons_zero] at hK ⊢
          go_wp2
          exact hK _ _ (At.mk rfl ⟨ba, _, s, rfl, hnea, hba, hc1, hs1⟩) (Kept.refl _ _) (hJ.same hm)
        case s10 =>
          intro xs w' m hl hm hJ hlast hf ho K hK
          replace hm : m < 14 := hm
          obtain ⟨x0, x1, x2, x3, x4, x5, x6, x7, x8, x9, x10, x11, x12, x13, rfl⟩ := len14 hl
          have f9 : pPtr [rb, g] 2 x9 w' := hf ⟨9, .data⟩ (by simp) rfl _ rfl _ rfl
          clear hlast
          clear hf ho
          obtain ⟨ba, ja, sa, rfl, hnea, hba, hca, hsa⟩ := f9
          simp only [fill, Act.put, List.map_cons, List.map_nil, List.setIfInBounds_toArray, List.set_cons_succ, List.set_cons_zero] at hK ⊢
          go_wp2
          exact hK _ _ (At.mk rfl ⟨_, rfl, hsa⟩) (Kept.refl _ _) (hJ.same hm)
        case s11 =>
          intro xs w' m hl hm hJ hlast hf ho K hK
          replace hm : m < 14 := hm
          obtain ⟨x0, x1, x2, x3, x4, x5, x6, x7, x8, x9, x10, x11, x12, x13, rfl⟩ := len14 hl
          have f5 : pVal (.string L[k]) x5 w' := hf ⟨5, .data⟩ (by simp) rfl _ rfl _ rfl
          have f10 : pStr 2 x10 w' := hf ⟨10, .data⟩ (by simp) rfl _ rfl _ rfl
          clear hlast
          clear hf ho
          obtain rfl := f5
          obtain ⟨sb, rfl, hsb⟩ := f10
          have hadd := fun W => run_string_add_sum (P := Try.prog) W L[k] sb (by omega)
          simp only [fill, Act.put, List.map_cons, List.map_nil, List.setIfInBounds_toArray, List.set_cons_succ, List.set_cons_zero] at hK ⊢
          go_wp2
          exact hK _ _ (At.mk rfl ⟨_, rfl, by rw [ByteArray.size_append]; omega⟩) (Kept.refl _ _) (hJ.same hm)
        case s12 =>
          intro xs w' m hl hm hJ hlast hf ho K hK
          replace hm : m < 14 := hm
          obtain ⟨x0, x1, x2, x3, x4, x5, x6, x7, x8, x9, x10, x11, x12, x13, rfl⟩ := len14 hl
          have f0 : pVal (.slice (some ⟨g, 0, none⟩) L.length cap2) x0 w' := hf ⟨0, .data⟩ (by simp) rfl _ rfl _ rfl
          have f1 : pVal (.int .i64 (k : Int)) x1 w' := hf ⟨1, .data⟩ (by simp) rfl _ rfl _ rfl
          clear hlast
          clear hf ho
          obtain rfl := f0
          obtain rfl := f1
          simp only [fill, Act.put, List.map_cons, List.map_nil, List.setIfInBounds_toArray, List.set_cons_succ, List.set_cons_zero] at hK ⊢
          go_wp2
          exact hK _ _ (At.mk rfl rfl) (Kept.refl _ _) (hJ.same hm)
        case s13 =>
          intro xs w' m hl hm hJ hlast hf ho K hK
          replace hm : m < 14 := hm
          obtain ⟨x0, x1, x2, x3, x4, x5, x6, x7, x8, x9, x10, x11, x12, x13, rfl⟩ := len14 hl
          have f12 : pVal (.pointer (some ⟨g, k, none⟩)) x12 w' := hf ⟨12, .data⟩ (by simp) rfl _ rfl _ rfl
          have f11 : pStr (L[k].size + 2) x11 w' := hf ⟨11, .data⟩ (by simp) rfl _ rfl _ rfl
          have hlast0 := hlast
          clear hf ho
          obtain rfl := f12
          obtain ⟨sb, rfl, hsb⟩ := f11
          have hcl := own_cell (hJ.row hm) hkL
          have hfz := (hJ.row hm).frozenAt k
          have hN : m + 1 = 14 := hlast0 (by kernel_rfl)
          simp only [fill, Act.put, List.map_cons, List.map_nil, List.setIfInBounds_toArray, List.set_cons_succ, List.set_cons_zero] at hK ⊢
          go_wp2
          exact hK undef _ (At.mk rfl trivial) ((Kept.refl _ _).setCell (by simp) _) (hJ.store hm hN (by omega) hrb hgb hw0)
        case done =>
          intro xs w' hl hf hJ
          obtain ⟨x0, x1, x2, x3, x4, x5, x6, x7, x8, x9, x10, x11, x12, x13, rfl⟩ := len14 hl
          clear hf
          simp only [fill, Act.put, List.map_cons, List.map_nil, List.setIfInBounds_toArray, List.set_cons_succ, List.set_cons_zero]
          obtain ⟨⟨p1, hp1, hR1⟩, hB5, hrow⟩ := hJ
          have hz5 := hB5.size
          replace hp1 : p1 ≤ q + 1 + 14 := hp1
          go_wp2
          go_roundw
          case rel =>
            rcases hrow with hrow | ⟨_, s, hs, hrow⟩
            · exact ⟨k + 1, p1, L, by omega, rfl, by omega, hbr, hfr.succ, by go_num, hrow, hR1, by have := hrow.lt g rfl; omega, hB5⟩
            · exact ⟨k + 1, p1, L.set k s, by simp; omega, by simp, by omega, hbr.set hs, hfr.set s, by go_num, hrow, hR1, by have := hrow.lt g rfl; omega, hB5⟩
          case measure => simp [intOf]; omega
      · have hr0' : (r4 == 0) = false := by simp [hr0]
        go_wp2
        go_roundw
        case rel => exact ⟨k + 1, q + 1, L, by omega, rfl, by omega, hbr, hfr.succ, by go_num, hown4, hR4, by omega, hB4⟩
        case measure => simp [intOf]; omega
    · go_wp2_with fail
      refine (odd rb q _ _ hR (by omega) (by omega) (by omega)).mono ?_
      rintro e w6 ⟨b, q6, rfl, hq61, hq62, hR6, hK6⟩
      have hown6 := own_kept hown hK6 hrb
      have hB6 := kept_below hB hK6 hr00 hB.size
      cases b
      · go_wp2
        go_ret
        subst hLL
        exact ⟨_, L, rfl, own_mono hown6 hw0, by omega, hbr.mono (by omega), hB6⟩
      · go_wp2_with fail
        go_loop [6] (fun t => ∃ s : ByteArray, t = .string s ∧ 1 ≤ s.size ∧ s.size ≤ 254) (fun t => match t with | .string s => 300 - s.size | _ => 0)
        case atStart => exact ⟨_, rfl, by decide, by decide⟩
        case round =>
          obtain ⟨s, rfl, hs1, hs2⟩ := hrel
          by_cases hs : s.size < 128
          · have hadd := fun W => run_string_add_sum (P := Try.prog) W s s (by omega)
            go_wp2
            go_round
            case rel => exact ⟨s ++ s, rfl, by rw [ByteArray.size_append]; omega, by rw [ByteArray.size_append]; omega⟩
            case measure => simp [ByteArray.size_append]; omega
          · have hadd := fun W => run_string_add_sum (P := Try.prog) W s ⟨#[92]⟩ (by show s.size + 1 ≤ _; omega)
            subst hLL
            have HM : (w6.alloc (.cells #[.string (s ++ ⟨#[92]⟩), .string s] 9)).ownsRow w6.heap.size 9 1 (.slice (some ⟨w6.heap.size, 0, none⟩) 2 2) [s ++ ⟨#[92]⟩, s].length ([s ++ ⟨#[92]⟩, s].map Value.string) := lit_own w6 _ [.string (s ++ ⟨#[92]⟩), .string s] (by show 2 ≤ 1000000; omega)
            have hz6 : w1.heap.size ≤ w6.heap.size := Nat.le_trans hz1 hK6.size
            have hown7 := hown6.alloc (.cells #[.string (s ++ ⟨#[92]⟩), .string s] 9)
            have hbd : L.length + [s ++ ⟨#[92]⟩, s].length ≤ 1000000 := by show L.length + 2 ≤ _; omega
            have hz7 : w1.heap.size ≤ (w6.alloc (.cells #[.string (s ++ ⟨#[92]⟩), .string s] 9)).heap.size := by simp; omega
            go_wp2_with (at_builtin; refine wp_append_strs rfl (.tmp 41) (.tmp 45) rfl w1.heap.size w6.heap.size _ _ L [s ++ (⟨#[92]⟩ : ByteArray), s] rfl hown7 rfl HM hbd hz7 ?_; intro v7 w7 hown8 hg8)
            have hB8 := (hB6.alloc hB6.size (.cells #[.string (s ++ ⟨#[92]⟩), .string s] 9)).grown hg8 (by have := hB6.size; simp; omega) (fun b hb => by have := (hown7.lt b hb).1; omega)
            go_ret
            refine ⟨_, L ++ [s ++ ⟨#[92]⟩, s], rfl, own_mono hown8 hw0, by simp; omega, ?_, hB8⟩
            intro x hx
            rcases List.mem_append.1 hx with hx | hx
            · have := hbr x hx; omega
            · rcases List.mem_cons.1 hx with rfl | hx
              · rw [ByteArray.size_append]; show s.size + 1 ≤ _; omega
              · have e : x = s := by simpa using hx
                subst e; omega

end Go.Proofs.Ytegpienbgmfghaa
