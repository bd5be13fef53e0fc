/- JoinLines of the model and of the program. -/
import Derived.Test.YtegpienbgmfghaaJoin0
import Derived.Outline
import Derived.IntWalk
namespace Go.Proofs.Ytegpienbgmfghaa
open Go.RowKit

theorem ti_ints : TI Try.prog 30 3 (.int .i64 0) 1 8 := ⟨by kernel_rfl, by kernel_rfl⟩

theorem isEmpty_yes {s : ByteArray} (h : s.size = 0) : s.toList.isEmpty = true := by
  rw [ByteArray.toList_eq, List.isEmpty_iff, ← List.length_eq_zero_iff, Array.length_toList]; exact h
theorem isEmpty_no {s : ByteArray} (h : ¬ s.size = 0) : s.toList.isEmpty = false := by
  rw [ByteArray.toList_eq, Bool.eq_false_iff, ne_eq, List.isEmpty_iff, ← List.length_eq_zero_iff, Array.length_toList]; exact h

def lastB (s : ByteArray) : Int := if h : 0 < s.size then ((s[s.size - 1]).toNat : Int) else 0
theorem run_last (P : Program) (t : TypeId) (s : ByteArray) (h : P.underlying t = some .string) (h0 : 0 < s.size) (W : World) :
    (Instr.index t (.string s) (.int .i64 ((s.size : Int) - 1))).run P W = .ok (.int .u8 (lastB s)) W := by
  rw [run_index_string W t s .i64 _ h, dif_pos (by omega)]
  unfold lastB
  rw [dif_pos h0]
  congr 4
  congr 1
  omega
theorem lastB_yes {s : ByteArray} (h : ends s = true) : (lastB s == 92) = true := by
  unfold ends at h
  unfold lastB
  split at h
  · rename_i h0
    rw [dif_pos h0, beq_iff_eq]
    rw [beq_iff_eq] at h
    rw [h]; rfl
  · exact absurd h (by simp)
theorem lastB_no {s : ByteArray} (h0 : ¬ s.size = 0) (h : ¬ ends s = true) : (lastB s == 92) = false := by
  unfold ends at h
  unfold lastB
  rw [dif_pos (by omega)] at h ⊢
  rw [beq_iff_eq] at h
  rw [beq_eq_false_iff_ne]
  intro e
  apply h
  apply UInt8.toNat_inj.1
  show _ = 92
  omega

def texts (J : List (ByteArray × Int)) : List Value := J.map fun x => .string x.1
def nums (J : List (ByteArray × Int)) : List Value := J.map fun x => .int .i64 x.2

def JoinPost (l : List ByteArray) (w : World) (e : Ending) (w' : World) : Prop :=
  ∃ v1 v2 fp1 fp2, e = .returned (.tuple #[v1, v2, .bool (joinOk l)]) ∧ (sSlice sStr).R w' [v1] ((joinRes l).map (·.1)) fp1 ∧ (sSlice sInt).R w' [v2] ((joinRes l).map (·.2)) fp2 ∧ Own w' w.heap.size (fp1 ++ fp2) ∧ Below w.heap.size w w'

theorem joinPost_no {l : List ByteArray} (h : joinOk l = false) {w w' : World} (hb : Below w.heap.size w w') (a1 a2 : Option Addr) :
    JoinPost l w (.returned (.tuple #[.slice a1 0 0, .slice a2 0 0, .bool false])) w' := by
  have e : joinRes l = [] := by unfold joinRes; rw [h]; rfl
  exact ⟨_, _, [], [], by rw [h], by rw [e]; exact slice_empty _ _ _ _ (by simp), by rw [e]; exact slice_empty _ _ _ _ (by simp), Own.nil _ _, hb⟩

/-- The numbers of the joined lines are small. -/
def Small (J : List (ByteArray × Int)) : Prop := ∀ x ∈ J, 0 ≤ x.2 ∧ x.2 ≤ 1000
theorem Small.snoc {J : List (ByteArray × Int)} (h : Small J) {p : ByteArray} {m : Int} (hp : 0 ≤ m ∧ m ≤ 1000) : Small (J ++ [(p, m)]) := by
  intro x hx
  rcases List.mem_append.1 hx with hx | hx
  · exact h x hx
  · simp at hx; subst hx; exact hp

theorem joinPost_yes {l : List ByteArray} {J : List (ByteArray × Int)} {k : Nat} (hat : AtLine l J k) (hk : l.length ≤ k) (h0 : linesOk l = true) (hsm : Small J) {w w' : World} (hb : Below w.heap.size w w') {v1 v2 : Value}
    (h1 : w'.ownsRow w.heap.size 9 1 v1 J.length (texts J)) (h2 : w'.ownsRow w.heap.size 3 1 v2 J.length (nums J)) :
    JoinPost l w (.returned (.tuple #[v1, v2, .bool true])) w' := by
  obtain ⟨e1, e2⟩ := hat.end_ hk h0
  have t1 : texts J = (J.map (·.1)).map Value.string := by simp [texts]
  have t2 : nums J = (J.map (·.2)).map (Value.int .i64) := by simp [nums]
  have hd := own_ne h1 h2 (by decide)
  rw [t1] at h1
  rw [t2] at h2
  obtain ⟨fp1, r1, o1, b1⟩ := own_flat (ok := okStr) h1 (fun i hi => by
    have hm : (J.map (·.1))[i] ∈ J.map (·.1) := List.getElem_mem _
    obtain ⟨x, hx, he⟩ := List.mem_map.1 hm
    have := hat.2 x hx
    rw [← he]
    show x.1.size ≤ maxLen
    unfold maxLen; omega)
  obtain ⟨fp2, r2, o2, b2⟩ := own_flat (ok := okInt) h2 (fun i hi => by
    have hm : (J.map (·.2))[i] ∈ J.map (·.2) := List.getElem_mem _
    obtain ⟨x, hx, he⟩ := List.mem_map.1 hm
    have := hsm x hx
    rw [← he]
    exact ⟨by omega, by omega⟩)
  refine ⟨v1, v2, fp1, fp2, by rw [e1], by rw [e2]; exact r1, by rw [e2]; exact r2, o1.app o2 ?_, hb⟩
  intro b hb1 hb2
  rcases hd with hd | hd
  · rw [b1 b hb1] at hd; cases hd
  · exact hd ((b1 b hb1).trans (b2 b hb2).symm)

theorem stop_cases {l : List ByteArray} {q : Nat} (hq : q < l.length) (h : ¬ (q + 1 < l.length ∧ ends l[q] = true)) : q + 1 = l.length ∨ ends l[q] = false := by
  by_cases h1 : q + 1 < l.length
  · right
    cases he : ends l[q]
    · rfl
    · exact absurd ⟨h1, he⟩ h
  · left; omega
theorem ends_empty {s : ByteArray} (h : s.size = 0) : ends s = false := by unfold ends; rw [dif_neg (by omega)]

set_option maxHeartbeats 4000000 in
theorem spec_JoinLines (v : Value) (l : List ByteArray) (fp : List Nat) (w : World) (H : (sSlice sStr).R w [v] l fp) :
    Calls Try.prog 17 #[v] w (JoinPost l w) := by
  have hla : ∀ o o' : Obj, (sSlice sStr).R ((w.alloc o).alloc o') [v] l fp := fun o o' => (sSlice sStr).below H (((Below.refl _ _).alloc (Nat.le_refl _) o).alloc (by simp) o')
  obtain ⟨a, cap, rfl, hc, hm, hcell, hsz⟩ := open_strs H
  have HL := Lib.hid hla; clear hla
  unfold maxLen at hm
  have hB0 : Below w.heap.size w ((w.alloc (.cells #[] 9)).alloc (.cells #[] 3)) := ((Below.refl _ _).alloc (Nat.le_refl _) _).alloc (by simp) _
  cases h0 : linesOk l
  · have HN := Lib.hid (joinPost_no (l := l) (by unfold joinOk; rw [h0]; rfl) hB0 (some ⟨w.heap.size, 0, none⟩) (some ⟨w.heap.size + 1, 0, none⟩))
    clear hcell hsz
    go_enter Try.func17, Try.ntmps17
    go_wp2_with (go_at_call 14; refine (spec_LinesValid _ l fp _ (HL.out _ _)).mono ?_; rw [h0]; rintro e w' ⟨rfl, rfl⟩)
    go_ret3
    exact HN.out
  obtain ⟨hlen, hshort⟩ := linesOk_size h0
  have HZ := Lib.hid hsz; clear hsz
  have HS := Lib.hid hshort; clear hshort
  have ho1 : ((w.alloc (.cells #[] 9)).alloc (.cells #[] 3)).ownsRow w.heap.size 9 1 (.slice (some ⟨w.heap.size, 0, none⟩) 0 0) 0 [] := (World.ownsRow_made w #[] 0 (Nat.le_refl _) (by simp) rfl).alloc _
  have ho2 : ((w.alloc (.cells #[] 9)).alloc (.cells #[] 3)).ownsRow w.heap.size 3 1 (.slice (some ⟨w.heap.size + 1, 0, none⟩) 0 0) 0 [] := by
    have := World.ownsRow_made (base := w.heap.size) (e := 3) (size := 1) (w.alloc (.cells #[] 9)) #[] 0 (by simp) (by simp) rfl
    simpa using this
  go_enter Try.func17, Try.ntmps17
  go_wp2_with (go_at_call 14; refine (spec_LinesValid _ l fp _ (HL.out _ _)).mono ?_; rw [h0]; rintro e w' ⟨rfl, rfl⟩)
  go_loopw [5, 6, 7] (fun o n i wr => ∃ (k : Nat) (J : List (ByteArray × Int)), k ≤ l.length ∧ i = .int .i64 k ∧ AtLine l J k ∧ wr.ownsRow w.heap.size 9 1 o J.length (texts J) ∧ wr.ownsRow w.heap.size 3 1 n J.length (nums J) ∧ J.length ≤ k ∧ Small J ∧ Below w.heap.size w wr) (fun _ _ i _ => l.length - (intOf i).toNat)
  case atStart => exact ⟨0, [], by omega, rfl, AtLine.zero l, ho1, ho2, by simp, by intro x hx; simp at hx, hB0⟩
  case round =>
    obtain ⟨k, J, hk, rfl, hat, hown1, hown2, hJ, hsm, hbel⟩ := hrel
    have HM := Lib.hid hsm; clear hsm
    clear ho1 ho2 hB0
    by_cases hlt : k < l.length
    · obtain ⟨b, off, rfl, hb, _, hc2⟩ := hcell (by omega)
      have hck := (hbel.cell (p := ⟨b, off + k, none⟩) hb).trans (hc2 k hlt)
      go_wp2_with (at_builtin; refine wp_append_one ti_ints rfl wr (.int .i64 ((k : Int) + 1)) rfl rfl (.tmp 26) (.tmp 29) rfl w.heap.size _ J.length (nums J) rfl hown2 rfl (by unfold maxLen; omega) (by omega) hbel.size ?_; intro v1 w1 hown2' hg1)
      have hown1' := hown1.kept hg1 (own_ne hown1 hown2 (by decide))
      have hbel' := hbel.grown hg1 hbel.size (fun b hb => (hown2.lt b hb).1)
      have hin := hat.in_ hlt
      clear hown1 hown2 hg1
      go_loopw [7, 8] (fun i s wi => ∃ (q : Nat) (hq : q < l.length) (p ln : ByteArray), k ≤ q ∧ i = .int .i64 q ∧ s = .string ln ∧ Hid (ln = p ++ l[q]) ∧ InLine l J p (k + 1) q ∧ ln.size ≤ 200 * q + 200 ∧ l[q].size ≤ ln.size ∧ ∃ n, wi = w1.drewN n) (fun i _ _ => l.length - (intOf i).toNat)
      case atStart => exact ⟨k, hlt, ⟨#[]⟩, _, by omega, rfl, rfl, (ba_empty_append _).symm, hin, by have := HS.out k hlt; omega, Nat.le_refl _, 0, rfl⟩
      case round =>
        obtain ⟨q, hq, p, ln, hkq, rfl, rfl, HLN, hq2, hps, hps2, n, rfl⟩ := hrel
        have hcq := (hbel'.cell (p := ⟨b, off + q, none⟩) hb).trans (hc2 q hq)
        have hsq := HS.out q hq
        by_cases hon : q + 1 < l.length ∧ ends l[q] = true
        · obtain ⟨hmore, heq⟩ := hon
          have hcq1 := (hbel'.cell (p := ⟨b, off + (q + 1), none⟩) hb).trans (hc2 (q + 1) hmore)
          clear hc2
          have hd : decide ((q : Int) + 1 < (l.length : Int)) = true := by simp; omega
          have hpos := ends_pos heq
          have hem : l[q].toList.isEmpty = false := isEmpty_no (by omega)
          have hem2 : (!l[q].toList.isEmpty) = true := by rw [hem]; rfl
          have hz0 : (1 : Int) ≤ (l[q].size : Int) := by omega
          have hix := run_last Try.prog 9 l[q] Try.underlying9 hpos
          have h92 := lastB_yes heq
          have hwl : IntKind.i64.wrap ((ln.size : Int) - 1) = (ln.size : Int) - 1 := IntWalk.i64_in _ (by omega)
          have hl1 : (1 : Int) ≤ (ln.size : Int) := by omega
          have hsq1 := HS.out (q + 1) hmore
          have hadd := fun W => run_string_add_sum (P := Try.prog) W (ln.extract 0 (ln.size - 1)) l[q + 1] (by rw [ByteArray.size_extract]; omega)
          have HE : Hid (ln.extract 0 (ln.size - 1) = p ++ strip l[q]) := by show _ = _; rw [HLN.out]; exact strip_append _ _ hpos
          have HN := Lib.hid (hq2.on hmore heq)
          have HSZ : Hid ((ln.extract 0 (ln.size - 1) ++ l[q + 1]).size = (ln.size - 1) + l[q + 1].size) := by show _ = _; rw [ByteArray.size_append, ByteArray.size_extract]; omega
          clear heq
          go_wp2
          go_quiet (fail)
          go_wp2
          go_quiet (fail)
          go_wp2
          go_roundw
          case rel => exact ⟨q + 1, hmore, p ++ strip l[q], _, by omega, by go_num, rfl, by show _ = _; rw [HE.out], HN.out, by rw [HSZ.out]; omega, by rw [HSZ.out]; omega, _, World.drewN_drewN _ _ _⟩
          case measure => simp [intOf]; omega
        · have hstop := stop_cases hq hon
          have HT := Lib.hid hstop
          have hk1 : k + 1 ≤ q + 1 := by omega
          clear hc2
          have hways : (decide ((q : Int) + 1 < (l.length : Int)) = false) ∨ (decide ((q : Int) + 1 < (l.length : Int)) = true ∧ l[q].toList.isEmpty = true) ∨
              (decide ((q : Int) + 1 < (l.length : Int)) = true ∧ l[q].toList.isEmpty = false ∧ (!l[q].toList.isEmpty) = true ∧ (1 : Int) ≤ (l[q].size : Int) ∧ (∀ W : World, (Instr.index 9 (.string l[q]) (.int .i64 ((l[q].size : Int) - 1))).run Try.prog W = .ok (.int .u8 (lastB l[q])) W) ∧ (lastB l[q] == 92) = false) := by
            by_cases h1 : q + 1 = l.length
            · left; simp; omega
            · have he : ends l[q] = false := hstop.resolve_left h1
              right
              by_cases h2 : l[q].size = 0
              · exact .inl ⟨by simp; omega, isEmpty_yes h2⟩
              · exact .inr ⟨by simp; omega, isEmpty_no h2, by rw [isEmpty_no h2]; rfl, by omega, run_last Try.prog 9 l[q] Try.underlying9 (by omega), lastB_no h2 (by rw [he]; simp)⟩
          clear hstop hon
          by_cases hbig : 200 < ln.size
          · have HB0 := Lib.hid (fun (W : World) (hb : Below w.heap.size w W) => joinPost_no (l := l) (hq2.long2 hq HT.out (by rw [← HLN.out]; exact hbig)) hb)
            rcases hways with hd | ⟨hd, hem⟩ | ⟨hd, hem, hem2, hz0, hix, h92⟩ <;>
            · go_wp2
              go_quiet (fail)
              go_wp2
              go_ret3
              exact HB0.out _ (((belowN hbel' _).alloc (by have := hbel'.size; simpa using this) _).alloc (by have := hbel'.size; simp; omega) _) _ _
          · have HD := Lib.hid (hq2.done hq HT.out (by rw [← HLN.out]; omega))
            rcases hways with hd | ⟨hd, hem⟩ | ⟨hd, hem, hem2, hz0, hix, h92⟩
            all_goals
              go_wp2
              go_quiet (fail)
              go_wp2_with (at_builtin; refine wp_append_one ti27 rfl (w1.drewN _) (.string ln) rfl rfl (.tmp 74) (.tmp 76) rfl w.heap.size _ J.length (texts J) rfl hown1' rfl (by unfold maxLen; omega) (by omega) hbel'.size ?_; intro v2 w2 hown3 hg3)
              have hown4 : w2.ownsRow w.heap.size 3 1 v1 (J.length + 1) (nums J ++ [.int .i64 ((k : Int) + 1)]) := World.ownsRow.kept (w := w1.drewN _) hown2' hg3 (own_ne hown2' hown1' (by decide))
              have hbel4 := (belowN hbel' _).grown hg3 hbel'.size (fun b hb => (hown1'.lt b hb).1)
              go_wp2
              go_roundw
              case rel =>
                refine ⟨q + 1, J ++ [(p ++ l[q], (k : Int) + 1)], by omega, by go_num, HD.out, ?_, ?_, by simp; omega, HM.out.snoc ⟨by omega, by omega⟩, hbel4⟩
                · have e : texts (J ++ [(p ++ l[q], (k : Int) + 1)]) = texts J ++ [.string ln] := by rw [HLN.out]; simp [texts]
                  rw [e]; simpa using hown3
                · have e : nums (J ++ [(p ++ l[q], (k : Int) + 1)]) = nums J ++ [.int .i64 ((k : Int) + 1)] := by simp [nums]
                  rw [e]; simpa using hown4
              case measure => simp [intOf]; omega
    · have HN := Lib.hid (joinPost_yes hat (by omega) h0 HM.out hbel hown1 hown2)
      go_wp2
      go_ret3
      exact HN.out

end Go.Proofs.Ytegpienbgmfghaa
