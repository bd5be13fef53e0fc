/- MacroText of both. (Made by gen_mac7.py.) -/
import Derived.Test.YtigbaeokccknaaaMac6
import Derived.Test.YtigbaeokccknaaaPr5
import Derived.Lib.Join
namespace Go.Proofs.Ytigbaeokccknaaa
open Go.RowKit

/-! ### The head's bytes -/
def parL (m : DMacro) : List (List UInt8) := m.params.map (·.data.toList)
theorem hd_list (m : DMacro) : ∀ k, k ≤ m.params.length → (hdTo m k).data.toList = m.name.data.toList ++ [40] ++ Lib.join ((parL m).take k) [44]
  | 0, _ => by
    show (m.name ++ openB).data.toList = _
    rw [ByteArray.data_append, Array.toList_append, List.take_zero, Lib.join_nil, List.append_nil]; rfl
  | k + 1, hk => by
    have ih := hd_list m k (by omega)
    have hk' : k < m.params.length := by omega
    have hx : (parL m)[k]? = some m.params[k].data.toList := by unfold parL; rw [List.getElem?_map, List.getElem?_eq_getElem hk']; rfl
    rw [hdTo, dif_pos hk', ByteArray.data_append, Array.toList_append]
    by_cases h0 : 0 < k
    · rw [if_pos h0, ByteArray.data_append, Array.toList_append, ih]
      obtain ⟨j, rfl⟩ : ∃ j, k = j + 1 := ⟨k - 1, by omega⟩
      cases hp : parL m with
      | nil => rw [hp] at hx; simp at hx
      | cons p r =>
        rw [hp] at hx
        rw [List.take_succ_cons, List.take_succ_cons, Lib.join_cons, Lib.join_cons, Lib.joinTail_take_succ [44] r j _ (by simpa using hx)]
        have : commaB.data.toList = [44] := rfl
        rw [this]
        simp [List.append_assoc]
    · have hz : k = 0 := by omega
      subst hz
      rw [if_neg (by omega), ih]
      cases hp : parL m with
      | nil => rw [hp] at hx; simp at hx
      | cons p r =>
        rw [hp] at hx
        have hpe : p = m.params[0].data.toList := by simpa using hx
        simp [Lib.join_nil, Lib.join_one, hpe]
def joinB (m : DMacro) : ByteArray := ⟨(Lib.join (parL m) [44]).toArray⟩
theorem hd_join (m : DMacro) : hdTo m m.params.length = m.name ++ openB ++ joinB m := by
  have h := hd_list m m.params.length (Nat.le_refl _)
  rw [List.take_of_length_le (by unfold parL; simp)] at h
  apply ByteArray.ext
  apply Array.toList_inj.1
  rw [h, ByteArray.data_append, Array.toList_append, ByteArray.data_append, Array.toList_append]
  show _ = _ ++ (Lib.join (parL m) [44]).toArray.toList
  rw [List.toList_toArray]
  rfl
theorem joinB_nil {m : DMacro} (h : m.params.length = 0) : joinB m = ⟨#[]⟩ := by
  unfold joinB parL
  rw [List.length_eq_zero_iff.1 h]; rfl
theorem name_size {s : ByteArray} (h : oneTok s 1 = true) : s.size ≤ 12 := (name_facts h).2.1
theorem hdTo_size {m : DMacro} (h : macOk m = true) : ∀ k, k ≤ m.params.length → (hdTo m k).size ≤ 13 + 13 * k
  | 0, _ => by
    have := name_size (macOk_facts h).1.1
    show (m.name ++ openB).size ≤ _
    rw [ByteArray.size_append]
    have : openB.size = 1 := rfl
    omega
  | k + 1, hk => by
    have ih := hdTo_size h k (by omega)
    have hk' : k < m.params.length := by omega
    have := name_size ((macOk_facts h).2.1 k hk')
    have : commaB.size = 1 := rfl
    rw [hdTo, dif_pos hk', ByteArray.size_append]
    split
    · rw [ByteArray.size_append]; omega
    · omega
theorem hd_size {m : DMacro} (h : macOk m = true) : (hdTo m m.params.length).size ≤ 65 := by
  have := hdTo_size h _ (Nat.le_refl _)
  have := (macOk_facts h).1.2.2.1
  omega
theorem headOf_size {m : DMacro} (h : macOk m = true) : (headOf m).size ≤ 66 := by
  have := hd_size h
  have := name_size (macOk_facts h).1.1
  unfold headOf
  split
  · rw [ByteArray.size_append]; have : closeB.size = 1 := rfl; omega
  · omega
theorem join_size {m : DMacro} (h : macOk m = true) : (joinB m).size ≤ 65 := by
  have := hd_size h
  rw [hd_join, ByteArray.size_append] at this
  omega
theorem join_len {m : DMacro} (h : macOk m = true) : (Lib.join (m.params.map (·.data.toList)) [44]).length ≤ 65 := by
  have := join_size h
  unfold joinB at this
  have e : (⟨(Lib.join (parL m) [44]).toArray⟩ : ByteArray).size = (Lib.join (parL m) [44]).length := by show (Lib.join (parL m) [44]).toArray.size = _; simp
  rw [e] at this
  exact this
theorem printRes_size (l : List Tok) : (printRes l).1.size ≤ 200 := by
  unfold printRes
  split
  · split
    · show (0 : Nat) ≤ 200; omega
    · rename_i h; show (prTo l l.length).size ≤ 200; omega
  · show (0 : Nat) ≤ 200; omega
theorem printRes_nil {l : List Tok} (h : ¬ 0 < l.length) : printRes l = (⟨#[]⟩, true) := by
  have : l = [] := List.length_eq_zero_iff.1 (by omega)
  subst this; rfl
theorem mt_no {m : DMacro} (h : macOk m = false) : macText m = (⟨#[]⟩, false) := by unfold macText; rw [if_neg (by simp [h])]
theorem mt_pr {m : DMacro} (h : macOk m = true) (h2 : (printRes m.body).2 = false) : macText m = (⟨#[]⟩, false) := by unfold macText; rw [if_pos h, if_pos (.inl h2)]
theorem mt_long {m : DMacro} (h : macOk m = true) (h2 : 200 < (macOut m).size) : macText m = (⟨#[]⟩, false) := by unfold macText; rw [if_pos h, if_pos (.inr h2)]
theorem mt_yes {m : DMacro} (h : macOk m = true) (h2 : (printRes m.body).2 = true) (h3 : ¬ 200 < (macOut m).size) : macText m = (macOut m, true) := by
  unfold macText; rw [if_pos h, if_neg (by rintro (h | h); · rw [h2] at h; simp at h
                                           · exact h3 h)]
theorem out_body {m : DMacro} (h : 0 < m.body.length) : macOut m = headOf m ++ ⟨#[32]⟩ ++ (printRes m.body).1 := by unfold macOut; rw [if_pos h]
theorem out_bare {m : DMacro} (h : ¬ 0 < m.body.length) : macOut m = headOf m := by unfold macOut; rw [if_neg h]
theorem head_no {m : DMacro} (h : m.function = false) : headOf m = m.name := by unfold headOf; rw [if_neg (by simp [h])]
theorem head_yes {m : DMacro} (h : m.function = true) : headOf m = hdTo m m.params.length ++ closeB := by unfold headOf; rw [if_pos h]

/-- What MacroText hands back. -/
def MText (m : DMacro) (w : World) (e : Ending) (w' : World) : Prop := e = .returned (.tuple #[.string (macText m).1, .bool (macText m).2]) ∧ Below w.heap.size w w'
theorem mtext_ret {m : DMacro} {s : ByteArray} {b : Bool} {w w' : World} (h : macText m = (s, b)) (hb : Below w.heap.size w w') : MText m w (.returned (.tuple #[.string s, .bool b])) w' := ⟨by rw [h], hb⟩

/-- A sum of texts under a name of its own. -/
theorem add_name (a b : ByteArray) (h : a.size + b.size ≤ 1000000) : ∃ c : ByteArray, Hid (c = a ++ b) ∧ (∀ W : World, (Op.stringOp .add a b).run Try.prog W = .ok (.string c) W) ∧ c.size = a.size + b.size :=
  ⟨a ++ b, rfl, fun W => run_string_add_sum (P := Try.prog) W a b (by omega), ByteArray.size_append⟩
theorem one_size (c : UInt8) : (⟨#[c]⟩ : ByteArray).size = 1 := rfl

set_option maxHeartbeats 2000000 in
set_option maxRecDepth 100000 in
theorem lib_Join_nil (a : Option Addr) (c : Nat) (sep : ByteArray) (w : World) :
    Calls Try.prog 42 #[.slice a 0 c, .string sep] w fun e w' => e = .returned (.string ⟨#[]⟩) ∧ w' = w := by
  go_enter Try.func42, Try.ntmps42
  go_wp2
  go_ret
  exact ⟨rfl, by first | rfl | trivial⟩
theorem lib_Join (v : Value) (m : DMacro) (fp : List Nat) (w : World) (hv : macOk m = true) (H : (sSlice sStr).R w [v] m.params fp) :
    Calls Try.prog 42 #[v, .string ⟨#[44]⟩] w fun e w' => e = .returned (.string (joinB m)) ∧ Below w.heap.size w w' := by
  obtain ⟨a, cap, rfl, hc, hm, hcell, hsz⟩ := open_strs H
  by_cases h0 : m.params.length = 0
  · rw [h0, joinB_nil h0]
    exact (lib_Join_nil a cap _ w).mono fun e w' ⟨h1, h2⟩ => ⟨h1, h2 ▸ Below.refl _ _⟩
  · obtain ⟨b, off, rfl, hbl, _, hc2⟩ := hcell (by omega)
    have hl := (macOk_facts hv).1.2.2.1
    have hj := join_len hv
    have e1 : ([44] : List UInt8) = (⟨#[44]⟩ : ByteArray).data.toList := rfl
    refine Try.strings_Join b off cap m.params ⟨#[44]⟩ w (fun j x hx => ?_) hbl (by omega) hc (by rw [← e1]; omega)
    obtain ⟨hj', he⟩ := List.getElem?_eq_some_iff.1 hx
    rw [hc2 j hj', he]

set_option maxHeartbeats 16000000 in
set_option maxRecDepth 100000 in
theorem spec_MacroText (cs : List Value) (m : DMacro) (fp : List Nat) (w : World) (H : sMacro.R w cs m fp) : Calls Try.prog 15 #[.agg cs.toArray] w (MText m w) := by
  have HV := Lib.hid (fun W (hW : Below w.heap.size w W) => spec_MacroValid _ _ _ W (sMacro.below H hW))
  obtain ⟨h2, h3, fp2, fp3, rfl, k0, K2, K3, rfl⟩ := H
  have HK2 := Lib.hid K2
  have HK3 := Lib.hid K3
  obtain ⟨a2, cap2, rfl, hc2, hm2, hcell2, hsz2⟩ := open_strs K2
  obtain ⟨a3, cap3, rfl, -⟩ := open_rows K3
  clear K2 K3
  unfold maxLen at hm2
  have hb0 := alloc_below' w (.cells #[.string m.name, .bool m.function, .slice a2 m.params.length cap2, .slice a3 m.body.length cap3] 26)
  have HX := Lib.hid (heap_alloc_new w (.cells #[.string m.name, .bool m.function, .slice a2 m.params.length cap2, .slice a3 m.body.length cap3] 26))
  cases hv : macOk m
  · rw [hv] at HV
    have HF := Lib.hid (mt_no hv)
    clear hv
    go_enter Try.func15, Try.ntmps15
    go_wp2_with (go_at_call 11; refine (HV.out _ hb0).mono ?_; rintro e w1 ⟨rfl, hb1⟩)
    go_ret2
    exact mtext_ret HF.out (hb0.trans (hb1.mono hb0.size))
  rw [hv] at HV
  have HOK := Lib.hid hv
  have HPR := Lib.hid (fun W (hW : Below w.heap.size w W) => spec_PrintTokens _ _ _ W ((sSlice sTok).below HK3.out hW))
  have hns : m.name.size ≤ 12 := name_size (macOk_facts hv).1.1
  have hps := printRes_size m.body
  have hpl := (macOk_facts hv).1.2.2.1
  have hds := fun k hk => hdTo_size hv k hk
  clear hv
  go_enter Try.func15, Try.ntmps15
  go_wp2_with fail
  refine (HV.out _ hb0).mono ?_
  rintro e w1 ⟨rfl, hb1⟩
  have hB1 := hb0.trans (hb1.mono hb0.size)
  replace HX := Lib.hid ((hb1.block _ (Array.getElem?_eq_some_iff.1 HX.out).1).trans HX.out)
  have q0 : w1.cell? ⟨w.heap.size, 0, none⟩ = some (.string m.name) := cell_of_row _ _ 0 _ _ _ HX.out
  have q1 : w1.cell? ⟨w.heap.size, 1, none⟩ = some (.bool m.function) := cell_of_row _ _ 1 _ _ _ HX.out
  have q2 : w1.cell? ⟨w.heap.size, 2, none⟩ = some (.slice a2 m.params.length cap2) := cell_of_row _ _ 2 _ _ _ HX.out
  have q3 : w1.cell? ⟨w.heap.size, 3, none⟩ = some (.slice a3 m.body.length cap3) := cell_of_row _ _ 3 _ _ _ HX.out
  clear hb0 hb1 HV
  cases hf : m.function
  · rw [hf] at q1
    have HT := Lib.hid (head_no hf).symm
    clear hf
    by_cases h0 : 0 < m.body.length
    · have h01 : (0 : Int) < (m.body.length : Int) := by omega
      obtain ⟨u1, HU1, ad1, hu1⟩ := add_name m.name (⟨#[32]⟩ : ByteArray) (by have := one_size 32; omega)
      obtain ⟨u2, HU2, ad2, hu2⟩ := add_name u1 (printRes m.body).1 (by have := one_size 32; omega)
      have HE : Hid (u2 = macOut m) := by show _ = _; rw [HU2.out, HU1.out, out_body h0, ← HT.out]; try simp only [ByteArray.append_assoc]
      clear hu1 hu2
      go_wp2_with fail
      refine (HPR.out _ hB1).mono ?_
      rintro e w9 ⟨rfl, hb9⟩
      have hB9 := hB1.trans (hb9.mono hB1.size)
      replace HX := Lib.hid ((hb9.block _ (Array.getElem?_eq_some_iff.1 HX.out).1).trans HX.out)
      have z3 : w9.cell? ⟨w.heap.size, 3, none⟩ = some (.slice a3 m.body.length cap3) := cell_of_row _ _ 3 _ _ _ HX.out
      cases hp : (printRes m.body).2
      · have HF := Lib.hid (mt_pr HOK.out hp)
        clear hp
        go_wp2
        go_ret2
        exact mtext_ret HF.out hB9
      · by_cases hbig : 200 < u2.size
        · have HF := Lib.hid (mt_long HOK.out (by rw [← HE.out]; exact hbig))
          clear hp
          go_wp2
          go_ret2
          exact mtext_ret HF.out hB9
        · have HF := Lib.hid (mt_yes HOK.out hp (by rw [← HE.out]; exact hbig))
          rw [← HE.out] at HF
          clear hp
          go_wp2
          go_ret2
          exact mtext_ret HF.out hB9
    · have h01 : ¬ (0 : Int) < (m.body.length : Int) := by omega
      have HE : Hid (m.name = macOut m) := by show _ = _; rw [out_bare h0, ← HT.out]
      have HP0 := Lib.hid (printRes_nil h0)
      have hbig : ¬ 200 < m.name.size := by omega
      have HF := Lib.hid (mt_yes HOK.out (by rw [HP0.out]) (by rw [← HE.out]; exact hbig))
      rw [← HE.out] at HF
      go_wp2_with fail
      refine (HPR.out _ hB1).mono ?_
      rintro e w9 ⟨rfl, hb9⟩
      have hB9 := hB1.trans (hb9.mono hB1.size)
      rw [HP0.out]
      replace HX := Lib.hid ((hb9.block _ (Array.getElem?_eq_some_iff.1 HX.out).1).trans HX.out)
      have z3 : w9.cell? ⟨w.heap.size, 3, none⟩ = some (.slice a3 m.body.length cap3) := cell_of_row _ _ 3 _ _ _ HX.out
      go_wp2
      go_ret2
      exact mtext_ret HF.out hB9
  · rw [hf] at q1
    have HH := Lib.hid (head_yes hf)
    clear hf
    have ad0 := fun W => run_string_add_sum (P := Try.prog) W m.name (⟨#[40]⟩ : ByteArray) (by have : (⟨#[40]⟩ : ByteArray).size = 1 := rfl; omega)
    have HDS := Lib.hid hds
    clear hds
    go_wp2_with fail
    go_loopw [4, 5] (fun t i wr => ∃ (k : Nat) (out : ByteArray), k ≤ m.params.length ∧ i = .int .i64 k ∧ t = .string out ∧ Hid (out = hdTo m k) ∧ Below w1.heap.size w1 wr) (fun _ i _ => m.params.length - (intOf i).toNat)
    case atStart => exact ⟨0, _, by omega, rfl, rfl, rfl, Below.refl _ _⟩
    case round =>
      obtain ⟨k, out, hk, rfl, rfl, HO, hb⟩ := hrel
      have hbw := hB1.trans (hb.mono hB1.size)
      replace HX := Lib.hid ((hb.block _ (Array.getElem?_eq_some_iff.1 HX.out).1).trans HX.out)
      clear q0 q1 q2 q3
      have q2 : wr.cell? ⟨w.heap.size, 2, none⟩ = some (.slice a2 m.params.length cap2) := cell_of_row _ _ 2 _ _ _ HX.out
      have q3 : wr.cell? ⟨w.heap.size, 3, none⟩ = some (.slice a3 m.body.length cap3) := cell_of_row _ _ 3 _ _ _ HX.out
      have hos : out.size ≤ 65 := by have := HDS.out k hk; rw [HO.out]; omega
      by_cases hlt : k < m.params.length
      · obtain ⟨b, off, rfl, hbl, _, hce⟩ := hcell2 (by omega)
        have hck := (hbw.cell (p := ⟨b, off + k, none⟩) hbl).trans (hce k hlt)
        have hpk : m.params[k].size ≤ 12 := name_size ((macOk_facts HOK.out).2.1 k hlt)
        by_cases h0 : 0 < k
        · have h01 : (0 : Int) < (k : Int) := by omega
          have HN : Hid (out ++ ⟨#[44]⟩ ++ m.params[k] = hdTo m (k + 1)) := by show _ = _; rw [hdTo, dif_pos hlt, if_pos h0, HO.out]; rfl
          have ad1 := fun W => run_string_add_sum (P := Try.prog) W out (⟨#[44]⟩ : ByteArray) (by have : (⟨#[44]⟩ : ByteArray).size = 1 := rfl; omega)
          have ad2 := fun W => run_string_add_sum (P := Try.prog) W (out ++ (⟨#[44]⟩ : ByteArray)) m.params[k] (by rw [ByteArray.size_append]; have : (⟨#[44]⟩ : ByteArray).size = 1 := rfl; omega)
          clear hcell2 hce ad0
          go_wp2
          go_roundw
          case rel => exact ⟨k + 1, _, by omega, by go_num, rfl, HN, hb⟩
          case measure => simp [intOf]; omega
        · have h01 : ¬ (0 : Int) < (k : Int) := by omega
          have HN : Hid (out ++ m.params[k] = hdTo m (k + 1)) := by show _ = _; rw [hdTo, dif_pos hlt, if_neg h0, HO.out]
          have ad1 := fun W => run_string_add_sum (P := Try.prog) W out m.params[k] (by omega)
          clear hcell2 hce ad0
          go_wp2
          go_roundw
          case rel => exact ⟨k + 1, _, by omega, by go_num, rfl, HN, hb⟩
          case measure => simp [intOf]; omega
      · have hkl : k = m.params.length := by omega
        subst hkl
        obtain ⟨tx, HTX, ad9, hts⟩ := add_name out (⟨#[41]⟩ : ByteArray) (by have := one_size 41; omega)
        rw [one_size] at hts
        have HT : Hid (tx = headOf m) := by show _ = _; rw [HTX.out, HH.out, HO.out]; rfl
        clear hcell2 ad0
        by_cases h0 : 0 < m.body.length
        · have h01 : (0 : Int) < (m.body.length : Int) := by omega
          obtain ⟨u1, HU1, ad1, hu1⟩ := add_name tx (⟨#[32]⟩ : ByteArray) (by have := one_size 32; omega)
          obtain ⟨u2, HU2, ad2, hu2⟩ := add_name u1 (printRes m.body).1 (by have := one_size 32; omega)
          have HE : Hid (u2 = macOut m) := by show _ = _; rw [HU2.out, HU1.out, out_body h0, ← HT.out]; try simp only [ByteArray.append_assoc]
          clear hu1 hu2
          go_wp2_with fail
          refine (HPR.out _ hbw).mono ?_
          rintro e w9 ⟨rfl, hb9⟩
          have hB9 := hbw.trans (hb9.mono hbw.size)
          replace HX := Lib.hid ((hb9.block _ (Array.getElem?_eq_some_iff.1 HX.out).1).trans HX.out)
          have z3 : w9.cell? ⟨w.heap.size, 3, none⟩ = some (.slice a3 m.body.length cap3) := cell_of_row _ _ 3 _ _ _ HX.out
          cases hp : (printRes m.body).2
          · have HF := Lib.hid (mt_pr HOK.out hp)
            clear hp
            go_wp2
            go_ret2
            exact mtext_ret HF.out hB9
          · by_cases hbig : 200 < u2.size
            · have HF := Lib.hid (mt_long HOK.out (by rw [← HE.out]; exact hbig))
              clear hp
              go_wp2
              go_ret2
              exact mtext_ret HF.out hB9
            · have HF := Lib.hid (mt_yes HOK.out hp (by rw [← HE.out]; exact hbig))
              rw [← HE.out] at HF
              clear hp
              go_wp2
              go_ret2
              exact mtext_ret HF.out hB9
        · have h01 : ¬ (0 : Int) < (m.body.length : Int) := by omega
          have HE : Hid (tx = macOut m) := by show _ = _; rw [out_bare h0, ← HT.out]
          have HP0 := Lib.hid (printRes_nil h0)
          have hbig : ¬ 200 < tx.size := by omega
          have HF := Lib.hid (mt_yes HOK.out (by rw [HP0.out]) (by rw [← HE.out]; exact hbig))
          rw [← HE.out] at HF
          go_wp2_with fail
          refine (HPR.out _ hbw).mono ?_
          rintro e w9 ⟨rfl, hb9⟩
          have hB9 := hbw.trans (hb9.mono hbw.size)
          rw [HP0.out]
          replace HX := Lib.hid ((hb9.block _ (Array.getElem?_eq_some_iff.1 HX.out).1).trans HX.out)
          have z3 : w9.cell? ⟨w.heap.size, 3, none⟩ = some (.slice a3 m.body.length cap3) := cell_of_row _ _ 3 _ _ _ HX.out
          go_wp2
          go_ret2
          exact mtext_ret HF.out hB9

set_option maxHeartbeats 16000000 in
set_option maxRecDepth 100000 in
theorem impl_MacroText (cs : List Value) (m : DMacro) (fp : List Nat) (w : World) (H : sMacro.R w cs m fp) : Calls Try.prog 14 #[.agg cs.toArray] w (MText m w) := by
  have HV := Lib.hid (fun W (hW : Below w.heap.size w W) => impl_MacroValid _ _ _ W (sMacro.below H hW))
  obtain ⟨h2, h3, fp2, fp3, rfl, k0, K2, K3, rfl⟩ := H
  have HK2 := Lib.hid K2
  have HK3 := Lib.hid K3
  obtain ⟨a2, cap2, rfl, hc2, hm2, hcell2, hsz2⟩ := open_strs K2
  obtain ⟨a3, cap3, rfl, -⟩ := open_rows K3
  clear K2 K3
  unfold maxLen at hm2
  have hb0 := alloc_below' w (.cells #[.string m.name, .bool m.function, .slice a2 m.params.length cap2, .slice a3 m.body.length cap3] 26)
  have HX := Lib.hid (heap_alloc_new w (.cells #[.string m.name, .bool m.function, .slice a2 m.params.length cap2, .slice a3 m.body.length cap3] 26))
  cases hv : macOk m
  · rw [hv] at HV
    have HF := Lib.hid (mt_no hv)
    clear hv
    go_enter Try.func14, Try.ntmps14
    go_wp2_with (go_at_call 10; refine (HV.out _ hb0).mono ?_; rintro e w1 ⟨rfl, hb1⟩)
    go_ret2
    exact mtext_ret HF.out (hb0.trans (hb1.mono hb0.size))
  rw [hv] at HV
  have HOK := Lib.hid hv
  have HPR := Lib.hid (fun W (hW : Below w.heap.size w W) => impl_PrintTokens _ _ _ W ((sSlice sTok).below HK3.out hW))
  have hns : m.name.size ≤ 12 := name_size (macOk_facts hv).1.1
  have hps := printRes_size m.body
  have hpl := (macOk_facts hv).1.2.2.1
  have hjs := join_size hv
  have HJ := Lib.hid (fun W (hW : Below w.heap.size w W) => lib_Join _ m _ W hv ((sSlice sStr).below HK2.out hW))
  clear hv
  go_enter Try.func14, Try.ntmps14
  go_wp2_with fail
  refine (HV.out _ hb0).mono ?_
  rintro e w1 ⟨rfl, hb1⟩
  have hB1 := hb0.trans (hb1.mono hb0.size)
  replace HX := Lib.hid ((hb1.block _ (Array.getElem?_eq_some_iff.1 HX.out).1).trans HX.out)
  have q0 : w1.cell? ⟨w.heap.size, 0, none⟩ = some (.string m.name) := cell_of_row _ _ 0 _ _ _ HX.out
  have q1 : w1.cell? ⟨w.heap.size, 1, none⟩ = some (.bool m.function) := cell_of_row _ _ 1 _ _ _ HX.out
  have q2 : w1.cell? ⟨w.heap.size, 2, none⟩ = some (.slice a2 m.params.length cap2) := cell_of_row _ _ 2 _ _ _ HX.out
  have q3 : w1.cell? ⟨w.heap.size, 3, none⟩ = some (.slice a3 m.body.length cap3) := cell_of_row _ _ 3 _ _ _ HX.out
  clear hb0 hb1 HV
  clear hcell2 hsz2
  cases hf : m.function
  · rw [hf] at q1
    have HT := Lib.hid (head_no hf).symm
    clear hf
    by_cases h0 : 0 < m.body.length
    · have h01 : (0 : Int) < (m.body.length : Int) := by omega
      obtain ⟨u1, HU1, ad1, hu1⟩ := add_name (⟨#[32]⟩ : ByteArray) (printRes m.body).1 (by have := one_size 32; omega)
      obtain ⟨u2, HU2, ad2, hu2⟩ := add_name m.name u1 (by have := one_size 32; omega)
      have HE : Hid (u2 = macOut m) := by show _ = _; rw [HU2.out, HU1.out, out_body h0, ← HT.out]; try simp only [ByteArray.append_assoc]
      clear hu1 hu2
      go_wp2_with fail
      refine (HPR.out _ hB1).mono ?_
      rintro e w9 ⟨rfl, hb9⟩
      have hB9 := hB1.trans (hb9.mono hB1.size)
      replace HX := Lib.hid ((hb9.block _ (Array.getElem?_eq_some_iff.1 HX.out).1).trans HX.out)
      have z3 : w9.cell? ⟨w.heap.size, 3, none⟩ = some (.slice a3 m.body.length cap3) := cell_of_row _ _ 3 _ _ _ HX.out
      cases hp : (printRes m.body).2
      · have HF := Lib.hid (mt_pr HOK.out hp)
        clear hp
        go_wp2
        go_ret2
        exact mtext_ret HF.out hB9
      · by_cases hbig : 200 < u2.size
        · have HF := Lib.hid (mt_long HOK.out (by rw [← HE.out]; exact hbig))
          clear hp
          go_wp2
          go_ret2
          exact mtext_ret HF.out hB9
        · have HF := Lib.hid (mt_yes HOK.out hp (by rw [← HE.out]; exact hbig))
          rw [← HE.out] at HF
          clear hp
          go_wp2
          go_ret2
          exact mtext_ret HF.out hB9
    · have h01 : ¬ (0 : Int) < (m.body.length : Int) := by omega
      have HE : Hid (m.name = macOut m) := by show _ = _; rw [out_bare h0, ← HT.out]
      have HP0 := Lib.hid (printRes_nil h0)
      have hbig : ¬ 200 < m.name.size := by omega
      have HF := Lib.hid (mt_yes HOK.out (by rw [HP0.out]) (by rw [← HE.out]; exact hbig))
      rw [← HE.out] at HF
      go_wp2
      go_ret2
      exact mtext_ret HF.out hB1
  · rw [hf] at q1
    obtain ⟨u7, HU7, ad7, hu7⟩ := add_name (⟨#[40]⟩ : ByteArray) (joinB m) (by have := one_size 40; omega)
    rw [one_size] at hu7
    obtain ⟨u8, HU8, ad8, hu8⟩ := add_name u7 (⟨#[41]⟩ : ByteArray) (by have := one_size 41; omega)
    rw [one_size] at hu8
    obtain ⟨tx, HU9, ad9, hu9⟩ := add_name m.name u8 (by omega)
    have HT : Hid (tx = headOf m) := by show _ = _; rw [HU9.out, HU8.out, HU7.out, head_yes hf, hd_join]; show _ = m.name ++ (⟨#[40]⟩ : ByteArray) ++ joinB m ++ (⟨#[41]⟩ : ByteArray); simp only [ByteArray.append_assoc]
    have hts : tx.size ≤ 100 := by omega
    clear hf hu7 hu8 hu9
    go_wp2_with fail
    refine (HJ.out _ hB1).mono ?_
    rintro e w2 ⟨rfl, hb2⟩
    have hB2 := hB1.trans (hb2.mono hB1.size)
    replace HX := Lib.hid ((hb2.block _ (Array.getElem?_eq_some_iff.1 HX.out).1).trans HX.out)
    clear q0 q1 q2 q3
    have q3 : w2.cell? ⟨w.heap.size, 3, none⟩ = some (.slice a3 m.body.length cap3) := cell_of_row _ _ 3 _ _ _ HX.out
    by_cases h0 : 0 < m.body.length
    · have h01 : (0 : Int) < (m.body.length : Int) := by omega
      obtain ⟨u1, HU1, ad1, hu1⟩ := add_name (⟨#[32]⟩ : ByteArray) (printRes m.body).1 (by have := one_size 32; omega)
      obtain ⟨u2, HU2, ad2, hu2⟩ := add_name tx u1 (by have := one_size 32; omega)
      have HE : Hid (u2 = macOut m) := by show _ = _; rw [HU2.out, HU1.out, out_body h0, ← HT.out]; try simp only [ByteArray.append_assoc]
      clear hu1 hu2
      go_wp2_with fail
      refine (HPR.out _ hB2).mono ?_
      rintro e w9 ⟨rfl, hb9⟩
      have hB9 := hB2.trans (hb9.mono hB2.size)
      replace HX := Lib.hid ((hb9.block _ (Array.getElem?_eq_some_iff.1 HX.out).1).trans HX.out)
      have z3 : w9.cell? ⟨w.heap.size, 3, none⟩ = some (.slice a3 m.body.length cap3) := cell_of_row _ _ 3 _ _ _ HX.out
      cases hp : (printRes m.body).2
      · have HF := Lib.hid (mt_pr HOK.out hp)
        clear hp
        go_wp2
        go_ret2
        exact mtext_ret HF.out hB9
      · by_cases hbig : 200 < u2.size
        · have HF := Lib.hid (mt_long HOK.out (by rw [← HE.out]; exact hbig))
          clear hp
          go_wp2
          go_ret2
          exact mtext_ret HF.out hB9
        · have HF := Lib.hid (mt_yes HOK.out hp (by rw [← HE.out]; exact hbig))
          rw [← HE.out] at HF
          clear hp
          go_wp2
          go_ret2
          exact mtext_ret HF.out hB9
    · have h01 : ¬ (0 : Int) < (m.body.length : Int) := by omega
      have HE : Hid (tx = macOut m) := by show _ = _; rw [out_bare h0, ← HT.out]
      have HP0 := Lib.hid (printRes_nil h0)
      have hbig : ¬ 200 < tx.size := by omega
      have HF := Lib.hid (mt_yes HOK.out (by rw [HP0.out]) (by rw [← HE.out]; exact hbig))
      rw [← HE.out] at HF
      go_wp2
      go_ret2
      exact mtext_ret HF.out hB2

end Go.Proofs.Ytigbaeokccknaaa
