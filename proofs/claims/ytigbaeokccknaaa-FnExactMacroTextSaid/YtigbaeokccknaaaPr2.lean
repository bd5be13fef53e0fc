/- Whether two tokens need a space between them: the program and its model. -/
import Derived.Test.YtigbaeokccknaaaPr0
import Derived.Test.YtigbaeokccknaaaTokB
namespace Go.Proofs.Ytigbaeokccknaaa
open Go.RowKit

def begins (x y : UInt8) : Bool := decide (x.toNat = 47) && (decide (y.toNat = 47) || decide (y.toNat = 42))
theorem meets_begins {a b : ByteArray} (ha : 0 < a.size) (hb : 0 < b.size) : meets a b = begins (a[a.size - 1]'(by omega)) b[0] := by
  unfold meets; rw [dif_pos ⟨ha, hb⟩]; rfl

set_option maxHeartbeats 1000000 in
theorem impl_beginsComment (x y : UInt8) (w : World) :
    Calls Try.prog 90 #[.int .u8 x.toNat, .int .u8 y.toNat] w fun e w' => e = .returned (.bool (begins x y)) ∧ w' = w := by
  by_cases hx : x.toNat = 47
  · have q1 : ((x.toNat : Int) == 47) = true := by simp; omega
    by_cases hy : y.toNat = 47
    · have q2 : ((y.toNat : Int) == 47) = true := by simp; omega
      have HF : Hid (begins x y = true) := by simp [Hid, begins, hx, hy]
      clear hx hy
      go_enter Try.func90, Try.ntmps90
      go_wp2
      go_ret
      exact ⟨ret_bool HF.out.symm, rfl⟩
    · have q2 : ((y.toNat : Int) == 47) = false := by simp; omega
      by_cases hz : y.toNat = 42
      · have q3 : ((y.toNat : Int) == 42) = true := by simp; omega
        have HF : Hid (begins x y = true) := by simp [Hid, begins, hx, hz]
        clear hx hy hz
        go_enter Try.func90, Try.ntmps90
        go_wp2
        go_ret
        exact ⟨ret_bool HF.out.symm, rfl⟩
      · have q3 : ((y.toNat : Int) == 42) = false := by simp; omega
        have HF : Hid (begins x y = false) := by simp [Hid, begins, hy, hz]
        clear hx hy hz
        go_enter Try.func90, Try.ntmps90
        go_wp2
        go_ret
        exact ⟨ret_bool HF.out.symm, rfl⟩
  · have q1 : ((x.toNat : Int) == 47) = false := by simp; omega
    have HF : Hid (begins x y = false) := by simp [Hid, begins, hx]
    clear hx
    go_enter Try.func90, Try.ntmps90
    go_wp2
    go_ret
    exact ⟨ret_bool HF.out.symm, rfl⟩

theorem run_lastB (P : Program) (t : TypeId) (s : ByteArray) (h : P.underlying t = some .string) (h0 : 0 < s.size) (W : World) :
    (Instr.index t (.string s) (.int .i64 ((s.size : Int) - 1))).run P W = .ok (.int .u8 ((s[s.size - 1]'(by omega)).toNat : Int)) W := by
  rw [run_index_string W t s .i64 _ h, dif_pos (by omega)]
  congr 4
  congr 1
  omega

/-- A literal of structs, as a slice. -/
theorem lit_row {α : Type} {S : Shape α} {w : World} {e : TypeId} (L : List (Elem α)) (hlen : ∀ x ∈ L, x.cells.length = S.m) (hR : ∀ x ∈ L, S.R w x.cells x.d x.fp) (hn : L.length ≤ maxLen) :
    ∃ fp, (sSlice S).R (w.alloc (.cells (L.flatMap (·.cells)).toArray e)) [.slice (some ⟨w.heap.size, 0, none⟩) L.length L.length] (L.map (·.d)) fp := by
  have h := World.ownsRow_lit (base := w.heap.size) (e := e) (size := S.m) w (L.flatMap (·.cells)).toArray L.length (Nat.le_refl _) hn (by simpa using flatMap_len hlen)
  obtain ⟨fp, h1, _⟩ := slice_of_row h fun x hx => ⟨hlen x hx, S.below (hR x hx) (alloc_below' _ _)⟩
  exact ⟨fp, h1⟩

/-- What is asked of two tokens, before their texts meet. -/
def needBy (a b : Tok) (ok : Bool) (l : List Tok) : Bool := !ok || !sameTx l [a, b]
theorem need_meets {a b : Tok} (h : meets a.text b.text = true) : glued a.text b.text = true := by unfold glued; rw [h, Bool.or_true]
theorem need_no {a b : Tok} (ha : tokOk a = true) (hb : tokOk b = true) {l : List Tok} (h : meets a.text b.text = false) (hr : tokRes (a.text ++ b.text) = (l, false)) : glued a.text b.text = true := by
  have := glued_same ha hb
  rw [hr] at this
  unfold glued
  rw [← this, h]; rfl
theorem need_yes {a b : Tok} (ha : tokOk a = true) (hb : tokOk b = true) {l : List Tok} (h : meets a.text b.text = false) (hr : tokRes (a.text ++ b.text) = (l, true)) : glued a.text b.text = !sameTx l [a, b] := by
  have := glued_same ha hb
  rw [hr] at this
  unfold glued
  rw [← this, h]; simp

set_option maxHeartbeats 4000000 in
set_option maxRecDepth 100000 in
theorem impl_needSpace (cs1 cs2 : List Value) (a b : Tok) (fp1 fp2 : List Nat) (w : World) (H1 : sTok.R w cs1 a fp1) (H2 : sTok.R w cs2 b fp2) (ha : tokOk a = true) (hb : tokOk b = true) :
    Calls Try.prog 71 #[.agg cs1.toArray, .agg cs2.toArray] w (Says (glued a.text b.text) w) := by
  obtain ⟨⟨ha0, -⟩, ha2⟩ := tokOk_facts ha
  obtain ⟨⟨hb0, -⟩, hb2⟩ := tokOk_facts hb
  have HM := meets_begins ha0 hb0
  have hwl : IntKind.i64.wrap ((a.text.size : Int) - 1) = (a.text.size : Int) - 1 := IntWalk.i64_in _ (by omega)
  have hix := run_lastB Try.prog 9 a.text Try.underlying9 ha0
  have hi1 : (0 : Int) ≤ (a.text.size : Int) - 1 := by omega
  have hi2 : (0 : Int) < (b.text.size : Int) := by omega
  have HC := fun W => impl_beginsComment (a.text[a.text.size - 1]'(by omega)) b.text[0] W
  rw [← HM] at HC
  have HT : Hid (∀ W, Calls Try.prog 16 #[.string (a.text ++ b.text)] W (TokMade (tokRes (a.text ++ b.text)) W)) := fun W => impl_TokensOf (a.text ++ b.text) W (by rw [ByteArray.size_append]; unfold maxLen; omega)
  have hadd := fun W => run_string_add_sum (P := Try.prog) W a.text b.text (by omega)
  have R1 := H1
  have R2 := H2
  obtain ⟨h1, rfl, -, -, K1⟩ := H1
  obtain ⟨h2, rfl, -, -, K2⟩ := H2
  obtain ⟨a1, cap1, rfl, -⟩ := open_rows K1
  obtain ⟨a2, cap2, rfl, -⟩ := open_rows K2
  clear K1 K2 HM
  have b1 := alloc_below' w (.cells #[.int .i64 a.kind, .string a.text, .bool a.spaced, .slice a1 a.hidden.length cap1] 60)
  have b2 := b1.trans ((alloc_below' (w.alloc (.cells #[.int .i64 a.kind, .string a.text, .bool a.spaced, .slice a1 a.hidden.length cap1] 60)) (.cells #[.int .i64 b.kind, .string b.text, .bool b.spaced, .slice a2 b.hidden.length cap2] 60)).mono b1.size)
  cases hm : meets a.text b.text
  · rw [hm] at HC
    rcases hr : tokRes (a.text ++ b.text) with ⟨l, ok⟩
    rw [hr] at HT
    cases ok
    · have HF := Lib.hid (need_no ha hb hm hr)
      clear hm hr ha hb R1 R2
      go_enter Try.func71, Try.ntmps71
      go_wp2
      go_quiet (first | (go_at_call 90; refine Calls.quiet_of_same (HC _)))
      go_wp2_with (go_at_call 16; refine (HT.out _).mono ?_; rintro e w' ⟨v, fp, rfl, hR, hO, hB⟩)
      go_ret
      exact ⟨ret_bool HF.out.symm, (belowN b2 nq).trans (hB.mono (belowN b2 nq).size)⟩
    · have HF := Lib.hid (need_yes ha hb hm hr)
      clear hm hr ha hb
      have HX := Lib.hid (alloc2_blk w #[.int .i64 a.kind, .string a.text, .bool a.spaced, .slice a1 a.hidden.length cap1] #[.int .i64 b.kind, .string b.text, .bool b.spaced, .slice a2 b.hidden.length cap2] 60 60)
      go_enter Try.func71, Try.ntmps71
      go_wp2
      go_quiet (first | (go_at_call 90; refine Calls.quiet_of_same (HC _)))
      go_wp2_with fail
      refine (HT.out _).mono ?_
      rintro e w3 ⟨v, fp, rfl, hR, hO, hB⟩
      have hbel := (belowN b2 nq).trans (hB.mono (belowN b2 nq).size)
      have HY := Lib.hid (And.intro ((hB.block _ (Array.getElem?_eq_some_iff.1 HX.out.1).1).trans HX.out.1) ((hB.block _ (Array.getElem?_eq_some_iff.1 HX.out.2).1).trans HX.out.2))
      have q0 : w3.cell? ⟨w.heap.size, 0, none⟩ = some (.int .i64 a.kind) := cell_of_row _ _ 0 _ _ _ HY.out.1
      have q1 : w3.cell? ⟨w.heap.size, 1, none⟩ = some (.string a.text) := cell_of_row _ _ 1 _ _ _ HY.out.1
      have q2 : w3.cell? ⟨w.heap.size, 2, none⟩ = some (.bool a.spaced) := cell_of_row _ _ 2 _ _ _ HY.out.1
      have q3 : w3.cell? ⟨w.heap.size, 3, none⟩ = some (.slice a1 a.hidden.length cap1) := cell_of_row _ _ 3 _ _ _ HY.out.1
      have p0 : w3.cell? ⟨w.heap.size + 1, 0, none⟩ = some (.int .i64 b.kind) := cell_of_row _ _ 0 _ _ _ HY.out.2
      have p1 : w3.cell? ⟨w.heap.size + 1, 1, none⟩ = some (.string b.text) := cell_of_row _ _ 1 _ _ _ HY.out.2
      have p2 : w3.cell? ⟨w.heap.size + 1, 2, none⟩ = some (.bool b.spaced) := cell_of_row _ _ 2 _ _ _ HY.out.2
      have p3 : w3.cell? ⟨w.heap.size + 1, 3, none⟩ = some (.slice a2 b.hidden.length cap2) := cell_of_row _ _ 3 _ _ _ HY.out.2
      obtain ⟨fpl, HL⟩ := lit_row (S := sTok) (w := w3) (e := 60) [⟨[.int .i64 a.kind, .string a.text, .bool a.spaced, .slice a1 a.hidden.length cap1], a, fp1⟩, ⟨[.int .i64 b.kind, .string b.text, .bool b.spaced, .slice a2 b.hidden.length cap2], b, fp2⟩] (by simp [sTok]) (by
        intro x hx
        rcases List.mem_cons.1 hx with rfl | hx
        · exact sTok.below R1 hbel
        · obtain rfl := List.mem_singleton.1 hx
          exact sTok.below R2 hbel) (by simp [maxLen])
      have HC2 : Hid (Calls Try.prog 19 #[v, .slice (some ⟨w3.heap.size, 0, none⟩) 2 2] (w3.alloc (.cells #[.int .i64 a.kind, .string a.text, .bool a.spaced, .slice a1 a.hidden.length cap1, .int .i64 b.kind, .string b.text, .bool b.spaced, .slice a2 b.hidden.length cap2] 60)) (Says (sameTx l [a, b]) (w3.alloc (.cells #[.int .i64 a.kind, .string a.text, .bool a.spaced, .slice a1 a.hidden.length cap1, .int .i64 b.kind, .string b.text, .bool b.spaced, .slice a2 b.hidden.length cap2] 60)))) :=
        impl_SameTexts _ _ _ _ _ _ _ ((sSlice sTok).below hR (alloc_below' _ _)) HL
      have b4 := hbel.trans ((alloc_below' w3 (.cells #[.int .i64 a.kind, .string a.text, .bool a.spaced, .slice a1 a.hidden.length cap1, .int .i64 b.kind, .string b.text, .bool b.spaced, .slice a2 b.hidden.length cap2] 60)).mono hbel.size)
      clear hR hO hB R1 R2 HL HT HC hadd hix
      go_wp2_with fail
      refine (HC2.out).mono ?_
      rintro e w5 ⟨rfl, b5⟩
      go_wp2
      go_ret
      exact ⟨ret_bool (by rw [HF.out]), b4.trans (b5.mono b4.size)⟩
  · have HF := Lib.hid (need_meets hm)
    rw [hm] at HC
    clear hm R1 R2 HT ha hb
    go_enter Try.func71, Try.ntmps71
    go_wp2
    go_quiet (first | (go_at_call 90; refine Calls.quiet_of_same (HC _)))
    go_wp2
    go_ret
    exact ⟨ret_bool HF.out.symm, belowN b2 nq⟩

end Go.Proofs.Ytigbaeokccknaaa
