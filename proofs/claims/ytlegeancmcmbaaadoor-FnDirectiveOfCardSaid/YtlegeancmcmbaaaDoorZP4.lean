/- Texts that the proof of P stands on, in one file. -/
import Derived.Test.YtlegeancmcmbaaaDoorZP3
import Derived.Test.YtlegeancmcmbaaaDoorZP2
import Derived.Outline
import Derived.Deep.Fields
import Derived.ChangeSame
import Derived.Lib.SmallJoins
import Derived.Deep.RegionHeld3
import Derived.Deep.QuietTactic
import Derived.BigQuiet
import Derived.StillTailTactics
import Derived.IntWalk
import Derived.Laws.Strings2
import Derived.Laws.Concat
import Derived.Test.YtlegeancmcmbaaaDoorShelf
set_option linter.unusedVariables false
set_option linter.unusedSimpArgs false
/- Tokens in memory. -/
namespace Go.Proofs.YtlegeancmcmbaaaDoor
open Go.RowKit Go.ChangeShapes Go.WideShapes Go.Deep Go.Joins

def sTok : Shape Tok where
 m := 4
 R w cs d fp := ∃ h, cs = [.int .i64 d.kind, .string d.text, .bool d.spaced, h] ∧ okInt d.kind ∧ okStr d.text ∧ (sSlice sStr).R w [h] d.hidden fp
 frame := by
  rintro w w' cs d fp hf ⟨h, h1, h2, h3, h4⟩
  exact ⟨h, h1, h2, h3, (sSlice sStr).frame hf h4⟩
 lt := by
  rintro w cs d fp ⟨h, h1, h2, h3, h4⟩
  exact (sSlice sStr).lt h4

theorem ti_tok : TI Tryd.prog 28 47 (.agg #[.int .i64 0, .string ⟨#[]⟩, .bool false, .slice none 0 0]) 4 56 := ⟨by kernel_rfl, by kernel_rfl⟩

def freshCells (t : Tok) : List Value := [.int .i64 t.kind, .string t.text, .bool t.spaced, .slice none 0 0]
def TokRow (base : Nat) (v : Value) (l : List Tok) (w : World) : Prop := w.ownsRow base 47 4 v l.length (l.flatMap freshCells)
theorem TokRow.nil (base : Nat) (w : World) : TokRow base (.slice none 0 0) [] w := World.ownsRow_nil _ _ _ _
theorem TokRow.drew {base : Nat} {v : Value} {l : List Tok} {w : World} (h : TokRow base v l w) (n : Nat) : TokRow base v l (w.drewN n) := h
theorem TokRow.slice {base : Nat} {v : Value} {l : List Tok} {w : World} (h : TokRow base v l w) : ∃ a cap, v = .slice a l.length cap ∧ cap ≤ maxLen := by
 rcases h.2 with ⟨rfl, h0⟩ | ⟨g, cap, cur, rfl, _, _, _, hc, _⟩
 ·exact ⟨none, 0, by rw [h0], by simp⟩
 ·exact ⟨_, cap, rfl, hc⟩
theorem TokRow.mine {base : Nat} {v : Value} {l : List Tok} {w : World} (h : TokRow base v l w) : ∀ b, v.ownBlock = some b → base ≤ b := fun b hb => (h.lt b hb).1
theorem wp_append_tok {w0 : World} {ops : Array Oper} {rest : List Oper} {o : Oper} {a : Act} {Q : Exit → Act → World → Prop} (hg : o.guard = none) (s y : Operand)
  (ho : o.op = .call { callee := .builtin .append, args := #[s, y], argTypes := #[28, 28] })
  (base : Nat) (v : Value) (l : List Tok) (k : Int) (x : ByteArray) (b : Bool) (hs : a.eval s = v) (hown : TokRow base v l w0) (hy : a.eval y = .slice (some ⟨w0.heap.size, 0, none⟩) 1 1) (h63 : l.length ≤ 1000000) (hbase : base ≤ w0.heap.size)
  (h : ∀ v' w', TokRow base v' (l ++ [⟨k, x, b, []⟩]) w' → w0.grownBy w' v.ownBlock → wpList Tryd.prog ops Q rest (a.put o.dst v') w') : wpList Tryd.prog ops Q (o :: rest) a (w0.alloc (.cells #[.int .i64 k, .string x, .bool b, .slice none 0 0] 47)) := by
 refine wp_append_cells ti_tok rfl (by decide) w0 (l.flatMap freshCells) [.int .i64 k, .string x, .bool b, .slice none 0 0] rfl (by simp [Value.oneCell']) hg s y ho base v l.length hs hown hy (by unfold maxLen; omega) (by omega) hbase fun v' w' h1 h2 => h v' w' ?_ h2
 unfold TokRow
 rw [List.length_append, List.flatMap_append]
 exact h1
theorem own_toks {w : World} {base : Nat} {v : Value} {l : List Tok} {B : Nat} (h : TokRow base v l w) (hf : Fresh B l) (hB : B ≤ 1000000) :
  ∃ fp, (sSlice sTok).R w [v] l fp ∧ Own w base fp ∧ ∀ b ∈ fp, v.ownBlock = some b := by
 have hL : (l.map fun t => (⟨freshCells t, t, []⟩ : Elem Tok)).flatMap (·.cells) = l.flatMap freshCells := by rw [List.flatMap_map]
 have hF : (l.map fun t => (⟨freshCells t, t, []⟩ : Elem Tok)).flatMap (·.fp) = [] := by rw [List.flatMap_map]; simp
 have hD : (l.map fun t => (⟨freshCells t, t, []⟩ : Elem Tok)).map (·.d) = l := by rw [List.map_map]; exact List.map_id _
 obtain ⟨fp, h1, h2, h3⟩ := slice_of_row (S := sTok) (w := w) (base := base) (e := 47) (v := v) (L := l.map fun t => ⟨freshCells t, t, []⟩) (by rw [hL, List.length_map]; exact h) (by
  intro x hx
  obtain ⟨t, ht, rfl⟩ := List.mem_map.1 hx
  obtain ⟨a1, a2, a3, a4⟩ := hf t ht
  have b1 : okInt t.kind := ⟨by omega, by omega⟩
  have b2 : okStr t.text := by unfold okStr maxLen; omega
  have b3 : (sSlice sStr).R w [.slice none 0 0] t.hidden [] := by rw [a2]; exact slice_empty sStr w none 0 (by simp)
  exact ⟨rfl, _, rfl, b1, b2, b3⟩)
 rw [hD] at h1
 rw [hF] at h2 h3
 exact ⟨fp, h1, h3 (Own.nil _ _) (by simp), fun b hb => by rcases h2 b hb with h | h; exact h; simp at h⟩

def TokMade (r : List Tok × Bool) (w : World) (e : Ending) (w' : World) : Prop :=
 ∃ v fp, e = .returned (.tuple #[v, .bool r.2]) ∧ (sSlice sTok).R w' [v] r.1 fp ∧ Own w' w.heap.size fp ∧ Below w.heap.size w w'

section
variable {H : Type} {enc : TypeId × Value → H} {P : Program} {w : World} {base : Nat} {spare : Nat → Bool} {held : Bool}
end

end Go.Proofs.YtlegeancmcmbaaaDoor

/- Tokens and the law's own helpers. -/
namespace Go.Proofs.YtlegeancmcmbaaaDoor
open Go.RowKit
end Go.Proofs.YtlegeancmcmbaaaDoor

/- How many tokens there are: no program. -/
namespace Go.Proofs.YtlegeancmcmbaaaDoor
open Go.RowKit

theorem toks_all (s : ByteArray) : ∀ (k : Nat) (sp : Bool) (n : Nat) (l : List Tok), toks s k sp n = some l → n ≤ 60 → n + l.length ≤ 60 ∧ ∀ t ∈ l, t.hidden = [] := by
 intro k sp n
 induction k, sp, n using toks.induct (s := s) with
 |
  case1 k sp n hk h32 ih =>
  intro l h hn
  rw [toks, dif_pos hk, if_pos h32] at h
  exact ih l h hn
 |
  case2 k sp n hk h32 hb =>
  intro l h hn
  rw [toks, dif_pos hk, if_neg h32, if_pos hb] at h
  exact absurd h (by simp)
 |
  case3 k sp n hk h32 hb ih =>
  intro l h hn
  rw [toks, dif_pos hk, if_neg h32, if_neg hb] at h
  rw [Option.map_eq_some_iff] at h
  obtain ⟨l', h1, rfl⟩ := h
  obtain ⟨a, b⟩ := ih l' h1 (by omega)
  refine ⟨by simp only [List.length_cons]; omega, fun t ht => ?_⟩
  rcases List.mem_cons.1 ht with rfl | ht
  ·rfl
  ·exact b t ht
 |
  case4 k sp n hk =>
  intro l h hn
  rw [toks, dif_neg hk] at h
  simp only [Option.some.injEq] at h
  subst h; simp; exact hn
theorem tokRes_all (s : ByteArray) : (tokRes s).1.length ≤ 60 ∧ ∀ t ∈ (tokRes s).1, t.hidden = [] := by
 rcases hr : tokRes s with ⟨l, ok⟩
 cases ok
 ·obtain rfl := tokRes_false hr
  simp
 ·obtain ⟨h1, _⟩ := tokRes_true hr
  have := toks_all s 0 false 0 l h1 (by omega)
  exact ⟨by simpa using this.1, this.2⟩
end Go.Proofs.YtlegeancmcmbaaaDoor

/- StripComments of the model: the places behind comments and texts, and the whole. -/
namespace Go.Proofs.YtlegeancmcmbaaaDoor
open Go.RowKit

theorem run_cut (s : ByteArray) (i j : Int) (a b : Nat) (hi : i = a) (hj : j = b) (h : a ≤ b) (h2 : b ≤ s.size) (W : World) :
  (Instr.slice 9 (.string s) (some (.int .i64 i)) (some (.int .i64 j)) none).run Tryd.prog W = .ok (.string (s.extract a b)) W := by
 subst hi; subst hj
 rw [run_slice_string W 9 s .i64 .i64 a b Tryd.underlying9 (by omega) (by omega) (by omega)]
 simp
theorem ret_int {a b : Int} (h : a = b) : Ending.returned (.int .i64 a) = .returned (.int .i64 b) := by rw [h]

set_option maxHeartbeats 400000 in
theorem spec_l2Text (s : ByteArray) (k0 : Nat) (w : World) (hs : s.size ≤ 1000000) (hk0 : k0 < s.size) :
  Calls Tryd.prog 61 #[.string s, .int .i64 k0] w fun e w' => e = .returned (.int .i64 (tEnd s (k0 + 1) : Nat)) ∧ w' = w := by
 go_enter Tryd.func61, Tryd.ntmps61
 go_wp2
 go_loop [5] (fun i => ∃ k : Nat, k ≤ s.size + 1 ∧ i = .int .i64 k ∧ tEnd s k = tEnd s (k0 + 1)) (fun i => s.size + 1 - (intOf i).toNat)
 case atStart => exact ⟨k0 + 1, by omega, by go_num, rfl⟩
 case round =>
  obtain ⟨k, hk, rfl, he⟩ := hrel
  by_cases hlt : k < s.size
  ·by_cases h34 : s[k].toNat = 34
   ·have HF := Lib.hid ((tEnd_quote hlt h34).symm.trans he)
    have h34' : ((s[k].toNat : Int) != 34) = false := by simp; omega
    clear he
    go_wp2
    all_goals (go_ret; exact ⟨ret_int (by have := HF.out; omega), rfl⟩)
   ·have h34' : ((s[k].toNat : Int) != 34) = true := by simp; omega
    by_cases h92 : s[k].toNat = 92
    ·have HF := Lib.hid ((tEnd_back hlt h92).symm.trans he)
     have h92' : ((s[k].toNat : Int) == 92) = true := by simp; omega
     clear he
     go_wp2
     go_round
     case rel => exact ⟨k + 2, by omega, by go_num, HF.out⟩
     case measure => simp [intOf]; omega
    ·have HF := Lib.hid ((tEnd_else hlt h34 h92).symm.trans he)
     have h92' : ((s[k].toNat : Int) == 92) = false := by simp; omega
     clear he
     go_wp2
     go_round
     case rel => exact ⟨k + 1, by omega, by go_num, HF.out⟩
     case measure => simp [intOf]; omega
  ·have HF := Lib.hid ((tEnd_out (s := s) (k := k) (by omega)).symm.trans he)
   clear he
   go_wp2
   all_goals (go_ret; exact ⟨ret_int (by have := HF.out; omega), rfl⟩)

set_option maxHeartbeats 400000 in
theorem spec_l2Open (s : ByteArray) (k0 : Nat) (w : World) (hs : s.size ≤ 1000000) (hk0 : k0 < s.size) :
  Calls Tryd.prog 60 #[.string s, .int .i64 k0] w fun e w' => e = .returned (.int .i64 (cEnd s (k0 + 2))) ∧ w' = w := by
 go_enter Tryd.func60, Tryd.ntmps60
 go_wp2
 go_loop [5] (fun i => ∃ k : Nat, k0 + 2 ≤ k ∧ k ≤ s.size + 1 ∧ i = .int .i64 k ∧ NoEnd s (k0 + 2) k) (fun i => s.size + 1 - (intOf i).toNat)
 case atStart => exact ⟨k0 + 2, by omega, by omega, by go_num, NoEnd.zero _ _⟩
 case round =>
  obtain ⟨k, hk1, hk, rfl, hno⟩ := hrel
  by_cases hlt : k + 1 < s.size
  ·have hx := ext_two s k 42 47
   have hsl := run_cut s (k : Int) ((k : Int) + 2) k (k + 2) rfl (by omega) (by omega) (by omega)
   cases h2 : two s k 42 47
   ·rw [h2] at hx
    have HN := Lib.hid (hno.succ h2)
    clear hno h2
    go_wp2
    go_round
    case rel => exact ⟨k + 1, by omega, by omega, by go_num, HN.out⟩
    case measure => simp [intOf]; omega
   ·rw [h2] at hx
    have HF := Lib.hid (hno.hit hk1 h2)
    clear hno h2
    go_wp2
    go_ret
    exact ⟨ret_int (by have := HF.out; omega), rfl⟩
  ·have HF := Lib.hid (hno.miss (by omega))
   clear hno
   go_wp2
   go_ret
   exact ⟨ret_int (by have := HF.out; omega), rfl⟩

set_option maxHeartbeats 400000 in
theorem impl_behindText (s : ByteArray) (k0 : Nat) (w : World) (hs : s.size ≤ 1000000) (hk0 : k0 < s.size) :
  Calls Tryd.prog 57 #[.string s, .int .i64 k0] w fun e w' => e = .returned (.int .i64 (tEnd s (k0 + 1) : Nat)) ∧ w' = w := by
 go_enter Tryd.func57, Tryd.ntmps57
 go_wp2
 go_loop [5] (fun i => ∃ k : Nat, k ≤ s.size + 1 ∧ i = .int .i64 k ∧ tEnd s k = tEnd s (k0 + 1)) (fun i => s.size + 1 - (intOf i).toNat)
 case atStart => exact ⟨k0 + 1, by omega, by go_num, rfl⟩
 case round =>
  obtain ⟨k, hk, rfl, he⟩ := hrel
  by_cases hlt : k < s.size
  ·by_cases h34 : s[k].toNat = 34
   ·have HF := Lib.hid ((tEnd_quote hlt h34).symm.trans he)
    have h34' : ((s[k].toNat : Int) == 34) = true := by simp; omega
    have h92' : ((s[k].toNat : Int) == 92) = false := by simp; omega
    clear he
    go_wp2
    go_ret
    exact ⟨ret_int (by have := HF.out; omega), rfl⟩
   ·have h34' : ((s[k].toNat : Int) == 34) = false := by simp; omega
    by_cases h92 : s[k].toNat = 92
    ·have HF := Lib.hid ((tEnd_back hlt h92).symm.trans he)
     have h92' : ((s[k].toNat : Int) == 92) = true := by simp; omega
     clear he
     go_wp2
     go_round
     case rel => exact ⟨k + 2, by omega, by go_num, HF.out⟩
     case measure => simp [intOf]; omega
    ·have HF := Lib.hid ((tEnd_else hlt h34 h92).symm.trans he)
     have h92' : ((s[k].toNat : Int) == 92) = false := by simp; omega
     clear he
     go_wp2
     go_round
     case rel => exact ⟨k + 1, by omega, by go_num, HF.out⟩
     case measure => simp [intOf]; omega
  ·have HF := Lib.hid ((tEnd_out (s := s) (k := k) (by omega)).symm.trans he)
   clear he
   go_wp2
   go_ret
   exact ⟨ret_int (by have := HF.out; omega), rfl⟩

def Ways (s : ByteArray) (k : Nat) (out : ByteArray) (hk : k < s.size) : Prop :=
 (two s k 47 47 = true ∧ Hid (strip1 s 0 = some out)) ∨
 (two s k 47 47 = false ∧ two s k 47 42 = true ∧ cEnd s (k + 2) < 0 ∧ Hid (strip1 s 0 = none)) ∨
 (∃ c : Nat, two s k 47 47 = false ∧ two s k 47 42 = true ∧ cEnd s (k + 2) = c ∧ k < c ∧ c ≤ s.size ∧ Hid (At1 s c (out ++ ⟨#[32]⟩))) ∨
 (∃ t : Nat, two s k 47 47 = false ∧ two s k 47 42 = false ∧ ((s[k].toNat : Int) == 34) = true ∧ tEnd s (k + 1) = t ∧ k < t ∧ t ≤ s.size ∧ Hid (At1 s t (out ++ s.extract k t))) ∨
 (two s k 47 47 = false ∧ two s k 47 42 = false ∧ ((s[k].toNat : Int) == 34) = false ∧ Hid (At1 s (k + 1) (out ++ s.extract k (k + 1))))
theorem ways {s : ByteArray} {k : Nat} {out : ByteArray} (hat : At1 s k out) (hk : k < s.size) : Ways s k out hk := by
 unfold Ways
 cases h1 : two s k 47 47
 ·cases h2 : two s k 47 42
  ·by_cases h3 : s[k].toNat = 34
   ·have hb := tEnd_bounds s (k + 1)
    have := hb.2 (by omega)
    exact .inr (.inr (.inr (.inl ⟨_, rfl, rfl, by simp; omega, rfl, by omega, by omega, hat.text hk h1 h2 h3⟩)))
   ·exact .inr (.inr (.inr (.inr ⟨rfl, rfl, by simp; omega, hat.byte hk h1 h2 h3⟩)))
  ·by_cases h3 : cEnd s (k + 2) < 0
   ·exact .inr (.inl ⟨rfl, rfl, h3, hat.open_ hk h1 h2 h3⟩)
   ·have := cEnd_room (s := s) (k := k + 2) (by omega) (by have := two_room h2; omega)
    exact .inr (.inr (.inl ⟨(cEnd s (k + 2)).toNat, rfl, rfl, by omega, by omega, by omega, hat.comment hk h1 h2 h3⟩))
 ·exact .inl ⟨rfl, hat.line hk h1⟩

set_option maxHeartbeats 4000000 in
set_option maxRecDepth 100000 in
theorem spec_StripComments (s : ByteArray) (w : World) (hs : s.size ≤ maxLen) :
  Calls Tryd.prog 36 #[.string s] w fun e w' => e = .returned (.tuple #[.string (stripRes s).1, .bool (stripRes s).2]) ∧ Below w.heap.size w w' := by
 have hm := hs
 unfold maxLen at hm
 cases h0 : lineOk s
 ·have HF := Lib.hid (stripRes_bad h0)
  go_enter Tryd.func36, Tryd.ntmps36
  go_wp2_with (go_at_call 59; refine (spec_LineValid _ _ hs).mono ?_; rw [h0]; rintro e w' ⟨rfl, rfl⟩)
  go_ret2
  exact ⟨ret_two HF.out, Below.refl _ _⟩
 have hsz := lineOk_size h0
 have H0 := Lib.hid h0
 go_enter Tryd.func36, Tryd.ntmps36
 go_wp2_with (go_at_call 59; refine (spec_LineValid _ _ hs).mono ?_; rw [h0]; rintro e w' ⟨rfl, rfl⟩)
 clear h0
 go_loopw [4, 5] (fun o i wr => ∃ (k : Nat) (out : ByteArray), k ≤ s.size ∧ o = .string out ∧ i = .int .i64 k ∧ At1 s k out ∧ ∃ n, wr = w.drewN n) (fun _ i _ => s.size - (intOf i).toNat)
 case atStart => exact ⟨0, ⟨#[]⟩, by omega, rfl, rfl, At1.zero s, 0, rfl⟩
 case round =>
  obtain ⟨k, out, hk, rfl, rfl, hat, n, rfl⟩ := hrel
  have ho : out.size ≤ 200 := by have := hat.2; omega
  by_cases hlt : k < s.size
  ·have hw := ways hat hlt
   clear hat
   have e1 := ext_two s k 47 47
   have e2 := ext_two s k 47 42
   have hr : ((k : Int) + 2 < (s.size : Int) ∧ min (s.size : Int) ((k : Int) + 2) = (k : Int) + 2 ∧ ∀ W, (Instr.slice 9 (.string s) (some (.int .i64 (k : Int))) (some (.int .i64 ((k : Int) + 2))) none).run Tryd.prog W = .ok (.string (s.extract k (k + 2))) W) ∨
     (¬ (k : Int) + 2 < (s.size : Int) ∧ min (s.size : Int) ((k : Int) + 2) = (s.size : Int) ∧ ∀ W, (Instr.slice 9 (.string s) (some (.int .i64 (k : Int))) (some (.int .i64 (s.size : Int))) none).run Tryd.prog W = .ok (.string (s.extract k (k + 2))) W) := by
    by_cases h : (k : Int) + 2 < (s.size : Int)
    ·exact .inl ⟨h, by omega, fun W => run_cut s _ _ k (k + 2) rfl (by omega) (by omega) (by omega) W⟩
    ·refine .inr ⟨h, by omega, fun W => ?_⟩
     rw [run_cut s _ _ k s.size rfl rfl (by omega) (by omega) W, ← ext_min, Nat.min_eq_left (by omega)]
   rcases hw with ⟨h1, HF⟩ | ⟨h1, h2, h3, HF⟩ | ⟨c, h1, h2, h3, h4, h5, HN⟩ | ⟨c, h1, h2, h3, h6, h4, h5, HN⟩ | ⟨h1, h2, h3, HN⟩
   ·rw [h1] at e1
    have HR := Lib.hid (stripRes_some H0.out HF.out)
    clear h1 e2
    rcases hr with ⟨hr, hmn, hsl⟩ | ⟨hr, hmn, hsl⟩ <;>
    ·go_wp2
     go_ret2
     exact ⟨ret_two HR.out, belowN (Below.refl _ _) n⟩
   ·rw [h1] at e1
    rw [h2] at e2
    have HR := Lib.hid (stripRes_none HF.out)
    clear h1 h2
    rcases hr with ⟨hr, hmn, hsl⟩ | ⟨hr, hmn, hsl⟩ <;>
    ·go_wp2_with (go_at_call 60; refine (spec_l2Open _ _ _ (by omega) (by omega)).mono ?_; rintro e w' ⟨rfl, rfl⟩)
     go_ret2
     exact ⟨ret_two HR.out, belowN (Below.refl _ _) n⟩
   ·rw [h1] at e1
    rw [h2] at e2
    have hadd := fun W => run_string_add_sum (P := Tryd.prog) W out ⟨#[32]⟩ (by show out.size + 1 ≤ _; omega)
    clear h1 h2
    rcases hr with ⟨hr, hmn, hsl⟩ | ⟨hr, hmn, hsl⟩ <;>
    ·go_wp2_with (go_at_call 60; refine (spec_l2Open _ _ _ (by omega) (by omega)).mono ?_; rw [h3]; rintro e w' ⟨rfl, rfl⟩)
     go_roundw
     case rel => exact ⟨c, _, h5, rfl, rfl, HN.out, n, rfl⟩
     case measure => simp [intOf]; omega
   ·rw [h1] at e1
    rw [h2] at e2
    have hadd := fun W => run_string_add_sum (P := Tryd.prog) W out (s.extract k c) (by rw [ByteArray.size_extract]; omega)
    have hsl2 := fun W => (run_cut s (k : Int) (c : Int) k c rfl rfl (by omega) (by omega) W)
    clear h1 h2
    rcases hr with ⟨hr, hmn, hsl⟩ | ⟨hr, hmn, hsl⟩ <;>
    ·go_wp2_with (go_at_call 61; refine (spec_l2Text _ _ _ (by omega) (by omega)).mono ?_; rw [h6]; rintro e w' ⟨rfl, rfl⟩)
     go_roundw
     case rel => exact ⟨c, _, h5, rfl, rfl, HN.out, n, rfl⟩
     case measure => simp [intOf]; omega
   ·rw [h1] at e1
    rw [h2] at e2
    have hadd := fun W => run_string_add_sum (P := Tryd.prog) W out (s.extract k (k + 1)) (by rw [ByteArray.size_extract]; omega)
    have hsl2 := fun W => (run_cut s (k : Int) ((k : Int) + 1) k (k + 1) rfl rfl (by omega) (by omega) W)
    clear h1 h2
    rcases hr with ⟨hr, hmn, hsl⟩ | ⟨hr, hmn, hsl⟩ <;>
    ·go_wp2
     go_roundw
     case rel => exact ⟨k + 1, _, by omega, rfl, by go_num, HN.out, n, rfl⟩
     case measure => simp [intOf]; omega
  ·have HF := Lib.hid (stripRes_some H0.out (hat.done (by omega)))
   clear hat
   go_wp2
   go_ret2
   exact ⟨ret_two HF.out, belowN (Below.refl _ _) n⟩

end Go.Proofs.YtlegeancmcmbaaaDoor

/- The program's tokens: one at a place. -/
namespace Go.Proofs.YtlegeancmcmbaaaDoor
open Go.RowKit

theorem ret_ints {a b a' b' : Int} (h : a = a') (h' : b = b') : Ending.returned (.tuple #[.int .i64 a, .int .i64 b]) = .returned (.tuple #[.int .i64 a', .int .i64 b']) := by rw [h, h']

set_option maxHeartbeats 400000 in
theorem impl_isDigit (c : UInt8) (w : World) :
  Calls Tryd.prog 77 #[.int .u8 (c.toNat : Int)] w fun e w' => e = .returned (.bool (isDig c)) ∧ w = w' := by
 go_enter Tryd.func77, Tryd.ntmps77
 go_wp2
 all_goals
  go_ret
  exact ⟨ret_bool (by rw [Bool.eq_iff_iff, isDig_iff]; simp <;> omega), rfl⟩

set_option maxHeartbeats 400000 in
theorem impl_isWordByte (c : UInt8) (w : World) :
  Calls Tryd.prog 79 #[.int .u8 (c.toNat : Int)] w fun e w' => e = .returned (.bool (isWord c)) ∧ w = w' := by
 go_enter Tryd.func79, Tryd.ntmps79
 go_wp2_with (go_at_call 77; refine (impl_isDigit _ _).mono ?_; rintro e w' ⟨rfl, rfl⟩)
 all_goals
  go_ret
  exact ⟨ret_bool (by rw [Bool.eq_iff_iff, isWord_iff]; simp [isDig_iff] <;> omega), rfl⟩

set_option maxHeartbeats 400000 in
theorem impl_behindWord (s : ByteArray) (k0 : Nat) (w : World) (hs : s.size ≤ 1000000) (hk0 : k0 ≤ s.size) :
  Calls Tryd.prog 78 #[.string s, .int .i64 k0] w fun e w' => e = .returned (.int .i64 (wordTo s k0)) ∧ w = w' := by
 go_enter Tryd.func78, Tryd.ntmps78
 go_wp2
 go_loop [5] (fun i => ∃ k : Nat, k0 ≤ k ∧ k ≤ s.size ∧ i = .int .i64 k ∧ wEnd s k = wEnd s k0) (fun i => s.size - (intOf i).toNat)
 case atStart => exact ⟨k0, by omega, by omega, rfl, rfl⟩
 case round =>
  obtain ⟨k, hk0, hk, rfl, he⟩ := hrel
  have HE := Lib.hid he; clear he
  by_cases hlt : k < s.size
  ·cases hw : isWord s[k]
   ·have HF := Lib.hid ((wEnd_stop hlt hw).symm.trans HE.out)
    go_wp2_with (go_at_call 79; refine (impl_isWordByte _ _).mono ?_; rw [hw]; rintro e w' ⟨rfl, rfl⟩)
    all_goals
     go_ret
     exact ⟨ret_int (by first | exact wordTo_long HF.out (by omega) | exact wordTo_short HF.out (by omega)), rfl⟩
   ·have HF := Lib.hid ((wEnd_in hlt hw).symm.trans HE.out)
    go_wp2_with (go_at_call 79; refine (impl_isWordByte _ _).mono ?_; rw [hw]; rintro e w' ⟨rfl, rfl⟩)
    go_round
    case rel => exact ⟨k + 1, by omega, by omega, by go_num, HF.out⟩
    case measure => simp [intOf]; omega
  ·have HF := Lib.hid ((wEnd_out (s := s) (k := k) (by omega)).symm.trans HE.out)
   go_wp2
   all_goals
    go_ret
    exact ⟨ret_int (by first | exact wordTo_long HF.out (by omega) | exact wordTo_short HF.out (by omega)), rfl⟩

set_option maxHeartbeats 400000 in
theorem impl_behindClosedText (s : ByteArray) (k0 : Nat) (w : World) (hs : s.size ≤ 999000) (hk0 : k0 < s.size) :
  Calls Tryd.prog 80 #[.string s, .int .i64 k0] w fun e w' => e = .returned (.int .i64 (closeTo s (k0 + 1))) ∧ w = w' := by
 have hadd := fun W => run_string_add_sum (P := Tryd.prog) W s ⟨#[32]⟩ (by show s.size + 1 ≤ _; omega)
 have HP := Lib.hid (tEnd_plus s (k0 + 1) (by omega))
 have HS := Lib.hid (plus_size s)
 have HT : Hid (∀ W, Calls Tryd.prog 57 #[.string (plus s), .int .i64 k0] W fun e w' => e = .returned (.int .i64 (tEnd (plus s) (k0 + 1) : Nat)) ∧ w' = W) := fun W => impl_behindText (plus s) k0 W (by rw [HS.out]; omega) (by rw [HS.out]; omega)
 cases hc : tClose s (k0 + 1) with
 |
  none =>
  have HV : Hid (tEnd (plus s) (k0 + 1) = s.size + 1) := by show _ = _; rw [HP.out, hc]
  go_enter Tryd.func80, Tryd.ntmps80
  go_wp2_with (go_at_call 57; refine (HT.out _).mono ?_; rw [HV.out]; rintro e w' ⟨rfl, rfl⟩)
  go_ret
  exact ⟨ret_int (closeTo_none hc).symm, rfl⟩
 |
  some e =>
  have hb := tClose_some hc
  have hb1 := hb.1
  have hb2 := hb.2.1
  clear hb
  have HV : Hid (tEnd (plus s) (k0 + 1) = e) := by show _ = _; rw [HP.out, hc]
  go_enter Tryd.func80, Tryd.ntmps80
  go_wp2_with (go_at_call 57; refine (HT.out _).mono ?_; rw [HV.out]; rintro e w' ⟨rfl, rfl⟩)
  go_ret
  exact ⟨ret_int (closeTo_some hc).symm, rfl⟩

theorem indexByte_neg : ∀ (l : List UInt8) (c : UInt8), Lib.indexByte l c < 0 ↔ ¬ c ∈ l
 | [], c => by simp [Lib.indexByte]
 |
  b :: l, c => by
  have ih := indexByte_neg l c
  have hg := Lib.indexByte_ge l c
  unfold Lib.indexByte
  by_cases hb : (b == c) = true
  ·rw [if_pos hb]; simp at hb; subst hb; simp
  ·rw [if_neg hb]
   have hne : ¬ c = b := fun e => hb (by rw [e]; simp)
   by_cases h1 : (Lib.indexByte l c == -1) = true
   ·rw [if_pos h1]
    have : Lib.indexByte l c = -1 := by simpa using h1
    simp only [List.mem_cons, not_or]
    exact ⟨fun _ => ⟨hne, ih.1 (by omega)⟩, fun _ => by omega⟩
   ·rw [if_neg h1]
    have : ¬ Lib.indexByte l c = -1 := by simpa using h1
    simp only [List.mem_cons, not_or]
    exact ⟨fun h => absurd h (by omega), fun h => absurd (ih.2 h.2) (by omega)⟩
theorem go_mark (c : UInt8) (w : World) :
  Calls Tryd.prog 95 #[.string ⟨#[43, 45, 42, 47, 37, 60, 62, 61, 33, 38, 124, 40, 41, 44, 35, 59, 63, 58, 123, 125, 91, 93, 46]⟩, .int .u8 (c.toNat : Int)] w fun e w' => (∃ r : Int, e = .returned (.int .i64 r) ∧ (r < 0 ↔ ¬ c ∈ marks1)) ∧ w = w' := by
 refine (Tryd.strings_IndexByte _ _ w).mono ?_
 rintro e w' ⟨rfl, rfl⟩
 refine ⟨⟨_, rfl, ?_⟩, rfl⟩
 rw [indexByte_neg]
 have : ((c.toNat : Int)).toNat.toUInt8 = c := by simp
 rw [this]
 exact Iff.rfl

theorem eight (s : ByteArray) (k : Nat) :
  (two s k 61 61 = true ∧ Hid (twoAt s k = true)) ∨
  (two s k 61 61 = false ∧ two s k 33 61 = true ∧ Hid (twoAt s k = true)) ∨
  (two s k 61 61 = false ∧ two s k 33 61 = false ∧ two s k 60 61 = true ∧ Hid (twoAt s k = true)) ∨
  (two s k 61 61 = false ∧ two s k 33 61 = false ∧ two s k 60 61 = false ∧ two s k 62 61 = true ∧ Hid (twoAt s k = true)) ∨
  (two s k 61 61 = false ∧ two s k 33 61 = false ∧ two s k 60 61 = false ∧ two s k 62 61 = false ∧ two s k 38 38 = true ∧ Hid (twoAt s k = true)) ∨
  (two s k 61 61 = false ∧ two s k 33 61 = false ∧ two s k 60 61 = false ∧ two s k 62 61 = false ∧ two s k 38 38 = false ∧ two s k 124 124 = true ∧ Hid (twoAt s k = true)) ∨
  (two s k 61 61 = false ∧ two s k 33 61 = false ∧ two s k 60 61 = false ∧ two s k 62 61 = false ∧ two s k 38 38 = false ∧ two s k 124 124 = false ∧ two s k 35 35 = true ∧ Hid (twoAt s k = true)) ∨
  (two s k 61 61 = false ∧ two s k 33 61 = false ∧ two s k 60 61 = false ∧ two s k 62 61 = false ∧ two s k 38 38 = false ∧ two s k 124 124 = false ∧ two s k 35 35 = false ∧ Hid (twoAt s k = false)) := by
 simp only [Hid, twoAt]
 cases two s k 61 61 <;> cases two s k 33 61 <;> cases two s k 60 61 <;> cases two s k 62 61 <;> cases two s k 38 38 <;> cases two s k 124 124 <;> cases two s k 35 35 <;> simp

theorem markTo_two {s : ByteArray} {k : Nat} (h : twoAt s k = true) : ((k : Int) + 2) = markTo s k := by unfold markTo mLen; rw [if_pos h]; simp
theorem mLen_one {s : ByteArray} {k : Nat} (h : twoAt s k = false) (hk : k < s.size) (hm : s[k] ∈ marks1) : mLen s k = 1 := by unfold mLen; rw [h]; simp [hk, hm]
theorem mLen_none {s : ByteArray} {k : Nat} (h : twoAt s k = false) (hk : k < s.size) (hm : ¬ s[k] ∈ marks1) : mLen s k = 0 := by unfold mLen; rw [h]; simp [hk, hm]
theorem markTo_one {s : ByteArray} {k : Nat} (h : twoAt s k = false) (hk : k < s.size) (hm : s[k] ∈ marks1) : ((k : Int) + 1) = markTo s k := by unfold markTo; rw [mLen_one h hk hm]; simp
theorem markTo_none {s : ByteArray} {k : Nat} (h : twoAt s k = false) (hk : k < s.size) (hm : ¬ s[k] ∈ marks1) : (-1 : Int) = markTo s k := by unfold markTo; rw [mLen_none h hk hm]; simp

set_option maxHeartbeats 1000000 in
theorem impl_behindMark (s : ByteArray) (k : Nat) (w : World) (hs : s.size ≤ 1000000) (hk : k < s.size) :
  Calls Tryd.prog 81 #[.string s, .int .i64 k] w fun e w' => e = .returned (.int .i64 (markTo s k)) ∧ w = w' := by
 by_cases hr : k + 2 ≤ s.size
 ·have hsl := run_cut s (k : Int) ((k : Int) + 2) k (k + 2) rfl (by omega) (by omega) (by omega)
  have e1 := ext_two s k 61 61
  have e2 := ext_two s k 33 61
  have e3 := ext_two s k 60 61
  have e4 := ext_two s k 62 61
  have e5 := ext_two s k 38 38
  have e6 := ext_two s k 124 124
  have e7 := ext_two s k 35 35
  rcases eight s k with ⟨h1, HT⟩ | ⟨h1, h2, HT⟩ | ⟨h1, h2, h3, HT⟩ | ⟨h1, h2, h3, h4, HT⟩ | ⟨h1, h2, h3, h4, h5, HT⟩ | ⟨h1, h2, h3, h4, h5, h6, HT⟩ | ⟨h1, h2, h3, h4, h5, h6, h7, HT⟩ | ⟨h1, h2, h3, h4, h5, h6, h7, HT⟩
  all_goals
   (try rw [h1] at e1); (try rw [h2] at e2); (try rw [h3] at e3); (try rw [h4] at e4); (try rw [h5] at e5); (try rw [h6] at e6); (try rw [h7] at e7)
   go_enter Tryd.func81, Tryd.ntmps81
   go_wp2_with (go_at_call 95; refine (go_mark _ _).mono ?_; rintro e w' ⟨⟨r, rfl, hr⟩, rfl⟩; have HR := Lib.hid hr; clear hr)
   all_goals
    go_ret
    exact ⟨ret_int (by first | exact markTo_two HT.out | exact markTo_one HT.out hk (Decidable.byContradiction fun h => absurd (HR.out.2 h) (by omega)) | exact markTo_none HT.out hk (HR.out.1 (by omega))), rfl⟩
 ·have HT : Hid (twoAt s k = false) := by
   show _ = _
   cases h : twoAt s k
   ·rfl
   ·have := twoAt_room h; omega
  go_enter Tryd.func81, Tryd.ntmps81
  go_wp2_with (go_at_call 95; refine (go_mark _ _).mono ?_; rintro e w' ⟨⟨r, rfl, hr⟩, rfl⟩; have HR := Lib.hid hr; clear hr)
  all_goals
   go_ret
   exact ⟨ret_int (by first | exact markTo_one HT.out hk (Decidable.byContradiction fun h => absurd (HR.out.2 h) (by omega)) | exact markTo_none HT.out hk (HR.out.1 (by omega))), rfl⟩

theorem kind_dig {c : UInt8} (h : isDig c = true) : (2 : Int) = cutKind c := by unfold cutKind; rw [if_pos h]
theorem kind_word {c : UInt8} (h : isDig c = false) (hw : isWord c = true) : (1 : Int) = cutKind c := by
 unfold cutKind; unfold isWord at hw; rw [h, Bool.or_false] at hw; rw [if_neg (by simp [h]), if_pos hw]
theorem kind_text {c : UInt8} (hw : isWord c = false) (hq : c.toNat = 34) : (3 : Int) = cutKind c := by
 unfold isWord at hw; rw [Bool.or_eq_false_iff] at hw; unfold cutKind; rw [if_neg (by simp [hw.2]), if_neg (by simp [hw.1]), if_pos hq]
theorem kind_mark {c : UInt8} (hw : isWord c = false) (hq : ¬ c.toNat = 34) : (4 : Int) = cutKind c := by
 unfold isWord at hw; rw [Bool.or_eq_false_iff] at hw; unfold cutKind; rw [if_neg (by simp [hw.2]), if_neg (by simp [hw.1]), if_neg hq]
theorem dig_word {c : UInt8} (h : isDig c = true) : isWord c = true := by unfold isWord; rw [h, Bool.or_true]
theorem cutEnd_w {s : ByteArray} {k : Nat} (h : k < s.size) (hw : isWord s[k] = true) : wordTo s k = cutEnd s k := by rw [cutEnd, dif_pos h, if_pos hw]
theorem cutEnd_t {s : ByteArray} {k : Nat} (h : k < s.size) (hw : isWord s[k] = false) (hq : s[k].toNat = 34) : closeTo s (k + 1) = cutEnd s k := by rw [cutEnd, dif_pos h, if_neg (by simp [hw]), if_pos hq]
theorem cutEnd_m {s : ByteArray} {k : Nat} (h : k < s.size) (hw : isWord s[k] = false) (hq : ¬ s[k].toNat = 34) : markTo s k = cutEnd s k := by rw [cutEnd, dif_pos h, if_neg (by simp [hw]), if_neg hq]

set_option maxHeartbeats 1000000 in
theorem impl_tokenAt (s : ByteArray) (k : Nat) (w : World) (hs : s.size ≤ 999000) (hk : k < s.size) :
  Calls Tryd.prog 58 #[.string s, .int .i64 k] w fun e w' => e = .returned (.tuple #[.int .i64 (cutKind s[k]), .int .i64 (cutEnd s k)]) ∧ w = w' := by
 cases hd : isDig s[k]
 ·cases hw : isWord s[k]
  ·by_cases hq : s[k].toNat = 34
   ·have h34 : ((s[k].toNat : Int) == 34) = true := by simp; omega
    have HF := Lib.hid (cutEnd_t hk hw hq)
    have HK := Lib.hid (kind_text hw hq)
    clear hq
    go_enter Tryd.func58, Tryd.ntmps58
    go_wp2_with (first
     | (go_at_call 77; refine (impl_isDigit _ _).mono ?_; rw [hd]; rintro e w' ⟨rfl, rfl⟩)
     | (go_at_call 79; refine (impl_isWordByte _ _).mono ?_; rw [hw]; rintro e w' ⟨rfl, rfl⟩)
     | (go_at_call 80; refine (impl_behindClosedText s k _ hs hk).mono ?_; rintro e w' ⟨rfl, rfl⟩))
    go_ret2
    exact ⟨ret_ints HK.out HF.out, rfl⟩
   ·have h34 : ((s[k].toNat : Int) == 34) = false := by simp; omega
    have HF := Lib.hid (cutEnd_m hk hw hq)
    have HK := Lib.hid (kind_mark hw hq)
    clear hq
    go_enter Tryd.func58, Tryd.ntmps58
    go_wp2_with (first
     | (go_at_call 77; refine (impl_isDigit _ _).mono ?_; rw [hd]; rintro e w' ⟨rfl, rfl⟩)
     | (go_at_call 79; refine (impl_isWordByte _ _).mono ?_; rw [hw]; rintro e w' ⟨rfl, rfl⟩)
     | (go_at_call 81; refine (impl_behindMark s k _ (by omega) hk).mono ?_; rintro e w' ⟨rfl, rfl⟩))
    go_ret2
    exact ⟨ret_ints HK.out HF.out, rfl⟩
  ·have HF := Lib.hid (cutEnd_w hk hw)
   have HK := Lib.hid (kind_word hd hw)
   go_enter Tryd.func58, Tryd.ntmps58
   go_wp2_with (first
    | (go_at_call 77; refine (impl_isDigit _ _).mono ?_; rw [hd]; rintro e w' ⟨rfl, rfl⟩)
    | (go_at_call 79; refine (impl_isWordByte _ _).mono ?_; rw [hw]; rintro e w' ⟨rfl, rfl⟩)
    | (go_at_call 78; refine (impl_behindWord s k _ (by omega) (by omega)).mono ?_; rintro e w' ⟨rfl, rfl⟩))
   go_ret2
   exact ⟨ret_ints HK.out HF.out, rfl⟩
 ·have HF := Lib.hid (cutEnd_w hk (dig_word hd))
  have HK := Lib.hid (kind_dig hd)
  go_enter Tryd.func58, Tryd.ntmps58
  go_wp2_with (first
   | (go_at_call 77; refine (impl_isDigit _ _).mono ?_; rw [hd]; rintro e w' ⟨rfl, rfl⟩)
   | (go_at_call 78; refine (impl_behindWord s k _ (by omega) (by omega)).mono ?_; rintro e w' ⟨rfl, rfl⟩))
  go_ret2
  exact ⟨ret_ints HK.out HF.out, rfl⟩

end Go.Proofs.YtlegeancmcmbaaaDoor

/- TokensOf of the program. -/
namespace Go.Proofs.YtlegeancmcmbaaaDoor
open Go.RowKit

theorem lineOk_size' {s : ByteArray} (h : lineOk s = true) : s.size ≤ 200 := by
 unfold lineOk at h; rw [Bool.and_eq_true, decide_eq_true_eq] at h; exact h.1
theorem ret_toks {v : Value} {l : List Tok} {b : Bool} {s : ByteArray} (h : tokRes s = (l, b)) {B : Nat} {w w' : World} {fp : List Nat} (hr : (sSlice sTok).R w' [v] l fp) (ho : Own w' w.heap.size fp) (hb : Below w.heap.size w w') :
  TokMade (tokRes s) w (.returned (.tuple #[v, .bool b])) w' := by
 rw [h]; exact ⟨v, fp, rfl, hr, ho, hb⟩
theorem ret_no {s : ByteArray} (h : tokRes s = ([], false)) {w w' : World} {a : Option Addr} {cap : Nat} (hc : cap ≤ maxLen) (hb : Below w.heap.size w w') :
  TokMade (tokRes s) w (.returned (.tuple #[.slice a 0 cap, .bool false])) w' := by
 rw [h]; exact ⟨_, [], rfl, slice_empty _ _ _ _ hc, Own.nil _ _, hb⟩

set_option maxHeartbeats 4000000 in
theorem impl_TokensOf (s : ByteArray) (w : World) (hs : s.size ≤ maxLen) :
  Calls Tryd.prog 35 #[.string s] w (TokMade (tokRes s) w) := by
 have hm := hs
 unfold maxLen at hm
 cases h0 : lineOk s
 ·have HF := Lib.hid (tokRes_bad h0)
  go_enter Tryd.func35, Tryd.ntmps35
  go_wp2_with (go_at_call 31; refine (impl_LineValid _ _ hs).mono ?_; rw [h0]; rintro e w' ⟨rfl, rfl⟩)
  go_ret2
  exact ret_no HF.out (by simp) (Below.refl _ _)
 have hsz := lineOk_size' h0
 have H0 := Lib.hid h0
 go_enter Tryd.func35, Tryd.ntmps35
 go_wp2_with (go_at_call 31; refine (impl_LineValid _ _ hs).mono ?_; rw [h0]; rintro e w' ⟨rfl, rfl⟩)
 clear h0
 go_loopw [4, 5, 6] (fun v sp i wr => ∃ (k : Nat) (b : Bool) (out : List Tok), k ≤ s.size ∧ i = .int .i64 k ∧ sp = .bool b ∧ AtT s k b out ∧ Fresh s.size out ∧ TokRow w.heap.size v out wr ∧ Below w.heap.size w wr) (fun _ _ i _ => s.size - (intOf i).toNat)
 case atStart => exact ⟨0, false, [], by omega, rfl, rfl, AtT.zero s, Fresh.nil _, TokRow.nil _ _, Below.refl _ _⟩
 case round =>
  obtain ⟨k, b, out, hk, rfl, rfl, hat, hfr, hown, hbel⟩ := hrel
  have ho : out.length ≤ 60 := hat.2
  have hbs := hbel.size
  by_cases hlt : k < s.size
  ·by_cases h32 : s[k].toNat = 32
   ·have HN := Lib.hid (hat.space hlt h32)
    have h32' : ((s[k].toNat : Int) == 32) = true := by simp; omega
    clear hat h32
    go_wp2
    go_roundw
    case rel => exact ⟨k + 1, true, out, by omega, by go_num, rfl, HN.out, hfr, hown, hbel⟩
    case measure => simp [intOf]; omega
   ·have h32' : ((s[k].toNat : Int) == 32) = false := by simp; omega
    rcases cutEnd_ge s k with hneg | ⟨e, he, hke, hes⟩
    ·have HF := Lib.hid (tokRes_none (hat.bad hlt h32 (.inl hneg)))
     clear hat h32
     go_wp2_with (go_at_call 58; refine (impl_tokenAt s k _ (by omega) hlt).mono ?_; rintro e w' ⟨rfl, rfl⟩)
     go_ret2
     exact ret_no HF.out (by simp) hbel
    ·obtain ⟨a, cap, rfl, hcm⟩ := hown.slice
     by_cases h60 : out.length = 60
     ·have HF := Lib.hid (tokRes_none (hat.bad hlt h32 (.inr h60)))
      have h60' : ((out.length : Int) == 60) = true := by simp; omega
      clear hat h32 h60
      go_wp2_with (go_at_call 58; refine (impl_tokenAt s k _ (by omega) hlt).mono ?_; rw [he]; rintro e w' ⟨rfl, rfl⟩)
      go_ret2
      exact ret_no HF.out (by simp) hbel
     ·have HN := Lib.hid (hat.tok hlt h32 he h60)
      have HR := Lib.hid (hfr.snoc (k := k) (e := e) (sp := b) (c := s[k]) (Nat.le_refl s.size))
      have h60' : ((out.length : Int) == 60) = false := by simp; omega
      have hsl2 := fun W => (run_cut s (k : Int) (e : Int) k e rfl rfl (by omega) (by omega) W)
      clear hat h32 h60
      go_wp2_with (first
       | (go_at_call 58; refine (impl_tokenAt s k _ (by omega) hlt).mono ?_; rw [he]; rintro e w' ⟨rfl, rfl⟩)
       | (at_builtin; refine wp_append_tok rfl (.tmp 35) (.tmp 43) rfl w.heap.size _ out _ _ _ rfl hown rfl (by omega) hbs ?_; intro v1 w1 hown1 hg1))
      have hbel1 := hbel.grown hg1 hbs hown.mine
      go_roundw
      case rel => exact ⟨e, false, _, hes, rfl, rfl, HN.out, HR.out, hown1, hbel1⟩
      case measure => simp [intOf]; omega
  ·have HF := Lib.hid (tokRes_some H0.out (hat.done (by omega)))
   clear hat
   go_wp2
   go_ret2
   obtain ⟨fp, h1, h2, _⟩ := own_toks hown hfr (by omega)
   exact ret_toks (B := 0) HF.out h1 h2 hbel

end Go.Proofs.YtlegeancmcmbaaaDoor

/- The model's tokens. -/
namespace Go.Proofs.YtlegeancmcmbaaaDoor
open Go.RowKit

set_option maxHeartbeats 400000 in
theorem spec_l3Digit (c : UInt8) (w : World) :
  Calls Tryd.prog 83 #[.int .u8 (c.toNat : Int)] w fun e w' => e = .returned (.bool (isDig c)) ∧ w = w' := by
 go_enter Tryd.func83, Tryd.ntmps83
 go_wp2
 all_goals
  go_ret
  exact ⟨ret_bool (by rw [Bool.eq_iff_iff, isDig_iff]; simp <;> omega), rfl⟩

set_option maxHeartbeats 400000 in
theorem spec_l3Letter (c : UInt8) (w : World) :
  Calls Tryd.prog 82 #[.int .u8 (c.toNat : Int)] w fun e w' => e = .returned (.bool (isLet c)) ∧ w = w' := by
 go_enter Tryd.func82, Tryd.ntmps82
 go_wp2
 all_goals
  go_ret
  exact ⟨ret_bool (by rw [Bool.eq_iff_iff, isLet_iff]; simp <;> omega), rfl⟩

theorem word_of_let {c : UInt8} (h : isLet c = true) : isWord c = true := by unfold isWord; rw [h, Bool.true_or]
theorem word_of_no {c : UInt8} (h : isLet c = false) (h2 : isDig c = false) : isWord c = false := by unfold isWord; rw [h, h2]; rfl

set_option maxHeartbeats 400000 in
theorem spec_l3Back (s : ByteArray) (k0 e : Nat) (w : World) (hs : s.size ≤ 1000000) (he : e ≤ s.size) (h1 : 1 ≤ e) (hk0 : k0 < s.size) :
  Calls Tryd.prog 84 #[.string s, .int .i64 k0, .int .i64 e] w fun r w' => r = .returned (.bool (decide (bk s (k0 + 1) (e - 1) ≠ e - 1))) ∧ w = w' := by
 go_enter Tryd.func84, Tryd.ntmps84
 go_wp2
 go_loop [7] (fun i => ∃ k : Nat, k ≤ s.size + 1 ∧ i = .int .i64 k ∧ bk s k (e - 1) = bk s (k0 + 1) (e - 1)) (fun i => s.size + 1 - (intOf i).toNat)
 case atStart => exact ⟨k0 + 1, by omega, by go_num, rfl⟩
 case round =>
  obtain ⟨k, hk, rfl, hb⟩ := hrel
  by_cases hlt : k < e - 1
  ·have hlt' : (k : Int) < (e : Int) - 1 := by omega
   have hks : k < s.size := by omega
   by_cases h92 : s[k].toNat = 92
   ·have HF := Lib.hid ((bk_back hlt hks h92).symm.trans hb)
    have h92' : ((s[k].toNat : Int) == 92) = true := by simp; omega
    clear hb h92
    go_wp2
    go_round
    case rel => exact ⟨k + 2, by omega, by go_num, HF.out⟩
    case measure => simp [intOf]; omega
   ·have HF := Lib.hid ((bk_else hlt hks h92).symm.trans hb)
    have h92' : ((s[k].toNat : Int) == 92) = false := by simp; omega
    clear hb h92
    go_wp2
    go_round
    case rel => exact ⟨k + 1, by omega, by go_num, HF.out⟩
    case measure => simp [intOf]; omega
  ·have HF := Lib.hid ((bk_out (s := s) (k := k) (e := e - 1) (by omega)).symm.trans hb)
   have hge : ¬ (k : Int) < (e : Int) - 1 := by omega
   clear hb
   go_wp2
   go_ret
   exact ⟨ret_bool (by rw [← HF.out, Bool.eq_iff_iff]; simp; omega), rfl⟩

def NoMark (c : UInt8) (k : Nat) : Prop := ∀ j, (h : j < marks1.length) → j < k → marks1[j] ≠ c
theorem NoMark.zero (c : UInt8) : NoMark c 0 := by intro j h hj; omega
theorem NoMark.succ {c : UInt8} {k : Nat} (h : NoMark c k) (hk : k < marks1.length) (hc : marks1[k] ≠ c) : NoMark c (k + 1) := by
 intro j hj hjk
 by_cases e : j = k
 ·subst e; exact hc
 ·exact h j hj (by omega)
theorem NoMark.none {c : UInt8} (h : NoMark c 23) : ¬ c ∈ marks1 := by
 intro hc
 obtain ⟨i, hi, rfl⟩ := List.getElem_of_mem hc
 exact h i hi hi rfl

set_option maxHeartbeats 1000000 in
theorem spec_l3Mark (s : ByteArray) (k : Nat) (w : World) (hs : s.size ≤ 1000000) (hk : k < s.size) :
  Calls Tryd.prog 85 #[.string s, .int .i64 k] w fun e w' => e = .returned (.int .i64 (mLen s k : Nat)) ∧ ∃ n, w' = w.drewN n := by
 have hsl : ∀ W, (Instr.slice 9 (.string s) (some (.int .i64 (k : Int))) (some (.int .i64 (min (s.size : Int) ((k : Int) + 2)))) none).run Tryd.prog W = .ok (.string (s.extract k (k + 2))) W := by
  intro W
  rw [run_cut s _ _ k (min s.size (k + 2)) rfl (by omega) (by omega) (by omega) W, ext_min]
 have e1 := ext_two s k 61 61
 have e2 := ext_two s k 33 61
 have e3 := ext_two s k 60 61
 have e4 := ext_two s k 62 61
 have e5 := ext_two s k 38 38
 have e6 := ext_two s k 124 124
 have e7 := ext_two s k 35 35
 rcases eight s k with ⟨h1, HT⟩ | ⟨h1, h2, HT⟩ | ⟨h1, h2, h3, HT⟩ | ⟨h1, h2, h3, h4, HT⟩ | ⟨h1, h2, h3, h4, h5, HT⟩ | ⟨h1, h2, h3, h4, h5, h6, HT⟩ | ⟨h1, h2, h3, h4, h5, h6, h7, HT⟩ | ⟨h1, h2, h3, h4, h5, h6, h7, HT⟩
 iterate 7
  ·(try rw [h1] at e1); (try rw [h2] at e2); (try rw [h3] at e3); (try rw [h4] at e4); (try rw [h5] at e5); (try rw [h6] at e6); (try rw [h7] at e7)
   have HF : Hid (mLen s k = 2) := by show _ = _; unfold mLen; rw [if_pos HT.out]
   go_enter Tryd.func85, Tryd.ntmps85
   go_wp2
   go_ret
   exact ⟨ret_int (by rw [HF.out]; rfl), 0, rfl⟩
 ·rw [h1] at e1; rw [h2] at e2; rw [h3] at e3; rw [h4] at e4; rw [h5] at e5; rw [h6] at e6; rw [h7] at e7
  go_enter Tryd.func85, Tryd.ntmps85
  go_wp2
  go_loopw [7] (fun i wr => ∃ j : Nat, j ≤ 23 ∧ i = .int .i64 j ∧ NoMark s[k] j ∧ ∃ n, wr = w.drewN n) (fun i _ => 23 - (intOf i).toNat)
  case atStart => exact ⟨0, by omega, rfl, NoMark.zero _, 0, rfl⟩
  case round =>
   obtain ⟨j, hj, rfl, hno, n, rfl⟩ := hrel
   by_cases hlt : j < 23
   ·have hix : ∀ W, (Instr.index 9 (.string ⟨#[43, 45, 42, 47, 37, 60, 62, 61, 33, 38, 124, 40, 41, 44, 35, 59, 63, 58, 123, 125, 91, 93, 46]⟩) (.int .i64 (j : Int))).run Tryd.prog W = .ok (.int .u8 ((marks1[j]'hlt).toNat : Int)) W := by
     intro W
     have h1 : (0 : Int) ≤ (j : Int) ∧ (j : Int) < ((⟨#[43, 45, 42, 47, 37, 60, 62, 61, 33, 38, 124, 40, 41, 44, 35, 59, 63, 58, 123, 125, 91, 93, 46]⟩ : ByteArray).size : Int) := ⟨by omega, by show (j : Int) < 23; omega⟩
     rw [run_index_string W _ _ .i64 (j : Int) Tryd.underlying9, dif_pos h1]
     rfl
    by_cases hc : marks1[j]'hlt = s[k]
    ·have HF : Hid (mLen s k = 1) := mLen_one HT.out hk (hc ▸ List.getElem_mem hlt)
     have hce : (((marks1[j]'hlt).toNat : Int) == (s[k].toNat : Int)) = true := by rw [hc]; simp
     clear hc
     go_wp2
     go_quiet (fail)
     go_wp2
     go_ret
     exact ⟨ret_int (by rw [HF.out]; rfl), _, World.drewN_drewN _ _ _⟩
    ·have HN := Lib.hid (hno.succ hlt hc)
     have hce : (((marks1[j]'hlt).toNat : Int) == (s[k].toNat : Int)) = false := by
      rw [beq_eq_false_iff_ne]; intro h; exact hc (UInt8.toNat_inj.1 (by omega))
     clear hc hno
     go_wp2
     go_quiet (fail)
     go_wp2
     go_roundw
     case rel => exact ⟨j + 1, by omega, by go_num, HN.out, _, rfl⟩
     case measure => simp [intOf]; omega
   ·obtain rfl : j = 23 := by omega
    have HF : Hid (mLen s k = 0) := mLen_none HT.out hk hno.none
    go_wp2
    go_ret
    exact ⟨ret_int (by rw [HF.out]; rfl), _, rfl⟩

theorem sCut_w {s : ByteArray} {k : Nat} (h : k < s.size) (hl : isLet s[k] = true) : sCut s k = (1, (wEnd s (k + 1) : Int)) := by rw [sCut_word h (word_of_let hl), if_pos hl]
theorem sCut_d {s : ByteArray} {k : Nat} (h : k < s.size) (hl : isLet s[k] = false) (hd : isDig s[k] = true) : sCut s k = (2, (wEnd s (k + 1) : Int)) := by rw [sCut_word h (dig_word hd), if_neg (by simp [hl])]
theorem ret_cut {s : ByteArray} {k : Nat} {a b : Int} (h : sCut s k = (a, b)) : Ending.returned (.tuple #[.int .i64 a, .int .i64 b]) = .returned (.tuple #[.int .i64 (sCut s k).1, .int .i64 (sCut s k).2]) := by rw [h]

set_option maxHeartbeats 2000000 in
theorem cut_let (s : ByteArray) (k0 : Nat) (w : World) (hs : s.size ≤ 1000000) (hk0 : k0 < s.size) (hl : isLet s[k0] = true) :
  Calls Tryd.prog 62 #[.string s, .int .i64 k0] w fun e w' => e = .returned (.tuple #[.int .i64 (sCut s k0).1, .int .i64 (sCut s k0).2]) ∧ ∃ n, w' = w.drewN n := by
 have HF := Lib.hid (sCut_w hk0 hl)
 go_enter Tryd.func62, Tryd.ntmps62
 go_wp2_with (first
  | (go_at_call 82; refine (spec_l3Letter _ _).mono ?_; rw [hl]; rintro e w' ⟨rfl, rfl⟩))
 go_loop [6] (fun i => ∃ k : Nat, k0 + 1 ≤ k ∧ k ≤ s.size ∧ i = .int .i64 k ∧ wEnd s k = wEnd s (k0 + 1)) (fun i => s.size - (intOf i).toNat)
 case atStart => exact ⟨k0 + 1, by omega, by omega, by go_num, rfl⟩
 case round =>
  obtain ⟨k, hk1, hk, rfl, he⟩ := hrel
  have HE := Lib.hid he; clear he
  by_cases hlt : k < s.size
  ·cases hl2 : isLet s[k]
   ·cases hd2 : isDig s[k]
    ·have HG := Lib.hid ((wEnd_stop hlt (word_of_no hl2 hd2)).symm.trans HE.out)
     go_wp2_with (first
      | (go_at_call 82; refine (spec_l3Letter _ _).mono ?_; (first | rw [hl2] | rw [hl]); rintro e w' ⟨rfl, rfl⟩)
      | (go_at_call 83; refine (spec_l3Digit _ _).mono ?_; rw [hd2]; rintro e w' ⟨rfl, rfl⟩))
     go_ret2
     exact ⟨ret_cut (by rw [HF.out, ← HG.out]), 0, rfl⟩
    ·have HG := Lib.hid ((wEnd_in hlt (dig_word hd2)).symm.trans HE.out)
     go_wp2_with (first
      | (go_at_call 82; refine (spec_l3Letter _ _).mono ?_; rw [hl2]; rintro e w' ⟨rfl, rfl⟩)
      | (go_at_call 83; refine (spec_l3Digit _ _).mono ?_; rw [hd2]; rintro e w' ⟨rfl, rfl⟩))
     go_round
     case rel => exact ⟨k + 1, by omega, by omega, by go_num, HG.out⟩
     case measure => simp [intOf]; omega
   ·have HG := Lib.hid ((wEnd_in hlt (word_of_let hl2)).symm.trans HE.out)
    go_wp2_with (first
     | (go_at_call 82; refine (spec_l3Letter _ _).mono ?_; rw [hl2]; rintro e w' ⟨rfl, rfl⟩))
    go_round
    case rel => exact ⟨k + 1, by omega, by omega, by go_num, HG.out⟩
    case measure => simp [intOf]; omega
  ·have HG := Lib.hid ((wEnd_out (s := s) (k := k) (by omega)).symm.trans HE.out)
   go_wp2_with (first
    | (go_at_call 82; refine (spec_l3Letter _ _).mono ?_; rw [hl]; rintro e w' ⟨rfl, rfl⟩))
   go_ret2
   exact ⟨ret_cut (by rw [HF.out, ← HG.out]), 0, rfl⟩

set_option maxHeartbeats 2000000 in
theorem cut_dig (s : ByteArray) (k0 : Nat) (w : World) (hs : s.size ≤ 1000000) (hk0 : k0 < s.size) (hl : isLet s[k0] = false) (hd : isDig s[k0] = true) :
  Calls Tryd.prog 62 #[.string s, .int .i64 k0] w fun e w' => e = .returned (.tuple #[.int .i64 (sCut s k0).1, .int .i64 (sCut s k0).2]) ∧ ∃ n, w' = w.drewN n := by
 have HF := Lib.hid (sCut_d hk0 hl hd)
 go_enter Tryd.func62, Tryd.ntmps62
 go_wp2_with (first
  | (go_at_call 82; refine (spec_l3Letter _ _).mono ?_; rw [hl]; rintro e w' ⟨rfl, rfl⟩)
  | (go_at_call 83; refine (spec_l3Digit _ _).mono ?_; rw [hd]; rintro e w' ⟨rfl, rfl⟩))
 go_loop [6] (fun i => ∃ k : Nat, k0 + 1 ≤ k ∧ k ≤ s.size ∧ i = .int .i64 k ∧ wEnd s k = wEnd s (k0 + 1)) (fun i => s.size - (intOf i).toNat)
 case atStart => exact ⟨k0 + 1, by omega, by omega, by go_num, rfl⟩
 case round =>
  obtain ⟨k, hk1, hk, rfl, he⟩ := hrel
  have HE := Lib.hid he; clear he
  by_cases hlt : k < s.size
  ·cases hl2 : isLet s[k]
   ·cases hd2 : isDig s[k]
    ·have HG := Lib.hid ((wEnd_stop hlt (word_of_no hl2 hd2)).symm.trans HE.out)
     go_wp2_with (first
      | (go_at_call 82; refine (spec_l3Letter _ _).mono ?_; (first | rw [hl2] | rw [hl]); rintro e w' ⟨rfl, rfl⟩)
      | (go_at_call 83; refine (spec_l3Digit _ _).mono ?_; rw [hd2]; rintro e w' ⟨rfl, rfl⟩))
     go_ret2
     exact ⟨ret_cut (by rw [HF.out, ← HG.out]), 0, rfl⟩
    ·have HG := Lib.hid ((wEnd_in hlt (dig_word hd2)).symm.trans HE.out)
     go_wp2_with (first
      | (go_at_call 82; refine (spec_l3Letter _ _).mono ?_; rw [hl2]; rintro e w' ⟨rfl, rfl⟩)
      | (go_at_call 83; refine (spec_l3Digit _ _).mono ?_; rw [hd2]; rintro e w' ⟨rfl, rfl⟩))
     go_round
     case rel => exact ⟨k + 1, by omega, by omega, by go_num, HG.out⟩
     case measure => simp [intOf]; omega
   ·have HG := Lib.hid ((wEnd_in hlt (word_of_let hl2)).symm.trans HE.out)
    go_wp2_with (first
     | (go_at_call 82; refine (spec_l3Letter _ _).mono ?_; rw [hl2]; rintro e w' ⟨rfl, rfl⟩))
    go_round
    case rel => exact ⟨k + 1, by omega, by omega, by go_num, HG.out⟩
    case measure => simp [intOf]; omega
  ·have HG := Lib.hid ((wEnd_out (s := s) (k := k) (by omega)).symm.trans HE.out)
   go_wp2_with (first
    | (go_at_call 82; refine (spec_l3Letter _ _).mono ?_; rw [hl]; rintro e w' ⟨rfl, rfl⟩))
   go_ret2
   exact ⟨ret_cut (by rw [HF.out, ← HG.out]), 0, rfl⟩

set_option maxHeartbeats 2000000 in
theorem cut_no (s : ByteArray) (k0 : Nat) (w : World) (hs : s.size ≤ 1000000) (hk0 : k0 < s.size) (hw : isWord s[k0] = false) :
  Calls Tryd.prog 62 #[.string s, .int .i64 k0] w fun e w' => e = .returned (.tuple #[.int .i64 (sCut s k0).1, .int .i64 (sCut s k0).2]) ∧ ∃ n, w' = w.drewN n := by
 have hl : isLet s[k0] = false := by unfold isWord at hw; rw [Bool.or_eq_false_iff] at hw; exact hw.1
 have hd : isDig s[k0] = false := by unfold isWord at hw; rw [Bool.or_eq_false_iff] at hw; exact hw.2
 by_cases hq : s[k0].toNat = 34
 ·have h34 : ((s[k0].toNat : Int) == 34) = true := by simp; omega
  cases hc : tClose s (k0 + 1) with
  |
   some e =>
   have HF := Lib.hid (sCut_closed hk0 hw hq hc)
   obtain ⟨c1, c2, c3, c4, c5⟩ := tClose_some hc
   have hb := bk_closed hc
   have hB : decide (bk s (k0 + 1) (e - 1) ≠ e - 1) = false := by simp [hb]
   have h5 : ((s[e - 1].toNat : Int) != 34) = false := by simp; omega
   have h6 : ((e : Int) - 1).toNat = e - 1 := by omega
   clear hb hc hq
   go_enter Tryd.func62, Tryd.ntmps62
   go_wp2_with (first
    | (go_at_call 82; refine (spec_l3Letter _ _).mono ?_; rw [hl]; rintro e w' ⟨rfl, rfl⟩)
    | (go_at_call 83; refine (spec_l3Digit _ _).mono ?_; rw [hd]; rintro e w' ⟨rfl, rfl⟩)
    | (go_at_call 61; refine (spec_l2Text s k0 _ hs hk0).mono ?_; rw [c3]; rintro e w' ⟨rfl, rfl⟩)
    | (go_at_call 84; refine (spec_l3Back s k0 e _ hs c2 (by omega) hk0).mono ?_; rw [hB]; rintro e w' ⟨rfl, rfl⟩))
   go_ret2
   exact ⟨ret_cut HF.out, 0, rfl⟩
  |
   none =>
   have HF := Lib.hid (sCut_open hk0 hw hq hc)
   have c3 := tClose_none hc
   have hord : k0 + 1 = s.size ∨ (k0 + 1 < s.size ∧ ((s[s.size - 1].toNat : Int) != 34) = true) ∨ (k0 + 1 < s.size ∧ ((s[s.size - 1].toNat : Int) != 34) = false ∧ decide (bk s (k0 + 1) (s.size - 1) ≠ s.size - 1) = true) := by
    by_cases h1 : k0 + 1 < s.size
    ·by_cases h2 : s[s.size - 1].toNat = 34
     ·exact .inr (.inr ⟨h1, by simp; omega, by simpa using bk_open hc h1 h2⟩)
     ·exact .inr (.inl ⟨h1, by simp; omega⟩)
    ·exact .inl (by omega)
   clear hc hq
   have h6 : ((s.size : Int) - 1).toNat = s.size - 1 := by omega
   go_enter Tryd.func62, Tryd.ntmps62
   rcases hord with h7 | ⟨h7, h5⟩ | ⟨h7, h5, hB⟩
   all_goals
    go_wp2_with (first
     | (go_at_call 82; refine (spec_l3Letter _ _).mono ?_; rw [hl]; rintro e w' ⟨rfl, rfl⟩)
     | (go_at_call 83; refine (spec_l3Digit _ _).mono ?_; rw [hd]; rintro e w' ⟨rfl, rfl⟩)
     | (go_at_call 61; refine (spec_l2Text s k0 _ hs hk0).mono ?_; rw [c3]; rintro e w' ⟨rfl, rfl⟩)
     | (go_at_call 84; refine (spec_l3Back s k0 s.size _ hs (Nat.le_refl _) (by omega) hk0).mono ?_; rw [hB]; rintro e w' ⟨rfl, rfl⟩))
    go_ret2
    exact ⟨ret_cut HF.out, 0, rfl⟩
 ·have h34 : ((s[k0].toNat : Int) == 34) = false := by simp; omega
  have HF := Lib.hid (sCut_mark hk0 hw hq)
  have hml := (mLen_room (s := s) hk0).2
  clear hq
  go_enter Tryd.func62, Tryd.ntmps62
  go_wp2_with (first
   | (go_at_call 82; refine (spec_l3Letter _ _).mono ?_; rw [hl]; rintro e w' ⟨rfl, rfl⟩)
   | (go_at_call 83; refine (spec_l3Digit _ _).mono ?_; rw [hd]; rintro e w' ⟨rfl, rfl⟩)
   | (go_at_call 85; refine (spec_l3Mark s k0 _ hs hk0).mono ?_; rintro e w' ⟨rfl, n, rfl⟩))
  go_ret2
  exact ⟨ret_cut (by rw [HF.out]; simp), _, rfl⟩

theorem spec_l3Cut (s : ByteArray) (k0 : Nat) (w : World) (hs : s.size ≤ 1000000) (hk0 : k0 < s.size) :
  Calls Tryd.prog 62 #[.string s, .int .i64 k0] w fun e w' => e = .returned (.tuple #[.int .i64 (sCut s k0).1, .int .i64 (sCut s k0).2]) ∧ ∃ n, w' = w.drewN n := by
 cases hw : isWord s[k0]
 ·exact cut_no s k0 w hs hk0 hw
 ·cases h : isLet s[k0]
  ·unfold isWord at hw
   rw [h, Bool.false_or] at hw
   exact cut_dig s k0 w hs hk0 h hw
  ·exact cut_let s k0 w hs hk0 h

end Go.Proofs.YtlegeancmcmbaaaDoor

/- TokensOf of the model; TokenValid of both. -/
namespace Go.Proofs.YtlegeancmcmbaaaDoor
open Go.RowKit

theorem TokRow.below {base : Nat} {v : Value} {l : List Tok} {w w' : World} (h : TokRow base v l w) (hb : Below w.heap.size w w') : TokRow base v l w' := by
 refine ⟨h.1, ?_⟩
 rcases h.2 with h0 | ⟨g, cap, cur, h1, h2, h3, h4⟩
 ·exact .inl h0
 ·exact .inr ⟨g, cap, cur, h1, h2, (hb.block g (Array.getElem?_eq_some_iff.1 h3).1).trans h3, h4⟩
theorem TokRow.empty (w : World) : TokRow w.heap.size (.slice (some ⟨w.heap.size, 0, none⟩) 0 0) [] (w.alloc (.cells #[] 47)) :=
 ⟨rfl, .inr ⟨w.heap.size, 0, #[], rfl, Nat.le_refl _, by show (w.heap.push _)[w.heap.size]? = _; simp, Nat.le_refl _, by simp, rfl, rfl⟩⟩
theorem cutGood {s : ByteArray} {k e : Nat} (hk : k < s.size) (he : cutEnd s k = e) : sCut s k = (cutKind s[k], (e : Int)) ∧ 1 ≤ cutKind s[k] ∧ cutKind s[k] ≤ 4 ∧ (cutKind s[k] ≤ 2 → (e : Int) - (k : Int) ≤ 12) := by
 have h := sCut_good hk (by omega)
 rw [he] at h
 obtain ⟨h1, h2⟩ := h
 have h3 := cutKind_in s[k]
 refine ⟨h2, h3.1, h3.2, fun h => ?_⟩
 rw [h2] at h1
 unfold SBad at h1
 simp only at h1
 omega
theorem cutBad {s : ByteArray} {k : Nat} (hk : k < s.size) (h : cutEnd s k < 0) : ∃ a b : Int, sCut s k = (a, b) ∧ (b = k ∨ b ≠ k ∧ a = 0 ∨ b ≠ k ∧ a = 1 ∧ 12 < b - k ∨ b ≠ k ∧ a = 2 ∧ 12 < b - k) := by
 have h1 := sCut_bad hk h
 unfold SBad at h1
 exact ⟨(sCut s k).1, (sCut s k).2, rfl, by omega⟩
theorem sCut_room {s : ByteArray} {k : Nat} (hk : k < s.size) : 0 ≤ (sCut s k).2 ∧ (sCut s k).2 ≤ 1000000 + s.size := by
 cases hw : isWord s[k]
 ·by_cases hq : s[k].toNat = 34
  ·cases hc : tClose s (k + 1) with
   | none => rw [sCut_open hk hw hq hc]; constructor <;> simp only <;> omega
   | some e => have := tClose_some hc; rw [sCut_closed hk hw hq hc]; constructor <;> simp only <;> omega
  ·have := mLen_room hk; rw [sCut_mark hk hw hq]; constructor <;> simp only <;> omega
 ·have := (wEnd_bounds s (k + 1)).2 (by omega)
  rw [sCut_word hk hw]; constructor <;> simp only <;> omega

def TokRowed (s : ByteArray) (w : World) (e : Ending) (w' : World) : Prop :=
 ∃ v, e = .returned (.tuple #[v, .bool (tokRes s).2]) ∧ TokRow w.heap.size v (tokRes s).1 w' ∧ Fresh s.size (tokRes s).1 ∧ Below w.heap.size w w'
theorem TokRow.emptyAt {base : Nat} (w : World) (h : base ≤ w.heap.size) : TokRow base (.slice (some ⟨w.heap.size, 0, none⟩) 0 0) [] (w.alloc (.cells #[] 47)) :=
 ⟨rfl, .inr ⟨w.heap.size, 0, #[], rfl, h, by show (w.heap.push _)[w.heap.size]? = _; simp, Nat.le_refl _, by simp, rfl, rfl⟩⟩
theorem ret_no2 {s : ByteArray} (h : tokRes s = ([], false)) {w W : World} (hb : Below w.heap.size w W) (hs : w.heap.size ≤ W.heap.size) :
  TokRowed s w (.returned (.tuple #[.slice (some ⟨W.heap.size, 0, none⟩) 0 0, .bool false])) (W.alloc (.cells #[] 47)) := by
 unfold TokRowed; rw [h]; exact ⟨_, rfl, TokRow.emptyAt W hs, Fresh.nil _, hb.alloc hs _⟩
theorem ret_toks2 {v : Value} {l : List Tok} {s : ByteArray} (h : tokRes s = (l, true)) {w w' : World} (hr : TokRow w.heap.size v l w') (hf : Fresh s.size l) (hb : Below w.heap.size w w') :
  TokRowed s w (.returned (.tuple #[v, .bool true])) w' := by
 unfold TokRowed; rw [h]; exact ⟨v, rfl, hr, hf, hb⟩

set_option maxHeartbeats 8000000 in
theorem spec_TokensOf_row (s : ByteArray) (w : World) (hs : s.size ≤ maxLen) :
  Calls Tryd.prog 37 #[.string s] w (TokRowed s w) := by
 have hm := hs
 unfold maxLen at hm
 cases h0 : lineOk s
 ·have HF := Lib.hid (tokRes_bad h0)
  go_enter Tryd.func37, Tryd.ntmps37
  go_wp2_with (go_at_call 59; refine (spec_LineValid _ _ hs).mono ?_; rw [h0]; rintro e w' ⟨rfl, rfl⟩)
  go_ret2
  exact ret_no2 HF.out (Below.refl _ _) (Nat.le_refl _)
 have hsz := lineOk_size' h0
 have H0 := Lib.hid h0
 go_enter Tryd.func37, Tryd.ntmps37
 go_wp2_with (go_at_call 59; refine (spec_LineValid _ _ hs).mono ?_; rw [h0]; rintro e w' ⟨rfl, rfl⟩)
 clear h0
 go_loopw [4, 5, 6] (fun v sp i wr => ∃ (k : Nat) (b : Bool) (out : List Tok), k ≤ s.size ∧ i = .int .i64 k ∧ sp = .bool b ∧ AtT s k b out ∧ Fresh s.size out ∧ TokRow w.heap.size v out wr ∧ Below w.heap.size w wr) (fun _ _ i _ => s.size - (intOf i).toNat)
 case atStart => exact ⟨0, false, [], by omega, rfl, rfl, AtT.zero s, Fresh.nil _, TokRow.empty _, (Below.refl _ _).alloc (Nat.le_refl _) _⟩
 case round =>
  obtain ⟨k, b, out, hk, rfl, rfl, hat, hfr, hown, hbel⟩ := hrel
  have ho : out.length ≤ 60 := hat.2
  have hbs := hbel.size
  by_cases hlt : k < s.size
  ·by_cases h32 : s[k].toNat = 32
   ·have HN := Lib.hid (hat.space hlt h32)
    have h32' : ((s[k].toNat : Int) == 32) = true := by simp; omega
    clear hat h32
    go_wp2
    go_roundw
    case rel => exact ⟨k + 1, true, out, by omega, by go_num, rfl, HN.out, hfr, hown, hbel⟩
    case measure => simp [intOf]; omega
   ·have h32' : ((s[k].toNat : Int) == 32) = false := by simp; omega
    have hro := sCut_room hlt
    rcases cutEnd_ge s k with hneg | ⟨e, he, hke, hes⟩
    ·have HF := Lib.hid (tokRes_none (hat.bad hlt h32 (.inl hneg)))
     obtain ⟨a, b2, hab, hways⟩ := cutBad hlt hneg
     rw [hab] at hro
     have HC : Hid (∀ W, Calls Tryd.prog 62 #[.string s, .int .i64 k] W fun e w' => e = .returned (.tuple #[.int .i64 a, .int .i64 b2]) ∧ ∃ n, w' = W.drewN n) := fun W => by have := spec_l3Cut s k W (by omega) hlt; rw [hab] at this; exact this
     clear hat h32 hab
     obtain ⟨ho1, ho2⟩ := hro
     simp only at ho1 ho2
     rcases hways with h1 | ⟨h1, h2⟩ | ⟨h1, h2, h3⟩ | ⟨h1, h2, h3⟩
     ·subst h1
      go_wp2_with (go_at_call 62; refine (HC.out _).mono ?_; rintro e w' ⟨rfl, n, rfl⟩)
      go_ret2
      exact ret_no2 HF.out (belowN hbel n) hbs
     all_goals
      subst h2
      have h1' : (b2 == (k : Int)) = false := by simp; omega
      clear h1
      go_wp2_with (go_at_call 62; refine (HC.out _).mono ?_; rintro e w' ⟨rfl, n, rfl⟩)
      go_ret2
      exact ret_no2 HF.out (belowN hbel n) hbs
    ·obtain ⟨a, cap, rfl, hcm⟩ := hown.slice
     obtain ⟨hab, hk1, hk2, hk3⟩ := cutGood hlt he
     have HC : Hid (∀ W, Calls Tryd.prog 62 #[.string s, .int .i64 k] W fun r w' => r = .returned (.tuple #[.int .i64 (cutKind s[k]), .int .i64 e]) ∧ ∃ n, w' = W.drewN n) := fun W => by have := spec_l3Cut s k W (by omega) hlt; rw [hab] at this; exact this
     have hek : ((e : Int) == (k : Int)) = false := by simp; omega
     clear hro hab
     by_cases h60 : out.length = 60
     ·have HF := Lib.hid (tokRes_none (hat.bad hlt h32 (.inr h60)))
      have h60' : ((out.length : Int) == 60) = true := by simp; omega
      clear hat h32 h60
      generalize cutKind s[k] = K at *
      have hK : (K = 1 ∧ (e : Int) - (k : Int) ≤ 12) ∨ (K = 2 ∧ (e : Int) - (k : Int) ≤ 12) ∨ (K = 3 ∧ k < e) ∨ (K = 4 ∧ k < e) := by omega
      clear hk3
      rcases hK with ⟨rfl, hk5⟩ | ⟨rfl, hk5⟩ | ⟨rfl, hk5⟩ | ⟨rfl, hk5⟩
      all_goals
       go_wp2_with (go_at_call 62; refine (HC.out _).mono ?_; rintro e w' ⟨rfl, n, rfl⟩)
       go_ret2
       exact ret_no2 HF.out (belowN hbel n) hbs
     ·have HN := Lib.hid (hat.tok hlt h32 he h60)
      have HR := Lib.hid (hfr.snoc (k := k) (e := e) (sp := b) (c := s[k]) (Nat.le_refl s.size))
      have h60' : ((out.length : Int) == 60) = false := by simp; omega
      have hsl2 := fun W => (run_cut s (k : Int) (e : Int) k e rfl rfl (by omega) (by omega) W)
      clear hat h32 h60
      generalize cutKind s[k] = K at *
      have hK : (K = 1 ∧ (e : Int) - (k : Int) ≤ 12) ∨ (K = 2 ∧ (e : Int) - (k : Int) ≤ 12) ∨ (K = 3 ∧ k < e) ∨ (K = 4 ∧ k < e) := by omega
      clear hk3
      rcases hK with ⟨rfl, hk5⟩ | ⟨rfl, hk5⟩ | ⟨rfl, hk5⟩ | ⟨rfl, hk5⟩
      all_goals
       go_wp2_with (first
        | (go_at_call 62; refine (HC.out _).mono ?_; rintro e w' ⟨rfl, n, rfl⟩)
        | (at_builtin; refine wp_append_tok rfl (.tmp 57) (.tmp 65) rfl w.heap.size _ out _ _ _ rfl (hown.drew _) rfl (by omega) hbs ?_; intro v1 w1 hown1 hg1))
       have hbel1 := (belowN hbel _).grown hg1 hbs hown.mine
       go_roundw
       case rel => exact ⟨e, false, _, hes, rfl, rfl, HN.out, HR.out, hown1, hbel1⟩
       case measure => simp [intOf]; omega
  ·have HF := Lib.hid (tokRes_some H0.out (hat.done (by omega)))
   clear hat
   go_wp2
   go_ret2
   exact ret_toks2 HF.out hown hfr hbel

theorem spec_TokensOf (s : ByteArray) (w : World) (hs : s.size ≤ maxLen) :
  Calls Tryd.prog 37 #[.string s] w (TokMade (tokRes s) w) := by
 refine (spec_TokensOf_row s w hs).mono ?_
 rintro e w' ⟨v, rfl, h1, h2, h3⟩
 have hsz : (tokRes s).1 = [] ∨ s.size ≤ 200 := by
  cases h0 : lineOk s
  ·left; rw [tokRes_bad h0]
  ·right; exact lineOk_size' h0
 rcases hsz with h | h
 ·rw [h] at h1 h2
  obtain ⟨fp, a, b, _⟩ := own_toks (B := 0) h1 (Fresh.nil _) (by omega)
  exact ⟨v, fp, rfl, by rw [h]; exact a, b, h3⟩
 ·obtain ⟨fp, a, b, _⟩ := own_toks h1 h2 (by omega)
  exact ⟨v, fp, rfl, a, b, h3⟩

end Go.Proofs.YtlegeancmcmbaaaDoor
