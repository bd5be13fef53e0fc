/- Texts that the proof of U stands on, in one file. -/
import Derived.Test.YtflbdanlcpojbaaZU4
import Derived.Test.YtflbdanlcpojbaaZU3
import Derived.Laws.AppendOwnNone
import Derived.Deep.RegionHeld3
set_option linter.unusedVariables false
set_option linter.unusedSimpArgs false
/- Arguments put into bodies: no program. -/
namespace Go.Proofs.Ytflbdanlcpojbaa
open Go.RowKit

/-- Tokens, the first one Spaced or not. -/
def spc (b : Bool) : List Tok → List Tok
  | [] => []
  | t :: r => ⟨t.kind, t.text, b, t.hidden⟩ :: r
theorem spc_len (b : Bool) (l : List Tok) : (spc b l).length = l.length := by cases l <;> rfl
def isM (t : Tok) (s : List UInt8) : Bool := decide (t.kind = 4) && (t.text.toList == s)
def argAt (a : List (List Tok)) (n : Int) : List Tok := a.getD n.toNat []
theorem argAt_in {a : List (List Tok)} {n : Int} {k : Nat} (h : n = k) (hk : k < a.length) : argAt a n = a[k] := by
  unfold argAt
  subst h
  simp [List.getD_eq_getElem?_getD, List.getElem?_eq_getElem hk]
/-- Whether the token of the body is directly before or behind ##. -/
def glueL (m : DMacro) (k : Nat) : Bool := if h : 0 < k ∧ k - 1 < m.body.length then isM m.body[k - 1] [35, 35] else false
def glueR (m : DMacro) (k : Nat) : Bool := if h : k + 1 < m.body.length then isM m.body[k + 1] [35, 35] else false
/-- What stands for a place of the body, the place behind it, and whether that is possible. -/
def partAt (m : DMacro) (raw ready : List (List Tok)) (k : Nat) : List Tok × Nat × Bool :=
  if h : k < m.body.length then
    (if m.function = true ∧ isM m.body[k] [35] = true then
      (if h2 : k + 1 < m.body.length then
        ([⟨(txtRes (argAt raw (parOf m.params m.body[k + 1]))).1.kind, (txtRes (argAt raw (parOf m.params m.body[k + 1]))).1.text, m.body[k].spaced, (txtRes (argAt raw (parOf m.params m.body[k + 1]))).1.hidden⟩], k + 2, (txtRes (argAt raw (parOf m.params m.body[k + 1]))).2)
       else ([], k + 2, false))
     else if parOf m.params m.body[k] < 0 then ([m.body[k]], k + 1, true)
     else if (glueL m k || glueR m k) = true then (spc m.body[k].spaced (argAt raw (parOf m.params m.body[k])), k + 1, true)
     else (spc m.body[k].spaced (argAt ready (parOf m.params m.body[k])), k + 1, true))
  else ([], k + 1, true)
section
variable {m : DMacro} {raw ready : List (List Tok)} {k : Nat}
theorem part_text (hk : k + 1 < m.body.length) (h1 : m.function = true) (h2 : isM (m.body[k]'(by omega)) [35] = true) {u : Tok} {o : Bool} (h : txtRes (argAt raw (parOf m.params m.body[k + 1])) = (u, o)) :
    partAt m raw ready k = ([⟨u.kind, u.text, (m.body[k]'(by omega)).spaced, u.hidden⟩], k + 2, o) := by
  unfold partAt; rw [dif_pos (by omega), if_pos ⟨h1, h2⟩, dif_pos hk, h]
theorem part_self (hk : k < m.body.length) (h1 : ¬ (m.function = true ∧ isM m.body[k] [35] = true)) (h2 : parOf m.params m.body[k] < 0) : partAt m raw ready k = ([m.body[k]], k + 1, true) := by
  unfold partAt; rw [dif_pos hk, if_neg h1, if_pos h2]
theorem part_raw (hk : k < m.body.length) (h1 : ¬ (m.function = true ∧ isM m.body[k] [35] = true)) (h2 : ¬ parOf m.params m.body[k] < 0) (h3 : (glueL m k || glueR m k) = true) : partAt m raw ready k = (spc m.body[k].spaced (argAt raw (parOf m.params m.body[k])), k + 1, true) := by
  unfold partAt; rw [dif_pos hk, if_neg h1, if_neg h2, if_pos h3]
theorem part_ready (hk : k < m.body.length) (h1 : ¬ (m.function = true ∧ isM m.body[k] [35] = true)) (h2 : ¬ parOf m.params m.body[k] < 0) (h3 : (glueL m k || glueR m k) = false) : partAt m raw ready k = (spc m.body[k].spaced (argAt ready (parOf m.params m.body[k])), k + 1, true) := by
  unfold partAt; rw [dif_pos hk, if_neg h1, if_neg h2, if_neg (by simp [h3])]
theorem part_next (m : DMacro) (raw ready : List (List Tok)) (k : Nat) : k < (partAt m raw ready k).2.1 := by
  unfold partAt
  split
  · split
    · split <;> (show k < k + 2; omega)
    · split
      · show k < k + 1; omega
      · split <;> (show k < k + 1; omega)
  · show k < k + 1; omega
end
def subGo (m : DMacro) (raw ready : List (List Tok)) (k : Nat) (out : List Tok) (emp paste : Bool) : List Tok × Bool :=
  if h : k < m.body.length then
    (if isM m.body[k] [35, 35] = true ∧ paste = false then subGo m raw ready (k + 1) out emp true
     else if (partAt m raw ready k).2.2 = false then ([], false)
     else if paste = true ∧ emp = false ∧ 0 < (partAt m raw ready k).1.length then
       (if (pasteRes (out.getLastD zTok) ((partAt m raw ready k).1.headD zTok)).2 = true then
         subGo m raw ready (partAt m raw ready k).2.1 (out.dropLast ++ (pasteRes (out.getLastD zTok) ((partAt m raw ready k).1.headD zTok)).1 :: (partAt m raw ready k).1.tail) emp false
        else ([], false))
     else subGo m raw ready (partAt m raw ready k).2.1 (out ++ (partAt m raw ready k).1) (decide ((partAt m raw ready k).1.length = 0) && (emp || !paste)) false)
  else (out, true)
termination_by m.body.length - k
decreasing_by
  all_goals first | omega | (refine Nat.sub_lt_sub_left h ?_; exact part_next _ _ _ _)
section
variable {m : DMacro} {raw ready : List (List Tok)} {k : Nat} {out part : List Tok} {emp paste : Bool} {nx : Nat} {ok : Bool}
theorem sub_end (h : m.body.length ≤ k) : subGo m raw ready k out emp paste = (out, true) := by rw [subGo, dif_neg (by omega)]
theorem sub_mark (hk : k < m.body.length) (h1 : isM m.body[k] [35, 35] = true) : subGo m raw ready k out emp false = subGo m raw ready (k + 1) out emp true := by
  rw [subGo, dif_pos hk, if_pos ⟨h1, rfl⟩]
theorem sub_bad (hk : k < m.body.length) (h1 : ¬ (isM m.body[k] [35, 35] = true ∧ paste = false)) (hp : partAt m raw ready k = (part, nx, false)) : subGo m raw ready k out emp paste = ([], false) := by
  rw [subGo, dif_pos hk, if_neg h1, if_pos (by rw [hp])]
theorem sub_no (hk : k < m.body.length) (h1 : ¬ (isM m.body[k] [35, 35] = true ∧ paste = false)) (hp : partAt m raw ready k = (part, nx, true)) (h2 : paste = true ∧ emp = false ∧ 0 < part.length) {x : Tok} (h3 : pasteRes (out.getLastD zTok) (part.headD zTok) = (x, false)) : subGo m raw ready k out emp paste = ([], false) := by
  rw [subGo, dif_pos hk, if_neg h1, if_neg (by rw [hp]; simp), if_pos (by rw [hp]; exact h2), hp]
  simp only [h3]
  rw [if_neg (by simp)]
theorem sub_yes (hk : k < m.body.length) (h1 : ¬ (isM m.body[k] [35, 35] = true ∧ paste = false)) (hp : partAt m raw ready k = (part, nx, true)) (h2 : paste = true ∧ emp = false ∧ 0 < part.length) {x : Tok} (h3 : pasteRes (out.getLastD zTok) (part.headD zTok) = (x, true)) :
    subGo m raw ready k out emp paste = subGo m raw ready nx (out.dropLast ++ x :: part.tail) emp false := by
  rw [subGo, dif_pos hk, if_neg h1, if_neg (by rw [hp]; simp), if_pos (by rw [hp]; exact h2), hp]
  simp only [h3, if_true]
theorem sub_put (hk : k < m.body.length) (h1 : ¬ (isM m.body[k] [35, 35] = true ∧ paste = false)) (hp : partAt m raw ready k = (part, nx, true)) (h2 : ¬ (paste = true ∧ emp = false ∧ 0 < part.length)) :
    subGo m raw ready k out emp paste = subGo m raw ready nx (out ++ part) (decide (part.length = 0) && (emp || !paste)) false := by
  rw [subGo, dif_pos hk, if_neg h1, if_neg (by rw [hp]; simp), if_neg (by rw [hp]; exact h2), hp]
end
def argsOk (m : DMacro) (a : List (List Tok)) : Bool := decide (a.length = m.params.length) && a.all toksOk
def subRes (m : DMacro) (raw ready : List (List Tok)) : List Tok × Bool :=
  if macOk m = true ∧ argsOk m raw = true ∧ argsOk m ready = true then
    (if (subGo m raw ready 0 [] true false).2 = false ∨ 240 < (subGo m raw ready 0 [] true false).1.length then ([], false) else subGo m raw ready 0 [] true false)
  else ([], false)
theorem subRes_bad {m : DMacro} {raw ready : List (List Tok)} (h : ¬ (macOk m = true ∧ argsOk m raw = true ∧ argsOk m ready = true)) : subRes m raw ready = ([], false) := by unfold subRes; rw [if_neg h]
theorem subRes_no {m : DMacro} {raw ready : List (List Tok)} {l : List Tok} (h : subGo m raw ready 0 [] true false = (l, false)) : subRes m raw ready = ([], false) := by
  unfold subRes; split
  · rw [if_pos (by rw [h]; exact .inl rfl)]
  · rfl
theorem subRes_long {m : DMacro} {raw ready : List (List Tok)} {l : List Tok} {o : Bool} (h : subGo m raw ready 0 [] true false = (l, o)) (hl : 240 < l.length) : subRes m raw ready = ([], false) := by
  unfold subRes; split
  · rw [if_pos (by rw [h]; exact .inr hl)]
  · rfl
theorem subRes_yes {m : DMacro} {raw ready : List (List Tok)} {l : List Tok} (h0 : macOk m = true ∧ argsOk m raw = true ∧ argsOk m ready = true) (h : subGo m raw ready 0 [] true false = (l, true)) (hl : ¬ 240 < l.length) : subRes m raw ready = (l, true) := by
  unfold subRes; rw [if_pos h0, if_neg (by rw [h]; simpa using hl), h]

/-- No token of the body is a parameter, # or ##. -/
def plainB (m : DMacro) : Bool := m.body.all fun t => m.params.all (fun p => !(t.text.toList == p.toList)) && !(t.text.toList == [35]) && !(t.text.toList == [35, 35])
theorem plain_par {ps : List ByteArray} {t : Tok} (h : ∀ p ∈ ps, t.text ≠ p) : parOf ps t = -1 := by
  have key : ∀ d k, ps.length - k = d → parFrom ps t k = -1 := by
    intro d
    induction d with
    | zero => intro k hk; rw [parFrom, dif_neg (by omega)]
    | succ d ih =>
      intro k hk
      have hlt : k < ps.length := by omega
      rw [parFrom, dif_pos hlt, if_neg (fun hh => h _ (List.getElem_mem hlt) hh.2.symm)]
      exact ih (k + 1) (by omega)
  exact key _ 0 rfl
theorem plain_go {m : DMacro} {raw ready : List (List Tok)} (hp : plainB m = true) : ∀ d k, m.body.length - k = d → k ≤ m.body.length → subGo m raw ready k (m.body.take k) (decide (k = 0)) false = (m.body, true) := by
  intro d
  induction d with
  | zero => intro k hk hk2; rw [sub_end (by omega), List.take_of_length_le (by omega)]
  | succ d ih =>
    intro k hk hk2
    have hlt : k < m.body.length := by omega
    unfold plainB at hp
    rw [List.all_eq_true] at hp
    have h1 := hp _ (List.getElem_mem hlt)
    simp only [Bool.and_eq_true, Bool.not_eq_true', List.all_eq_true] at h1
    obtain ⟨⟨h1, h2⟩, h3⟩ := h1
    have hpar : parOf m.params m.body[k] < 0 := by
      rw [plain_par (fun p hp e => by have := h1 p hp; rw [e, bytes_beq rfl] at this; exact absurd this (by simp))]; omega
    have hm2 : isM m.body[k] [35, 35] = false := by unfold isM; rw [h3, Bool.and_false]
    have hm1 : isM m.body[k] [35] = false := by unfold isM; rw [h2, Bool.and_false]
    have hpt : partAt m raw ready k = ([m.body[k]], k + 1, true) := part_self hlt (by rw [hm1]; simp) hpar
    rw [sub_put hlt (by rw [hm2]; simp) hpt (by simp), ← List.take_succ_eq_append_getElem hlt]
    have := ih (k + 1) (by omega) (by omega)
    rw [decide_eq_false (by omega : ¬ k + 1 = 0)] at this
    have e : (decide (([m.body[k]] : List Tok).length = 0) && (decide (k = 0) || !false)) = false := by simp
    rw [e]; exact this
theorem sub_plain {m : DMacro} {raw ready : List (List Tok)} {l : List Tok} (hp : plainB m = true) (h : subRes m raw ready = (l, true)) : l = m.body := by
  have hg := plain_go (raw := raw) (ready := ready) hp _ 0 rfl (Nat.zero_le _)
  rw [List.take_zero, decide_eq_true rfl] at hg
  unfold subRes at h
  rw [hg] at h
  split at h
  · split at h
    · simp at h
    · simp only [Prod.mk.injEq, and_true] at h; exact h.symm
  · simp at h
theorem sub_false {m : DMacro} {raw ready : List (List Tok)} {l : List Tok} (h : subRes m raw ready = (l, false)) : l = [] := by
  unfold subRes at h
  split at h
  · split at h
    · simp only [Prod.mk.injEq, and_true] at h; exact h.symm
    · rename_i hh
      have h2 : (subGo m raw ready 0 [] true false).2 = false := by rw [h]
      exact absurd (.inl h2) hh
  · simp only [Prod.mk.injEq, and_true] at h; exact h.symm

end Go.Proofs.Ytflbdanlcpojbaa

/- Rows of the call's own whose elements have memory behind them. Over any program. -/
namespace Go.Proofs.Ytflbdanlcpojbaa
open Go.RowKit

structure RowE {α : Type} (S : Shape α) (base : Nat) (e : TypeId) (v : Value) (L : List (Elem α)) (w : World) : Prop where
  row : w.ownsRow base e S.m v L.length (L.flatMap (·.cells))
  len : ∀ x ∈ L, x.cells.length = S.m
  el : ∀ x ∈ L, S.R w x.cells x.d x.fp
  lo : ∀ x ∈ L, ∀ b ∈ x.fp, base ≤ b
  ty : ∀ x ∈ L, ∀ b ∈ x.fp, ∃ cur t fr, w.heap[b]? = some (.cells cur t fr) ∧ t ≠ e

section
variable {α : Type} {S : Shape α} {base : Nat} {e : TypeId} {v v' : Value} {L : List (Elem α)} {w w' : World}
theorem ownsRow_same {n : Nat} {xs : List Value} {m : Nat} (h : w.ownsRow base e m v n xs) (hb : ∀ g, v.ownBlock = some g → w'.heap[g]? = w.heap[g]?) : w'.ownsRow base e m v n xs := by
  refine ⟨h.1, ?_⟩
  rcases h.2 with h0 | ⟨g, cap, cur, h1, h2, h3, h4⟩
  · exact .inl h0
  · exact .inr ⟨g, cap, cur, h1, h2, (hb g (by rw [h1]; rfl)).trans h3, h4⟩
theorem RowE.same (h : RowE S base e v L w) (hb : ∀ b, b < w.heap.size → base ≤ b → w'.heap[b]? = w.heap[b]?) : RowE S base e v L w' where
  row := ownsRow_same h.row fun g hg => by
    have := h.row.lt g hg
    exact hb g this.2 this.1
  len := h.len
  el := fun x hx => S.frame (fun b hb' => hb b (S.lt (h.el x hx) b hb') (h.lo x hx b hb')) (h.el x hx)
  lo := h.lo
  ty := fun x hx b hb' => by
    obtain ⟨cur, t, fr, h1, h2⟩ := h.ty x hx b hb'
    exact ⟨cur, t, fr, (hb b (S.lt (h.el x hx) b hb') (h.lo x hx b hb')).trans h1, h2⟩
theorem RowE.below (h : RowE S base e v L w) (hb : Below w.heap.size w w') : RowE S base e v L w' := h.same fun b hb' _ => hb.block b hb'
theorem RowE.keptR {rb : Nat} (h : RowE S base e v L w) (hk : Kept [rb] w w') (hr : rb < base) : RowE S base e v L w' := h.same fun b hb hl => hk.block b hb (by simp; omega)
theorem RowE.lower {base' : Nat} (h : RowE S base e v L w) (hl : base' ≤ base) : RowE S base' e v L w where
  row := ⟨h.row.1, by
    rcases h.row.2 with h0 | ⟨g, cap, cur, h1, h2, h3⟩
    · exact .inl h0
    · exact .inr ⟨g, cap, cur, h1, Nat.le_trans hl h2, h3⟩⟩
  len := h.len
  el := h.el
  lo := fun x hx b hb => Nat.le_trans hl (h.lo x hx b hb)
  ty := h.ty
theorem RowE.nil (S : Shape α) (base : Nat) (e : TypeId) (w : World) : RowE S base e (.slice none 0 0) [] w := ⟨World.ownsRow_nil _ _ _ _, by simp, by simp, by simp, by simp⟩
theorem RowE.val (h : RowE S base e v L w) : ∃ a cap, v = .slice a L.length cap ∧ L.length ≤ cap ∧ cap ≤ maxLen ∧ (0 < L.length → ∃ g, a = some ⟨g, 0, none⟩ ∧ base ≤ g ∧ g < w.heap.size) := by
  rcases h.row.2 with ⟨rfl, h0⟩ | ⟨g, cap, cur, rfl, hb, hg, hn, hc, _⟩
  · exact ⟨none, 0, by rw [h0], by omega, by simp, fun h => by omega⟩
  · exact ⟨_, cap, rfl, hn, hc, fun _ => ⟨g, rfl, hb, (Array.getElem?_eq_some_iff.1 hg).1⟩⟩
theorem RowE.mine (h : RowE S base e v L w) : ∀ b, v.ownBlock = some b → base ≤ b := fun b hb => (h.row.lt b hb).1
theorem RowE.slice (h : RowE S base e v L w) : ∃ fp, (sSlice S).R w [v] (L.map (·.d)) fp := by
  obtain ⟨fp, h1, _⟩ := slice_of_row h.row fun x hx => ⟨h.len x hx, h.el x hx⟩
  exact ⟨fp, h1⟩
/-- The blocks behind an element are not the row's. -/
theorem RowE.ap (h : RowE S base e v L w) {x : Elem α} (hx : x ∈ L) {b : Nat} (hb : b ∈ x.fp) : v.ownBlock ≠ some b := by
  intro hv
  obtain ⟨cur, t, fr, h1, h2⟩ := h.ty x hx b hb
  rcases h.row.2 with ⟨rfl, _⟩ | ⟨g, cap, cur', rfl, _, hg, _⟩
  · simp [Value.ownBlock] at hv
  · simp only [Value.ownBlock, Option.some.injEq] at hv
    subst hv
    rw [h1] at hg
    simp only [Option.some.injEq, Obj.cells.injEq] at hg
    exact h2 hg.2.1
theorem RowE.frozen {g n cap : Nat} (h : RowE S base e (.slice (some ⟨g, 0, none⟩) n cap) L w) (o : Nat) : w.frozen? ⟨g, o, none⟩ = false := by
  rcases h.row.2 with ⟨h', _⟩ | ⟨g', cap', cur, h', _, hg, _⟩
  · cases h'
  · simp only [Value.slice.injEq, Option.some.injEq, Addr.mk.injEq, and_true] at h'
    obtain ⟨rfl, _⟩ := h'
    exact frozen_of_row w g o cur e hg
/-- An element's cells. -/
theorem RowE.cellAt {g n cap : Nat} (h : RowE S base e (.slice (some ⟨g, 0, none⟩) n cap) L w) {k : Nat} (hk : k < L.length) {j : Nat} (hj : j < S.m) {u : Value} (hu : L[k].cells[j]? = some u) : w.cell? ⟨g, k * S.m + j, none⟩ = some u := by
  have hn : L.length = n := by
    rcases h.row.2 with ⟨h', _⟩ | ⟨g', cap', cur, h', _⟩
    · cases h'
    · simp only [Value.slice.injEq] at h'; exact h'.2.1.symm
  subst hn
  rw [h.row.cellAt (k * S.m + j) (by have : (k + 1) * S.m ≤ L.length * S.m := Nat.mul_le_mul_right _ hk; rw [Nat.succ_mul] at this; omega)]
  exact (flatMap_at (f := Elem.cells) h.len hk hj).trans hu
theorem flatMap_set {f : Elem α → List Value} {m : Nat} : ∀ {L : List (Elem α)} (_ : ∀ x ∈ L, (f x).length = m) {k : Nat} (hk : k < L.length) {j : Nat} (_ : j < m) (u : Value) (x' : Elem α) (_ : f x' = (f L[k]).set j u), (L.flatMap f).set (k * m + j) u = (L.set k x').flatMap f
  | [], _, k, hk, _, _, _, _, _ => by simp at hk
  | x :: L, hL, 0, _, j, hj, u, x', hx => by
    simp only [List.flatMap_cons, List.set_cons_zero, Nat.zero_mul, Nat.zero_add]
    rw [List.set_append_left _ _ (by rw [hL x (by simp)]; exact hj), hx]; rfl
  | x :: L, hL, k + 1, hk, j, hj, u, x', hx => by
    have hl := hL x (by simp)
    have e : (k + 1) * m + j = m + (k * m + j) := by rw [Nat.succ_mul]; omega
    simp only [List.flatMap_cons, List.set_cons_succ]
    rw [List.set_append_right _ _ (by rw [hl, e]; omega), hl, e, Nat.add_sub_cancel_left]
    rw [flatMap_set (fun y hy => hL y (by simp [hy])) (by simpa using hk) hj u x' (by simpa using hx)]
/-- A store into an element. -/
theorem RowE.set {g n cap : Nat} (h : RowE S base e (.slice (some ⟨g, 0, none⟩) n cap) L w) {k : Nat} (hk : k < L.length) {j : Nat} (hj : j < S.m) (u : Value) (x' : Elem α) (hx : x'.cells = L[k].cells.set j u)
    (hR : S.R w x'.cells x'.d x'.fp) (hlo : ∀ b ∈ x'.fp, base ≤ b) (hty : ∀ b ∈ x'.fp, ∃ cur t fr, w.heap[b]? = some (.cells cur t fr) ∧ t ≠ e) :
    RowE S base e (.slice (some ⟨g, 0, none⟩) n cap) (L.set k x') (w.setCell ⟨g, k * S.m + j, none⟩ u) := by
  have hne : ∀ b : Nat, (∃ cur t fr, w.heap[b]? = some (.cells cur t fr) ∧ t ≠ e) → b ≠ g := by
    rintro b ⟨cur, t, fr, h1, h2⟩ rfl
    rcases h.row.2 with ⟨h', _⟩ | ⟨g', cap', cur', h', _, hg, _⟩
    · cases h'
    · simp only [Value.slice.injEq, Option.some.injEq, Addr.mk.injEq, and_true] at h'
      obtain ⟨rfl, _⟩ := h'
      rw [h1] at hg
      simp only [Option.some.injEq, Obj.cells.injEq] at hg
      exact h2 hg.2.1
  have hblk : ∀ b : Nat, b ≠ g → (w.setCell ⟨g, k * S.m + j, none⟩ u).heap[b]? = w.heap[b]? := fun b hb => Below.heap_setCell _ _ _ _ hb
  have hmem : ∀ x ∈ L.set k x', x = x' ∨ x ∈ L := fun x hx => by
    rcases List.mem_or_eq_of_mem_set hx with h | h
    · exact .inr h
    · exact .inl h
  refine ⟨?_, fun x hx' => ?_, fun x hx' => ?_, fun x hx' => ?_, fun x hx' => ?_⟩
  · have hn : L.length = n := by
      rcases h.row.2 with ⟨h', _⟩ | ⟨g', cap', cur, h', _⟩
      · cases h'
      · simp only [Value.slice.injEq] at h'; exact h'.2.1.symm
    have hrow := h.row
    rw [hn] at hrow
    have := (hrow.stored (k * S.m + j) u).1
    rw [flatMap_set h.len hk hj u x' hx] at this
    rw [List.length_set, hn]
    exact this
  · rcases hmem x hx' with rfl | hx'
    · rw [hx, List.length_set]; exact h.len _ (List.getElem_mem hk)
    · exact h.len x hx'
  · rcases hmem x hx' with rfl | hx'
    · exact S.frame (fun b hb => hblk b (hne b (hty b hb))) hR
    · exact S.frame (fun b hb => hblk b (hne b (h.ty x hx' b hb))) (h.el x hx')
  · rcases hmem x hx' with rfl | hx'
    · exact hlo
    · exact h.lo x hx'
  · intro b hb
    rcases hmem x hx' with rfl | hx'
    · obtain ⟨cur, t, fr, h1, h2⟩ := hty b hb
      exact ⟨cur, t, fr, (hblk b (hne b ⟨cur, t, fr, h1, h2⟩)).trans h1, h2⟩
    · obtain ⟨cur, t, fr, h1, h2⟩ := h.ty x hx' b hb
      exact ⟨cur, t, fr, (hblk b (hne b ⟨cur, t, fr, h1, h2⟩)).trans h1, h2⟩
/-- Elements appended. -/
theorem RowE.appended (h : RowE S base e v L w) {X : List (Elem α)} (hrow : w'.ownsRow base e S.m v' (L ++ X).length ((L ++ X).flatMap (·.cells))) (hg : w.grownBy w' v.ownBlock)
    (hlen : ∀ x ∈ X, x.cells.length = S.m) (hR : ∀ x ∈ X, S.R w x.cells x.d x.fp) (hlo : ∀ x ∈ X, ∀ b ∈ x.fp, base ≤ b) (hty : ∀ x ∈ X, ∀ b ∈ x.fp, ∃ cur t fr, w.heap[b]? = some (.cells cur t fr) ∧ t ≠ e) :
    RowE S base e v' (L ++ X) w' := by
  have hne : ∀ b : Nat, (∃ cur t fr, w.heap[b]? = some (.cells cur t fr) ∧ t ≠ e) → w'.heap[b]? = w.heap[b]? := by
    rintro b ⟨cur, t, fr, h1, h2⟩
    refine hg.block b (Array.getElem?_eq_some_iff.1 h1).1 fun hv => ?_
    rcases h.row.2 with ⟨rfl, _⟩ | ⟨g', cap', cur', rfl, _, hg', _⟩
    · simp [Value.ownBlock] at hv
    · simp only [Value.ownBlock, Option.some.injEq] at hv
      subst hv
      rw [h1] at hg'
      simp only [Option.some.injEq, Obj.cells.injEq] at hg'
      exact h2 hg'.2.1
  refine ⟨hrow, fun x hx => ?_, fun x hx => ?_, fun x hx => ?_, fun x hx b hb => ?_⟩ <;> rcases List.mem_append.1 hx with hx | hx
  · exact h.len x hx
  · exact hlen x hx
  · exact S.frame (fun b hb => hne b (h.ty x hx b hb)) (h.el x hx)
  · exact S.frame (fun b hb => hne b (hty x hx b hb)) (hR x hx)
  · exact h.lo x hx
  · exact hlo x hx
  · obtain ⟨cur, t, fr, h1, h2⟩ := h.ty x hx b hb
    exact ⟨cur, t, fr, (hne b ⟨cur, t, fr, h1, h2⟩).trans h1, h2⟩
  · obtain ⟨cur, t, fr, h1, h2⟩ := hty x hx b hb
    exact ⟨cur, t, fr, (hne b ⟨cur, t, fr, h1, h2⟩).trans h1, h2⟩
end

/-- append of elements out of a literal's own block, or of any row that can be read. -/
theorem wp_append_rowE {α : Type} {S : Shape α} {P : Program} {t e : TypeId} {z : Value} {bytes : Nat} (ti : TI P t e z S.m bytes) (hzs : z.cells.size = S.m) (h0 : 0 < S.m) (w : World) {L X : List (Elem α)} {ops : Array Oper} {rest : List Oper} {o : Oper} {a : Act} {Q : Exit → Act → World → Prop}
    (hg : o.guard = none) (s y : Operand) (ho : o.op = .call { callee := .builtin .append, args := #[s, y], argTypes := #[t, t] })
    (base : Nat) (v : Value) (hs : a.eval s = v) (hown : RowE S base e v L w) (g m c : Nat) (hy : a.eval y = .slice (some ⟨g, 0, none⟩) m c) (hm : X.length = m)
    (hlen : ∀ x ∈ X, x.cells.length = S.m) (h1 : ∀ x ∈ X, ∀ u ∈ x.cells, u.oneCell' = true) (hcell : ∀ j u, (X.flatMap (·.cells))[j]? = some u → w.cell? ⟨g, j, none⟩ = some u)
    (hR : ∀ x ∈ X, S.R w x.cells x.d x.fp) (hlo : ∀ x ∈ X, ∀ b ∈ x.fp, base ≤ b) (hty : ∀ x ∈ X, ∀ b ∈ x.fp, ∃ cur t fr, w.heap[b]? = some (.cells cur t fr) ∧ t ≠ e)
    (h63 : L.length + m ≤ maxLen) (hbytes : (L.length + m) * bytes ≤ 140737488355328) (hbase : base ≤ w.heap.size)
    (h : ∀ v' w', RowE S base e v' (L ++ X) w' → w.grownBy w' v.ownBlock → wpList P ops Q rest (a.put o.dst v') w') : wpList P ops Q (o :: rest) a w := by
  obtain ⟨i, hi, hz0, hz1, hz2⟩ := info_parts ti.2
  subst hm
  refine wpList_append_own _ hg s y t ho base e i z S.m bytes ti.1 hi hz0 hz1 hz2 hzs h0 v L.length _ hs hown.row ⟨g, 0, none⟩ X.length c (X.flatMap (·.cells)) hy (flatMap_len hlen) ?_ ?_ h63 hbytes hbase fun v' w' a b _ => h v' w' ?_ b
  · intro j u hj
    rw [addr_add, Nat.zero_add]
    exact hcell j u hj
  · intro u hu
    obtain ⟨x, hx, hu⟩ := List.mem_flatMap.1 hu
    exact h1 x hx u hu
  · refine hown.appended ?_ b hlen hR hlo hty
    rw [List.length_append, List.flatMap_append]
    exact a

end Go.Proofs.Ytflbdanlcpojbaa

/- A row of structs that a call makes and fills, element by element. Over any program. -/
namespace Go.Proofs.Ytflbdanlcpojbaa
open Go.RowKit

/-- Two blocks that were made one after another. -/
theorem alloc2_blk (w : World) (c0 c1 : Array Value) (t0 t1 : TypeId) :
    ((w.alloc (.cells c0 t0)).alloc (.cells c1 t1)).heap[w.heap.size]? = some (.cells c0 t0 (0, 0)) ∧
    ((w.alloc (.cells c0 t0)).alloc (.cells c1 t1)).heap[w.heap.size + 1]? = some (.cells c1 t1 (0, 0)) := by
  refine ⟨?_, ?_⟩
  · show ((w.heap.push _).push _)[_]? = _
    rw [Array.getElem?_push, if_neg (by simp), Array.getElem?_push, if_pos rfl]
  · show ((w.heap.push _).push _)[_]? = _
    rw [Array.getElem?_push, if_pos (by simp)]

/-- Cells stored one behind the other. -/
def putAll (w : World) (b : Nat) : Nat → List Value → World
  | _, [] => w
  | o, c :: cs => putAll (w.setCell ⟨b, o, none⟩ c) b (o + 1) cs
def setFrom : List Value → Nat → List Value → List Value
  | xs, _, [] => xs
  | xs, o, c :: cs => setFrom (xs.set o c) (o + 1) cs
theorem setFrom_app : ∀ (cs A Z R : List Value), Z.length = cs.length → setFrom (A ++ (Z ++ R)) A.length cs = A ++ (cs ++ R)
  | [], A, Z, R, h => by
    have : Z = [] := by simpa using h
    subst this; simp [setFrom]
  | c :: cs, A, [], R, h => by simp at h
  | c :: cs, A, z :: Z, R, h => by
    unfold setFrom
    have e : (A ++ (z :: Z ++ R)).set A.length c = (A ++ [c]) ++ (Z ++ R) := by simp
    rw [e]
    have e2 : A.length + 1 = (A ++ [c]).length := by simp
    rw [e2, setFrom_app cs (A ++ [c]) Z R (by simpa using h)]
    simp
theorem putAll_row {base e size n cap g : Nat} : ∀ (cs : List Value) (w : World) (xs : List Value) (o : Nat), w.ownsRow base e size (.slice (some ⟨g, 0, none⟩) n cap) n xs →
    (putAll w g o cs).ownsRow base e size (.slice (some ⟨g, 0, none⟩) n cap) n (setFrom xs o cs)
  | [], _, _, _, h => h
  | c :: cs, w, xs, o, h => putAll_row cs _ _ (o + 1) (h.stored o c).1
theorem putAll_below {B g : Nat} {a : World} (hg : B ≤ g) : ∀ (cs : List Value) (w : World) (o : Nat), Below B a w → Below B a (putAll w g o cs)
  | [], _, _, h => h
  | c :: cs, w, o, h => putAll_below hg cs _ (o + 1) (h.setCell (p := ⟨g, o, none⟩) hg c)
theorem putAll_kept {g : Nat} : ∀ (cs : List Value) (w : World) (o : Nat), Kept [g] w (putAll w g o cs)
  | [], w, _ => Kept.refl _ w
  | c :: cs, w, o => ((Kept.refl [g] w).setCell (p := ⟨g, o, none⟩) (by simp) c).trans (putAll_kept cs _ (o + 1))

/-- The row at block g (the first of the call's own): k elements are in it. -/
structure Filling {α : Type} (S : Shape α) (g : Nat) (e : TypeId) (l : List α) (k : Nat) (w : World) (L : List (Elem α)) (R : List Value) : Prop where
  row : w.ownsRow g e S.m (.slice (some ⟨g, 0, none⟩) l.length l.length) l.length (L.flatMap (·.cells) ++ R)
  dat : L.map (·.d) = l.take k
  len : ∀ x ∈ L, x.cells.length = S.m
  el : ∀ x ∈ L, S.R w x.cells x.d x.fp
  own : Own w (g + 1) (L.flatMap (·.fp))
section
variable {α : Type} {S : Shape α} {g e : Nat} {l : List α} {k : Nat} {w w' : World} {L : List (Elem α)} {R : List Value}
theorem Filling.start {xs : List Value} (h : w.ownsRow g e S.m (.slice (some ⟨g, 0, none⟩) l.length l.length) l.length xs) : Filling S g e l 0 w [] xs :=
  ⟨by simpa using h, by simp, by simp, by simp, Own.nil _ _⟩
theorem Filling.count (h : Filling S g e l k w L R) (hk : k ≤ l.length) : L.length = k := by
  have := congrArg List.length h.dat
  simpa [hk] using this
theorem Filling.cells (h : Filling S g e l k w L R) (hk : k ≤ l.length) : (L.flatMap (·.cells)).length = k * S.m := by rw [flatMap_len h.len, h.count hk]
theorem Filling.rest (h : Filling S g e l k w L R) (hk : k ≤ l.length) : R.length = (l.length - k) * S.m := by
  have h1 := h.row.1
  rw [List.length_append, h.cells hk] at h1
  have : (l.length - k) * S.m = l.length * S.m - k * S.m := Nat.sub_mul _ _ _
  omega
theorem Filling.lt (h : Filling S g e l k w L R) : g < w.heap.size := (h.row.lt g rfl).2
theorem Filling.below (h : Filling S g e l k w L R) (hb : Below w.heap.size w w') : Filling S g e l k w' L R where
  row := by
    refine ⟨h.row.1, ?_⟩
    rcases h.row.2 with h0 | ⟨g', cap, cur, h1, h2, h3, h4⟩
    · exact .inl h0
    · exact .inr ⟨g', cap, cur, h1, h2, (hb.block g' (Array.getElem?_eq_some_iff.1 h3).1).trans h3, h4⟩
  dat := h.dat
  len := h.len
  el := fun x hx => S.below (h.el x hx) hb
  own := h.own.grow hb
/-- The cells of the next element: there, not frozen. -/
theorem Filling.cell (h : Filling S g e l k w L R) (hk : k < l.length) {j : Nat} (hj : j < S.m) : ∃ u, w.cell? ⟨g, k * S.m + j, none⟩ = some u := by
  have h1 : (k + 1) * S.m ≤ l.length * S.m := Nat.mul_le_mul_right _ hk
  rw [Nat.succ_mul] at h1
  rw [h.row.cellAt (k * S.m + j) (by omega), List.getElem?_append_right (by rw [h.cells (by omega)]; omega), h.cells (by omega)]
  have h2 := h.rest (by omega)
  have h3 : (l.length - k) * S.m = l.length * S.m - k * S.m := Nat.sub_mul _ _ _
  exact ⟨R[k * S.m + j - k * S.m]'(by omega), List.getElem?_eq_getElem _⟩
theorem Filling.frozen (h : Filling S g e l k w L R) (o : Nat) : w.frozen? ⟨g, o, none⟩ = false := h.row.frozenAt o
theorem Filling.next {cs : List Value} {fp : List Nat} {w0 : World} (h0 : Filling S g e l k w0 L R) (hk : k < l.length) (hb : Below w0.heap.size w0 w) (hlen : cs.length = S.m) (hR : S.R w cs l[k] fp) (ho : Own w w0.heap.size fp) :
    ∃ R', Filling S g e l (k + 1) (putAll w g (k * S.m) cs) (L ++ [⟨cs, l[k], fp⟩]) R' := by
  have h := h0.below hb
  have hg0 := h0.lt
  have hap : ∀ x ∈ L, ∀ b ∈ x.fp, b ∈ L.flatMap (·.fp) := fun x hx b hb' => List.mem_flatMap.2 ⟨x, hx, hb'⟩
  have hn : ∀ b ∈ L.flatMap (·.fp), b ∉ [g] := fun b hb' => by have := (h.own.2 b hb').1; simp; omega
  have hn2 : ∀ b ∈ fp, b ∉ [g] := fun b hb' => by have := (ho.2 b hb').1; simp; omega
  have hK := putAll_kept (g := g) cs w (k * S.m)
  have hr := h.rest (by omega)
  have hsp : (l.length - k) * S.m = S.m + (l.length - (k + 1)) * S.m := by rw [show l.length - k = (l.length - (k + 1)) + 1 by omega, Nat.succ_mul]; omega
  refine ⟨R.drop S.m, ⟨?_, ?_, fun x hx => ?_, fun x hx => ?_, ?_⟩⟩
  · have := putAll_row cs w _ (k * S.m) h.row
    have e1 : L.flatMap (·.cells) ++ R = L.flatMap (·.cells) ++ (R.take S.m ++ R.drop S.m) := by rw [List.take_append_drop]
    rw [e1, ← h.cells (by omega), setFrom_app cs _ (R.take S.m) (R.drop S.m) (by rw [List.length_take, hlen]; omega)] at this
    rw [List.flatMap_append, List.flatMap_cons, List.flatMap_nil, List.append_nil, List.append_assoc, ← h.cells (by omega)]
    exact this
  · rw [List.map_append, h.dat, List.take_succ_eq_append_getElem hk]; rfl
  · rcases List.mem_append.1 hx with hx | hx
    · exact h.len x hx
    · obtain rfl := List.mem_singleton.1 hx; exact hlen
  · rcases List.mem_append.1 hx with hx | hx
    · exact S.kept (h.el x hx) (fun b hb' => hn b (hap x hx b hb')) hK
    · obtain rfl := List.mem_singleton.1 hx
      exact S.kept hR hn2 hK
  · rw [List.flatMap_append, List.flatMap_cons, List.flatMap_nil, List.append_nil]
    refine Own.app (h.own.kept hn hK) ((Own.lower ho (by omega)).kept hn2 hK) fun b hb1 hb2 => ?_
    have h1 := (ho.2 b hb2).1
    have h2 := h0.own.lt b hb1
    omega
theorem Filling.done (h : Filling S g e l k w L R) (hk : l.length = k) : ∃ fp, (sSlice S).R w [.slice (some ⟨g, 0, none⟩) l.length l.length] l fp ∧ Own w g fp := by
  have hc := h.count (by omega)
  have hr : R = [] := by
    have := h.rest (by omega)
    rw [hk, Nat.sub_self, Nat.zero_mul] at this
    exact List.length_eq_zero_iff.1 this
  have hd := h.dat
  rw [List.take_of_length_le (by omega)] at hd
  have hrow := h.row
  rw [hr, List.append_nil] at hrow
  have hL : L.length = l.length := by omega
  rw [← hL] at hrow
  obtain ⟨fp, h1, h2, h3⟩ := slice_of_row hrow (fun x hx => ⟨h.len x hx, h.el x hx⟩)
  rw [hd, hL] at h1
  exact ⟨fp, h1, h3 (Own.lower h.own (by omega)) (fun g' hg' hx => by
    simp only [Value.ownBlock, Option.some.injEq] at hg'
    have := (h.own.2 g' hx).1
    omega)⟩
end

/-- Weights of a list. -/
theorem wsum_succ {α : Type} (f : α → Nat) (l : List α) (k : Nat) (h : k < l.length) : ((l.take (k + 1)).map f).sum = ((l.take k).map f).sum + f l[k] := by
  rw [List.take_succ_eq_append_getElem h]; simp only [List.map_append, List.sum_append, List.map_cons, List.map_nil, List.sum_cons, List.sum_nil, Nat.add_zero]
theorem wsum_le {α : Type} (f : α → Nat) (l : List α) (k : Nat) : ((l.take k).map f).sum ≤ (l.map f).sum := by
  have := congrArg (fun l : List α => (l.map f).sum) (List.take_append_drop k l)
  simp only [List.map_append, List.sum_append] at this
  omega
theorem wsum_at {α : Type} (f : α → Nat) (l : List α) (k : Nat) (h : k < l.length) : f l[k] ≤ (l.map f).sum := by
  have h1 := wsum_succ f l k h
  have h2 := wsum_le f l (k + 1)
  omega

end Go.Proofs.Ytflbdanlcpojbaa

/- Rows of the call's own: literals, whole elements stored, rows behind rows. Over any program. -/
namespace Go.Proofs.Ytflbdanlcpojbaa
open Go.RowKit

section
variable {α : Type} {S : Shape α} {base : Nat} {e : TypeId} {v v' : Value} {L : List (Elem α)} {w w' : World}
/-- A literal's row. -/
theorem RowE.lit (X : List (Elem α)) (hlen : ∀ x ∈ X, x.cells.length = S.m) (hR : ∀ x ∈ X, S.R w x.cells x.d x.fp) (hlo : ∀ x ∈ X, ∀ b ∈ x.fp, base ≤ b) (hty : ∀ x ∈ X, ∀ b ∈ x.fp, ∃ cur t fr, w.heap[b]? = some (.cells cur t fr) ∧ t ≠ e)
    (hb : base ≤ w.heap.size) (hn : X.length ≤ 1000000) : RowE S base e (.slice (some ⟨w.heap.size, 0, none⟩) X.length X.length) X (w.alloc (.cells (X.flatMap (·.cells)).toArray e)) where
  row := World.ownsRow_lit (base := base) (e := e) (size := S.m) w (X.flatMap (·.cells)).toArray X.length hb (by unfold maxLen; omega) (by simpa using flatMap_len hlen)
  len := hlen
  el := fun x hx => S.below (hR x hx) (alloc_below' _ _)
  lo := hlo
  ty := fun x hx b hb' => by
    obtain ⟨cur, t, fr, h1, h2⟩ := hty x hx b hb'
    exact ⟨cur, t, fr, ((alloc_below' w _).block b (Array.getElem?_eq_some_iff.1 h1).1).trans h1, h2⟩
/-- What a row's slice reads, and in which blocks. -/
theorem RowE.read (h : RowE S base e v L w) : ∃ fp, (sSlice S).R w [v] (L.map (·.d)) fp ∧ ∀ b ∈ fp, base ≤ b := by
  obtain ⟨fp, h1, h2, _⟩ := slice_of_row h.row fun x hx => ⟨h.len x hx, h.el x hx⟩
  refine ⟨fp, h1, fun b hb => ?_⟩
  rcases h2 b hb with h3 | h3
  · exact h.mine b h3
  · obtain ⟨x, hx, hb'⟩ := List.mem_flatMap.1 h3
    exact h.lo x hx b hb'
theorem setFrom_flat : ∀ {L : List (Elem α)} {m : Nat} (_ : ∀ x ∈ L, x.cells.length = m) {k : Nat} (hk : k < L.length) (x' : Elem α) (_ : x'.cells.length = m), setFrom (L.flatMap (·.cells)) (k * m) x'.cells = (L.set k x').flatMap (·.cells) := by
  intro L m hL k hk x' hx'
  have h1 : L = L.take k ++ (L[k] :: L.drop (k + 1)) := by rw [List.getElem_cons_drop, List.take_append_drop]
  have h2 : (L.take k).length = k := by rw [List.length_take]; omega
  have h3 : ((L.take k).flatMap (·.cells)).length = k * m := by rw [flatMap_len (m := m) (fun x hx => hL x (List.mem_of_mem_take hx)), h2]
  have h4 : L.flatMap (·.cells) = (L.take k).flatMap (·.cells) ++ (L[k].cells ++ (L.drop (k + 1)).flatMap (·.cells)) := by
    conv => lhs; rw [h1]
    rw [List.flatMap_append, List.flatMap_cons]
  have h5 : L.set k x' = L.take k ++ (x' :: L.drop (k + 1)) := by rw [List.set_eq_take_append_cons_drop, if_pos hk]
  rw [h4, ← h3, setFrom_app _ _ _ _ (by rw [hL _ (List.getElem_mem hk), hx']), h5, List.flatMap_append, List.flatMap_cons]
/-- A whole element is stored. -/
theorem RowE.put {g n cap : Nat} (h : RowE S base e (.slice (some ⟨g, 0, none⟩) n cap) L w) {k : Nat} (hk : k < L.length) (x' : Elem α) (hl : x'.cells.length = S.m)
    (hR : S.R w x'.cells x'.d x'.fp) (hlo : ∀ b ∈ x'.fp, base ≤ b) (hty : ∀ b ∈ x'.fp, ∃ cur t fr, w.heap[b]? = some (.cells cur t fr) ∧ t ≠ e) :
    RowE S base e (.slice (some ⟨g, 0, none⟩) n cap) (L.set k x') (putAll w g (k * S.m) x'.cells) := by
  have hne : ∀ b : Nat, (∃ cur t fr, w.heap[b]? = some (.cells cur t fr) ∧ t ≠ e) → b ≠ g := by
    rintro b ⟨cur, t, fr, h1, h2⟩ rfl
    rcases h.row.2 with ⟨h', _⟩ | ⟨g', cap', cur', h', _, hg, _⟩
    · cases h'
    · simp only [Value.slice.injEq, Option.some.injEq, Addr.mk.injEq, and_true] at h'
      obtain ⟨rfl, _⟩ := h'
      rw [h1] at hg
      simp only [Option.some.injEq, Obj.cells.injEq] at hg
      exact h2 hg.2.1
  have hK := putAll_kept (g := g) x'.cells w (k * S.m)
  have hblk : ∀ b : Nat, b < w.heap.size → b ≠ g → (putAll w g (k * S.m) x'.cells).heap[b]? = w.heap[b]? := fun b hb hn => hK.block b hb (by simpa using hn)
  have hmem : ∀ x ∈ L.set k x', x = x' ∨ x ∈ L := fun x hx => by
    rcases List.mem_or_eq_of_mem_set hx with h | h
    · exact .inr h
    · exact .inl h
  refine ⟨?_, fun x hx' => ?_, fun x hx' => ?_, fun x hx' => ?_, fun x hx' => ?_⟩
  · have hn : L.length = n := by
      rcases h.row.2 with ⟨h', _⟩ | ⟨g', cap', cur, h', _⟩
      · cases h'
      · simp only [Value.slice.injEq] at h'; exact h'.2.1.symm
    have hrow := h.row
    rw [hn] at hrow
    have := putAll_row x'.cells w _ (k * S.m) hrow
    rw [setFrom_flat h.len hk x' hl] at this
    rw [List.length_set, hn]
    exact this
  · rcases hmem x hx' with rfl | hx'
    · exact hl
    · exact h.len x hx'
  · rcases hmem x hx' with rfl | hx'
    · exact S.frame (fun b hb => hblk b (S.lt hR b hb) (hne b (hty b hb))) hR
    · exact S.frame (fun b hb => hblk b (S.lt (h.el x hx') b hb) (hne b (h.ty x hx' b hb))) (h.el x hx')
  · rcases hmem x hx' with rfl | hx'
    · exact hlo
    · exact h.lo x hx'
  · intro b hb
    rcases hmem x hx' with rfl | hx'
    · obtain ⟨cur, t, fr, h1, h2⟩ := hty b hb
      exact ⟨cur, t, fr, (hblk b (Array.getElem?_eq_some_iff.1 h1).1 (hne b ⟨cur, t, fr, h1, h2⟩)).trans h1, h2⟩
    · obtain ⟨cur, t, fr, h1, h2⟩ := h.ty x hx' b hb
      exact ⟨cur, t, fr, (hblk b (Array.getElem?_eq_some_iff.1 h1).1 (hne b ⟨cur, t, fr, h1, h2⟩)).trans h1, h2⟩
end
/-- An operation whose guard holds is walked as one without. -/
theorem wpList_guarded {P : Program} {ops : Array Oper} {rest : List Oper} {a : Act} {w : World} {Q : Exit → Act → World → Prop} {d : Option Tmp} {op : Op} {ty : TypeId} {pos : String} {after : Array Edge} {g : Option (Nat × Bool)}
    (hw : Region.wanted (Oper.mk d op ty pos after g) (yielded ops a.tmps) = true) (h : wpList P ops Q (Oper.mk d op ty pos after none :: rest) a w) : wpList P ops Q (Oper.mk d op ty pos after g :: rest) a w := by
  unfold wpList at h ⊢
  rw [if_pos hw]
  rw [if_pos (show Region.wanted (Oper.mk d op ty pos after none) (yielded ops a.tmps) = true from rfl)] at h
  exact h

end Go.Proofs.Ytflbdanlcpojbaa

/- An element put into a row: what the cells are. Over any program. -/
namespace Go.Proofs.Ytflbdanlcpojbaa
open Go.RowKit
end Go.Proofs.Ytflbdanlcpojbaa

/- Rows of the call's own whose elements lie anywhere but in the row's own block: appended, written, read. Over any program. -/
namespace Go.Proofs.Ytflbdanlcpojbaa
open Go.RowKit

/-- append to an own row, and where the row is then: in its own block, or in a new one. -/
theorem run_append_place {P : Program} (w : World) (base : Nat) (t ty e : TypeId) (i : TypeInfo) (z : Value) (size bytes : Nat) (ht : P.underlying t = some (.slice e)) (hi : P.info? e = some i) (hz : i.zero = some z)
    (hsize : i.size = size) (hby : i.bytes = bytes) (hzs : z.cells.size = size) (hsz : 0 < size)
    (v : Value) (n : Nat) (xs : List Value) (hown : w.ownsRow base e size v n xs)
    (a : Addr) (m c : Nat) (news : List Value) (hl : news.length = m * size) (hnews : ∀ j u, news[j]? = some u → w.cell? (a.add j) = some u) (h1 : ∀ u ∈ news, u.oneCell' = true)
    (h63 : n + m ≤ maxLen) (hbytes : (n + m) * bytes ≤ 140737488355328) (hbase : base ≤ w.heap.size) :
    ∃ v' w', (Builtin.append_ #[t, t] ty #[v, .slice (some a) m c]).run P w = .ok v' w' ∧ w'.ownsRow base e size v' (n + m) (xs ++ news) ∧ w.grownBy w' v.ownBlock ∧ (v'.ownBlock = v.ownBlock ∨ v'.ownBlock = some w.heap.size) := by
  obtain ⟨v', w', hr, h2, h3, h4⟩ := Go.run_append_own (P := P) w base t ty e i z size bytes ht hi hz hsize hby hzs hsz v n xs hown a m c news hl hnews h1 h63 hbytes hbase
  refine ⟨v', w', hr, h2, h3, ?_⟩
  have hsmall : n + m ≤ 9223372036854775807 := by simp only [maxLen] at h63; omega
  subst hsize
  subst hby
  rcases hown.2 with ⟨rfl, rfl⟩ | ⟨g, cap, cur, rfl, hbg, hg, hnc, hcm, hcs, htake⟩
  · have hx : xs = [] := List.eq_nil_of_length_eq_zero (by simpa using hown.1)
    subst hx
    by_cases hm : m = 0
    · exact .inl (by rw [h4.2 ⟨rfl, hm⟩])
    · have hr2 := _root_.Go.run_append_nil (P := P) w t ty e i z ht hi hz a m c news hl hnews (by omega) (by omega) (by have hb := hbytes; simp only [Nat.zero_add] at hb; omega)
      rw [hr2] at hr
      obtain ⟨rfl, _⟩ := Result.ok.inj hr
      exact .inr rfl
  · by_cases hroom : n + m ≤ cap
    · have hfit : n * i.size + news.length ≤ cur.size := by rw [hl, hcs, ← Nat.add_mul]; exact Nat.mul_le_mul_right _ hroom
      have hr2 := Go.run_append_room (P := P) w t ty e i ht hi g n cap cur hg a m c news hl hnews h1 hroom hfit
      rw [hr2] at hr
      obtain ⟨rfl, _⟩ := Result.ok.inj hr
      exact .inl rfl
    · have holds : ∀ j u, xs[j]? = some u → w.cell? ((⟨g, 0, none⟩ : Addr).add j) = some u := hown.cells (g := g) rfl
      have hr2 := _root_.Go.run_append_grow (P := P) w t ty e i z ht hi hz ⟨g, 0, none⟩ n cap xs hown.1 holds a m c news hl hnews (by omega) (by omega) (growslice_fits (by omega) hbytes)
      rw [hr2] at hr
      obtain ⟨rfl, _⟩ := Result.ok.inj hr
      exact .inr rfl

structure RowN {α : Type} (S : Shape α) (base : Nat) (e : TypeId) (v : Value) (L : List (Elem α)) (w : World) : Prop where
  row : w.ownsRow base e S.m v L.length (L.flatMap (·.cells))
  len : ∀ x ∈ L, x.cells.length = S.m
  el : ∀ x ∈ L, S.R w x.cells x.d x.fp
  ap : ∀ x ∈ L, ∀ b ∈ x.fp, v.ownBlock ≠ some b

section
variable {α : Type} {S : Shape α} {base : Nat} {e : TypeId} {v v' : Value} {L : List (Elem α)} {w w' : World}
theorem RowN.nil (S : Shape α) (base : Nat) (e : TypeId) (w : World) : RowN S base e (.slice none 0 0) [] w := ⟨World.ownsRow_nil _ _ _ _, by simp, by simp, by simp⟩
theorem RowN.lit0 (S : Shape α) (e : TypeId) (w : World) {base : Nat} (hb : base ≤ w.heap.size) : RowN S base e (.slice (some ⟨w.heap.size, 0, none⟩) 0 0) [] (w.alloc (.cells #[] e)) where
  row := World.ownsRow_lit (base := base) (e := e) (size := S.m) w #[] 0 hb (by unfold maxLen; omega) (by simp)
  len := by simp
  el := by simp
  ap := by simp
/-- A literal of one element. -/
theorem RowN.lit1 {x : Elem α} {base : Nat} (hb : base ≤ w.heap.size) (hl : x.cells.length = S.m) (hR : S.R w x.cells x.d x.fp) : RowN S base e (.slice (some ⟨w.heap.size, 0, none⟩) 1 1) [x] (w.alloc (.cells x.cells.toArray e)) where
  row := by
    have := World.ownsRow_lit (base := base) (e := e) (size := S.m) w x.cells.toArray 1 hb (by unfold maxLen; omega) (by simpa using hl)
    simpa using this
  len := fun y hy => by obtain rfl := List.mem_singleton.1 hy; exact hl
  el := fun y hy => by obtain rfl := List.mem_singleton.1 hy; exact S.below hR (alloc_below' w _)
  ap := fun y hy b hb' h => by
    obtain rfl := List.mem_singleton.1 hy
    have := S.lt hR b hb'
    simp only [Value.ownBlock, Option.some.injEq] at h
    omega
theorem RowN.same (h : RowN S base e v L w) (hv : ∀ g, v.ownBlock = some g → w'.heap[g]? = w.heap[g]?) (hb : ∀ x ∈ L, ∀ b ∈ x.fp, w'.heap[b]? = w.heap[b]?) : RowN S base e v L w' where
  row := ownsRow_same h.row hv
  len := h.len
  el := fun x hx => S.frame (fun b hb' => hb x hx b hb') (h.el x hx)
  ap := h.ap
theorem RowN.below (h : RowN S base e v L w) (hb : Below w.heap.size w w') : RowN S base e v L w' :=
  h.same (fun g hg => hb.block g (h.row.lt g hg).2) (fun x hx b hb' => hb.block b (S.lt (h.el x hx) b hb'))
theorem RowN.kept {K : List Nat} (h : RowN S base e v L w) (hk : Kept K w w') (hv : ∀ g, v.ownBlock = some g → g ∉ K) (hb : ∀ x ∈ L, ∀ b ∈ x.fp, b ∉ K) : RowN S base e v L w' :=
  h.same (fun g hg => hk.block g (h.row.lt g hg).2 (hv g hg)) (fun x hx b hb' => hk.block b (S.lt (h.el x hx) b hb') (hb x hx b hb'))
theorem RowN.lower {base' : Nat} (h : RowN S base e v L w) (hl : base' ≤ base) : RowN S base' e v L w where
  row := ⟨h.row.1, by
    rcases h.row.2 with h0 | ⟨g, cap, cur, h1, h2, h3⟩
    · exact .inl h0
    · exact .inr ⟨g, cap, cur, h1, Nat.le_trans hl h2, h3⟩⟩
  len := h.len
  el := h.el
  ap := h.ap
theorem RowN.val (h : RowN S base e v L w) : ∃ a cap, v = .slice a L.length cap ∧ L.length ≤ cap ∧ cap ≤ maxLen ∧ (0 < L.length → ∃ g, a = some ⟨g, 0, none⟩ ∧ base ≤ g ∧ g < w.heap.size) := by
  rcases h.row.2 with ⟨rfl, h0⟩ | ⟨g, cap, cur, rfl, hb, hg, hn, hc, _⟩
  · exact ⟨none, 0, by rw [h0], by omega, by simp, fun h => by omega⟩
  · exact ⟨_, cap, rfl, hn, hc, fun _ => ⟨g, rfl, hb, (Array.getElem?_eq_some_iff.1 hg).1⟩⟩
theorem RowN.mine (h : RowN S base e v L w) : ∀ b, v.ownBlock = some b → base ≤ b ∧ b < w.heap.size := fun b hb => h.row.lt b hb
theorem RowN.read (h : RowN S base e v L w) : ∃ fp, (sSlice S).R w [v] (L.map (·.d)) fp ∧ (∀ b ∈ fp, v.ownBlock = some b ∨ ∃ x ∈ L, b ∈ x.fp) ∧ (Own w base (L.flatMap (·.fp)) → Own w base fp) := by
  obtain ⟨fp, h1, h2, h3⟩ := slice_of_row h.row fun x hx => ⟨h.len x hx, h.el x hx⟩
  refine ⟨fp, h1, fun b hb => ?_, fun ho => h3 ho fun g hg hm => ?_⟩
  · rcases h2 b hb with h | h
    · exact .inl h
    · obtain ⟨x, hx, hb'⟩ := List.mem_flatMap.1 h
      exact .inr ⟨x, hx, hb'⟩
  · obtain ⟨x, hx, hb'⟩ := List.mem_flatMap.1 hm
    exact h.ap x hx g hb' hg
theorem RowN.len_eq {g n cap : Nat} (h : RowN S base e (.slice (some ⟨g, 0, none⟩) n cap) L w) : L.length = n := by
  rcases h.row.2 with ⟨h', _⟩ | ⟨g', cap', cur, h', _⟩
  · cases h'
  · simp only [Value.slice.injEq] at h'; exact h'.2.1.symm
theorem RowN.frozen {g n cap : Nat} (h : RowN S base e (.slice (some ⟨g, 0, none⟩) n cap) L w) (o : Nat) : w.frozen? ⟨g, o, none⟩ = false := by
  rcases h.row.2 with ⟨h', _⟩ | ⟨g', cap', cur, h', _, hg, _⟩
  · cases h'
  · simp only [Value.slice.injEq, Option.some.injEq, Addr.mk.injEq, and_true] at h'
    obtain ⟨rfl, _⟩ := h'
    exact frozen_of_row w g o cur e hg
/-- An element's cells. -/
theorem RowN.cellAt {g n cap : Nat} (h : RowN S base e (.slice (some ⟨g, 0, none⟩) n cap) L w) {k : Nat} (hk : k < L.length) {j : Nat} (hj : j < S.m) {u : Value} (hu : L[k].cells[j]? = some u) : w.cell? ⟨g, k * S.m + j, none⟩ = some u := by
  have hn : L.length = n := h.len_eq
  subst hn
  rw [h.row.cellAt (k * S.m + j) (by have : (k + 1) * S.m ≤ L.length * S.m := Nat.mul_le_mul_right _ hk; rw [Nat.succ_mul] at this; omega)]
  exact (flatMap_at (f := Elem.cells) h.len hk hj).trans hu
/-- One cell of an element is written: the element reads as something else then. -/
theorem RowN.set {g n cap : Nat} (h : RowN S base e (.slice (some ⟨g, 0, none⟩) n cap) L w) {k : Nat} (hk : k < L.length) {j : Nat} (hj : j < S.m) (u : Value) (x' : Elem α) (hx : x'.cells = L[k].cells.set j u)
    (hR : S.R w x'.cells x'.d x'.fp) (hap : g ∉ x'.fp) : RowN S base e (.slice (some ⟨g, 0, none⟩) n cap) (L.set k x') (w.setCell ⟨g, k * S.m + j, none⟩ u) := by
  have hn : L.length = n := h.len_eq
  have hfar : ∀ b, b ≠ g → (w.setCell ⟨g, k * S.m + j, none⟩ u).heap[b]? = w.heap[b]? := fun b hb => Below.heap_setCell _ _ _ _ hb
  have hmem : ∀ x ∈ L.set k x', x = x' ∨ x ∈ L := fun x hx => by
    rcases List.mem_or_eq_of_mem_set hx with h | h
    · exact .inr h
    · exact .inl h
  have hne : ∀ x ∈ L.set k x', ∀ b ∈ x.fp, b ≠ g := fun x hx' b hb e => by
    subst e
    rcases hmem x hx' with rfl | hx'
    · exact hap hb
    · exact h.ap x hx' b hb rfl
  refine ⟨?_, fun x hx' => ?_, fun x hx' => S.frame (fun b hb => hfar b (hne x hx' b hb)) ?_, fun x hx' b hb hv => ?_⟩
  · have hrow := h.row
    rw [hn] at hrow
    have := (hrow.stored (k * S.m + j) u).1
    rw [flatMap_set h.len hk hj u x' hx] at this
    rw [List.length_set, hn]
    exact this
  · rcases hmem x hx' with rfl | hx'
    · rw [hx, List.length_set]; exact h.len _ (List.getElem_mem hk)
    · exact h.len x hx'
  · rcases hmem x hx' with rfl | hx'
    · exact hR
    · exact h.el x hx'
  · simp only [Value.ownBlock, Option.some.injEq] at hv
    exact hne x hx' b hb hv.symm
/-- A whole element is written, cell by cell. -/
theorem RowN.put {g n cap : Nat} (h : RowN S base e (.slice (some ⟨g, 0, none⟩) n cap) L w) {k : Nat} (hk : k < L.length) (x' : Elem α) (hl : x'.cells.length = S.m) (hR : S.R w x'.cells x'.d x'.fp) (hap : g ∉ x'.fp) :
    RowN S base e (.slice (some ⟨g, 0, none⟩) n cap) (L.set k x') (putAll w g (k * S.m) x'.cells) := by
  have hn : L.length = n := h.len_eq
  have hK := putAll_kept (g := g) x'.cells w (k * S.m)
  have hmem : ∀ x ∈ L.set k x', x = x' ∨ x ∈ L := fun x hx => by
    rcases List.mem_or_eq_of_mem_set hx with h | h
    · exact .inr h
    · exact .inl h
  have hne : ∀ x ∈ L.set k x', ∀ b ∈ x.fp, b ≠ g := fun x hx' b hb e => by
    subst e
    rcases hmem x hx' with rfl | hx'
    · exact hap hb
    · exact h.ap x hx' b hb rfl
  have hel : ∀ x ∈ L.set k x', x.cells.length = S.m ∧ S.R w x.cells x.d x.fp := fun x hx' => by
    rcases hmem x hx' with rfl | hx'
    · exact ⟨hl, hR⟩
    · exact ⟨h.len x hx', h.el x hx'⟩
  refine ⟨?_, fun x hx' => (hel x hx').1, fun x hx' => S.frame (fun b hb => hK.block b (S.lt (hel x hx').2 b hb) (by simp; exact hne x hx' b hb)) (hel x hx').2, fun x hx' b hb hv => ?_⟩
  · have hrow := h.row
    rw [hn] at hrow
    have r1 := putAll_row x'.cells w _ (k * S.m) hrow
    have hsplit : L.flatMap (·.cells) = (L.take k).flatMap (·.cells) ++ (L[k].cells ++ (L.drop (k + 1)).flatMap (·.cells)) := by
      have e0 : L = L.take k ++ (L[k] :: L.drop (k + 1)) := by rw [← List.drop_eq_getElem_cons hk, List.take_append_drop]
      conv => lhs; rw [e0]
      rw [List.flatMap_append, List.flatMap_cons]
    have hsplit2 : (L.set k x').flatMap (·.cells) = (L.take k).flatMap (·.cells) ++ (x'.cells ++ (L.drop (k + 1)).flatMap (·.cells)) := by
      rw [List.set_eq_take_append_cons_drop, if_pos hk, List.flatMap_append, List.flatMap_cons]
    have hA : ((L.take k).flatMap (·.cells)).length = k * S.m := by rw [flatMap_len (f := Elem.cells) (m := S.m) (fun y hy => h.len y (List.mem_of_mem_take hy)), List.length_take]; congr 1; omega
    have e1 := setFrom_app x'.cells ((L.take k).flatMap (·.cells)) L[k].cells ((L.drop (k + 1)).flatMap (·.cells)) (by rw [hl]; exact h.len _ (List.getElem_mem hk))
    rw [hA, ← hsplit, ← hsplit2] at e1
    rw [e1] at r1
    rw [List.length_set, hn]
    exact r1
  · simp only [Value.ownBlock, Option.some.injEq] at hv
    exact hne x hx' b hb hv.symm
/-- Elements appended. -/
theorem RowN.appended (h : RowN S base e v L w) {X : List (Elem α)} (hrow : w'.ownsRow base e S.m v' (L ++ X).length ((L ++ X).flatMap (·.cells))) (hg : w.grownBy w' v.ownBlock) (hp : v'.ownBlock = v.ownBlock ∨ v'.ownBlock = some w.heap.size)
    (hX : ∀ x ∈ X, x.cells.length = S.m ∧ S.R w x.cells x.d x.fp ∧ ∀ b ∈ x.fp, v.ownBlock ≠ some b) : RowN S base e v' (L ++ X) w' := by
  have hall : ∀ x ∈ L ++ X, x.cells.length = S.m ∧ S.R w x.cells x.d x.fp ∧ ∀ b ∈ x.fp, v.ownBlock ≠ some b := fun x hx => by
    rcases List.mem_append.1 hx with hx | hx
    · exact ⟨h.len x hx, h.el x hx, h.ap x hx⟩
    · exact hX x hx
  refine ⟨hrow, fun x hx => (hall x hx).1, fun x hx => ?_, fun x hx b hb => ?_⟩
  · exact S.frame (fun b hb => hg.block b (S.lt (hall x hx).2.1 b hb) fun hv => (hall x hx).2.2 b hb hv.symm) (hall x hx).2.1
  · rcases hp with hp | hp
    · rw [hp]; exact (hall x hx).2.2 b hb
    · rw [hp]
      intro h2
      simp only [Option.some.injEq] at h2
      have := S.lt (hall x hx).2.1 b hb
      omega
end

/-- append of elements that stand somewhere; at one operation. -/
theorem step_append_rowN {α : Type} {S : Shape α} {P : Program} {t e : TypeId} {z : Value} {bytes : Nat} (ti : TI P t e z S.m bytes) (hzs : z.cells.size = S.m) (h0 : 0 < S.m) (w : World) {L X : List (Elem α)} {o : Oper} {a : Act} {K : Act → World → Prop} {Q : Exit → Act → World → Prop}
    (s y : Operand) (ho : o.op = .call { callee := .builtin .append, args := #[s, y], argTypes := #[t, t] })
    (base : Nat) (v : Value) (hs : a.eval s = v) (hown : RowN S base e v L w) (ad : Addr) (m c : Nat) (hy : a.eval y = .slice (some ad) m c) (hm : X.length = m)
    (hX : ∀ x ∈ X, x.cells.length = S.m ∧ S.R w x.cells x.d x.fp ∧ ∀ b ∈ x.fp, v.ownBlock ≠ some b) (h1 : ∀ x ∈ X, ∀ u ∈ x.cells, u.oneCell' = true) (hcell : ∀ j u, (X.flatMap (·.cells))[j]? = some u → w.cell? (ad.add j) = some u)
    (h63 : L.length + m ≤ maxLen) (hbytes : (L.length + m) * bytes ≤ 140737488355328) (hbase : base ≤ w.heap.size)
    (h : ∀ v' w', RowN S base e v' (L ++ X) w' → w.grownBy w' v.ownBlock → (v'.ownBlock = v.ownBlock ∨ v'.ownBlock = some w.heap.size) → K (a.put o.dst v') w') : o.wp P a w K Q := by
  obtain ⟨i, hi, hz0, hz1, hz2⟩ := info_parts ti.2
  subst hm
  obtain ⟨v', w', hr, r1, r2, r3⟩ := run_append_place (P := P) w base t o.type e i z S.m bytes ti.1 hi hz0 hz1 hz2 hzs h0 v L.length _ hown.row ad X.length c (X.flatMap (·.cells)) (flatMap_len (f := Elem.cells) fun x hx => (hX x hx).1) hcell
    (fun u hu => by obtain ⟨x, hx, hu⟩ := List.mem_flatMap.1 hu; exact h1 x hx u hu) h63 hbytes hbase
  unfold Oper.wp execOp
  simp only [ho, resolve, invoke, builtin, Sem.run_bind, Sem.run_pure, Result.andThen_ok, List.map_toArray, List.map_cons, List.map_nil, hs, hy, hr]
  refine h v' w' (hown.appended ?_ r2 r3 hX) r2 r3
  rw [List.length_append, List.flatMap_append]
  exact r1
theorem wp_append_rowN {α : Type} {S : Shape α} {P : Program} {t e : TypeId} {z : Value} {bytes : Nat} (ti : TI P t e z S.m bytes) (hzs : z.cells.size = S.m) (h0 : 0 < S.m) (w : World) {L X : List (Elem α)} {ops : Array Oper} {rest : List Oper} {o : Oper} {a : Act} {Q : Exit → Act → World → Prop}
    (hg : o.guard = none) (s y : Operand) (ho : o.op = .call { callee := .builtin .append, args := #[s, y], argTypes := #[t, t] })
    (base : Nat) (v : Value) (hs : a.eval s = v) (hown : RowN S base e v L w) (ad : Addr) (m c : Nat) (hy : a.eval y = .slice (some ad) m c) (hm : X.length = m)
    (hX : ∀ x ∈ X, x.cells.length = S.m ∧ S.R w x.cells x.d x.fp ∧ ∀ b ∈ x.fp, v.ownBlock ≠ some b) (h1 : ∀ x ∈ X, ∀ u ∈ x.cells, u.oneCell' = true) (hcell : ∀ j u, (X.flatMap (·.cells))[j]? = some u → w.cell? (ad.add j) = some u)
    (h63 : L.length + m ≤ maxLen) (hbytes : (L.length + m) * bytes ≤ 140737488355328) (hbase : base ≤ w.heap.size)
    (h : ∀ v' w', RowN S base e v' (L ++ X) w' → w.grownBy w' v.ownBlock → (v'.ownBlock = v.ownBlock ∨ v'.ownBlock = some w.heap.size) → wpList P ops Q rest (a.put o.dst v') w') : wpList P ops Q (o :: rest) a w :=
  wpList_plain hg fun _ hK => step_append_rowN ti hzs h0 w s y ho base v hs hown ad m c hy hm hX h1 hcell h63 hbytes hbase fun v' w' h2 h3 h4 => hK _ _ (h v' w' h2 h3 h4)
/-- Nothing appended. -/
theorem run_append_none {P : Program} {w : World} (base : Nat) (t ty e : TypeId) (i : TypeInfo) (size c : Nat) (ht : P.underlying t = some (.slice e)) (hi : P.info? e = some i)
    (v : Value) (n : Nat) (xs : List Value) (hown : w.ownsRow base e size v n xs) : (Builtin.append_ #[t, t] ty #[v, .slice none 0 c]).run P w = .ok v w := by
  rcases hown.2 with ⟨rfl, rfl⟩ | ⟨g, cap, cur, rfl, _, _, hnc, _⟩
  · simp [Builtin.append_, run_underlying ht, sizeOf, typeInfo, hi, Builtin.lenOf, Builtin.firstCells]
  · simp [Builtin.append_, run_underlying ht, sizeOf, typeInfo, hi, Builtin.lenOf, Builtin.firstCells, hnc, storeCells]
/-- The elements of what can be read. -/
theorem elems_in {α : Type} {S : Shape α} {w : World} {u : Value} {M : List α} {fp : List Nat} (H : (sSlice S).R w [u] M fp) :
    ∃ (X : List (Elem α)) (a : Option Addr) (cap : Nat), X.map (·.d) = M ∧ X.length = M.length ∧ u = .slice a M.length cap ∧ M.length ≤ maxLen ∧ (∀ x ∈ X, x.cells.length = S.m ∧ S.R w x.cells x.d x.fp ∧ ∀ b ∈ x.fp, b ∈ fp) ∧
      (0 < M.length → ∃ b off, a = some ⟨b, off, none⟩ ∧ b < w.heap.size ∧ ∀ k, (hk : k < X.length) → ElemAt w b off S.m k X[k].cells) := by
  obtain ⟨a, cap, rfl, hc, hm, hrow⟩ := open_rows H
  by_cases h0 : 0 < M.length
  · obtain ⟨b, off, fps, rfl, hb, hfp, he⟩ := hrow h0
    have key : ∀ k : Fin M.length, ∃ x : Elem α, x.d = M[k.1] ∧ x.fp = fps k.1 ∧ ElemAt w b off S.m k.1 x.cells ∧ S.R w x.cells x.d x.fp := fun k => by
      obtain ⟨es, hE, hR⟩ := he k.1 k.2
      exact ⟨⟨es, M[k.1], fps k.1⟩, rfl, rfl, hE, hR⟩
    let X : List (Elem α) := List.ofFn fun k : Fin M.length => (key k).choose
    have hXl : X.length = M.length := by simp [X]
    have hX : ∀ k, (hk : k < X.length) → ∃ hk' : k < M.length, X[k] = (key ⟨k, hk'⟩).choose := fun k hk => ⟨by omega, by simp [X]⟩
    refine ⟨X, _, cap, ?_, hXl, rfl, by omega, fun x hx => ?_, fun _ => ⟨b, off, rfl, hb, fun k hk => ?_⟩⟩
    · apply List.ext_getElem
      · simp [hXl]
      · intro k h1 h2
        rw [List.getElem_map]
        obtain ⟨hk', e⟩ := hX k (by simpa using h1)
        rw [e]
        exact (key ⟨k, hk'⟩).choose_spec.1
    · obtain ⟨k, hk, rfl⟩ := List.getElem_of_mem hx
      obtain ⟨hk', e⟩ := hX k hk
      obtain ⟨s1, s2, s3, s4⟩ := (key ⟨k, hk'⟩).choose_spec
      rw [e]
      refine ⟨s3.1, s4, fun c hc => ?_⟩
      rw [s2] at hc
      rw [hfp]
      exact List.mem_cons_of_mem _ (List.mem_flatMap.2 ⟨k, List.mem_range.2 hk', hc⟩)
    · obtain ⟨hk', e⟩ := hX k hk
      rw [e]
      exact (key ⟨k, hk'⟩).choose_spec.2.2.1
  · have hM : M = [] := List.length_eq_zero_iff.1 (by omega)
    subst hM
    exact ⟨[], a, cap, rfl, rfl, rfl, by unfold maxLen; simp, by simp, fun h => absurd h (by simp)⟩
/-- append(s, row...), the row any that can be read, not of the own row's block behind its elements; at one operation. -/
theorem step_append_anyN {α : Type} {S : Shape α} {P : Program} {t e : TypeId} {z : Value} {bytes : Nat} (ti : TI P t e z S.m bytes) (hzs : z.cells.size = S.m) (h0 : 0 < S.m) (hone : ∀ w cs x fp, S.R w cs x fp → ∀ u ∈ cs, u.oneCell' = true) (w : World) {L : List (Elem α)} {o : Oper} {a : Act} {K : Act → World → Prop} {Q : Exit → Act → World → Prop}
    (s y : Operand) (ho : o.op = .call { callee := .builtin .append, args := #[s, y], argTypes := #[t, t] })
    (base : Nat) (v u : Value) (M : List α) (fp : List Nat) (hs : a.eval s = v) (hown : RowN S base e v L w) (hy : a.eval y = u) (HM : (sSlice S).R w [u] M fp) (hfp : ∀ b ∈ fp, v.ownBlock ≠ some b)
    (h63 : L.length + M.length ≤ maxLen) (hbytes : (L.length + M.length) * bytes ≤ 140737488355328) (hbase : base ≤ w.heap.size)
    (h : ∀ v' X w', X.map (·.d) = M → (∀ x ∈ X, ∀ b ∈ x.fp, b ∈ fp) → RowN S base e v' (L ++ X) w' → w.grownBy w' v.ownBlock → (v'.ownBlock = v.ownBlock ∨ v'.ownBlock = some w.heap.size) → K (a.put o.dst v') w') : o.wp P a w K Q := by
  obtain ⟨X, ad, cap, hXM, hXl, rfl, hmm, hX, hat⟩ := elems_in HM
  rw [← hXl] at h63 hbytes
  have hX2 : ∀ x ∈ X, x.cells.length = S.m ∧ S.R w x.cells x.d x.fp ∧ ∀ b ∈ x.fp, v.ownBlock ≠ some b := fun x hx => ⟨(hX x hx).1, (hX x hx).2.1, fun c hc => hfp c ((hX x hx).2.2 c hc)⟩
  by_cases hM : 0 < M.length
  · obtain ⟨b, off, rfl, hb, hE⟩ := hat hM
    refine step_append_rowN ti hzs h0 w (X := X) s y ho base v hs hown ⟨b, off, none⟩ M.length cap hy hXl hX2 (fun x hx => hone _ _ _ _ (hX x hx).2.1) ?_ (by rw [← hXl]; exact h63) (by rw [← hXl]; exact hbytes) hbase fun v' w' r1 r2 r3 => h v' X w' hXM (fun x hx => (hX x hx).2.2) r1 r2 r3
    intro j u hj
    have hjl : j < X.length * S.m := by
      have := (List.getElem?_eq_some_iff.1 hj).1
      rwa [flatMap_len (f := Elem.cells) fun x hx => (hX x hx).1] at this
    have hk : j / S.m < X.length := Nat.div_lt_of_lt_mul (by rw [Nat.mul_comm]; exact hjl)
    have hr : j % S.m < S.m := Nat.mod_lt _ h0
    have hj2 : j / S.m * S.m + j % S.m = j := Nat.div_add_mod' _ _
    rw [← hj2, flatMap_at (f := Elem.cells) (fun x hx => (hX x hx).1) hk hr] at hj
    have := (hE (j / S.m) hk).2 (j % S.m) hr
    rw [Nat.add_assoc, hj2] at this
    rw [Addr.add_lit, this]
    exact hj
  · have hX0 : X = [] := List.length_eq_zero_iff.1 (by omega)
    have hM0 : M.length = 0 := by omega
    subst hX0
    obtain ⟨i, hi, hz0, hz1, hz2⟩ := info_parts ti.2
    have hdone : K (a.put o.dst v) w := h v [] w (by simpa using hXM) (by simp) (by simpa using hown) ⟨rfl, rfl, rfl, Nat.le_refl _, fun _ _ _ => rfl⟩ (.inl rfl)
    rw [hM0] at hy
    cases ad with
    | none =>
      have hrun := run_append_none (P := P) (w := w) base _ o.type _ i S.m cap ti.1 hi v L.length _ hown.row
      unfold Oper.wp
      simp [execOp, ho, resolve, invoke, builtin, hs, hy, hrun, Result.andThen]
      exact hdone
    | some ad =>
      exact step_append_rowN ti hzs h0 w (X := []) s y ho base v hs hown ad 0 cap hy rfl (by simp) (by simp) (by simp) (by simpa using h63) (by simpa using hbytes) hbase fun v' w' r1 r2 r3 => h v' [] w' (by simpa using hXM) (by simp) r1 r2 r3
theorem wp_append_anyN {α : Type} {S : Shape α} {P : Program} {t e : TypeId} {z : Value} {bytes : Nat} (ti : TI P t e z S.m bytes) (hzs : z.cells.size = S.m) (h0 : 0 < S.m) (hone : ∀ w cs x fp, S.R w cs x fp → ∀ u ∈ cs, u.oneCell' = true) (w : World) {L : List (Elem α)} {ops : Array Oper} {rest : List Oper} {o : Oper} {a : Act} {Q : Exit → Act → World → Prop}
    (hg : o.guard = none) (s y : Operand) (ho : o.op = .call { callee := .builtin .append, args := #[s, y], argTypes := #[t, t] })
    (base : Nat) (v u : Value) (M : List α) (fp : List Nat) (hs : a.eval s = v) (hown : RowN S base e v L w) (hy : a.eval y = u) (HM : (sSlice S).R w [u] M fp) (hfp : ∀ b ∈ fp, v.ownBlock ≠ some b)
    (h63 : L.length + M.length ≤ maxLen) (hbytes : (L.length + M.length) * bytes ≤ 140737488355328) (hbase : base ≤ w.heap.size)
    (h : ∀ v' X w', X.map (·.d) = M → (∀ x ∈ X, ∀ b ∈ x.fp, b ∈ fp) → RowN S base e v' (L ++ X) w' → w.grownBy w' v.ownBlock → (v'.ownBlock = v.ownBlock ∨ v'.ownBlock = some w.heap.size) → wpList P ops Q rest (a.put o.dst v') w') : wpList P ops Q (o :: rest) a w :=
  wpList_plain hg fun _ hK => step_append_anyN ti hzs h0 hone w s y ho base v u M fp hs hown hy HM hfp h63 hbytes hbase fun v' X w' q1 q2 h2 h3 h4 => hK _ _ (h v' X w' q1 q2 h2 h3 h4)

end Go.Proofs.Ytflbdanlcpojbaa

/- Four cells stored into one block; an operation of a drawn region taken first; two structs as results. Over any program. -/
namespace Go.Proofs.Ytflbdanlcpojbaa
open Go.RowKit

def set4 (w : World) (g : Nat) (v0 v1 v2 v3 : Value) : World := (((w.setCell ⟨g, 0, none⟩ v0).setCell ⟨g, 1, none⟩ v1).setCell ⟨g, 2, none⟩ v2).setCell ⟨g, 3, none⟩ v3
section
variable {P : Program} {ops : Array Oper} {Q : Exit → Act → World → Prop} {md : Region.Mode} {S : World → Prop}
/-- An operation of a drawn region is taken first; its slot is written out. -/
theorem takeH2 (i d : Nat) {oi : Oper} {v : Value} {fuel : Nat} {listed : Array Bool} {a : Act} {w : World} (hi : ops[i]? = some oi) (hd : oi.dst = some d)
    (hs : Region.noSelect ops = true) (hf : Region.free md ops listed i = true) (hr : (Region.ready md ops listed).contains i = true)
    (hQ : ∀ c a w, Q (.panic c) (a.put (some d) v) w → Q (.panic c) a w) (hw : Region.wanted oi (yielded ops a.tmps) = true) (hS : S w)
    (hy : ∀ w, S w → (execOp a.eval oi).run P w = .ok (.value v) w)
    (h : wpAnyH P md ops Q S fuel (listed.setIfInBounds i true) (a.put (some d) v) w) : wpAnyH P md ops Q S (fuel + 1) listed a w :=
  wpAnyH_take hi hs hf hr (by rw [hd]; exact hQ) (.inl ⟨hw, hy⟩) hS (by rw [hd]; exact h)
end
theorem set4_at {w : World} {g : Nat} {z0 z1 z2 z3 : Value} {ty : TypeId} (h : w.heap[g]? = some (.cells #[z0, z1, z2, z3] ty (0, 0))) (v0 v1 v2 v3 : Value) :
    (set4 w g v0 v1 v2 v3).heap[g]? = some (.cells #[v0, v1, v2, v3] ty (0, 0)) := blk_set (blk_set (blk_set (blk_set h 0 _) 1 _) 2 _) 3 _
theorem set4_far {w : World} {g b : Nat} (h : b ≠ g) (v0 v1 v2 v3 : Value) : (set4 w g v0 v1 v2 v3).heap[b]? = w.heap[b]? := by
  unfold set4
  rw [Below.heap_setCell _ _ _ _ h, Below.heap_setCell _ _ _ _ h, Below.heap_setCell _ _ _ _ h, Below.heap_setCell _ _ _ _ h]
theorem set4_size (w : World) (g : Nat) (v0 v1 v2 v3 : Value) : (set4 w g v0 v1 v2 v3).heap.size = w.heap.size := by
  unfold set4
  simp
theorem set4_below {B : Nat} {w0 w : World} (hB : Below B w0 w) {g : Nat} (hg : B ≤ g) (v0 v1 v2 v3 : Value) : Below B w0 (set4 w g v0 v1 v2 v3) :=
  ((((hB).setCell (p := ⟨g, 0, none⟩) hg v0).setCell (p := ⟨g, 1, none⟩) hg v1).setCell (p := ⟨g, 2, none⟩) hg v2).setCell (p := ⟨g, 3, none⟩) hg v3
theorem Shape.set4R {α : Type} (S : Shape α) {w : World} {g : Nat} {cs : List Value} {d : α} {fp : List Nat} (h : S.R w cs d fp) (hn : g ∉ fp) (v0 v1 v2 v3 : Value) : S.R (set4 w g v0 v1 v2 v3) cs d fp :=
  S.frame (fun b hb => set4_far (fun e : b = g => hn (by rw [← e]; exact hb)) _ _ _ _) h
theorem set4_cell {w : World} {g b : Nat} (h : b ≠ g) (j : Nat) (v0 v1 v2 v3 : Value) : (set4 w g v0 v1 v2 v3).cell? ⟨b, j, none⟩ = w.cell? ⟨b, j, none⟩ :=
  World.cell?_of_block (set4_far h v0 v1 v2 v3)
theorem chain_cell {w : World} {g b : Nat} (h : b ≠ g) (j : Nat) (v0 v1 v2 v3 : Value) : ((((w.setCell ⟨g, 0, none⟩ v0).setCell ⟨g, 1, none⟩ v1).setCell ⟨g, 2, none⟩ v2).setCell ⟨g, 3, none⟩ v3).cell? ⟨b, j, none⟩ = w.cell? ⟨b, j, none⟩ := set4_cell h j v0 v1 v2 v3
theorem Own.set4 {w : World} {lo g : Nat} {fp : List Nat} (h : Own w lo fp) (v0 v1 v2 v3 : Value) : Own (set4 w g v0 v1 v2 v3) lo fp :=
  (((h.setCell ⟨g, 0, none⟩ v0).setCell ⟨g, 1, none⟩ v1).setCell ⟨g, 2, none⟩ v2).setCell ⟨g, 3, none⟩ v3

/-- A struct that was made is stored into its own box. -/
theorem box_done {α : Type} {S : Shape α} {w0 w : World} {g : Nat} {z0 z1 z2 z3 : Value} {T : TypeId} {cs : List Value} {d : α} {fp : List Nat} (HX : w.heap[g]? = some (.cells #[z0, z1, z2, z3] T (0, 0))) (hg : w0.heap.size ≤ g)
    (R : S.R w cs d fp) (O : Own w w0.heap.size fp) (hn : g ∉ fp) (hb : Below w0.heap.size w0 w) (v0 v1 v2 v3 : Value) :
    (set4 w g v0 v1 v2 v3).heap[g]? = some (.cells #[v0, v1, v2, v3] T (0, 0)) ∧ w0.heap.size ≤ g ∧ g < (set4 w g v0 v1 v2 v3).heap.size ∧ S.R (set4 w g v0 v1 v2 v3) cs d fp ∧ Own (set4 w g v0 v1 v2 v3) w0.heap.size fp ∧ Below w0.heap.size w0 (set4 w g v0 v1 v2 v3) :=
  ⟨set4_at HX _ _ _ _, hg, by rw [set4_size]; exact (Array.getElem?_eq_some_iff.1 HX).1, S.set4R R hn _ _ _ _, O.set4 _ _ _ _, set4_below hb hg _ _ _ _⟩

section
variable {α : Type} {S : Shape α} {w w7 : World} {g2 g3 : Nat} {T : TypeId} {z0 z1 z2 z3 y0 y1 y2 y3 : Value} {cs cs' : List Value} {d d' : α} {fp fp' : List Nat}
end

end Go.Proofs.Ytflbdanlcpojbaa

/- TokenBytes of the model. -/
namespace Go.Proofs.Ytflbdanlcpojbaa
open Go.RowKit
/-- Where the walk over a text is. -/
def OutAt (s : ByteArray) (k : Nat) (out : ByteArray) : Prop := out ++ outTo s k = outTo s 1 ∧ tClose s k = some s.size ∧ 1 ≤ k ∧ out.size ≤ k
theorem OutAt.start {s : ByteArray} (h : tClose s 1 = some s.size) : OutAt s 1 ⟨#[]⟩ := ⟨ByteArray.empty_append, h, Nat.le_refl _, by show 0 ≤ _; omega⟩
theorem OutAt.back {s : ByteArray} {k : Nat} {out : ByteArray} (h : OutAt s k out) (hk : k + 1 < s.size) (hc : s[k].toNat = 92) : k + 3 ≤ s.size ∧ OutAt s (k + 2) (out ++ s.extract (k + 1) (k + 2)) := by
  obtain ⟨h1, h2, h3, h4⟩ := h
  rw [tClose_back (by omega) hc] at h2
  have := tClose_some h2
  refine ⟨by omega, ?_, h2, by omega, by rw [ByteArray.size_append, ByteArray.size_extract]; omega⟩
  rw [← h1, outTo_back hk hc, ByteArray.append_assoc]
theorem OutAt.byte {s : ByteArray} {k : Nat} {out : ByteArray} (h : OutAt s k out) (hk : k + 1 < s.size) (hc : ¬ s[k].toNat = 92) : OutAt s (k + 1) (out ++ s.extract k (k + 1)) := by
  obtain ⟨h1, h2, h3, h4⟩ := h
  by_cases hq : s[k].toNat = 34
  · rw [tClose_quote (by omega) hq, Option.some.injEq] at h2; omega
  rw [tClose_else (by omega) hq hc] at h2
  refine ⟨?_, h2, by omega, by rw [ByteArray.size_append, ByteArray.size_extract]; omega⟩
  rw [← h1, outTo_else hk hc, ByteArray.append_assoc]
theorem OutAt.done {s : ByteArray} {k : Nat} {out : ByteArray} (h : OutAt s k out) (hk : s.size ≤ k + 1) : out = outTo s 1 := by
  rw [← h.1, outTo_end hk]; exact ByteArray.append_empty.symm

end Go.Proofs.Ytflbdanlcpojbaa
