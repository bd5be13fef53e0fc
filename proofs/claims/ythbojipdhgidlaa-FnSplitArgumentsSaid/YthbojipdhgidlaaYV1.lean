/- Texts that the proof of V stands on, in one file. -/
import Derived.Test.YthbojipdhgidlaaShelf
import Derived.Test.YthbojipdhgidlaaZU1
import Derived.Lib.FrozenHead2
import Derived.Lib.OthersKept
import Derived.Lib.Builder
import Derived.Laws.Externs
import Derived.Test.YthbojipdhgidlaaZU5
import Derived.Test.YthbojipdhgidlaaZU8
import Derived.Lib.Join
import Derived.Test.YthbojipdhgidlaaZU7
import Derived.Test.YthbojipdhgidlaaZU6
set_option linter.unusedVariables false
set_option linter.unusedSimpArgs false
/- strings.Builder at this program, walked here: what its writers leave. (The library's own contracts don't fit this translation: a builder's copy check ends otherwise.) -/
namespace Go.Proofs.Ythbojipdhgidlaa
open Go.RowKit
theorem byte_info : ∃ i, Try.prog.info? 5 = some i ∧ i.zero = some (.int .u8 0) ∧ i.size = 1 ∧ i.bytes = 1 := by
  have h : (Try.prog.info? 5).map (fun i => (i.zero, i.size, i.bytes)) = some (some (.int .u8 0), 1, 1) := by kernel_rfl
  obtain ⟨i, h1, h2⟩ := Option.map_eq_some_iff.1 h
  simp only [Prod.mk.injEq] at h2
  exact ⟨i, h1, h2.1, h2.2.1, h2.2.2⟩

end Go.Proofs.Ythbojipdhgidlaa

/- PrintTokens: the program. -/
namespace Go.Proofs.Ythbojipdhgidlaa
open Go.RowKit
theorem strCells_snoc (s : ByteArray) : Lib.strCells s ++ [.int .u8 32] = Lib.strCells (s ++ ⟨#[32]⟩) := by
  unfold Lib.strCells; rw [ByteArray.data_append, Array.toList_append, List.map_append]; rfl
theorem strCells_app (s t : ByteArray) : Lib.strCells s ++ Lib.strCells t = Lib.strCells (s ++ t) := by
  unfold Lib.strCells; rw [ByteArray.data_append, Array.toList_append, List.map_append]
theorem kept_cell {b g : Nat} {arr : Array Value} {ty : TypeId} {fr : Nat × Nat} {w w' : World} (hk : Lib.OthersKept 5 (some b) w w') (h : w.heap[g]? = some (.cells arr ty fr)) (hg : g ≠ b) (hty : ty ≠ 5) : w'.heap[g]? = some (.cells arr ty fr) :=
  hk g _ h (fun e => hg (Option.some.inj e)) (fun c fz e => hty (by simp only [Obj.cells.injEq] at e; exact e.2.1))

end Go.Proofs.Ythbojipdhgidlaa

/- MacroText of both. (Made by gen_mac7.py.) -/
namespace Go.Proofs.Ythbojipdhgidlaa
open Go.RowKit

/-! ### The head's bytes -/
def parL (m : DMacro) : List (List UInt8) := m.params.map (·.data.toList)
theorem hd_list (m : DMacro) : ∀ k, k ≤ m.params.length → (hdTo m k).data.toList = m.name.data.toList ++ [40] ++ Lib.join ((parL m).take k) [44]
  | 0, _ => by
    show (m.name ++ openB).data.toList = _
    rw [ByteArray.data_append, Array.toList_append, List.take_zero, Lib.join_nil, List.append_nil]; rfl
  | k + 1, hk => by
    have ih := hd_list m k (by omega)
    have hk' : k < m.params.length := by omega
    have hx : (parL m)[k]? = some m.params[k].data.toList := by unfold parL; rw [List.getElem?_map, List.getElem?_eq_getElem hk']; rfl
    rw [hdTo, dif_pos hk', ByteArray.data_append, Array.toList_append]
    by_cases h0 : 0 < k
    · rw [if_pos h0, ByteArray.data_append, Array.toList_append, ih]
      obtain ⟨j, rfl⟩ : ∃ j, k = j + 1 := ⟨k - 1, by omega⟩
      cases hp : parL m with
      | nil => rw [hp] at hx; simp at hx
      | cons p r =>
        rw [hp] at hx
        rw [List.take_succ_cons, List.take_succ_cons, Lib.join_cons, Lib.join_cons, Lib.joinTail_take_succ [44] r j _ (by simpa using hx)]
        have : commaB.data.toList = [44] := rfl
        rw [this]
        simp [List.append_assoc]
    · have hz : k = 0 := by omega
      subst hz
      rw [if_neg (by omega), ih]
      cases hp : parL m with
      | nil => rw [hp] at hx; simp at hx
      | cons p r =>
        rw [hp] at hx
        have hpe : p = m.params[0].data.toList := by simpa using hx
        simp [Lib.join_nil, Lib.join_one, hpe]
def joinB (m : DMacro) : ByteArray := ⟨(Lib.join (parL m) [44]).toArray⟩
theorem hd_join (m : DMacro) : hdTo m m.params.length = m.name ++ openB ++ joinB m := by
  have h := hd_list m m.params.length (Nat.le_refl _)
  rw [List.take_of_length_le (by unfold parL; simp)] at h
  apply ByteArray.ext
  apply Array.toList_inj.1
  rw [h, ByteArray.data_append, Array.toList_append, ByteArray.data_append, Array.toList_append]
  show _ = _ ++ (Lib.join (parL m) [44]).toArray.toList
  rw [List.toList_toArray]
  rfl
theorem joinB_nil {m : DMacro} (h : m.params.length = 0) : joinB m = ⟨#[]⟩ := by
  unfold joinB parL
  rw [List.length_eq_zero_iff.1 h]; rfl
theorem name_size {s : ByteArray} (h : oneTok s 1 = true) : s.size ≤ 12 := (name_facts h).2.1
theorem hdTo_size {m : DMacro} (h : macOk m = true) : ∀ k, k ≤ m.params.length → (hdTo m k).size ≤ 13 + 13 * k
  | 0, _ => by
    have := name_size (macOk_facts h).1.1
    show (m.name ++ openB).size ≤ _
    rw [ByteArray.size_append]
    have : openB.size = 1 := rfl
    omega
  | k + 1, hk => by
    have ih := hdTo_size h k (by omega)
    have hk' : k < m.params.length := by omega
    have := name_size ((macOk_facts h).2.1 k hk')
    have : commaB.size = 1 := rfl
    rw [hdTo, dif_pos hk', ByteArray.size_append]
    split
    · rw [ByteArray.size_append]; omega
    · omega
theorem hd_size {m : DMacro} (h : macOk m = true) : (hdTo m m.params.length).size ≤ 65 := by
  have := hdTo_size h _ (Nat.le_refl _)
  have := (macOk_facts h).1.2.2.1
  omega
theorem headOf_size {m : DMacro} (h : macOk m = true) : (headOf m).size ≤ 66 := by
  have := hd_size h
  have := name_size (macOk_facts h).1.1
  unfold headOf
  split
  · rw [ByteArray.size_append]; have : closeB.size = 1 := rfl; omega
  · omega
theorem join_size {m : DMacro} (h : macOk m = true) : (joinB m).size ≤ 65 := by
  have := hd_size h
  rw [hd_join, ByteArray.size_append] at this
  omega
theorem join_len {m : DMacro} (h : macOk m = true) : (Lib.join (m.params.map (·.data.toList)) [44]).length ≤ 65 := by
  have := join_size h
  unfold joinB at this
  have e : (⟨(Lib.join (parL m) [44]).toArray⟩ : ByteArray).size = (Lib.join (parL m) [44]).length := by show (Lib.join (parL m) [44]).toArray.size = _; simp
  rw [e] at this
  exact this
theorem printRes_size (l : List Tok) : (printRes l).1.size ≤ 200 := by
  unfold printRes
  split
  · split
    · show (0 : Nat) ≤ 200; omega
    · rename_i h; show (prTo l l.length).size ≤ 200; omega
  · show (0 : Nat) ≤ 200; omega
theorem printRes_nil {l : List Tok} (h : ¬ 0 < l.length) : printRes l = (⟨#[]⟩, true) := by
  have : l = [] := List.length_eq_zero_iff.1 (by omega)
  subst this; rfl
theorem mt_no {m : DMacro} (h : macOk m = false) : macText m = (⟨#[]⟩, false) := by unfold macText; rw [if_neg (by simp [h])]
theorem mt_pr {m : DMacro} (h : macOk m = true) (h2 : (printRes m.body).2 = false) : macText m = (⟨#[]⟩, false) := by unfold macText; rw [if_pos h, if_pos (.inl h2)]
theorem mt_long {m : DMacro} (h : macOk m = true) (h2 : 200 < (macOut m).size) : macText m = (⟨#[]⟩, false) := by unfold macText; rw [if_pos h, if_pos (.inr h2)]
theorem mt_yes {m : DMacro} (h : macOk m = true) (h2 : (printRes m.body).2 = true) (h3 : ¬ 200 < (macOut m).size) : macText m = (macOut m, true) := by
  unfold macText; rw [if_pos h, if_neg (by rintro (h | h); · rw [h2] at h; simp at h
                                           · exact h3 h)]
theorem out_body {m : DMacro} (h : 0 < m.body.length) : macOut m = headOf m ++ ⟨#[32]⟩ ++ (printRes m.body).1 := by unfold macOut; rw [if_pos h]
theorem out_bare {m : DMacro} (h : ¬ 0 < m.body.length) : macOut m = headOf m := by unfold macOut; rw [if_neg h]
theorem head_no {m : DMacro} (h : m.function = false) : headOf m = m.name := by unfold headOf; rw [if_neg (by simp [h])]
theorem head_yes {m : DMacro} (h : m.function = true) : headOf m = hdTo m m.params.length ++ closeB := by unfold headOf; rw [if_pos h]

/-- What MacroText hands back. -/
def MText (m : DMacro) (w : World) (e : Ending) (w' : World) : Prop := e = .returned (.tuple #[.string (macText m).1, .bool (macText m).2]) ∧ Below w.heap.size w w'
theorem mtext_ret {m : DMacro} {s : ByteArray} {b : Bool} {w w' : World} (h : macText m = (s, b)) (hb : Below w.heap.size w w') : MText m w (.returned (.tuple #[.string s, .bool b])) w' := ⟨by rw [h], hb⟩

/-- A sum of texts under a name of its own. -/
theorem add_name (a b : ByteArray) (h : a.size + b.size ≤ 1000000) : ∃ c : ByteArray, Hid (c = a ++ b) ∧ (∀ W : World, (Op.stringOp .add a b).run Try.prog W = .ok (.string c) W) ∧ c.size = a.size + b.size :=
  ⟨a ++ b, rfl, fun W => run_string_add_sum (P := Try.prog) W a b (by omega), ByteArray.size_append⟩
theorem one_size (c : UInt8) : (⟨#[c]⟩ : ByteArray).size = 1 := rfl

end Go.Proofs.Ythbojipdhgidlaa

/- Macros are drawn. (Made by gen_drawmac.py.) -/
namespace Go.Proofs.Ythbojipdhgidlaa
open Go.RowKit

/-- A drawn macro: small. -/
def okMac (m : DMacro) : Prop := m.name.size ≤ 1000 ∧ m.params.length ≤ 100 ∧ m.body.length ≤ 100 ∧ ∀ t ∈ m.body, t.hidden.length ≤ 3
/-- What is read out of tokens is small, and hides nothing. -/
theorem of_small (l : List Tok) : (macOf l).1.name.size ≤ 12 ∧ (macOf l).1.params.length ≤ 4 ∧ (macOf l).1.body.length ≤ 20 ∧ ∀ t ∈ (macOf l).1.body, t.hidden = [] := by
  rcases h : macOf l with ⟨m, ok⟩
  cases ok
  · have := macOf_no h
    subst this
    exact ⟨by show (0 : Nat) ≤ 12; omega, by show (0 : Nat) ≤ 4; omega, by show (0 : Nat) ≤ 20; omega, fun t ht => by simp [zeroMac] at ht⟩
  · obtain ⟨⟨h1, h2, h3, h4, h5⟩, h6, h7⟩ := macOk_facts (macOf_ok h)
    refine ⟨name_size h1, h3, h5, fun t ht => ?_⟩
    obtain ⟨k, hk, rfl⟩ := List.getElem_of_mem ht
    exact (bodOk_facts hk (h7 k hk)).2.1
/-- A macro is drawn, by at most n picks. -/
def DrawnMac (rb p n : Nat) (w : World) (e : Ending) (w' : World) : Prop :=
  ∃ (nm : ByteArray) (f : Bool) (a2 a3 : Option Addr) (n2 c2 n3 c3 : Nat) (ps : List ByteArray) (bd : List Tok) (fp : List Nat) (q : Nat), e = .returned (.agg #[.string nm, .bool f, .slice a2 n2 c2, .slice a3 n3 c3]) ∧
    sMacro.R w' [.string nm, .bool f, .slice a2 n2 c2, .slice a3 n3 c3] ⟨nm, f, ps, bd⟩ fp ∧ okMac ⟨nm, f, ps, bd⟩ ∧ (∀ b ∈ fp, w.heap.size ≤ b) ∧ q ≤ p + n ∧ Rd w' rb q ∧ Kept [rb] w w'

/-- Four cells of a result. -/
def set4 (w : World) (g : Nat) (v0 v1 v2 v3 : Value) : World := (((w.setCell ⟨g, 0, none⟩ v0).setCell ⟨g, 1, none⟩ v1).setCell ⟨g, 2, none⟩ v2).setCell ⟨g, 3, none⟩ v3
theorem set4_mac {w wP : World} {g rb q : Nat} {nm : ByteArray} {f : Bool} {s2 s3 : Value} {m : DMacro} {fp : List Nat} (HZ : wP.heap[g]? = some (.cells #[.string ⟨#[]⟩, .bool false, .slice none 0 0, .slice none 0 0] 32 (0, 0))) (R : sMacro.R wP [.string nm, .bool f, s2, s3] m fp) (hn : g ∉ fp) (HR : Rd wP rb q) (hr : rb < g) (HK : Kept [rb] w wP) (hg : w.heap.size ≤ g) :
    (set4 wP g (.string nm) (.bool f) s2 s3).heap[g]? = some (.cells #[.string nm, .bool f, s2, s3] 32 (0, 0)) ∧ sMacro.R (set4 wP g (.string nm) (.bool f) s2 s3) [.string nm, .bool f, s2, s3] m fp ∧ Rd (set4 wP g (.string nm) (.bool f) s2 s3) rb q ∧ Kept [rb] w (set4 wP g (.string nm) (.bool f) s2 s3) :=
  ⟨blk_set (blk_set (blk_set (blk_set HZ 0 _) 1 _) 2 _) 3 _, sMacro.setB (sMacro.setB (sMacro.setB (sMacro.setB R hn 0 _) hn 1 _) hn 2 _) hn 3 _, rdSet (rdSet (rdSet (rdSet HR hr 0 _) hr 1 _) hr 2 _) hr 3 _, keptSet (keptSet (keptSet (keptSet HK hg _ 0) hg _ 1) hg _ 2) hg _ 3⟩
theorem dm_ret {rb p n q : Nat} {w wF : World} {nm : ByteArray} {f : Bool} {a2 a3 : Option Addr} {n2 c2 n3 c3 : Nat} {ps : List ByteArray} {bd : List Tok} {fp : List Nat} (hR : sMacro.R wF [.string nm, .bool f, .slice a2 n2 c2, .slice a3 n3 c3] ⟨nm, f, ps, bd⟩ fp) (ho : okMac ⟨nm, f, ps, bd⟩) (hlo : ∀ b ∈ fp, w.heap.size ≤ b) (hq : q ≤ p + n) (hRd : Rd wF rb q) (hK : Kept [rb] w wF) :
    DrawnMac rb p n w (.returned (.agg #[.string nm, .bool f, .slice a2 n2 c2, .slice a3 n3 c3])) wF := ⟨nm, f, a2, a3, n2, c2, n3, c3, ps, bd, fp, q, rfl, hR, ho, hlo, hq, hRd, hK⟩

/-- append of any tokens that can be read, and hide nothing, behind a row of the call's own. -/
theorem wp_append_toksR {w : World} {ops : Array Oper} {rest : List Oper} {o : Oper} {a : Act} {Q : Exit → Act → World → Prop} (hg : o.guard = none) (s y : Operand)
    (ho : o.op = .call { callee := .builtin .append, args := #[s, y], argTypes := #[30, 30] })
    (base : Nat) (v u : Value) (L : List (Elem Tok)) (M : List Tok) (fp : List Nat) (hs : a.eval s = v) (hown : RowE sTok base 56 v L w) (hy : a.eval y = u) (HM : (sSlice sTok).R w [u] M fp) (hh : ∀ t ∈ M, t.hidden = [])
    (h63 : L.length + M.length ≤ 2000000) (hbase : base ≤ w.heap.size)
    (h : ∀ v' X w', X.map (·.d) = M → (∀ x ∈ X, x.fp = []) → RowE sTok base 56 v' (L ++ X) w' → w.grownBy w' v.ownBlock → wpList Try.prog ops Q rest (a.put o.dst v') w') : wpList Try.prog ops Q (o :: rest) a w := by
  obtain ⟨i, hi, hz0, hz1, hz2⟩ := info_parts ti_tok.2
  obtain ⟨ad, cap, rfl, hc, hm, hrow⟩ := open_rows HM
  by_cases h0 : 0 < M.length
  · obtain ⟨b, off, fps, rfl, hb, -, he⟩ := hrow h0
    have hex : ∀ k, (hk : k < M.length) → ∃ hh : Value, ElemAt w b off 4 k [.int .i64 M[k].kind, .string M[k].text, .bool M[k].spaced, hh] ∧ sTok.R w [.int .i64 M[k].kind, .string M[k].text, .bool M[k].spaced, hh] M[k] [] ∧ hh.oneCell' = true := fun k hk => by
      obtain ⟨es, hE, hR⟩ := he k hk
      have hk0 := hh _ (List.getElem_mem hk)
      obtain ⟨hv, rfl, k1, k2, hK⟩ := hR
      obtain ⟨ao, co, rfl, hc1, hm1, -⟩ := open_rows hK
      exact ⟨_, hE, ⟨_, rfl, k1, k2, by rw [hk0]; exact slice_empty sStr w ao co hm1⟩, rfl⟩
    let X : List (Elem Tok) := List.ofFn fun (k : Fin M.length) => (⟨[.int .i64 M[k.1].kind, .string M[k.1].text, .bool M[k.1].spaced, (hex k.1 k.2).choose], M[k.1], []⟩ : Elem Tok)
    have hXl : X.length = M.length := by simp [X]
    have hXg : ∀ k, (hk : k < X.length) → X[k] = ⟨[.int .i64 (M[k]'(by omega)).kind, .string (M[k]'(by omega)).text, .bool (M[k]'(by omega)).spaced, (hex k (by omega)).choose], M[k]'(by omega), []⟩ := fun k hk => by simp [X]
    have hXm : ∀ x ∈ X, ∃ k, ∃ hk : k < M.length, x = ⟨[.int .i64 M[k].kind, .string M[k].text, .bool M[k].spaced, (hex k hk).choose], M[k], []⟩ := fun x hx => by
      obtain ⟨k, hk, rfl⟩ := List.getElem_of_mem hx
      exact ⟨k, by omega, hXg k hk⟩
    have hXd : X.map (·.d) = M := List.ext_getElem (by simpa using hXl) fun k h1 h2 => by rw [List.getElem_map, hXg k (by simpa using h1)]
    have hX4 : ∀ x ∈ X, x.cells.length = 4 := fun x hx => by obtain ⟨k, hk, rfl⟩ := hXm x hx; rfl
    have hX1 : ∀ x ∈ X, ∀ u ∈ x.cells, u.oneCell' = true := fun x hx u hu => by
      obtain ⟨k, hk, rfl⟩ := hXm x hx
      have := (hex k hk).choose_spec.2.2
      simp only [List.mem_cons, List.not_mem_nil, or_false] at hu
      rcases hu with rfl | rfl | rfl | rfl
      · rfl
      · rfl
      · rfl
      · exact this
    refine wpList_append_own _ hg s y _ ho base _ i _ 4 _ ti_tok.1 hi hz0 hz1 hz2 rfl (by decide) v L.length _ hs hown.row ⟨b, off, none⟩ M.length cap (X.flatMap (·.cells)) hy (by rw [flatMap_len hX4, hXl]) ?_ ?_ (by unfold maxLen; omega) (by omega) hbase fun v' w' h1 h2 _ => h v' X w' hXd (fun x hx => by obtain ⟨k, hk, rfl⟩ := hXm x hx; rfl) (hown.appended (X := X) (by rw [List.length_append, hXl, List.flatMap_append]; exact h1) h2 hX4 (fun x hx => by obtain ⟨k, hk, rfl⟩ := hXm x hx; exact (hex k hk).choose_spec.2.1) (fun x hx b hb => by obtain ⟨k, hk, rfl⟩ := hXm x hx; simp at hb) (fun x hx b hb => by obtain ⟨k, hk, rfl⟩ := hXm x hx; simp at hb)) h2
    · intro j u hj
      have hjl : j < X.length * 4 := by have := (List.getElem?_eq_some_iff.1 hj).1; rwa [flatMap_len hX4] at this
      have hdm : j = j / 4 * 4 + j % 4 := by omega
      have hk : j / 4 < X.length := by omega
      rw [hdm, flatMap_at (f := Elem.cells) hX4 hk (by omega), hXg _ hk] at hj
      have hE := (hex (j / 4) (by omega)).choose_spec.1
      have := hE.2 (j % 4) (by omega)
      rw [Addr.add_lit, show off + j = off + j / 4 * 4 + j % 4 by omega, this]
      exact hj
    · intro u hu
      obtain ⟨x, hx, hu⟩ := List.mem_flatMap.1 hu
      exact hX1 x hx u hu
  · have hM : M = [] := List.length_eq_zero_iff.1 (by omega)
    subst hM
    cases ad with
    | none =>
      have hrun := run_append_nil (P := Try.prog) (w := w) base _ o.type _ i 4 cap ti_tok.1 hi v L.length _ hown.row
      have hK := h v [] w rfl (by simp) (by simpa using hown) ⟨rfl, rfl, rfl, Nat.le_refl _, fun _ _ _ => rfl⟩
      refine wpList_plain hg fun K hK' => ?_
      unfold Oper.wp
      simp only [List.length_nil] at hy
      simp [execOp, ho, resolve, invoke, builtin, hs, hy, hrun, Result.andThen]
      exact hK' _ _ hK
    | some ad =>
      refine wpList_append_own _ hg s y _ ho base _ i _ 4 _ ti_tok.1 hi hz0 hz1 hz2 rfl (by decide) v L.length _ hs hown.row ad 0 cap [] hy rfl (by simp) (by simp) (by unfold maxLen; omega) (by omega) hbase fun v' w' h1 h2 _ => h v' [] w' rfl (by simp) ?_ h2
      exact hown.appended (X := []) (by have h1' := h1; simp only [Nat.add_zero, List.append_nil] at h1' ⊢; exact h1') h2 (by simp) (by simp) (by simp) (by simp)

def mac_texts : List ByteArray := [⟨#[97, 32, 49]⟩, ⟨#[98, 32, 97, 32, 43, 32, 50]⟩, ⟨#[65, 66, 32, 97, 32, 98]⟩, ⟨#[102, 40, 120, 41, 32, 120, 32, 43, 32, 120]⟩, ⟨#[103, 40, 120, 44, 121, 41, 32, 120, 32, 35, 35, 32, 121]⟩, ⟨#[104, 40, 120, 41, 32, 35, 32, 120]⟩, ⟨#[101, 40, 41, 32, 55]⟩, ⟨#[97, 32, 102]⟩, ⟨#[114, 32, 114, 32, 43, 32, 49]⟩, ⟨#[112, 40, 120, 41, 32, 102, 40, 120, 41]⟩, ⟨#[113, 40, 120, 44, 121, 44, 122, 41, 32, 122, 32, 121, 32, 120]⟩, ⟨#[110]⟩, ⟨#[102, 40, 120, 41, 32, 120, 32, 35, 35, 32, 49]⟩, ⟨#[109, 40, 120, 41, 32, 40, 120, 41, 32, 42, 32, 40, 120, 41]⟩, ⟨#[98, 32, 98]⟩, ⟨#[103, 40, 120, 44, 121, 41, 32, 102, 40, 120, 41, 32, 121]⟩, ⟨#[97, 32, 40, 32, 50, 32, 41]⟩, ⟨#[120, 32, 102, 32, 40, 32, 51]⟩, ⟨#[99, 40, 120, 41, 32, 120, 32, 120]⟩, ⟨#[100, 32, 53, 32, 35, 35, 32, 54]⟩]
theorem mac_texts_size : ∀ s ∈ mac_texts, s.size ≤ 14 := by decide
def mac_names : List ByteArray := [⟨#[]⟩, ⟨#[49]⟩, ⟨#[100, 101, 102, 105, 110, 101, 100]⟩, ⟨#[97, 32, 98]⟩]
theorem mac_names_size : ∀ s ∈ mac_names, s.size ≤ 7 := by decide
def mac_pars : List ByteArray := [⟨#[120]⟩, ⟨#[49]⟩, ⟨#[]⟩]
theorem mac_pars_size : ∀ s ∈ mac_pars, s.size ≤ 1 := by decide

set_option maxHeartbeats 32000000 in
set_option maxRecDepth 100000 in
theorem l20Macro (rb p : Nat) (n : Int) (w : World) (H : Rd w rb p) (hp : p ≤ 900000) (hn : n ≤ 100) (hn0 : 0 ≤ n) :
    Calls Try.prog 34 #[.pointer (some ⟨rb, 0, none⟩), .int .i64 n] w (DrawnMac rb p 10 w) := by
  have hrb := H.lt
  have hz0 := alloc_below' w (.cells #[.string ⟨#[]⟩, .bool false, .slice none 0 0, .slice none 0 0] 32)
  have HZ := Lib.hid (heap_alloc_new w (.cells #[.string ⟨#[]⟩, .bool false, .slice none 0 0, .slice none 0 0] 32))
  have hzl := alloc_below' (w.alloc (.cells #[.string ⟨#[]⟩, .bool false, .slice none 0 0, .slice none 0 0] 32)) (.cells #[.string ⟨#[97, 32, 49]⟩, .string ⟨#[98, 32, 97, 32, 43, 32, 50]⟩, .string ⟨#[65, 66, 32, 97, 32, 98]⟩, .string ⟨#[102, 40, 120, 41, 32, 120, 32, 43, 32, 120]⟩, .string ⟨#[103, 40, 120, 44, 121, 41, 32, 120, 32, 35, 35, 32, 121]⟩, .string ⟨#[104, 40, 120, 41, 32, 35, 32, 120]⟩, .string ⟨#[101, 40, 41, 32, 55]⟩, .string ⟨#[97, 32, 102]⟩, .string ⟨#[114, 32, 114, 32, 43, 32, 49]⟩, .string ⟨#[112, 40, 120, 41, 32, 102, 40, 120, 41]⟩, .string ⟨#[113, 40, 120, 44, 121, 44, 122, 41, 32, 122, 32, 121, 32, 120]⟩, .string ⟨#[110]⟩, .string ⟨#[102, 40, 120, 41, 32, 120, 32, 35, 35, 32, 49]⟩, .string ⟨#[109, 40, 120, 41, 32, 40, 120, 41, 32, 42, 32, 40, 120, 41]⟩, .string ⟨#[98, 32, 98]⟩, .string ⟨#[103, 40, 120, 44, 121, 41, 32, 102, 40, 120, 41, 32, 121]⟩, .string ⟨#[97, 32, 40, 32, 50, 32, 41]⟩, .string ⟨#[120, 32, 102, 32, 40, 32, 51]⟩, .string ⟨#[99, 40, 120, 41, 32, 120, 32, 120]⟩, .string ⟨#[100, 32, 53, 32, 35, 35, 32, 54]⟩] 9)
  have hs1 : (w.alloc (.cells #[.string ⟨#[]⟩, .bool false, .slice none 0 0, .slice none 0 0] 32)).heap.size = w.heap.size + 1 := Array.size_push _
  have HS1 := Lib.hid hs1
  clear hs1
  have HR1 := Lib.hid ((H.grow hz0).grow hzl)
  go_enter Try.func34, Try.ntmps34
  go_wp2_with fail
  refine (pick rb p _ _ HR1.out (by omega) (by omega) (by omega)).mono ?_
  rintro e w2 ⟨r, rfl, h0, h1, hR2, hK2⟩
  obtain ⟨s, hs, hcs⟩ := lit_pick mac_texts 20 (fun s hs => Nat.le_trans (mac_texts_size s hs) (by decide)) h0 (by show r < 20; omega) (by rw [HS1.out]; omega) hK2
  rw [HS1.out] at hcs
  have hb2 := hz0.trans (hzl.mono hz0.size)
  have hK02 := (Kept.of_below (fp := [rb]) hb2).trans hK2
  have HZ2 := Lib.hid (blkKept ((hzl.block _ (by rw [HS1.out]; omega)).trans HZ.out) hK2 (by omega))
  have hok : okStr s := by unfold okStr maxLen; omega
  clear hzl hz0 HZ HR1
  go_wp2_with fail
  refine (spec_TokensOf s _ hok).mono ?_
  rintro e w3 ⟨v3, f3, rfl, hT, hO, hb3⟩
  have hall := tokRes_all s
  have hK03 := hK02.trans (Kept.of_below hb3)
  have HZ3 := Lib.hid (mbox HZ2.out hb3)
  have hR3 := hR2.grow hb3
  clear hO hb3 hcs HZ2 hR2 hK2 hK02 hb2
  go_wp2_with fail
  refine (spec_MacroOf v3 _ f3 _ (by omega) (fun k hk => by rw [hall.2 _ (List.getElem_mem hk)]; simp) hT).mono ?_
  rintro e w4 ⟨cs, fp, rfl, hM, hMO, hb4⟩
  have HSM := of_small (tokRes s).1
  have hw34 : w.heap.size + 1 ≤ w3.heap.size := mlt HZ3.out
  clear hT hall
  generalize macOf (tokRes s).1 = MM at hM HSM
  obtain ⟨⟨nm, fb, ps, bd⟩, okb⟩ := MM
  obtain ⟨h2, h3, fp2, fp3, rfl, okn, K2, K3, rfl⟩ := hM
  obtain ⟨a2, c2, rfl, -⟩ := open_strs K2
  obtain ⟨a3, c3, rfl, -⟩ := open_rows K3
  obtain ⟨sm1, sm2, sm3, sm4⟩ := HSM
  have hK04 := hK03.trans (Kept.of_below hb4)
  have HZ4 := mbox HZ3.out hb4
  have hR4 := hR3.grow hb4
  have hlo : ∀ b ∈ fp2 ++ fp3, w.heap.size + 1 ≤ b ∧ b < w4.heap.size := fun b hb => ⟨by have := (hMO.2 b hb).1; omega, hMO.lt b hb⟩
  have hbx := alloc_below' w4 (.cells #[.string nm, .bool fb, .slice a2 ps.length c2, .slice a3 bd.length c3] 32)
  have HM5 := Lib.hid (heap_alloc_new w4 (.cells #[.string nm, .bool fb, .slice a2 ps.length c2, .slice a3 bd.length c3] 32))
  have HZ5 := Lib.hid (mbox HZ4 hbx)
  have HR5 := Lib.hid (hR4.grow hbx)
  have HK5 := Lib.hid (hK04.trans (Kept.of_below hbx))
  have HP5 := Lib.hid ((sSlice sStr).below K2 hbx)
  have HB5 := Lib.hid ((sSlice sTok).below K3 hbx)
  have hg1 : w.heap.size < w4.heap.size := mlt HZ4
  have HOK := Lib.hid (And.intro okn (And.intro sm1 (And.intro sm2 (And.intro sm3 sm4))))
  have HLO := Lib.hid hlo
  clear hMO hb4 hK03 hK04 HZ3 HZ4 hR3 hR4 K2 K3 hbx hlo okn sm1 sm2 sm3 sm4
  go_wp2_with fail
  refine (odd rb (p + 1) n _ HR5.out (by omega) (by omega) hn0).mono ?_
  rintro e w5 ⟨b, q, rfl, hq1, hq2, hR6, hK6⟩
  have HM6 := Lib.hid (blkKept HM5.out hK6 (by omega))
  have HZ6 := Lib.hid (blkKept HZ5.out hK6 (by omega))
  have HK6 := Lib.hid (HK5.out.trans hK6)
  have nrb : ∀ b ∈ fp2 ++ fp3, b ∉ [rb] := fun b hb hx => by have := (HLO.out b hb).1; have e : b = rb := (by simpa using hx); omega
  have HP6 := Lib.hid ((sSlice sStr).kept HP5.out (fun b hb => nrb b (by simp [hb])) hK6)
  have HB6 := Lib.hid ((sSlice sTok).kept HB5.out (fun b hb => nrb b (by simp [hb])) hK6)
  have HR6 := Lib.hid hR6
  clear HM5 HZ5 HK5 HP5 HB5 HR5 hK6 hR6
  cases b
  · -- as it is
    have y0 : w5.cell? ⟨w4.heap.size, 0, none⟩ = some (.string nm) := cell_of_row _ _ 0 _ _ _ HM6.out
    have y1 : w5.cell? ⟨w4.heap.size, 1, none⟩ = some (.bool fb) := cell_of_row _ _ 1 _ _ _ HM6.out
    have y2 : w5.cell? ⟨w4.heap.size, 2, none⟩ = some (.slice a2 ps.length c2) := cell_of_row _ _ 2 _ _ _ HM6.out
    have y3 : w5.cell? ⟨w4.heap.size, 3, none⟩ = some (.slice a3 bd.length c3) := cell_of_row _ _ 3 _ _ _ HM6.out
    have z0 : w5.cell? ⟨w.heap.size, 0, none⟩ = some (.string ⟨#[]⟩) := cell_of_row _ _ 0 _ _ _ HZ6.out
    have zf0 : w5.frozen? ⟨w.heap.size, 0, none⟩ = false := frozen_of_row _ _ 0 _ _ HZ6.out
    have z1 : w5.cell? ⟨w.heap.size, 1, none⟩ = some (.bool false) := cell_of_row _ _ 1 _ _ _ HZ6.out
    have zf1 : w5.frozen? ⟨w.heap.size, 1, none⟩ = false := frozen_of_row _ _ 1 _ _ HZ6.out
    have z2 : w5.cell? ⟨w.heap.size, 2, none⟩ = some (.slice none 0 0) := cell_of_row _ _ 2 _ _ _ HZ6.out
    have zf2 : w5.frozen? ⟨w.heap.size, 2, none⟩ = false := frozen_of_row _ _ 2 _ _ HZ6.out
    have z3 : w5.cell? ⟨w.heap.size, 3, none⟩ = some (.slice none 0 0) := cell_of_row _ _ 3 _ _ _ HZ6.out
    have zf3 : w5.frozen? ⟨w.heap.size, 3, none⟩ = false := frozen_of_row _ _ 3 _ _ HZ6.out
    have HS := Lib.hid (set4_mac (w := w) (wP := w5) HZ6.out (show sMacro.R w5 [.string nm, .bool fb, .slice a2 ps.length c2, .slice a3 bd.length c3] ⟨nm, fb, ps, bd⟩ (fp2 ++ fp3) from ⟨_, _, fp2, fp3, rfl, HOK.out.1, HP6.out, HB6.out, rfl⟩) (fun hx => by have := (HLO.out _ hx).1; omega) HR6.out (by omega) HK6.out (Nat.le_refl _))
    have HOKF : Hid (okMac ⟨nm, fb, ps, bd⟩) := ⟨by have := HOK.out.2.1; show nm.size ≤ 1000; omega, by have := HOK.out.2.2.1; show ps.length ≤ 100; omega, by have := HOK.out.2.2.2.1; show bd.length ≤ 100; omega, fun t ht => by rw [HOK.out.2.2.2.2 t ht]; simp⟩
    have HLOF : Hid (∀ b ∈ fp2 ++ fp3, w.heap.size ≤ b) := fun b hb => by have := (HLO.out b hb).1; omega
    clear HLO
    go_wp2
    refine bodyPost_ret (results_cell_row rfl _ _ w.heap.size _ _ _ _ rfl HS.out.1 Try.underlying32 rfl (by kernel_rfl)) rfl ?_
    exact dm_ret HS.out.2.1 HOKF.out HLOF.out (by omega) HS.out.2.2.1 HS.out.2.2.2
  · go_wp2_with fail
    refine (pick rb q _ _ HR6.out (by omega) (by omega) (by omega)).mono ?_
    rintro e w6 ⟨r8, rfl, hr0, hr1, hR7, hK7⟩
    have HM7 := Lib.hid (blkKept HM6.out hK7 (by omega))
    have HZ7 := Lib.hid (blkKept HZ6.out hK7 (by omega))
    have HK7 := Lib.hid (HK6.out.trans hK7)
    have HP7 := Lib.hid ((sSlice sStr).kept HP6.out (fun b hb => nrb b (by simp [hb])) hK7)
    have HB7 := Lib.hid ((sSlice sTok).kept HB6.out (fun b hb => nrb b (by simp [hb])) hK7)
    have HR7 := Lib.hid hR7
    have hs6 : w4.heap.size < w6.heap.size := mlt HM7.out
    have HX0 := Lib.hid (show ¬ (w.heap.size ∈ fp2 ++ fp3) from fun hx => by have := (HLO.out _ hx).1; omega)
    have HX1 := Lib.hid (show ¬ (w4.heap.size ∈ fp2 ++ fp3) from fun hx => by have := (HLO.out _ hx).2; omega)
    clear HM6 HZ6 HK6 HP6 HB6 HR6 hK7 hR7 nrb
    have hr8 : r8 = 0 ∨ r8 = 1 ∨ r8 = 2 ∨ r8 = 3 ∨ r8 = 4 ∨ r8 = 5 ∨ r8 = 6 ∨ r8 = 7 := by omega
    rcases hr8 with rfl | rfl | rfl | rfl | rfl | rfl | rfl | rfl
    · -- case 0
      have hbl := alloc_below' w6 (.cells #[.string ⟨#[]⟩, .string ⟨#[49]⟩, .string ⟨#[100, 101, 102, 105, 110, 101, 100]⟩, .string ⟨#[97, 32, 98]⟩] 9)
      have HRl := Lib.hid (HR7.out.grow hbl)
      go_wp2_with fail
      refine (pick rb (q + 1) _ _ HRl.out (by omega) (by omega) (by omega)).mono ?_
      rintro e w7 ⟨r4, rfl, hr40, hr41, hR8, hK8⟩
      obtain ⟨sn, hsn, hcn⟩ := lit_pick mac_names 7 mac_names_size hr40 (by show r4 < 4; omega) (by omega) hK8
      have HM8 := Lib.hid (blkKept (mbox HM7.out hbl) hK8 (by omega))
      have HZ8 := Lib.hid (blkKept (mbox HZ7.out hbl) hK8 (by omega))
      have HK8 := Lib.hid ((HK7.out.trans (Kept.of_below hbl)).trans hK8)
      have nrb : ∀ b ∈ fp2 ++ fp3, b ∉ [rb] := fun b hb hx => by have := (HLO.out b hb).1; have e : b = rb := (by simpa using hx); omega
      have HP8 := Lib.hid ((sSlice sStr).kept ((sSlice sStr).below HP7.out hbl) (fun b hb => nrb b (by simp [hb])) hK8)
      have HB8 := Lib.hid ((sSlice sTok).kept ((sSlice sTok).below HB7.out hbl) (fun b hb => nrb b (by simp [hb])) hK8)
      have HR8 := Lib.hid hR8
      have oksn : okStr sn := by unfold okStr maxLen; omega
      clear hK8 hR8 hbl HRl
      have y0 : w7.cell? ⟨w4.heap.size, 0, none⟩ = some (.string nm) := cell_of_row _ _ 0 _ _ _ HM8.out
      have y1 : w7.cell? ⟨w4.heap.size, 1, none⟩ = some (.bool fb) := cell_of_row _ _ 1 _ _ _ HM8.out
      have y2 : w7.cell? ⟨w4.heap.size, 2, none⟩ = some (.slice a2 ps.length c2) := cell_of_row _ _ 2 _ _ _ HM8.out
      have y3 : w7.cell? ⟨w4.heap.size, 3, none⟩ = some (.slice a3 bd.length c3) := cell_of_row _ _ 3 _ _ _ HM8.out
      have yf : w7.frozen? ⟨w4.heap.size, 0, none⟩ = false := frozen_of_row _ _ 0 _ _ HM8.out
      have z0 : w7.cell? ⟨w.heap.size, 0, none⟩ = some (.string ⟨#[]⟩) := cell_of_row _ _ 0 _ _ _ HZ8.out
      have zf0 : w7.frozen? ⟨w.heap.size, 0, none⟩ = false := frozen_of_row _ _ 0 _ _ HZ8.out
      have z1 : w7.cell? ⟨w.heap.size, 1, none⟩ = some (.bool false) := cell_of_row _ _ 1 _ _ _ HZ8.out
      have zf1 : w7.frozen? ⟨w.heap.size, 1, none⟩ = false := frozen_of_row _ _ 1 _ _ HZ8.out
      have z2 : w7.cell? ⟨w.heap.size, 2, none⟩ = some (.slice none 0 0) := cell_of_row _ _ 2 _ _ _ HZ8.out
      have zf2 : w7.frozen? ⟨w.heap.size, 2, none⟩ = false := frozen_of_row _ _ 2 _ _ HZ8.out
      have z3 : w7.cell? ⟨w.heap.size, 3, none⟩ = some (.slice none 0 0) := cell_of_row _ _ 3 _ _ _ HZ8.out
      have zf3 : w7.frozen? ⟨w.heap.size, 3, none⟩ = false := frozen_of_row _ _ 3 _ _ HZ8.out
      have HS := Lib.hid (set4_mac (w := w) (wP := w7.setCell ⟨w4.heap.size, 0, none⟩ (.string sn)) (blk_other HZ8.out (by omega : w.heap.size ≠ w4.heap.size) 0 (.string sn)) (sMacro.setB (show sMacro.R w7 [.string sn, .bool fb, .slice a2 ps.length c2, .slice a3 bd.length c3] ⟨sn, fb, ps, bd⟩ (fp2 ++ fp3) from ⟨_, _, fp2, fp3, rfl, oksn, HP8.out, HB8.out, rfl⟩) HX1.out 0 (.string sn)) HX0.out (rdSet HR8.out (by omega) 0 (.string sn)) (by omega) (keptSet HK8.out (by omega) (.string sn) 0) (Nat.le_refl _))
      have HOKF : Hid (okMac ⟨sn, fb, ps, bd⟩) := ⟨by show sn.size ≤ 1000; omega, by have := HOK.out.2.2.1; show ps.length ≤ 100; omega, by have := HOK.out.2.2.2.1; show bd.length ≤ 100; omega, fun t ht => by rw [HOK.out.2.2.2.2 t ht]; simp⟩
      have HLOF : Hid (∀ b ∈ fp2 ++ fp3, w.heap.size ≤ b) := fun b hb => by have := (HLO.out b hb).1; omega
      clear HLO
      go_wp2
      refine bodyPost_ret (results_cell_row rfl _ _ w.heap.size _ _ _ _ rfl HS.out.1 Try.underlying32 rfl (by kernel_rfl)) rfl ?_
      exact dm_ret HS.out.2.1 HOKF.out HLOF.out (by omega) HS.out.2.2.1 HS.out.2.2.2
    · -- case 1
      have hbl := alloc_below' w6 (.cells #[] 9)
      have hlit : Hid ((w6.alloc (.cells #[] 9)).ownsRow w6.heap.size 9 1 (.slice (some ⟨w6.heap.size, 0, none⟩) 0 0) ([] : List ByteArray).length (([] : List ByteArray).map Value.string)) := World.ownsRow_lit (base := w6.heap.size) (e := 9) (size := 1) w6 #[] 0 (Nat.le_refl _) (by simp) rfl
      have HMW := Lib.hid (mbox HM7.out hbl)
      have HZW := Lib.hid (mbox HZ7.out hbl)
      have HRW := Lib.hid (HR7.out.grow hbl)
      have HKW := Lib.hid (HK7.out.trans (Kept.of_below hbl))
      have HPW := Lib.hid ((sSlice sStr).below HP7.out hbl)
      have HBW := Lib.hid ((sSlice sTok).below HB7.out hbl)
      obtain ⟨_, _, -, -, -, -, hsz⟩ := open_strs HPW.out
      have HSZ := Lib.hid hsz
      clear hsz
      have y2 : (w6.alloc (.cells #[] 9)).cell? ⟨w4.heap.size, 2, none⟩ = some (.slice a2 ps.length c2) := cell_of_row _ _ 2 _ _ _ HMW.out
      have hws : (w6.alloc (.cells #[] 9)).heap.size = w6.heap.size + 1 := Array.size_push _
      have HWS := Lib.hid hws
      have hps4 := HOK.out.2.2.1
      clear hbl hws
      have hq1' : q ≤ p + 8 := by omega
      go_wp2_with (first
        | (
          at_builtin
          refine wp_append_strsR rfl (.tmp 48) (.tmp 50) rfl w6.heap.size (.slice (some ⟨w6.heap.size, 0, none⟩) 0 0) (.slice a2 ps.length c2) [] ps fp2 rfl hlit.out rfl HPW.out (by simp; omega) (by rw [HWS.out]; omega) ?_
          intro v8 w8 hE hg
          have hown : ∀ b, (Value.slice (some ⟨w6.heap.size, 0, none⟩) 0 0).ownBlock = some b → w6.heap.size ≤ b := fun b hb => by simp only [Value.ownBlock, Option.some.injEq] at hb; omega
          have hlt6 : w6.heap.size < (w6.alloc (.cells #[] 9)).heap.size := by rw [HWS.out]; omega
          have kb : ∀ b, b < w6.heap.size → w8.heap[b]? = ((w6.alloc (.cells #[] 9))).heap[b]? := fun b hb => hg.block b (by omega) (fun he => by have := hown b he.symm; omega)
          have HM8 := Lib.hid ((kb _ (by omega)).trans HMW.out)
          have HZ8 := Lib.hid ((kb _ (by omega)).trans HZW.out)
          have HR8 := Lib.hid (grownRd HRW.out hg (by omega : rb < w6.heap.size) (fun b hb => hown b hb))
          have HK8 := Lib.hid (grownKept HKW.out hg (fun b hb => by have := hown b hb; omega))
          have HB8 := Lib.hid ((sSlice sTok).frame (fun b hb => kb b (by have := (HLO.out b (by simp [hb])).2; omega)) HBW.out)
          have hs8 : w6.heap.size < w8.heap.size := Nat.lt_of_lt_of_le hlt6 hg.size
          rw [List.nil_append] at hE
          obtain ⟨fp1, R1, -, -⟩ := own_flat (ok := okStr) hE HSZ.out
          obtain ⟨a8, c8, rfl, -⟩ := open_rows R1
          have HE8 := Lib.hid hE
          have hbl2 := alloc_below' w8 (.cells #[.string ⟨#[120]⟩, .string ⟨#[49]⟩, .string ⟨#[]⟩] 9)
          have HR9 := Lib.hid (HR8.out.grow hbl2)
          have HM9 := Lib.hid (mbox HM8.out hbl2)
          have HZ9 := Lib.hid (mbox HZ8.out hbl2)
          have HK9 := Lib.hid (HK8.out.trans (Kept.of_below hbl2))
          have HB9 := Lib.hid ((sSlice sTok).below HB8.out hbl2)
          have HE9 := Lib.hid (HE8.out.alloc (.cells #[.string ⟨#[120]⟩, .string ⟨#[49]⟩, .string ⟨#[]⟩] 9))
          have HS9 : Hid ((w8.alloc (.cells #[.string ⟨#[120]⟩, .string ⟨#[49]⟩, .string ⟨#[]⟩] 9)).heap.size = w8.heap.size + 1) := Array.size_push _
          clear hE hg kb hown y2 hlit R1 HR8 HM8 HZ8 HK8 HB8 HE8 hbl2)
        | (
          go_at_call 35
          refine (pick rb (q + 1) _ _ HR9.out (by omega) (by omega) (by omega)).mono ?_
          rintro e w9 ⟨r9, rfl, hr90, hr91, hR, hK⟩
          obtain ⟨sn, hsn, hcn⟩ := lit_pick mac_pars 1 mac_pars_size hr90 (by show r9 < 3; omega) (by omega) hK
          have nrb : ∀ b ∈ fp2 ++ fp3, b ∉ [rb] := fun b hb hx => by have := (HLO.out b hb).1; have e : b = rb := (by simpa using hx); omega
          have hs9 : w8.heap.size < w9.heap.size := by have := hK.size; have e := HS9.out; omega
          have HMA := Lib.hid (blkKept HM9.out hK (by omega))
          have HZA := Lib.hid (blkKept HZ9.out hK (by omega))
          have HKA := Lib.hid (HK9.out.trans hK)
          have HBA := Lib.hid ((sSlice sTok).kept HB9.out (fun b hb => nrb b (by simp [hb])) hK)
          have HEA := Lib.hid (own_kept HE9.out hK (by omega))
          have HRA := Lib.hid hR
          have oksn : okStr sn := by unfold okStr maxLen; omega
          clear hK hR nrb HR9 HM9 HZ9 HK9 HB9 HE9 HS9)
        | (
          at_builtin
          refine wp_append_one ti27 rfl _ (.string sn) rfl rfl (.tmp 51) (.tmp 57) rfl w6.heap.size (.slice a8 ps.length c8) ps.length (ps.map Value.string) rfl HEA.out rfl (by unfold maxLen; omega) (by omega) (by omega) ?_
          intro v10 w10 hE10 hg10
          have hown : ∀ b, (Value.slice a8 ps.length c8).ownBlock = some b → w6.heap.size ≤ b := fun b hb => (HEA.out.lt b hb).1
          have kb : ∀ b, b < w6.heap.size → w10.heap[b]? = w9.heap[b]? := fun b hb => hg10.block b (by omega) (fun he => by have := hown b he.symm; omega)
          have HMX := Lib.hid ((kb _ (by omega)).trans HMA.out)
          have HZX := Lib.hid ((kb _ (by omega)).trans HZA.out)
          have HRX := Lib.hid (grownRd HRA.out hg10 (by omega : rb < w6.heap.size) (fun b hb => hown b hb))
          have HKX := Lib.hid (grownKept HKA.out hg10 (fun b hb => by have := hown b hb; omega))
          have HBX := Lib.hid ((sSlice sTok).frame (fun b hb => kb b (by have := (HLO.out b (by simp [hb])).2; omega)) HBA.out)
          have hE11 : w10.ownsRow w6.heap.size 9 1 v10 (ps ++ [sn]).length ((ps ++ [sn]).map Value.string) := by simpa using hE10
          obtain ⟨fpP, hRP, hOP, -⟩ := own_flat (ok := okStr) hE11 (fun i hi => (List.mem_append.1 (List.getElem_mem hi)).elim (fun h => by obtain ⟨k, hk, e⟩ := List.getElem_of_mem h; rw [← e]; exact HSZ.out k hk) (fun h => by rw [List.mem_singleton.1 h]; exact oksn))
          have HFB : Hid (∀ b ∈ fpP, w6.heap.size ≤ b) := fun b hb => (hOP.2 b hb).1
          have HRP := Lib.hid hRP
          obtain ⟨av, cv, hv, -⟩ := open_rows hRP
          generalize (ps ++ [sn]).length = nv at hv
          subst hv
          clear hE10 hE11 hg10 kb hRP hOP hown
          have y0 : w10.cell? ⟨w4.heap.size, 0, none⟩ = some (.string nm) := cell_of_row _ _ 0 _ _ _ HMX.out
          have y1 : w10.cell? ⟨w4.heap.size, 1, none⟩ = some (.bool fb) := cell_of_row _ _ 1 _ _ _ HMX.out
          have y2 : w10.cell? ⟨w4.heap.size, 2, none⟩ = some (.slice a2 ps.length c2) := cell_of_row _ _ 2 _ _ _ HMX.out
          have y3 : w10.cell? ⟨w4.heap.size, 3, none⟩ = some (.slice a3 bd.length c3) := cell_of_row _ _ 3 _ _ _ HMX.out
          have yf : w10.frozen? ⟨w4.heap.size, 2, none⟩ = false := frozen_of_row _ _ 2 _ _ HMX.out
          have z0 : w10.cell? ⟨w.heap.size, 0, none⟩ = some (.string ⟨#[]⟩) := cell_of_row _ _ 0 _ _ _ HZX.out
          have zf0 : w10.frozen? ⟨w.heap.size, 0, none⟩ = false := frozen_of_row _ _ 0 _ _ HZX.out
          have z1 : w10.cell? ⟨w.heap.size, 1, none⟩ = some (.bool false) := cell_of_row _ _ 1 _ _ _ HZX.out
          have zf1 : w10.frozen? ⟨w.heap.size, 1, none⟩ = false := frozen_of_row _ _ 1 _ _ HZX.out
          have z2 : w10.cell? ⟨w.heap.size, 2, none⟩ = some (.slice none 0 0) := cell_of_row _ _ 2 _ _ _ HZX.out
          have zf2 : w10.frozen? ⟨w.heap.size, 2, none⟩ = false := frozen_of_row _ _ 2 _ _ HZX.out
          have z3 : w10.cell? ⟨w.heap.size, 3, none⟩ = some (.slice none 0 0) := cell_of_row _ _ 3 _ _ _ HZX.out
          have zf3 : w10.frozen? ⟨w.heap.size, 3, none⟩ = false := frozen_of_row _ _ 3 _ _ HZX.out
          have HS := Lib.hid (set4_mac (w := w) (wP := w10.setCell ⟨w4.heap.size, 2, none⟩ (.slice av nv cv)) (blk_other HZX.out (by omega : w.heap.size ≠ w4.heap.size) 2 (.slice av nv cv)) (sMacro.setB (show sMacro.R w10 [.string nm, .bool fb, .slice av nv cv, .slice a3 bd.length c3] ⟨nm, fb, ps ++ [sn], bd⟩ (fpP ++ fp3) from ⟨_, _, fpP, fp3, rfl, HOK.out.1, HRP.out, HBX.out, rfl⟩) (fun hx => (List.mem_append.1 hx).elim (fun h => by have := HFB.out _ h; omega) (fun h => HX1.out (by simp [h]))) 2 (.slice av nv cv)) (fun hx => (List.mem_append.1 hx).elim (fun h => by have := HFB.out _ h; omega) (fun h => HX0.out (by simp [h]))) (rdSet HRX.out (by omega) 2 (.slice av nv cv)) (by omega) (keptSet HKX.out (by omega) (.slice av nv cv) 2) (Nat.le_refl _))
          have HOKF : Hid (okMac ⟨nm, fb, ps ++ [sn], bd⟩) := ⟨by have := HOK.out.2.1; show nm.size ≤ 1000; omega, by show (ps ++ [sn]).length ≤ 100; simp only [List.length_append, List.length_cons, List.length_nil]; omega, by have := HOK.out.2.2.2.1; show bd.length ≤ 100; omega, fun t ht => by rw [HOK.out.2.2.2.2 t ht]; simp⟩
          have HLOF : Hid (∀ b ∈ fpP ++ fp3, w.heap.size ≤ b) := fun b hb => (List.mem_append.1 hb).elim (fun h => by have := HFB.out _ h; omega) (fun h => by have := (HLO.out b (by simp [h])).1; omega)
          clear HLO))
      refine bodyPost_ret (results_cell_row rfl _ _ w.heap.size _ _ _ _ rfl HS.out.1 Try.underlying32 rfl (by kernel_rfl)) rfl ?_
      exact dm_ret HS.out.2.1 HOKF.out HLOF.out (by omega) HS.out.2.2.1 HS.out.2.2.2
    · -- case 2
      have y0 : w6.cell? ⟨w4.heap.size, 0, none⟩ = some (.string nm) := cell_of_row _ _ 0 _ _ _ HM7.out
      have y1 : w6.cell? ⟨w4.heap.size, 1, none⟩ = some (.bool fb) := cell_of_row _ _ 1 _ _ _ HM7.out
      have y2 : w6.cell? ⟨w4.heap.size, 2, none⟩ = some (.slice a2 ps.length c2) := cell_of_row _ _ 2 _ _ _ HM7.out
      have y3 : w6.cell? ⟨w4.heap.size, 3, none⟩ = some (.slice a3 bd.length c3) := cell_of_row _ _ 3 _ _ _ HM7.out
      have yf : w6.frozen? ⟨w4.heap.size, 1, none⟩ = false := frozen_of_row _ _ 1 _ _ HM7.out
      have z0 : w6.cell? ⟨w.heap.size, 0, none⟩ = some (.string ⟨#[]⟩) := cell_of_row _ _ 0 _ _ _ HZ7.out
      have zf0 : w6.frozen? ⟨w.heap.size, 0, none⟩ = false := frozen_of_row _ _ 0 _ _ HZ7.out
      have z1 : w6.cell? ⟨w.heap.size, 1, none⟩ = some (.bool false) := cell_of_row _ _ 1 _ _ _ HZ7.out
      have zf1 : w6.frozen? ⟨w.heap.size, 1, none⟩ = false := frozen_of_row _ _ 1 _ _ HZ7.out
      have z2 : w6.cell? ⟨w.heap.size, 2, none⟩ = some (.slice none 0 0) := cell_of_row _ _ 2 _ _ _ HZ7.out
      have zf2 : w6.frozen? ⟨w.heap.size, 2, none⟩ = false := frozen_of_row _ _ 2 _ _ HZ7.out
      have z3 : w6.cell? ⟨w.heap.size, 3, none⟩ = some (.slice none 0 0) := cell_of_row _ _ 3 _ _ _ HZ7.out
      have zf3 : w6.frozen? ⟨w.heap.size, 3, none⟩ = false := frozen_of_row _ _ 3 _ _ HZ7.out
      have HS := Lib.hid (set4_mac (w := w) (wP := w6.setCell ⟨w4.heap.size, 1, none⟩ (.bool (!fb))) (blk_other HZ7.out (by omega : w.heap.size ≠ w4.heap.size) 1 (.bool (!fb))) (sMacro.setB (show sMacro.R w6 [.string nm, .bool (!fb), .slice a2 ps.length c2, .slice a3 bd.length c3] ⟨nm, !fb, ps, bd⟩ (fp2 ++ fp3) from ⟨_, _, fp2, fp3, rfl, HOK.out.1, HP7.out, HB7.out, rfl⟩) HX1.out 1 (.bool (!fb))) HX0.out (rdSet HR7.out (by omega) 1 (.bool (!fb))) (by omega) (keptSet HK7.out (by omega) (.bool (!fb)) 1) (Nat.le_refl _))
      have HOKF : Hid (okMac ⟨nm, !fb, ps, bd⟩) := ⟨by have := HOK.out.2.1; show nm.size ≤ 1000; omega, by have := HOK.out.2.2.1; show ps.length ≤ 100; omega, by have := HOK.out.2.2.2.1; show bd.length ≤ 100; omega, fun t ht => by rw [HOK.out.2.2.2.2 t ht]; simp⟩
      have HLOF : Hid (∀ b ∈ fp2 ++ fp3, w.heap.size ≤ b) := fun b hb => by have := (HLO.out b hb).1; omega
      clear HLO
      go_wp2
      refine bodyPost_ret (results_cell_row rfl _ _ w.heap.size _ _ _ _ rfl HS.out.1 Try.underlying32 rfl (by kernel_rfl)) rfl ?_
      exact dm_ret HS.out.2.1 HOKF.out HLOF.out (by omega) HS.out.2.2.1 HS.out.2.2.2
    · -- case 3
      have hbl := alloc_below' w6 (.cells #[.int .i64 4, .string ⟨#[35, 35]⟩, .bool false, .slice none 0 0] 56)
      have hlit : Hid (RowE sTok w6.heap.size 56 (.slice (some ⟨w6.heap.size, 0, none⟩) 1 1) [(⟨[.int .i64 4, .string ⟨#[35, 35]⟩, .bool false, .slice none 0 0], ⟨4, ⟨#[35, 35]⟩, false, []⟩, []⟩ : Elem Tok)] (w6.alloc (.cells #[.int .i64 4, .string ⟨#[35, 35]⟩, .bool false, .slice none 0 0] 56))) := RowE.lit [(⟨[.int .i64 4, .string ⟨#[35, 35]⟩, .bool false, .slice none 0 0], ⟨4, ⟨#[35, 35]⟩, false, []⟩, []⟩ : Elem Tok)] (by intro x hx; obtain rfl := List.mem_singleton.1 hx; rfl) (by intro x hx; obtain rfl := List.mem_singleton.1 hx; exact ⟨_, rfl, ⟨by decide, by decide⟩, by show okStr _; unfold okStr; decide, slice_empty sStr _ _ _ (by simp)⟩) (by intro x hx b hb; obtain rfl := List.mem_singleton.1 hx; simp at hb) (by intro x hx b hb; obtain rfl := List.mem_singleton.1 hx; simp at hb) (Nat.le_refl _) (by decide)
      have HMW := Lib.hid (mbox HM7.out hbl)
      have HZW := Lib.hid (mbox HZ7.out hbl)
      have HRW := Lib.hid (HR7.out.grow hbl)
      have HKW := Lib.hid (HK7.out.trans (Kept.of_below hbl))
      have HPW := Lib.hid ((sSlice sStr).below HP7.out hbl)
      have HBW := Lib.hid ((sSlice sTok).below HB7.out hbl)
      have y3 : (w6.alloc (.cells #[.int .i64 4, .string ⟨#[35, 35]⟩, .bool false, .slice none 0 0] 56)).cell? ⟨w4.heap.size, 3, none⟩ = some (.slice a3 bd.length c3) := cell_of_row _ _ 3 _ _ _ HMW.out
      have hws : (w6.alloc (.cells #[.int .i64 4, .string ⟨#[35, 35]⟩, .bool false, .slice none 0 0] 56)).heap.size = w6.heap.size + 1 := Array.size_push _
      have HWS := Lib.hid hws
      clear hbl hws
      have hq1' : q ≤ p + 9 := by omega
      go_wp2_with (
        at_builtin
        refine wp_append_toksR rfl (.tmp 69) (.tmp 71) rfl w6.heap.size (.slice (some ⟨w6.heap.size, 0, none⟩) 1 1) (.slice a3 bd.length c3) [(⟨[.int .i64 4, .string ⟨#[35, 35]⟩, .bool false, .slice none 0 0], ⟨4, ⟨#[35, 35]⟩, false, []⟩, []⟩ : Elem Tok)] bd fp3 rfl hlit.out rfl HBW.out HOK.out.2.2.2.2 (by have := HOK.out.2.2.2.1; simp; omega) (by rw [HWS.out]; omega) ?_
        intro v8 X w8 hX hXf hE hg
        have hown : ∀ b, (Value.slice (some ⟨w6.heap.size, 0, none⟩) 1 1).ownBlock = some b → w6.heap.size ≤ b := hlit.out.mine
        have hlt6 : w6.heap.size < (w6.alloc (.cells #[.int .i64 4, .string ⟨#[35, 35]⟩, .bool false, .slice none 0 0] 56)).heap.size := by rw [HWS.out]; omega
        have kb : ∀ b, b < w6.heap.size → w8.heap[b]? = ((w6.alloc (.cells #[.int .i64 4, .string ⟨#[35, 35]⟩, .bool false, .slice none 0 0] 56))).heap[b]? := fun b hb => hg.block b (by omega) (fun he => by have := hown b he.symm; omega)
        have HM8 := Lib.hid ((kb _ (by omega)).trans HMW.out)
        have HZ8 := Lib.hid ((kb _ (by omega)).trans HZW.out)
        have HR8 := Lib.hid (grownRd HRW.out hg (by omega : rb < w6.heap.size) (fun b hb => hown b hb))
        have HK8 := Lib.hid (grownKept HKW.out hg (fun b hb => by have := hown b hb; omega))
        have HP8 := Lib.hid ((sSlice sStr).frame (fun b hb => kb b (by have := (HLO.out b (by simp [hb])).2; omega)) HPW.out)
        obtain ⟨fpB, hRB, hOB⟩ := rowE_own hE (fun x hx => (List.mem_append.1 hx).elim (fun h => by obtain rfl := List.mem_singleton.1 h; rfl) (hXf x))
        have HFB : Hid (∀ b ∈ fpB, w6.heap.size ≤ b) := fun b hb => (hOB.2 b hb).1
        obtain ⟨av, cv, hv, -⟩ := hE.val
        generalize ([(⟨[.int .i64 4, .string ⟨#[35, 35]⟩, .bool false, .slice none 0 0], ⟨4, ⟨#[35, 35]⟩, false, []⟩, []⟩ : Elem Tok)] ++ X).length = nv at hv
        subst hv
        have HRB := Lib.hid hRB
        clear hE hg kb hRB hOB hown y3
        have y0 : w8.cell? ⟨w4.heap.size, 0, none⟩ = some (.string nm) := cell_of_row _ _ 0 _ _ _ HM8.out
        have y1 : w8.cell? ⟨w4.heap.size, 1, none⟩ = some (.bool fb) := cell_of_row _ _ 1 _ _ _ HM8.out
        have y2 : w8.cell? ⟨w4.heap.size, 2, none⟩ = some (.slice a2 ps.length c2) := cell_of_row _ _ 2 _ _ _ HM8.out
        have y3 : w8.cell? ⟨w4.heap.size, 3, none⟩ = some (.slice a3 bd.length c3) := cell_of_row _ _ 3 _ _ _ HM8.out
        have yf : w8.frozen? ⟨w4.heap.size, 3, none⟩ = false := frozen_of_row _ _ 3 _ _ HM8.out
        have z0 : w8.cell? ⟨w.heap.size, 0, none⟩ = some (.string ⟨#[]⟩) := cell_of_row _ _ 0 _ _ _ HZ8.out
        have zf0 : w8.frozen? ⟨w.heap.size, 0, none⟩ = false := frozen_of_row _ _ 0 _ _ HZ8.out
        have z1 : w8.cell? ⟨w.heap.size, 1, none⟩ = some (.bool false) := cell_of_row _ _ 1 _ _ _ HZ8.out
        have zf1 : w8.frozen? ⟨w.heap.size, 1, none⟩ = false := frozen_of_row _ _ 1 _ _ HZ8.out
        have z2 : w8.cell? ⟨w.heap.size, 2, none⟩ = some (.slice none 0 0) := cell_of_row _ _ 2 _ _ _ HZ8.out
        have zf2 : w8.frozen? ⟨w.heap.size, 2, none⟩ = false := frozen_of_row _ _ 2 _ _ HZ8.out
        have z3 : w8.cell? ⟨w.heap.size, 3, none⟩ = some (.slice none 0 0) := cell_of_row _ _ 3 _ _ _ HZ8.out
        have zf3 : w8.frozen? ⟨w.heap.size, 3, none⟩ = false := frozen_of_row _ _ 3 _ _ HZ8.out
        have HS := Lib.hid (set4_mac (w := w) (wP := w8.setCell ⟨w4.heap.size, 3, none⟩ (.slice av nv cv)) (blk_other HZ8.out (by omega : w.heap.size ≠ w4.heap.size) 3 (.slice av nv cv)) (sMacro.setB (show sMacro.R w8 [.string nm, .bool fb, .slice a2 ps.length c2, .slice av nv cv] ⟨nm, fb, ps, ([(⟨[.int .i64 4, .string ⟨#[35, 35]⟩, .bool false, .slice none 0 0], ⟨4, ⟨#[35, 35]⟩, false, []⟩, []⟩ : Elem Tok)] ++ X).map (·.d)⟩ (fp2 ++ fpB) from ⟨_, _, fp2, fpB, rfl, HOK.out.1, HP8.out, HRB.out, rfl⟩) (fun hx => (List.mem_append.1 hx).elim (fun h => HX1.out (by simp [h])) (fun h => by have := HFB.out _ h; omega)) 3 (.slice av nv cv)) (fun hx => (List.mem_append.1 hx).elim (fun h => HX0.out (by simp [h])) (fun h => by have := HFB.out _ h; omega)) (rdSet HR8.out (by omega) 3 (.slice av nv cv)) (by omega) (keptSet HK8.out (by omega) (.slice av nv cv) 3) (Nat.le_refl _))
        have HOKF : Hid (okMac ⟨nm, fb, ps, ([(⟨[.int .i64 4, .string ⟨#[35, 35]⟩, .bool false, .slice none 0 0], ⟨4, ⟨#[35, 35]⟩, false, []⟩, []⟩ : Elem Tok)] ++ X).map (·.d)⟩) := ⟨by have := HOK.out.2.1; show nm.size ≤ 1000; omega, by have := HOK.out.2.2.1; show ps.length ≤ 100; omega, by rw [List.map_append, hX]; simp; have := HOK.out.2.2.2.1; omega, fun t ht => by rw [List.map_append, hX] at ht; exact (List.mem_append.1 ht).elim (fun h => by simp at h; rw [h]; decide) (fun h => by rw [HOK.out.2.2.2.2 t h]; simp)⟩
        have HLOF : Hid (∀ b ∈ fp2 ++ fpB, w.heap.size ≤ b) := fun b hb => (List.mem_append.1 hb).elim (fun h => by have := (HLO.out b (by simp [h])).1; omega) (fun h => by have := HFB.out _ h; omega)
        clear HLO)
      refine bodyPost_ret (results_cell_row rfl _ _ w.heap.size _ _ _ _ rfl HS.out.1 Try.underlying32 rfl (by kernel_rfl)) rfl ?_
      exact dm_ret HS.out.2.1 HOKF.out HLOF.out (by omega) HS.out.2.2.1 HS.out.2.2.2
    · -- case 4
      have hbl := alloc_below' w6 (.cells #[] 56)
      have hlit : Hid (RowE sTok w6.heap.size 56 (.slice (some ⟨w6.heap.size, 0, none⟩) 0 0) [] (w6.alloc (.cells #[] 56))) := RowE.lit [] (by simp) (by simp) (by simp) (by simp) (Nat.le_refl _) (by simp)
      have HMW := Lib.hid (mbox HM7.out hbl)
      have HZW := Lib.hid (mbox HZ7.out hbl)
      have HRW := Lib.hid (HR7.out.grow hbl)
      have HKW := Lib.hid (HK7.out.trans (Kept.of_below hbl))
      have HPW := Lib.hid ((sSlice sStr).below HP7.out hbl)
      have HBW := Lib.hid ((sSlice sTok).below HB7.out hbl)
      have y3 : (w6.alloc (.cells #[] 56)).cell? ⟨w4.heap.size, 3, none⟩ = some (.slice a3 bd.length c3) := cell_of_row _ _ 3 _ _ _ HMW.out
      have hws : (w6.alloc (.cells #[] 56)).heap.size = w6.heap.size + 1 := Array.size_push _
      have HWS := Lib.hid hws
      clear hbl hws
      have hq1' : q ≤ p + 9 := by omega
      go_wp2_with (first
        | (
          at_builtin
          refine wp_append_toksR rfl (.tmp 76) (.tmp 78) rfl w6.heap.size (.slice (some ⟨w6.heap.size, 0, none⟩) 0 0) (.slice a3 bd.length c3) [] bd fp3 rfl hlit.out rfl HBW.out HOK.out.2.2.2.2 (by have := HOK.out.2.2.2.1; simp; omega) (by rw [HWS.out]; omega) ?_
          intro v8 X w8 hX hXf hE hg
          have hown : ∀ b, (Value.slice (some ⟨w6.heap.size, 0, none⟩) 0 0).ownBlock = some b → w6.heap.size ≤ b := hlit.out.mine
          have hlt6 : w6.heap.size < (w6.alloc (.cells #[] 56)).heap.size := by rw [HWS.out]; omega
          have kb : ∀ b, b < w6.heap.size → w8.heap[b]? = ((w6.alloc (.cells #[] 56))).heap[b]? := fun b hb => hg.block b (by omega) (fun he => by have := hown b he.symm; omega)
          have HM8 := Lib.hid ((kb _ (by omega)).trans HMW.out)
          have HZ8 := Lib.hid ((kb _ (by omega)).trans HZW.out)
          have HR8 := Lib.hid (grownRd HRW.out hg (by omega : rb < w6.heap.size) (fun b hb => hown b hb))
          have HK8 := Lib.hid (grownKept HKW.out hg (fun b hb => by have := hown b hb; omega))
          have HP8 := Lib.hid ((sSlice sStr).frame (fun b hb => kb b (by have := (HLO.out b (by simp [hb])).2; omega)) HPW.out)
          have hs8 : w6.heap.size < w8.heap.size := Nat.lt_of_lt_of_le hlt6 hg.size
          rw [List.nil_append] at hE
          obtain ⟨a8, c8, hv8, -⟩ := hE.val
          obtain ⟨n8, hn8⟩ : ∃ n, n = X.length := ⟨_, rfl⟩
          rw [← hn8] at hv8
          subst hv8
          have hn8b : n8 ≤ 20 := by have e : X.length = bd.length := (by rw [← hX, List.length_map]); have := HOK.out.2.2.2.1; omega
          have HN8 := Lib.hid hn8
          have HX8 := Lib.hid hX
          have HE8 := Lib.hid hE
          clear hE hg kb hown y3 hn8 hX hXf hlit)
        | (
          at_builtin
          refine wp_append_tokE rfl (.tmp 79) (.tmp 81) rfl w6.heap.size (.slice a8 n8 c8) X rfl HE8.out 4 ⟨#[35]⟩ false none 0 0 [] [] rfl (⟨_, rfl, ⟨by decide, by decide⟩, by show okStr _; unfold okStr; decide, slice_empty sStr _ _ _ (by simp)⟩) (by simp) (by simp) (by rw [← HN8.out]; omega) (by skip; omega) ?_
          intro v10 w10 hE10 hg10
          have hown := HE8.out.mine
          have kb : ∀ b, b < w6.heap.size → w10.heap[b]? = w8.heap[b]? := fun b hb => hg10.block b (by skip; omega) (fun he => by have := hown b he.symm; omega)
          have HMX := Lib.hid ((kb _ (by omega)).trans HM8.out)
          have HZX := Lib.hid ((kb _ (by omega)).trans HZ8.out)
          have HRX := Lib.hid (grownRd HR8.out hg10 (by omega : rb < w6.heap.size) (fun b hb => hown b hb))
          have HKX := Lib.hid (grownKept HK8.out hg10 (fun b hb => by have := hown b hb; omega))
          have HPX := Lib.hid ((sSlice sStr).frame (fun b hb => kb b (by have := (HLO.out b (by simp [hb])).2; omega)) HP8.out)
          obtain ⟨fpB, hRB, hOB⟩ := hE10.read
          have HFB : Hid (∀ b ∈ fpB, w6.heap.size ≤ b) := hOB
          have HRB := Lib.hid hRB
          obtain ⟨av, cv, hv, -⟩ := hE10.val
          generalize (X ++ [(⟨[.int .i64 4, .string ⟨#[35]⟩, .bool false, .slice none 0 0], ⟨4, ⟨#[35]⟩, false, []⟩, []⟩ : Elem Tok)]).length = nv at hv
          subst hv
          clear hE10 hg10 kb hRB hOB hown
          have y0 : w10.cell? ⟨w4.heap.size, 0, none⟩ = some (.string nm) := cell_of_row _ _ 0 _ _ _ HMX.out
          have y1 : w10.cell? ⟨w4.heap.size, 1, none⟩ = some (.bool fb) := cell_of_row _ _ 1 _ _ _ HMX.out
          have y2 : w10.cell? ⟨w4.heap.size, 2, none⟩ = some (.slice a2 ps.length c2) := cell_of_row _ _ 2 _ _ _ HMX.out
          have y3 : w10.cell? ⟨w4.heap.size, 3, none⟩ = some (.slice a3 bd.length c3) := cell_of_row _ _ 3 _ _ _ HMX.out
          have yf : w10.frozen? ⟨w4.heap.size, 3, none⟩ = false := frozen_of_row _ _ 3 _ _ HMX.out
          have z0 : w10.cell? ⟨w.heap.size, 0, none⟩ = some (.string ⟨#[]⟩) := cell_of_row _ _ 0 _ _ _ HZX.out
          have zf0 : w10.frozen? ⟨w.heap.size, 0, none⟩ = false := frozen_of_row _ _ 0 _ _ HZX.out
          have z1 : w10.cell? ⟨w.heap.size, 1, none⟩ = some (.bool false) := cell_of_row _ _ 1 _ _ _ HZX.out
          have zf1 : w10.frozen? ⟨w.heap.size, 1, none⟩ = false := frozen_of_row _ _ 1 _ _ HZX.out
          have z2 : w10.cell? ⟨w.heap.size, 2, none⟩ = some (.slice none 0 0) := cell_of_row _ _ 2 _ _ _ HZX.out
          have zf2 : w10.frozen? ⟨w.heap.size, 2, none⟩ = false := frozen_of_row _ _ 2 _ _ HZX.out
          have z3 : w10.cell? ⟨w.heap.size, 3, none⟩ = some (.slice none 0 0) := cell_of_row _ _ 3 _ _ _ HZX.out
          have zf3 : w10.frozen? ⟨w.heap.size, 3, none⟩ = false := frozen_of_row _ _ 3 _ _ HZX.out
          have HS := Lib.hid (set4_mac (w := w) (wP := w10.setCell ⟨w4.heap.size, 3, none⟩ (.slice av nv cv)) (blk_other HZX.out (by omega : w.heap.size ≠ w4.heap.size) 3 (.slice av nv cv)) (sMacro.setB (show sMacro.R w10 [.string nm, .bool fb, .slice a2 ps.length c2, .slice av nv cv] ⟨nm, fb, ps, (X ++ [(⟨[.int .i64 4, .string ⟨#[35]⟩, .bool false, .slice none 0 0], ⟨4, ⟨#[35]⟩, false, []⟩, []⟩ : Elem Tok)]).map (·.d)⟩ (fp2 ++ fpB) from ⟨_, _, fp2, fpB, rfl, HOK.out.1, HPX.out, HRB.out, rfl⟩) (fun hx => (List.mem_append.1 hx).elim (fun h => HX1.out (by simp [h])) (fun h => by have := HFB.out _ h; omega)) 3 (.slice av nv cv)) (fun hx => (List.mem_append.1 hx).elim (fun h => HX0.out (by simp [h])) (fun h => by have := HFB.out _ h; omega)) (rdSet HRX.out (by omega) 3 (.slice av nv cv)) (by omega) (keptSet HKX.out (by omega) (.slice av nv cv) 3) (Nat.le_refl _))
          have HOKF : Hid (okMac ⟨nm, fb, ps, (X ++ [(⟨[.int .i64 4, .string ⟨#[35]⟩, .bool false, .slice none 0 0], ⟨4, ⟨#[35]⟩, false, []⟩, []⟩ : Elem Tok)]).map (·.d)⟩) := ⟨by have := HOK.out.2.1; show nm.size ≤ 1000; omega, by have := HOK.out.2.2.1; show ps.length ≤ 100; omega, by rw [List.map_append, HX8.out]; simp; have := HOK.out.2.2.2.1; omega, fun t ht => by rw [List.map_append, HX8.out] at ht; exact (List.mem_append.1 ht).elim (fun h => by rw [HOK.out.2.2.2.2 t h]; simp) (fun h => by simp at h; rw [h]; decide)⟩
          have HLOF : Hid (∀ b ∈ fp2 ++ fpB, w.heap.size ≤ b) := fun b hb => (List.mem_append.1 hb).elim (fun h => by have := (HLO.out b (by simp [h])).1; omega) (fun h => by have := HFB.out _ h; omega)
          clear HLO))
      refine bodyPost_ret (results_cell_row rfl _ _ w.heap.size _ _ _ _ rfl HS.out.1 Try.underlying32 rfl (by kernel_rfl)) rfl ?_
      exact dm_ret HS.out.2.1 HOKF.out HLOF.out (by omega) HS.out.2.2.1 HS.out.2.2.2
    · -- case 5
      have hbl := alloc_below' w6 (.cells #[] 56)
      have hlit : Hid (RowE sTok w6.heap.size 56 (.slice (some ⟨w6.heap.size, 0, none⟩) 0 0) [] (w6.alloc (.cells #[] 56))) := RowE.lit [] (by simp) (by simp) (by simp) (by simp) (Nat.le_refl _) (by simp)
      have HMW := Lib.hid (mbox HM7.out hbl)
      have HZW := Lib.hid (mbox HZ7.out hbl)
      have HRW := Lib.hid (HR7.out.grow hbl)
      have HKW := Lib.hid (HK7.out.trans (Kept.of_below hbl))
      have HPW := Lib.hid ((sSlice sStr).below HP7.out hbl)
      have HBW := Lib.hid ((sSlice sTok).below HB7.out hbl)
      have y3 : (w6.alloc (.cells #[] 56)).cell? ⟨w4.heap.size, 3, none⟩ = some (.slice a3 bd.length c3) := cell_of_row _ _ 3 _ _ _ HMW.out
      have hws : (w6.alloc (.cells #[] 56)).heap.size = w6.heap.size + 1 := Array.size_push _
      have HWS := Lib.hid hws
      clear hbl hws
      have hq1' : q ≤ p + 9 := by omega
      go_wp2_with (first
        | (
          at_builtin
          refine wp_append_toksR rfl (.tmp 86) (.tmp 88) rfl w6.heap.size (.slice (some ⟨w6.heap.size, 0, none⟩) 0 0) (.slice a3 bd.length c3) [] bd fp3 rfl hlit.out rfl HBW.out HOK.out.2.2.2.2 (by have := HOK.out.2.2.2.1; simp; omega) (by rw [HWS.out]; omega) ?_
          intro v8 X w8 hX hXf hE hg
          have hown : ∀ b, (Value.slice (some ⟨w6.heap.size, 0, none⟩) 0 0).ownBlock = some b → w6.heap.size ≤ b := hlit.out.mine
          have hlt6 : w6.heap.size < (w6.alloc (.cells #[] 56)).heap.size := by rw [HWS.out]; omega
          have kb : ∀ b, b < w6.heap.size → w8.heap[b]? = ((w6.alloc (.cells #[] 56))).heap[b]? := fun b hb => hg.block b (by omega) (fun he => by have := hown b he.symm; omega)
          have HM8 := Lib.hid ((kb _ (by omega)).trans HMW.out)
          have HZ8 := Lib.hid ((kb _ (by omega)).trans HZW.out)
          have HR8 := Lib.hid (grownRd HRW.out hg (by omega : rb < w6.heap.size) (fun b hb => hown b hb))
          have HK8 := Lib.hid (grownKept HKW.out hg (fun b hb => by have := hown b hb; omega))
          have HP8 := Lib.hid ((sSlice sStr).frame (fun b hb => kb b (by have := (HLO.out b (by simp [hb])).2; omega)) HPW.out)
          have hs8 : w6.heap.size < w8.heap.size := Nat.lt_of_lt_of_le hlt6 hg.size
          rw [List.nil_append] at hE
          obtain ⟨a8, c8, hv8, -⟩ := hE.val
          obtain ⟨n8, hn8⟩ : ∃ n, n = X.length := ⟨_, rfl⟩
          rw [← hn8] at hv8
          subst hv8
          have hn8b : n8 ≤ 20 := by have e : X.length = bd.length := (by rw [← hX, List.length_map]); have := HOK.out.2.2.2.1; omega
          have HN8 := Lib.hid hn8
          have HX8 := Lib.hid hX
          have HE8 := Lib.hid hE
          have hbh := alloc_below' w8 (.cells #[.string ⟨#[97]⟩] 9)
          have hh : (w8.alloc (.cells #[.string ⟨#[97]⟩] 9)).ownsRow w8.heap.size 9 1 (.slice (some ⟨w8.heap.size, 0, none⟩) 1 1) 1 (([⟨#[97]⟩] : List ByteArray).map Value.string) := World.ownsRow_lit (base := w8.heap.size) (e := 9) (size := 1) w8 #[.string ⟨#[97]⟩] 1 (Nat.le_refl _) (by unfold maxLen; omega) rfl
          obtain ⟨fpH, RH, OH, hfpH⟩ := own_flat (ok := okStr) hh (by intro i hi; have e : i = 0 := (by simp at hi; omega); subst e; exact (show okStr (⟨#[97]⟩ : ByteArray) by unfold okStr; decide))
          have HTT : Hid (∀ b ∈ fpH, ∃ cur t fr, (w8.alloc (.cells #[.string ⟨#[97]⟩] 9)).heap[b]? = some (.cells cur t fr) ∧ t ≠ 56) := fun b hb => by
            have e := hfpH b hb
            simp only [Value.ownBlock, Option.some.injEq] at e
            subst e
            exact ⟨_, _, _, heap_alloc_new w8 _, by decide⟩
          have HLH : Hid (∀ b ∈ fpH, w6.heap.size ≤ b) := fun b hb => by have := (OH.2 b hb).1; omega
          have HRH : Hid (sTok.R (w8.alloc (.cells #[.string ⟨#[97]⟩] 9)) [.int .i64 1, .string ⟨#[97]⟩, .bool false, .slice (some ⟨w8.heap.size, 0, none⟩) 1 1] ⟨1, ⟨#[97]⟩, false, [⟨#[97]⟩]⟩ fpH) := ⟨_, rfl, ⟨by decide, by decide⟩, by show okStr _; unfold okStr; decide, RH⟩
          have HW9 : Hid ((w8.alloc (.cells #[.string ⟨#[97]⟩] 9)).heap.size = w8.heap.size + 1) := Array.size_push _
          have HM9 := Lib.hid (mbox HM8.out hbh)
          have HZ9 := Lib.hid (mbox HZ8.out hbh)
          have HR9 := Lib.hid (HR8.out.grow hbh)
          have HK9 := Lib.hid (HK8.out.trans (Kept.of_below hbh))
          have HP9 := Lib.hid ((sSlice sStr).below HP8.out hbh)
          have HE9 := Lib.hid (HE8.out.below hbh)
          clear hbh hh RH OH hfpH HM8 HZ8 HR8 HK8 HP8 HE8
          clear hE hg kb hown y3 hn8 hX hXf hlit)
        | (
          at_builtin
          refine wp_append_tokE rfl (.tmp 89) (.tmp 92) rfl w6.heap.size (.slice a8 n8 c8) X rfl HE9.out 1 ⟨#[97]⟩ false (some ⟨w8.heap.size, 0, none⟩) 1 1 [⟨#[97]⟩] fpH (by rw [HW9.out]; rfl) HRH.out HLH.out HTT.out (by rw [← HN8.out]; omega) (by rw [HW9.out]; omega) ?_
          intro v10 w10 hE10 hg10
          have hown := HE9.out.mine
          have kb : ∀ b, b < w6.heap.size → w10.heap[b]? = (w8.alloc (.cells #[.string ⟨#[97]⟩] 9)).heap[b]? := fun b hb => hg10.block b (by rw [HW9.out]; omega) (fun he => by have := hown b he.symm; omega)
          have HMX := Lib.hid ((kb _ (by omega)).trans HM9.out)
          have HZX := Lib.hid ((kb _ (by omega)).trans HZ9.out)
          have HRX := Lib.hid (grownRd HR9.out hg10 (by omega : rb < w6.heap.size) (fun b hb => hown b hb))
          have HKX := Lib.hid (grownKept HK9.out hg10 (fun b hb => by have := hown b hb; omega))
          have HPX := Lib.hid ((sSlice sStr).frame (fun b hb => kb b (by have := (HLO.out b (by simp [hb])).2; omega)) HP9.out)
          obtain ⟨fpB, hRB, hOB⟩ := hE10.read
          have HFB : Hid (∀ b ∈ fpB, w6.heap.size ≤ b) := hOB
          have HRB := Lib.hid hRB
          obtain ⟨av, cv, hv, -⟩ := hE10.val
          generalize (X ++ [(⟨[.int .i64 1, .string ⟨#[97]⟩, .bool false, .slice (some ⟨w8.heap.size, 0, none⟩) 1 1], ⟨1, ⟨#[97]⟩, false, [⟨#[97]⟩]⟩, fpH⟩ : Elem Tok)]).length = nv at hv
          subst hv
          clear hE10 hg10 kb hRB hOB hown
          have y0 : w10.cell? ⟨w4.heap.size, 0, none⟩ = some (.string nm) := cell_of_row _ _ 0 _ _ _ HMX.out
          have y1 : w10.cell? ⟨w4.heap.size, 1, none⟩ = some (.bool fb) := cell_of_row _ _ 1 _ _ _ HMX.out
          have y2 : w10.cell? ⟨w4.heap.size, 2, none⟩ = some (.slice a2 ps.length c2) := cell_of_row _ _ 2 _ _ _ HMX.out
          have y3 : w10.cell? ⟨w4.heap.size, 3, none⟩ = some (.slice a3 bd.length c3) := cell_of_row _ _ 3 _ _ _ HMX.out
          have yf : w10.frozen? ⟨w4.heap.size, 3, none⟩ = false := frozen_of_row _ _ 3 _ _ HMX.out
          have z0 : w10.cell? ⟨w.heap.size, 0, none⟩ = some (.string ⟨#[]⟩) := cell_of_row _ _ 0 _ _ _ HZX.out
          have zf0 : w10.frozen? ⟨w.heap.size, 0, none⟩ = false := frozen_of_row _ _ 0 _ _ HZX.out
          have z1 : w10.cell? ⟨w.heap.size, 1, none⟩ = some (.bool false) := cell_of_row _ _ 1 _ _ _ HZX.out
          have zf1 : w10.frozen? ⟨w.heap.size, 1, none⟩ = false := frozen_of_row _ _ 1 _ _ HZX.out
          have z2 : w10.cell? ⟨w.heap.size, 2, none⟩ = some (.slice none 0 0) := cell_of_row _ _ 2 _ _ _ HZX.out
          have zf2 : w10.frozen? ⟨w.heap.size, 2, none⟩ = false := frozen_of_row _ _ 2 _ _ HZX.out
          have z3 : w10.cell? ⟨w.heap.size, 3, none⟩ = some (.slice none 0 0) := cell_of_row _ _ 3 _ _ _ HZX.out
          have zf3 : w10.frozen? ⟨w.heap.size, 3, none⟩ = false := frozen_of_row _ _ 3 _ _ HZX.out
          have HS := Lib.hid (set4_mac (w := w) (wP := w10.setCell ⟨w4.heap.size, 3, none⟩ (.slice av nv cv)) (blk_other HZX.out (by omega : w.heap.size ≠ w4.heap.size) 3 (.slice av nv cv)) (sMacro.setB (show sMacro.R w10 [.string nm, .bool fb, .slice a2 ps.length c2, .slice av nv cv] ⟨nm, fb, ps, (X ++ [(⟨[.int .i64 1, .string ⟨#[97]⟩, .bool false, .slice (some ⟨w8.heap.size, 0, none⟩) 1 1], ⟨1, ⟨#[97]⟩, false, [⟨#[97]⟩]⟩, fpH⟩ : Elem Tok)]).map (·.d)⟩ (fp2 ++ fpB) from ⟨_, _, fp2, fpB, rfl, HOK.out.1, HPX.out, HRB.out, rfl⟩) (fun hx => (List.mem_append.1 hx).elim (fun h => HX1.out (by simp [h])) (fun h => by have := HFB.out _ h; omega)) 3 (.slice av nv cv)) (fun hx => (List.mem_append.1 hx).elim (fun h => HX0.out (by simp [h])) (fun h => by have := HFB.out _ h; omega)) (rdSet HRX.out (by omega) 3 (.slice av nv cv)) (by omega) (keptSet HKX.out (by omega) (.slice av nv cv) 3) (Nat.le_refl _))
          have HOKF : Hid (okMac ⟨nm, fb, ps, (X ++ [(⟨[.int .i64 1, .string ⟨#[97]⟩, .bool false, .slice (some ⟨w8.heap.size, 0, none⟩) 1 1], ⟨1, ⟨#[97]⟩, false, [⟨#[97]⟩]⟩, fpH⟩ : Elem Tok)]).map (·.d)⟩) := ⟨by have := HOK.out.2.1; show nm.size ≤ 1000; omega, by have := HOK.out.2.2.1; show ps.length ≤ 100; omega, by rw [List.map_append, HX8.out]; simp; have := HOK.out.2.2.2.1; omega, fun t ht => by rw [List.map_append, HX8.out] at ht; exact (List.mem_append.1 ht).elim (fun h => by rw [HOK.out.2.2.2.2 t h]; simp) (fun h => by simp at h; rw [h]; decide)⟩
          have HLOF : Hid (∀ b ∈ fp2 ++ fpB, w.heap.size ≤ b) := fun b hb => (List.mem_append.1 hb).elim (fun h => by have := (HLO.out b (by simp [h])).1; omega) (fun h => by have := HFB.out _ h; omega)
          clear HLO))
      refine bodyPost_ret (results_cell_row rfl _ _ w.heap.size _ _ _ _ rfl HS.out.1 Try.underlying32 rfl (by kernel_rfl)) rfl ?_
      exact dm_ret HS.out.2.1 HOKF.out HLOF.out (by omega) HS.out.2.2.1 HS.out.2.2.2
    · -- case 6
      have hbl := alloc_below' w6 (.cells #[.int .i64 1, .string ⟨#[97]⟩, .bool true, .slice none 0 0] 56)
      have hlit : RowE sTok w6.heap.size 56 (.slice (some ⟨w6.heap.size, 0, none⟩) 1 1) [(⟨[.int .i64 1, .string ⟨#[97]⟩, .bool true, .slice none 0 0], ⟨1, ⟨#[97]⟩, true, []⟩, []⟩ : Elem Tok)] (w6.alloc (.cells #[.int .i64 1, .string ⟨#[97]⟩, .bool true, .slice none 0 0] 56)) := RowE.lit [(⟨[.int .i64 1, .string ⟨#[97]⟩, .bool true, .slice none 0 0], ⟨1, ⟨#[97]⟩, true, []⟩, []⟩ : Elem Tok)] (by intro x hx; simp only [List.mem_cons, List.not_mem_nil, or_false] at hx; rcases hx with rfl <;> rfl) (by intro x hx; simp only [List.mem_cons, List.not_mem_nil, or_false] at hx; rcases hx with rfl <;> exact ⟨_, rfl, ⟨by decide, by decide⟩, by show okStr _; unfold okStr; decide, slice_empty sStr _ _ _ (by simp)⟩) (by intro x hx b hb; simp only [List.mem_cons, List.not_mem_nil, or_false] at hx; rcases hx with rfl <;> simp at hb) (by intro x hx b hb; simp only [List.mem_cons, List.not_mem_nil, or_false] at hx; rcases hx with rfl <;> simp at hb) (Nat.le_refl _) (by decide)
      obtain ⟨fpB, hRB, hOB⟩ := rowE_own hlit (by intro x hx; simp only [List.mem_cons, List.not_mem_nil, or_false] at hx; rcases hx with rfl <;> rfl)
      have HFB : Hid (∀ b ∈ fpB, w6.heap.size ≤ b) := fun b hb => (hOB.2 b hb).1
      have HRB := Lib.hid hRB
      have HMW := Lib.hid (mbox HM7.out hbl)
      have HZW := Lib.hid (mbox HZ7.out hbl)
      have HRW := Lib.hid (HR7.out.grow hbl)
      have HKW := Lib.hid (HK7.out.trans (Kept.of_below hbl))
      have HPW := Lib.hid ((sSlice sStr).below HP7.out hbl)
      clear hlit hRB hOB hbl
      have x0 : (w6.alloc (.cells #[.int .i64 1, .string ⟨#[97]⟩, .bool true, .slice none 0 0] 56)).cell? ⟨w4.heap.size, 0, none⟩ = some (.string nm) := cell_of_row _ _ 0 _ _ _ HMW.out
      have x1 : (w6.alloc (.cells #[.int .i64 1, .string ⟨#[97]⟩, .bool true, .slice none 0 0] 56)).cell? ⟨w4.heap.size, 1, none⟩ = some (.bool fb) := cell_of_row _ _ 1 _ _ _ HMW.out
      have x2 : (w6.alloc (.cells #[.int .i64 1, .string ⟨#[97]⟩, .bool true, .slice none 0 0] 56)).cell? ⟨w4.heap.size, 2, none⟩ = some (.slice a2 ps.length c2) := cell_of_row _ _ 2 _ _ _ HMW.out
      have x3 : (w6.alloc (.cells #[.int .i64 1, .string ⟨#[97]⟩, .bool true, .slice none 0 0] 56)).cell? ⟨w4.heap.size, 3, none⟩ = some (.slice a3 bd.length c3) := cell_of_row _ _ 3 _ _ _ HMW.out
      have xf : (w6.alloc (.cells #[.int .i64 1, .string ⟨#[97]⟩, .bool true, .slice none 0 0] 56)).frozen? ⟨w4.heap.size, 3, none⟩ = false := frozen_of_row _ _ 3 _ _ HMW.out
      have eW : (w6.alloc (.cells #[.int .i64 1, .string ⟨#[97]⟩, .bool true, .slice none 0 0] 56)).setCell ⟨w4.heap.size, 3, none⟩ (.slice (some ⟨w6.heap.size, 0, none⟩) 1 1) = ((w6.setCell ⟨w4.heap.size, 3, none⟩ (.slice (some ⟨w6.heap.size, 0, none⟩) 1 1)).alloc (.cells #[.int .i64 1, .string ⟨#[97]⟩, .bool true, .slice none 0 0] 56)) := World.setCell_alloc_past _ _ _ _ hs6
      have HMS := Lib.hid (eW ▸ blk_set HMW.out 3 (.slice (some ⟨w6.heap.size, 0, none⟩) 1 1))
      have HZS := Lib.hid (eW ▸ blk_other HZW.out (by omega : w.heap.size ≠ w4.heap.size) 3 (.slice (some ⟨w6.heap.size, 0, none⟩) 1 1))
      have HRS := Lib.hid (eW ▸ rdSet HRW.out (by omega : rb < w4.heap.size) 3 (.slice (some ⟨w6.heap.size, 0, none⟩) 1 1))
      have HKS := Lib.hid (eW ▸ keptSet HKW.out (by omega : w.heap.size ≤ w4.heap.size) (.slice (some ⟨w6.heap.size, 0, none⟩) 1 1) 3)
      have HPS := Lib.hid (eW ▸ (sSlice sStr).setB HPW.out (fun hx => HX1.out (by simp [hx])) 3 (.slice (some ⟨w6.heap.size, 0, none⟩) 1 1))
      have HBS := Lib.hid (eW ▸ (sSlice sTok).setB HRB.out (fun hx => by have := HFB.out _ hx; omega) 3 (.slice (some ⟨w6.heap.size, 0, none⟩) 1 1))
      clear eW HMW HZW HRW HKW HPW HRB
      have y0 : ((w6.setCell ⟨w4.heap.size, 3, none⟩ (.slice (some ⟨w6.heap.size, 0, none⟩) 1 1)).alloc (.cells #[.int .i64 1, .string ⟨#[97]⟩, .bool true, .slice none 0 0] 56)).cell? ⟨w4.heap.size, 0, none⟩ = some (.string nm) := cell_of_row _ _ 0 _ _ _ HMS.out
      have y1 : ((w6.setCell ⟨w4.heap.size, 3, none⟩ (.slice (some ⟨w6.heap.size, 0, none⟩) 1 1)).alloc (.cells #[.int .i64 1, .string ⟨#[97]⟩, .bool true, .slice none 0 0] 56)).cell? ⟨w4.heap.size, 1, none⟩ = some (.bool fb) := cell_of_row _ _ 1 _ _ _ HMS.out
      have y2 : ((w6.setCell ⟨w4.heap.size, 3, none⟩ (.slice (some ⟨w6.heap.size, 0, none⟩) 1 1)).alloc (.cells #[.int .i64 1, .string ⟨#[97]⟩, .bool true, .slice none 0 0] 56)).cell? ⟨w4.heap.size, 2, none⟩ = some (.slice a2 ps.length c2) := cell_of_row _ _ 2 _ _ _ HMS.out
      have y3 : ((w6.setCell ⟨w4.heap.size, 3, none⟩ (.slice (some ⟨w6.heap.size, 0, none⟩) 1 1)).alloc (.cells #[.int .i64 1, .string ⟨#[97]⟩, .bool true, .slice none 0 0] 56)).cell? ⟨w4.heap.size, 3, none⟩ = some (.slice (some ⟨w6.heap.size, 0, none⟩) 1 1) := cell_of_row _ _ 3 _ _ _ HMS.out
      have z0 : ((w6.setCell ⟨w4.heap.size, 3, none⟩ (.slice (some ⟨w6.heap.size, 0, none⟩) 1 1)).alloc (.cells #[.int .i64 1, .string ⟨#[97]⟩, .bool true, .slice none 0 0] 56)).cell? ⟨w.heap.size, 0, none⟩ = some (.string ⟨#[]⟩) := cell_of_row _ _ 0 _ _ _ HZS.out
      have zf0 : ((w6.setCell ⟨w4.heap.size, 3, none⟩ (.slice (some ⟨w6.heap.size, 0, none⟩) 1 1)).alloc (.cells #[.int .i64 1, .string ⟨#[97]⟩, .bool true, .slice none 0 0] 56)).frozen? ⟨w.heap.size, 0, none⟩ = false := frozen_of_row _ _ 0 _ _ HZS.out
      have z1 : ((w6.setCell ⟨w4.heap.size, 3, none⟩ (.slice (some ⟨w6.heap.size, 0, none⟩) 1 1)).alloc (.cells #[.int .i64 1, .string ⟨#[97]⟩, .bool true, .slice none 0 0] 56)).cell? ⟨w.heap.size, 1, none⟩ = some (.bool false) := cell_of_row _ _ 1 _ _ _ HZS.out
      have zf1 : ((w6.setCell ⟨w4.heap.size, 3, none⟩ (.slice (some ⟨w6.heap.size, 0, none⟩) 1 1)).alloc (.cells #[.int .i64 1, .string ⟨#[97]⟩, .bool true, .slice none 0 0] 56)).frozen? ⟨w.heap.size, 1, none⟩ = false := frozen_of_row _ _ 1 _ _ HZS.out
      have z2 : ((w6.setCell ⟨w4.heap.size, 3, none⟩ (.slice (some ⟨w6.heap.size, 0, none⟩) 1 1)).alloc (.cells #[.int .i64 1, .string ⟨#[97]⟩, .bool true, .slice none 0 0] 56)).cell? ⟨w.heap.size, 2, none⟩ = some (.slice none 0 0) := cell_of_row _ _ 2 _ _ _ HZS.out
      have zf2 : ((w6.setCell ⟨w4.heap.size, 3, none⟩ (.slice (some ⟨w6.heap.size, 0, none⟩) 1 1)).alloc (.cells #[.int .i64 1, .string ⟨#[97]⟩, .bool true, .slice none 0 0] 56)).frozen? ⟨w.heap.size, 2, none⟩ = false := frozen_of_row _ _ 2 _ _ HZS.out
      have z3 : ((w6.setCell ⟨w4.heap.size, 3, none⟩ (.slice (some ⟨w6.heap.size, 0, none⟩) 1 1)).alloc (.cells #[.int .i64 1, .string ⟨#[97]⟩, .bool true, .slice none 0 0] 56)).cell? ⟨w.heap.size, 3, none⟩ = some (.slice none 0 0) := cell_of_row _ _ 3 _ _ _ HZS.out
      have zf3 : ((w6.setCell ⟨w4.heap.size, 3, none⟩ (.slice (some ⟨w6.heap.size, 0, none⟩) 1 1)).alloc (.cells #[.int .i64 1, .string ⟨#[97]⟩, .bool true, .slice none 0 0] 56)).frozen? ⟨w.heap.size, 3, none⟩ = false := frozen_of_row _ _ 3 _ _ HZS.out
      have HS := Lib.hid (set4_mac (w := w) (wP := ((w6.setCell ⟨w4.heap.size, 3, none⟩ (.slice (some ⟨w6.heap.size, 0, none⟩) 1 1)).alloc (.cells #[.int .i64 1, .string ⟨#[97]⟩, .bool true, .slice none 0 0] 56))) HZS.out (show sMacro.R ((w6.setCell ⟨w4.heap.size, 3, none⟩ (.slice (some ⟨w6.heap.size, 0, none⟩) 1 1)).alloc (.cells #[.int .i64 1, .string ⟨#[97]⟩, .bool true, .slice none 0 0] 56)) [.string nm, .bool fb, .slice a2 ps.length c2, .slice (some ⟨w6.heap.size, 0, none⟩) 1 1] ⟨nm, fb, ps, ([(⟨[.int .i64 1, .string ⟨#[97]⟩, .bool true, .slice none 0 0], ⟨1, ⟨#[97]⟩, true, []⟩, []⟩ : Elem Tok)]).map (·.d)⟩ (fp2 ++ fpB) from ⟨_, _, fp2, fpB, rfl, HOK.out.1, HPS.out, HBS.out, rfl⟩) (fun hx => (List.mem_append.1 hx).elim (fun h => HX0.out (by simp [h])) (fun h => by have := HFB.out _ h; omega)) HRS.out (by omega) HKS.out (Nat.le_refl _))
      have HOKF : Hid (okMac ⟨nm, fb, ps, ([(⟨[.int .i64 1, .string ⟨#[97]⟩, .bool true, .slice none 0 0], ⟨1, ⟨#[97]⟩, true, []⟩, []⟩ : Elem Tok)]).map (·.d)⟩) := ⟨by have := HOK.out.2.1; show nm.size ≤ 1000; omega, by have := HOK.out.2.2.1; show ps.length ≤ 100; omega, by show (1 : Nat) ≤ 100; omega, fun t ht => by simp only [List.map_cons, List.map_nil, List.mem_cons, List.not_mem_nil, or_false] at ht; rcases ht with rfl <;> decide⟩
      have HLOF : Hid (∀ b ∈ fp2 ++ fpB, w.heap.size ≤ b) := fun b hb => (List.mem_append.1 hb).elim (fun h => by have := (HLO.out b (by simp [h])).1; omega) (fun h => by have := HFB.out _ h; omega)
      clear HLO
      go_wp2
      refine bodyPost_ret (results_cell_row rfl _ _ w.heap.size _ _ _ _ rfl HS.out.1 Try.underlying32 rfl (by kernel_rfl)) rfl ?_
      exact dm_ret HS.out.2.1 HOKF.out HLOF.out (by omega) HS.out.2.2.1 HS.out.2.2.2
    · -- case 7
      have hbl := alloc_below' w6 (.cells #[.int .i64 1, .string ⟨#[97]⟩, .bool false, .slice none 0 0, .int .i64 4, .string ⟨#[35, 35]⟩, .bool false, .slice none 0 0, .int .i64 4, .string ⟨#[35, 35]⟩, .bool false, .slice none 0 0, .int .i64 1, .string ⟨#[98]⟩, .bool false, .slice none 0 0] 56)
      have hlit : RowE sTok w6.heap.size 56 (.slice (some ⟨w6.heap.size, 0, none⟩) 4 4) [(⟨[.int .i64 1, .string ⟨#[97]⟩, .bool false, .slice none 0 0], ⟨1, ⟨#[97]⟩, false, []⟩, []⟩ : Elem Tok), (⟨[.int .i64 4, .string ⟨#[35, 35]⟩, .bool false, .slice none 0 0], ⟨4, ⟨#[35, 35]⟩, false, []⟩, []⟩ : Elem Tok), (⟨[.int .i64 4, .string ⟨#[35, 35]⟩, .bool false, .slice none 0 0], ⟨4, ⟨#[35, 35]⟩, false, []⟩, []⟩ : Elem Tok), (⟨[.int .i64 1, .string ⟨#[98]⟩, .bool false, .slice none 0 0], ⟨1, ⟨#[98]⟩, false, []⟩, []⟩ : Elem Tok)] (w6.alloc (.cells #[.int .i64 1, .string ⟨#[97]⟩, .bool false, .slice none 0 0, .int .i64 4, .string ⟨#[35, 35]⟩, .bool false, .slice none 0 0, .int .i64 4, .string ⟨#[35, 35]⟩, .bool false, .slice none 0 0, .int .i64 1, .string ⟨#[98]⟩, .bool false, .slice none 0 0] 56)) := RowE.lit [(⟨[.int .i64 1, .string ⟨#[97]⟩, .bool false, .slice none 0 0], ⟨1, ⟨#[97]⟩, false, []⟩, []⟩ : Elem Tok), (⟨[.int .i64 4, .string ⟨#[35, 35]⟩, .bool false, .slice none 0 0], ⟨4, ⟨#[35, 35]⟩, false, []⟩, []⟩ : Elem Tok), (⟨[.int .i64 4, .string ⟨#[35, 35]⟩, .bool false, .slice none 0 0], ⟨4, ⟨#[35, 35]⟩, false, []⟩, []⟩ : Elem Tok), (⟨[.int .i64 1, .string ⟨#[98]⟩, .bool false, .slice none 0 0], ⟨1, ⟨#[98]⟩, false, []⟩, []⟩ : Elem Tok)] (by intro x hx; simp only [List.mem_cons, List.not_mem_nil, or_false] at hx; rcases hx with rfl | rfl | rfl | rfl <;> rfl) (by intro x hx; simp only [List.mem_cons, List.not_mem_nil, or_false] at hx; rcases hx with rfl | rfl | rfl | rfl <;> exact ⟨_, rfl, ⟨by decide, by decide⟩, by show okStr _; unfold okStr; decide, slice_empty sStr _ _ _ (by simp)⟩) (by intro x hx b hb; simp only [List.mem_cons, List.not_mem_nil, or_false] at hx; rcases hx with rfl | rfl | rfl | rfl <;> simp at hb) (by intro x hx b hb; simp only [List.mem_cons, List.not_mem_nil, or_false] at hx; rcases hx with rfl | rfl | rfl | rfl <;> simp at hb) (Nat.le_refl _) (by decide)
      obtain ⟨fpB, hRB, hOB⟩ := rowE_own hlit (by intro x hx; simp only [List.mem_cons, List.not_mem_nil, or_false] at hx; rcases hx with rfl | rfl | rfl | rfl <;> rfl)
      have HFB : Hid (∀ b ∈ fpB, w6.heap.size ≤ b) := fun b hb => (hOB.2 b hb).1
      have HRB := Lib.hid hRB
      have HMW := Lib.hid (mbox HM7.out hbl)
      have HZW := Lib.hid (mbox HZ7.out hbl)
      have HRW := Lib.hid (HR7.out.grow hbl)
      have HKW := Lib.hid (HK7.out.trans (Kept.of_below hbl))
      have HPW := Lib.hid ((sSlice sStr).below HP7.out hbl)
      clear hlit hRB hOB hbl
      have x0 : (w6.alloc (.cells #[.int .i64 1, .string ⟨#[97]⟩, .bool false, .slice none 0 0, .int .i64 4, .string ⟨#[35, 35]⟩, .bool false, .slice none 0 0, .int .i64 4, .string ⟨#[35, 35]⟩, .bool false, .slice none 0 0, .int .i64 1, .string ⟨#[98]⟩, .bool false, .slice none 0 0] 56)).cell? ⟨w4.heap.size, 0, none⟩ = some (.string nm) := cell_of_row _ _ 0 _ _ _ HMW.out
      have x1 : (w6.alloc (.cells #[.int .i64 1, .string ⟨#[97]⟩, .bool false, .slice none 0 0, .int .i64 4, .string ⟨#[35, 35]⟩, .bool false, .slice none 0 0, .int .i64 4, .string ⟨#[35, 35]⟩, .bool false, .slice none 0 0, .int .i64 1, .string ⟨#[98]⟩, .bool false, .slice none 0 0] 56)).cell? ⟨w4.heap.size, 1, none⟩ = some (.bool fb) := cell_of_row _ _ 1 _ _ _ HMW.out
      have x2 : (w6.alloc (.cells #[.int .i64 1, .string ⟨#[97]⟩, .bool false, .slice none 0 0, .int .i64 4, .string ⟨#[35, 35]⟩, .bool false, .slice none 0 0, .int .i64 4, .string ⟨#[35, 35]⟩, .bool false, .slice none 0 0, .int .i64 1, .string ⟨#[98]⟩, .bool false, .slice none 0 0] 56)).cell? ⟨w4.heap.size, 2, none⟩ = some (.slice a2 ps.length c2) := cell_of_row _ _ 2 _ _ _ HMW.out
      have x3 : (w6.alloc (.cells #[.int .i64 1, .string ⟨#[97]⟩, .bool false, .slice none 0 0, .int .i64 4, .string ⟨#[35, 35]⟩, .bool false, .slice none 0 0, .int .i64 4, .string ⟨#[35, 35]⟩, .bool false, .slice none 0 0, .int .i64 1, .string ⟨#[98]⟩, .bool false, .slice none 0 0] 56)).cell? ⟨w4.heap.size, 3, none⟩ = some (.slice a3 bd.length c3) := cell_of_row _ _ 3 _ _ _ HMW.out
      have xf : (w6.alloc (.cells #[.int .i64 1, .string ⟨#[97]⟩, .bool false, .slice none 0 0, .int .i64 4, .string ⟨#[35, 35]⟩, .bool false, .slice none 0 0, .int .i64 4, .string ⟨#[35, 35]⟩, .bool false, .slice none 0 0, .int .i64 1, .string ⟨#[98]⟩, .bool false, .slice none 0 0] 56)).frozen? ⟨w4.heap.size, 3, none⟩ = false := frozen_of_row _ _ 3 _ _ HMW.out
      have eW : (w6.alloc (.cells #[.int .i64 1, .string ⟨#[97]⟩, .bool false, .slice none 0 0, .int .i64 4, .string ⟨#[35, 35]⟩, .bool false, .slice none 0 0, .int .i64 4, .string ⟨#[35, 35]⟩, .bool false, .slice none 0 0, .int .i64 1, .string ⟨#[98]⟩, .bool false, .slice none 0 0] 56)).setCell ⟨w4.heap.size, 3, none⟩ (.slice (some ⟨w6.heap.size, 0, none⟩) 4 4) = ((w6.setCell ⟨w4.heap.size, 3, none⟩ (.slice (some ⟨w6.heap.size, 0, none⟩) 4 4)).alloc (.cells #[.int .i64 1, .string ⟨#[97]⟩, .bool false, .slice none 0 0, .int .i64 4, .string ⟨#[35, 35]⟩, .bool false, .slice none 0 0, .int .i64 4, .string ⟨#[35, 35]⟩, .bool false, .slice none 0 0, .int .i64 1, .string ⟨#[98]⟩, .bool false, .slice none 0 0] 56)) := World.setCell_alloc_past _ _ _ _ hs6
      have HMS := Lib.hid (eW ▸ blk_set HMW.out 3 (.slice (some ⟨w6.heap.size, 0, none⟩) 4 4))
      have HZS := Lib.hid (eW ▸ blk_other HZW.out (by omega : w.heap.size ≠ w4.heap.size) 3 (.slice (some ⟨w6.heap.size, 0, none⟩) 4 4))
      have HRS := Lib.hid (eW ▸ rdSet HRW.out (by omega : rb < w4.heap.size) 3 (.slice (some ⟨w6.heap.size, 0, none⟩) 4 4))
      have HKS := Lib.hid (eW ▸ keptSet HKW.out (by omega : w.heap.size ≤ w4.heap.size) (.slice (some ⟨w6.heap.size, 0, none⟩) 4 4) 3)
      have HPS := Lib.hid (eW ▸ (sSlice sStr).setB HPW.out (fun hx => HX1.out (by simp [hx])) 3 (.slice (some ⟨w6.heap.size, 0, none⟩) 4 4))
      have HBS := Lib.hid (eW ▸ (sSlice sTok).setB HRB.out (fun hx => by have := HFB.out _ hx; omega) 3 (.slice (some ⟨w6.heap.size, 0, none⟩) 4 4))
      clear eW HMW HZW HRW HKW HPW HRB
      have y0 : ((w6.setCell ⟨w4.heap.size, 3, none⟩ (.slice (some ⟨w6.heap.size, 0, none⟩) 4 4)).alloc (.cells #[.int .i64 1, .string ⟨#[97]⟩, .bool false, .slice none 0 0, .int .i64 4, .string ⟨#[35, 35]⟩, .bool false, .slice none 0 0, .int .i64 4, .string ⟨#[35, 35]⟩, .bool false, .slice none 0 0, .int .i64 1, .string ⟨#[98]⟩, .bool false, .slice none 0 0] 56)).cell? ⟨w4.heap.size, 0, none⟩ = some (.string nm) := cell_of_row _ _ 0 _ _ _ HMS.out
      have y1 : ((w6.setCell ⟨w4.heap.size, 3, none⟩ (.slice (some ⟨w6.heap.size, 0, none⟩) 4 4)).alloc (.cells #[.int .i64 1, .string ⟨#[97]⟩, .bool false, .slice none 0 0, .int .i64 4, .string ⟨#[35, 35]⟩, .bool false, .slice none 0 0, .int .i64 4, .string ⟨#[35, 35]⟩, .bool false, .slice none 0 0, .int .i64 1, .string ⟨#[98]⟩, .bool false, .slice none 0 0] 56)).cell? ⟨w4.heap.size, 1, none⟩ = some (.bool fb) := cell_of_row _ _ 1 _ _ _ HMS.out
      have y2 : ((w6.setCell ⟨w4.heap.size, 3, none⟩ (.slice (some ⟨w6.heap.size, 0, none⟩) 4 4)).alloc (.cells #[.int .i64 1, .string ⟨#[97]⟩, .bool false, .slice none 0 0, .int .i64 4, .string ⟨#[35, 35]⟩, .bool false, .slice none 0 0, .int .i64 4, .string ⟨#[35, 35]⟩, .bool false, .slice none 0 0, .int .i64 1, .string ⟨#[98]⟩, .bool false, .slice none 0 0] 56)).cell? ⟨w4.heap.size, 2, none⟩ = some (.slice a2 ps.length c2) := cell_of_row _ _ 2 _ _ _ HMS.out
      have y3 : ((w6.setCell ⟨w4.heap.size, 3, none⟩ (.slice (some ⟨w6.heap.size, 0, none⟩) 4 4)).alloc (.cells #[.int .i64 1, .string ⟨#[97]⟩, .bool false, .slice none 0 0, .int .i64 4, .string ⟨#[35, 35]⟩, .bool false, .slice none 0 0, .int .i64 4, .string ⟨#[35, 35]⟩, .bool false, .slice none 0 0, .int .i64 1, .string ⟨#[98]⟩, .bool false, .slice none 0 0] 56)).cell? ⟨w4.heap.size, 3, none⟩ = some (.slice (some ⟨w6.heap.size, 0, none⟩) 4 4) := cell_of_row _ _ 3 _ _ _ HMS.out
      have z0 : ((w6.setCell ⟨w4.heap.size, 3, none⟩ (.slice (some ⟨w6.heap.size, 0, none⟩) 4 4)).alloc (.cells #[.int .i64 1, .string ⟨#[97]⟩, .bool false, .slice none 0 0, .int .i64 4, .string ⟨#[35, 35]⟩, .bool false, .slice none 0 0, .int .i64 4, .string ⟨#[35, 35]⟩, .bool false, .slice none 0 0, .int .i64 1, .string ⟨#[98]⟩, .bool false, .slice none 0 0] 56)).cell? ⟨w.heap.size, 0, none⟩ = some (.string ⟨#[]⟩) := cell_of_row _ _ 0 _ _ _ HZS.out
      have zf0 : ((w6.setCell ⟨w4.heap.size, 3, none⟩ (.slice (some ⟨w6.heap.size, 0, none⟩) 4 4)).alloc (.cells #[.int .i64 1, .string ⟨#[97]⟩, .bool false, .slice none 0 0, .int .i64 4, .string ⟨#[35, 35]⟩, .bool false, .slice none 0 0, .int .i64 4, .string ⟨#[35, 35]⟩, .bool false, .slice none 0 0, .int .i64 1, .string ⟨#[98]⟩, .bool false, .slice none 0 0] 56)).frozen? ⟨w.heap.size, 0, none⟩ = false := frozen_of_row _ _ 0 _ _ HZS.out
      have z1 : ((w6.setCell ⟨w4.heap.size, 3, none⟩ (.slice (some ⟨w6.heap.size, 0, none⟩) 4 4)).alloc (.cells #[.int .i64 1, .string ⟨#[97]⟩, .bool false, .slice none 0 0, .int .i64 4, .string ⟨#[35, 35]⟩, .bool false, .slice none 0 0, .int .i64 4, .string ⟨#[35, 35]⟩, .bool false, .slice none 0 0, .int .i64 1, .string ⟨#[98]⟩, .bool false, .slice none 0 0] 56)).cell? ⟨w.heap.size, 1, none⟩ = some (.bool false) := cell_of_row _ _ 1 _ _ _ HZS.out
      have zf1 : ((w6.setCell ⟨w4.heap.size, 3, none⟩ (.slice (some ⟨w6.heap.size, 0, none⟩) 4 4)).alloc (.cells #[.int .i64 1, .string ⟨#[97]⟩, .bool false, .slice none 0 0, .int .i64 4, .string ⟨#[35, 35]⟩, .bool false, .slice none 0 0, .int .i64 4, .string ⟨#[35, 35]⟩, .bool false, .slice none 0 0, .int .i64 1, .string ⟨#[98]⟩, .bool false, .slice none 0 0] 56)).frozen? ⟨w.heap.size, 1, none⟩ = false := frozen_of_row _ _ 1 _ _ HZS.out
      have z2 : ((w6.setCell ⟨w4.heap.size, 3, none⟩ (.slice (some ⟨w6.heap.size, 0, none⟩) 4 4)).alloc (.cells #[.int .i64 1, .string ⟨#[97]⟩, .bool false, .slice none 0 0, .int .i64 4, .string ⟨#[35, 35]⟩, .bool false, .slice none 0 0, .int .i64 4, .string ⟨#[35, 35]⟩, .bool false, .slice none 0 0, .int .i64 1, .string ⟨#[98]⟩, .bool false, .slice none 0 0] 56)).cell? ⟨w.heap.size, 2, none⟩ = some (.slice none 0 0) := cell_of_row _ _ 2 _ _ _ HZS.out
      have zf2 : ((w6.setCell ⟨w4.heap.size, 3, none⟩ (.slice (some ⟨w6.heap.size, 0, none⟩) 4 4)).alloc (.cells #[.int .i64 1, .string ⟨#[97]⟩, .bool false, .slice none 0 0, .int .i64 4, .string ⟨#[35, 35]⟩, .bool false, .slice none 0 0, .int .i64 4, .string ⟨#[35, 35]⟩, .bool false, .slice none 0 0, .int .i64 1, .string ⟨#[98]⟩, .bool false, .slice none 0 0] 56)).frozen? ⟨w.heap.size, 2, none⟩ = false := frozen_of_row _ _ 2 _ _ HZS.out
      have z3 : ((w6.setCell ⟨w4.heap.size, 3, none⟩ (.slice (some ⟨w6.heap.size, 0, none⟩) 4 4)).alloc (.cells #[.int .i64 1, .string ⟨#[97]⟩, .bool false, .slice none 0 0, .int .i64 4, .string ⟨#[35, 35]⟩, .bool false, .slice none 0 0, .int .i64 4, .string ⟨#[35, 35]⟩, .bool false, .slice none 0 0, .int .i64 1, .string ⟨#[98]⟩, .bool false, .slice none 0 0] 56)).cell? ⟨w.heap.size, 3, none⟩ = some (.slice none 0 0) := cell_of_row _ _ 3 _ _ _ HZS.out
      have zf3 : ((w6.setCell ⟨w4.heap.size, 3, none⟩ (.slice (some ⟨w6.heap.size, 0, none⟩) 4 4)).alloc (.cells #[.int .i64 1, .string ⟨#[97]⟩, .bool false, .slice none 0 0, .int .i64 4, .string ⟨#[35, 35]⟩, .bool false, .slice none 0 0, .int .i64 4, .string ⟨#[35, 35]⟩, .bool false, .slice none 0 0, .int .i64 1, .string ⟨#[98]⟩, .bool false, .slice none 0 0] 56)).frozen? ⟨w.heap.size, 3, none⟩ = false := frozen_of_row _ _ 3 _ _ HZS.out
      have HS := Lib.hid (set4_mac (w := w) (wP := ((w6.setCell ⟨w4.heap.size, 3, none⟩ (.slice (some ⟨w6.heap.size, 0, none⟩) 4 4)).alloc (.cells #[.int .i64 1, .string ⟨#[97]⟩, .bool false, .slice none 0 0, .int .i64 4, .string ⟨#[35, 35]⟩, .bool false, .slice none 0 0, .int .i64 4, .string ⟨#[35, 35]⟩, .bool false, .slice none 0 0, .int .i64 1, .string ⟨#[98]⟩, .bool false, .slice none 0 0] 56))) HZS.out (show sMacro.R ((w6.setCell ⟨w4.heap.size, 3, none⟩ (.slice (some ⟨w6.heap.size, 0, none⟩) 4 4)).alloc (.cells #[.int .i64 1, .string ⟨#[97]⟩, .bool false, .slice none 0 0, .int .i64 4, .string ⟨#[35, 35]⟩, .bool false, .slice none 0 0, .int .i64 4, .string ⟨#[35, 35]⟩, .bool false, .slice none 0 0, .int .i64 1, .string ⟨#[98]⟩, .bool false, .slice none 0 0] 56)) [.string nm, .bool fb, .slice a2 ps.length c2, .slice (some ⟨w6.heap.size, 0, none⟩) 4 4] ⟨nm, fb, ps, ([(⟨[.int .i64 1, .string ⟨#[97]⟩, .bool false, .slice none 0 0], ⟨1, ⟨#[97]⟩, false, []⟩, []⟩ : Elem Tok), (⟨[.int .i64 4, .string ⟨#[35, 35]⟩, .bool false, .slice none 0 0], ⟨4, ⟨#[35, 35]⟩, false, []⟩, []⟩ : Elem Tok), (⟨[.int .i64 4, .string ⟨#[35, 35]⟩, .bool false, .slice none 0 0], ⟨4, ⟨#[35, 35]⟩, false, []⟩, []⟩ : Elem Tok), (⟨[.int .i64 1, .string ⟨#[98]⟩, .bool false, .slice none 0 0], ⟨1, ⟨#[98]⟩, false, []⟩, []⟩ : Elem Tok)]).map (·.d)⟩ (fp2 ++ fpB) from ⟨_, _, fp2, fpB, rfl, HOK.out.1, HPS.out, HBS.out, rfl⟩) (fun hx => (List.mem_append.1 hx).elim (fun h => HX0.out (by simp [h])) (fun h => by have := HFB.out _ h; omega)) HRS.out (by omega) HKS.out (Nat.le_refl _))
      have HOKF : Hid (okMac ⟨nm, fb, ps, ([(⟨[.int .i64 1, .string ⟨#[97]⟩, .bool false, .slice none 0 0], ⟨1, ⟨#[97]⟩, false, []⟩, []⟩ : Elem Tok), (⟨[.int .i64 4, .string ⟨#[35, 35]⟩, .bool false, .slice none 0 0], ⟨4, ⟨#[35, 35]⟩, false, []⟩, []⟩ : Elem Tok), (⟨[.int .i64 4, .string ⟨#[35, 35]⟩, .bool false, .slice none 0 0], ⟨4, ⟨#[35, 35]⟩, false, []⟩, []⟩ : Elem Tok), (⟨[.int .i64 1, .string ⟨#[98]⟩, .bool false, .slice none 0 0], ⟨1, ⟨#[98]⟩, false, []⟩, []⟩ : Elem Tok)]).map (·.d)⟩) := ⟨by have := HOK.out.2.1; show nm.size ≤ 1000; omega, by have := HOK.out.2.2.1; show ps.length ≤ 100; omega, by show (4 : Nat) ≤ 100; omega, fun t ht => by simp only [List.map_cons, List.map_nil, List.mem_cons, List.not_mem_nil, or_false] at ht; rcases ht with rfl | rfl | rfl | rfl <;> decide⟩
      have HLOF : Hid (∀ b ∈ fp2 ++ fpB, w.heap.size ≤ b) := fun b hb => (List.mem_append.1 hb).elim (fun h => by have := (HLO.out b (by simp [h])).1; omega) (fun h => by have := HFB.out _ h; omega)
      clear HLO
      go_wp2
      refine bodyPost_ret (results_cell_row rfl _ _ w.heap.size _ _ _ _ rfl HS.out.1 Try.underlying32 rfl (by kernel_rfl)) rfl ?_
      exact dm_ret HS.out.2.1 HOKF.out HLOF.out (by omega) HS.out.2.2.1 HS.out.2.2.2

end Go.Proofs.Ythbojipdhgidlaa

/- The drawing of lists of tokens. -/
namespace Go.Proofs.Ythbojipdhgidlaa
open Go.RowKit

/-- Tokens are drawn. -/
def DrawnList (w : World) (e : Ending) (w' : World) : Prop :=
  ∃ (v : Value) (L : List (Elem Tok)), e = .returned v ∧ RowE sTok w.heap.size 56 v L w' ∧ (∀ x ∈ L, okTok x.d) ∧ L.length ≤ 61 ∧ Below w.heap.size w w'
theorem okPlus : okTok ⟨4, ⟨#[43]⟩, false, []⟩ := ⟨by decide, by decide, by decide, by decide⟩
/-- A token's Spaced is stored. -/
theorem RowE.spaced {base g n cap : Nat} {L : List (Elem Tok)} {w : World} (h : RowE sTok base 56 (.slice (some ⟨g, 0, none⟩) n cap) L w) {k : Nat} (hk : k < L.length) (b : Bool) :
    ∃ x', RowE sTok base 56 (.slice (some ⟨g, 0, none⟩) n cap) (L.set k x') (w.setCell ⟨g, k * 4 + 2, none⟩ (.bool b)) ∧ (okTok L[k].d → okTok x'.d) := by
  have hm := List.getElem_mem hk
  obtain ⟨hh, hcs, hi, hs, hK⟩ := h.el _ hm
  refine ⟨⟨[.int .i64 L[k].d.kind, .string L[k].d.text, .bool b, hh], ⟨L[k].d.kind, L[k].d.text, b, L[k].d.hidden⟩, L[k].fp⟩, h.set hk (j := 2) (by decide) _ _ (by rw [hcs]; rfl) ⟨hh, rfl, hi, hs, hK⟩ (fun b hb => h.lo L[k] hm b hb) (fun b hb => h.ty L[k] hm b hb), fun h => h⟩
theorem okSet {L : List (Elem Tok)} (h : ∀ x ∈ L, okTok x.d) {k : Nat} {x' : Elem Tok} (hx : okTok x'.d) : ∀ x ∈ L.set k x', okTok x.d := fun x hm => by
  rcases List.mem_or_eq_of_mem_set hm with h1 | h1
  · exact h x h1
  · subst h1; exact hx

end Go.Proofs.Ythbojipdhgidlaa

/- Tokens and a place, drawn. (Made by gen_drawspl.py.) -/
namespace Go.Proofs.Ythbojipdhgidlaa
open Go.RowKit

def spl_texts : List ByteArray := [⟨#[40, 97, 44, 32, 98, 41]⟩, ⟨#[102, 40, 97, 44, 40, 98, 44, 99, 41, 44, 41]⟩, ⟨#[40, 41]⟩, ⟨#[40, 97]⟩, ⟨#[120, 40, 49, 41, 40, 50, 41]⟩, ⟨#[40, 40, 97, 41, 44, 98, 41, 32, 99]⟩, ⟨#[97, 32, 98]⟩, ⟨#[40, 44, 41]⟩]
theorem spl_texts_size : ∀ s ∈ spl_texts, s.size ≤ 14 := by decide
theorem grownRd' {w w' : World} {rb p base : Nat} {r : Option Nat} (h : Rd w rb p) (hg : w.grownBy w' r) (hr : rb < base) (hm : ∀ b, r = some b → base ≤ b) : Rd w' rb p :=
  h.kept (fp := r.toList) ⟨hg.os, hg.tape, hg.output, hg.size, fun b hb hn => hg.block b hb (by intro e; exact hn (by rw [← e]; simp))⟩ (fun b hb => by
    have e : r = some b := by cases r <;> simp_all
    have := hm b e
    omega)
/-- Tokens and a place. -/
def DrawnSpl (w : World) (e : Ending) (w' : World) : Prop :=
  ∃ (v : Value) (L : List (Elem Tok)) (i : Int), e = .returned (.tuple #[v, .int .i64 i]) ∧ RowE sTok w.heap.size 56 v L w' ∧ (∀ x ∈ L, okTok x.d) ∧ L.length ≤ 61 ∧ Below w.heap.size w w'

set_option maxHeartbeats 8000000 in
set_option maxRecDepth 100000 in
theorem DrawSplitArguments (v : Value) (l : List UInt8) (fp : List Nat) (w : World) (H : (sSlice sByte).R w [v] l fp) :
    Calls Try.prog 26 #[v] w (DrawnSpl w) := by
  go_enter Try.func26, Try.ntmps26
  go_wp2_with fail
  refine (l20Open _ l fp _ H).mono ?_
  rintro e w1 ⟨rb, rfl, hrb, hR, hB⟩
  have hzl := alloc_below' w1 (.cells #[.string ⟨#[40, 97, 44, 32, 98, 41]⟩, .string ⟨#[102, 40, 97, 44, 40, 98, 44, 99, 41, 44, 41]⟩, .string ⟨#[40, 41]⟩, .string ⟨#[40, 97]⟩, .string ⟨#[120, 40, 49, 41, 40, 50, 41]⟩, .string ⟨#[40, 40, 97, 41, 44, 98, 41, 32, 99]⟩, .string ⟨#[97, 32, 98]⟩, .string ⟨#[40, 44, 41]⟩] 9)
  have HR1 := Lib.hid (hR.grow hzl)
  have HB1 := Lib.hid (hB.trans (hzl.mono hB.size))
  have hlt := hR.lt
  clear hzl hB hR
  go_wp2_with fail
  refine (pick rb 0 _ _ HR1.out (by omega) (by omega) (by omega)).mono ?_
  rintro e w2 ⟨r, rfl, h0, h1, hR2, hK2⟩
  obtain ⟨s0, hs0, hcs⟩ := lit_pick spl_texts 20 (fun s hs => Nat.le_trans (spl_texts_size s hs) (by decide)) h0 (by show r < 8; omega) hlt hK2
  have HBX := Lib.hid (kept_below HB1.out hK2 hrb HB1.out.size)
  have HRX := Lib.hid hR2
  have hs : s0.size ≤ 1000 := by omega
  clear hK2 hR2 HB1 HR1
  go_wp2_with fail
  refine (spec_TokensOf_row s0 _ (by unfold maxLen; omega)).mono ?_
  rintro e w4 ⟨v4, rfl, hrow, hfr, hB4⟩
  have hcnt := (tokRes_all s0).1
  obtain ⟨hE0, hok0⟩ := toks_rowE hrow hfr hs
  have HR4 := Lib.hid (HRX.out.grow hB4)
  have HB4 := Lib.hid (HBX.out.trans (hB4.mono HBX.out.size))
  have HE4 := Lib.hid hE0
  have hX1 := HRX.out.lt
  have hX2 := hB4.size
  have hX3 := HBX.out.size
  have HN : Hid (((tokRes s0).1.map elemTok).length ≤ 60) := by show _ ≤ _; rw [List.length_map]; exact hcnt
  generalize (tokRes s0).1.map elemTok = L0 at hE0 HE4 hok0 HN
  generalize (tokRes s0).2 = b0 at *
  have HOK := Lib.hid hok0
  clear hrow hfr hcnt hB4 hE0 hok0
  go_wp2_with fail
  refine (odd rb 1 _ _ HR4.out (by omega) (by omega) (by omega)).mono ?_
  rintro e w5 ⟨b, q5, rfl, hq51, hq52, hR5, hK5⟩
  have hE5 := HE4.out.keptR hK5 hX1
  have hX5 := hK5.size
  have hB5 := kept_below HB4.out hK5 (by omega) HB4.out.size
  cases b
  · have HE5 := Lib.hid hE5
    have HB5 := Lib.hid hB5
    have HR5 := Lib.hid hR5
    clear hE5 hB5 hR5 hK5
    go_wp2_with fail
    refine (pick rb q5 _ _ HR5.out (by omega) (by omega) (by omega)).mono ?_
    rintro e w6 ⟨r6, rfl, h60, h61, hR6, hK6⟩
    have HE6 := Lib.hid (HE5.out.keptR hK6 hX1)
    have HB6 := Lib.hid (kept_below HB5.out hK6 (by omega) HB5.out.size)
    go_wp2_with fail
    refine (pick rb (q5 + 1) _ _ hR6 (by omega) (by omega) (by omega)).mono ?_
    rintro e w7 ⟨r7, rfl, h70, h71, hR7, hK7⟩
    have HE7 := Lib.hid (HE6.out.keptR hK7 hX1)
    have HB7 := Lib.hid (kept_below HB6.out hK7 (by omega) HB6.out.size)
    go_wp2
    go_ret2
    exact ⟨_, L0, _, rfl, HE7.out.lower hX3, HOK.out, by have := HN.out; omega, HB7.out⟩
  · go_wp2_with fail
    refine (l20Token rb q5 _ _ hR5 (by omega) (by omega) (by omega)).mono ?_
    rintro e w6 ⟨tk, ts, sp, ao, tm, tc, tl, tf, q6, rfl, dR, dok, dlo, dty, hq6, hR6, hK6⟩
    have hE6 := hE5.keptR hK6 hX1
    have hB6 := kept_below hB5 hK6 (by omega) hB5.size
    have HE6 := Lib.hid hE6
    have HB6 := Lib.hid hB6
    have HT := Lib.hid (And.intro dR (And.intro (fun b hb => Nat.le_trans (Nat.le_trans hX2 hX5) (dlo b hb)) dty))
    have HDK := Lib.hid dok
    have HR6 := Lib.hid hR6
    have hbs := hB6.size
    have hX6 := hK6.size
    have hbX : w2.heap.size ≤ w6.heap.size := by omega
    have HG := Lib.hid (fun b hb => Nat.le_trans hX3 (HE6.out.mine b hb))
    have HGR := Lib.hid (fun b hb => Nat.lt_of_lt_of_le hX1 (HE6.out.mine b hb))
    clear hE6 hB6 dR dlo dty dok hK6 hR6 hE5 hB5 hK5 hR5 HE4 HB4 HR4
    go_wp2_with (at_builtin; refine wp_append_tokE rfl (.tmp 20) (.tmp 23) rfl w2.heap.size v4 L0 rfl HE6.out tk ts sp ao tm tc tl tf rfl HT.out.1 HT.out.2.1 HT.out.2.2 (by have := HN.out; omega) hbX ?_; intro v7 w7 hE7 hg7; have HF := Lib.hid (HB6.out.grown hg7 hbs HG.out); have HE7 := Lib.hid hE7; have HR7 := Lib.hid (grownRd' HR6.out hg7 hX1 (fun b hb => HE6.out.mine b hb)); clear hE7 hg7)
    go_wp2_with fail
    refine (pick rb q6 _ _ HR7.out (by omega) (by omega) (by omega)).mono ?_
    rintro e w8 ⟨r8, rfl, h80, h81, hR8, hK8⟩
    have HE8 := Lib.hid (HE7.out.keptR hK8 hX1)
    have HB8 := Lib.hid (kept_below HF.out hK8 (by omega) HF.out.size)
    go_wp2_with fail
    refine (pick rb (q6 + 1) _ _ hR8 (by omega) (by omega) (by omega)).mono ?_
    rintro e w9 ⟨r9, rfl, h90, h91, hR9, hK9⟩
    have HE9 := Lib.hid (HE8.out.keptR hK9 hX1)
    have HB9 := Lib.hid (kept_below HB8.out hK9 (by omega) HB8.out.size)
    go_wp2
    go_ret2
    exact ⟨_, _, _, rfl, HE9.out.lower hX3, okApp HOK.out HDK.out, by have := HN.out; rw [List.length_append]; simp; omega, HB9.out⟩

end Go.Proofs.Ythbojipdhgidlaa

/- The law's fixed answer. -/
namespace Go.Proofs.Ythbojipdhgidlaa
open Go.RowKit

theorem small_ok {s : ByteArray} (h : s.size ≤ 1000000) : s.size ≤ maxLen := by unfold maxLen; omega
theorem line_ab (w : World) : Calls Try.prog 41 #[.string ⟨#[97, 32, 98]⟩] w fun e w' => e = .returned (.bool true) ∧ w = w' := by
  have := impl_LineValid ⟨#[97, 32, 98]⟩ w (small_ok (by decide))
  rwa [show lineOk ⟨#[97, 32, 98]⟩ = true from by decide] at this
theorem line_nl (w : World) : Calls Try.prog 41 #[.string ⟨#[10]⟩] w fun e w' => e = .returned (.bool false) ∧ w = w' := by
  have := impl_LineValid ⟨#[10]⟩ w (small_ok (by decide))
  rwa [show lineOk ⟨#[10]⟩ = false from by decide] at this
theorem alive (w : World) : Calls Try.prog 17 #[] w fun e w' => e = .returned (.bool true) ∧ w = w' := by
  go_enter Try.func17, Try.ntmps17
  go_wp2_with fail
  refine (line_ab _).mono ?_
  rintro e w' ⟨rfl, rfl⟩
  go_wp2_with fail
  refine (line_nl _).mono ?_
  rintro e w' ⟨rfl, rfl⟩
  go_wp2
  go_ret
  exact ⟨rfl, rfl⟩

end Go.Proofs.Ythbojipdhgidlaa

/- The drawing of tokens, and in which blocks their hidden names lie. (Made by gen_drawtks2.py.) -/
namespace Go.Proofs.Ythbojipdhgidlaa
open Go.RowKit

/-- Blocks of texts. -/
def StrTy (w : World) (fp : List Nat) : Prop := ∀ b ∈ fp, ∃ cur fr, w.heap[b]? = some (.cells cur 9 fr)
theorem StrTy.same {w w' : World} {fp : List Nat} (h : StrTy w fp) (hb : ∀ b ∈ fp, b < w.heap.size → w'.heap[b]? = w.heap[b]?) : StrTy w' fp := fun b hb' => by
  obtain ⟨cur, fr, h1⟩ := h b hb'
  exact ⟨cur, fr, (hb b hb' (Array.getElem?_eq_some_iff.1 h1).1).trans h1⟩
theorem StrTy.below {w w' : World} {fp : List Nat} (h : StrTy w fp) (hb : Below w.heap.size w w') : StrTy w' fp := h.same fun b _ hl => hb.block b hl
theorem StrTy.kept {w w' : World} {fp : List Nat} {rb : Nat} (h : StrTy w fp) (hk : Kept [rb] w w') (hn : ∀ b ∈ fp, b ≠ rb) : StrTy w' fp := h.same fun b hb hl => hk.block b hl (by simpa using hn b hb)
theorem StrTy.far {w : World} {fp : List Nat} {g : Nat} (h : StrTy w fp) (hn : ∀ b ∈ fp, b ≠ g) (o : Nat) (u : Value) : StrTy (w.setCell ⟨g, o, none⟩ u) fp := h.same fun b hb _ => Below.heap_setCell _ _ _ _ (hn b hb)
theorem StrTy.grown {w w' : World} {fp : List Nat} {r : Option Nat} (h : StrTy w fp) (hg : w.grownBy w' r) (hn : ∀ b ∈ fp, some b ≠ r) : StrTy w' fp := h.same fun b hb hl => hg.block b hl (hn b hb)
theorem StrTy.ne {w : World} {fp : List Nat} (h : StrTy w fp) {base e m n : Nat} {v : Value} {xs : List Value} (hrow : w.ownsRow base e m v n xs) (he : e ≠ 9) : ∀ b ∈ fp, some b ≠ v.ownBlock := fun b hb e' => by
  obtain ⟨cur, fr, h1⟩ := h b hb
  rcases hrow.2 with ⟨h', _⟩ | ⟨g, cap, cur', h', _, hg, _⟩
  · rw [h'] at e'; simp [Value.ownBlock] at e'
  · rw [h'] at e'
    simp only [Value.ownBlock, Option.some.injEq] at e'
    subst e'
    rw [h1] at hg
    simp only [Option.some.injEq, Obj.cells.injEq] at hg
    exact he hg.2.1.symm
/-- Tokens are drawn, by at most n picks. -/
def DrawnToksS (rb p n : Nat) (least : Nat) (w : World) (e : Ending) (w' : World) : Prop :=
  ∃ (v : Value) (L : List (Elem Tok)) (q : Nat), e = .returned v ∧ RowE sTok w.heap.size 56 v L w' ∧ (∀ x ∈ L, okTok x.d) ∧ least ≤ L.length ∧ L.length ≤ 61 ∧ q ≤ p + n ∧ Rd w' rb q ∧ Kept [rb] w w' ∧ (∀ x ∈ L, StrTy w' x.fp)
def PickedTokS (B g : Nat) (i : Nat) (w : World) : Prop :=
  ∃ (k : Int) (s : ByteArray) (ao : Option Addr) (m : Nat) (l : List ByteArray) (fp : List Nat),
    w.cell? ⟨g, i * 4, none⟩ = some (.int .i64 k) ∧ w.cell? ⟨g, i * 4 + 1, none⟩ = some (.string s) ∧ w.cell? ⟨g, i * 4 + 2, none⟩ = some (.bool false) ∧ w.cell? ⟨g, i * 4 + 3, none⟩ = some (.slice ao m m) ∧
    sTok.R w [.int .i64 k, .string s, .bool false, .slice ao m m] ⟨k, s, false, l⟩ fp ∧ okTok ⟨k, s, false, l⟩ ∧ (∀ b ∈ fp, B ≤ b) ∧ (∀ b ∈ fp, ∃ cur t fr, w.heap[b]? = some (.cells cur t fr) ∧ t ≠ 56) ∧ StrTy w fp
theorem bad_pickS {w w4 : World} {rb : Nat} {r : Int} (hr : rb < w.heap.size) (hK : Kept [rb] (badW w) w4) (h0 : 0 ≤ r) (h1 : r < 8) : PickedTokS w.heap.size (w.heap.size + 1 + 1) r.toNat w4 := by
  have gs := badW_size w
  have k0 := (hK.block _ (by omega) (by simp; omega)).trans (badW_blk w 0 (by omega))
  have k1 := (hK.block _ (by omega) (by simp; omega)).trans (badW_blk w 1 (by omega))
  have k2 := (hK.block _ (by omega) (by simp; omega)).trans (badW_blk w 2 (by omega))
  have hr8 : r.toNat < (badE w.heap.size).length := by show _ < 8; omega
  have hmem := List.getElem_mem hr8
  obtain ⟨hok, k, s, ao, m, l, fp, hx, hways⟩ := badE_form _ _ hmem
  have hc : ∀ j, j < 4 → w4.cell? ⟨w.heap.size + 1 + 1, r.toNat * 4 + j, none⟩ = (tokE k s ao m l fp).cells[j]? := fun j hj => by
    rw [cell_of_row w4 (w.heap.size + 1 + 1) (r.toNat * 4 + j) _ _ _ k2, List.getElem?_toArray, flatMap_at (f := Elem.cells) (badE_len _) hr8 hj, hx]
  rw [hx] at hok
  obtain ⟨o1, o2, o3, o4⟩ := hok
  have b1 : okInt k := ⟨by have : 0 ≤ k := o2; omega, by have : k ≤ 4 := o3; omega⟩
  have b2 : okStr s := by unfold okStr maxLen; have : s.size ≤ 1000 := o1; omega
  refine ⟨k, s, ao, m, l, fp, hc 0 (by omega), hc 1 (by omega), hc 2 (by omega), hc 3 (by omega), ?_, ⟨o1, o2, o3, o4⟩, ?_, ?_, ?_⟩
  · rcases hways with ⟨rfl, rfl, rfl, rfl⟩ | ⟨rfl, rfl, rfl, rfl⟩ | ⟨rfl, rfl, rfl, rfl⟩
    · exact ⟨_, rfl, b1, b2, slice_empty sStr _ _ _ (by simp)⟩
    · exact ⟨_, rfl, b1, b2, lit_strs (l := [⟨#[98]⟩, ⟨#[97]⟩]) k0 (by decide) (by decide) (by decide) 2 rfl⟩
    · exact ⟨_, rfl, b1, b2, lit_strs (l := [⟨#[49]⟩]) k1 (by decide) (by decide) (by decide) 1 rfl⟩
  · intro b hb
    rcases hways with ⟨rfl, _⟩ | ⟨rfl, _⟩ | ⟨rfl, _⟩ <;> simp at hb <;> omega
  · intro b hb
    rcases hways with ⟨rfl, _⟩ | ⟨rfl, _⟩ | ⟨rfl, _⟩ <;> simp at hb <;> subst hb
    · exact ⟨_, _, _, k0, by decide⟩
    · exact ⟨_, _, _, k1, by decide⟩
  · intro b hb
    rcases hways with ⟨rfl, _⟩ | ⟨rfl, _⟩ | ⟨rfl, _⟩ <;> simp at hb <;> subst hb
    · exact ⟨_, _, k0⟩
    · exact ⟨_, _, k1⟩

set_option maxHeartbeats 8000000 in
set_option maxRecDepth 100000 in
theorem l20Tokens_s (rb p : Nat) (n : Int) (w : World) (H : Rd w rb p) (hp : p ≤ 100000) (hn : n ≤ 100) (hn0 : 0 ≤ n) (least : Nat) (hl : least ≤ 1) (hl1 : 0 < least → n = 1) :
    Calls Try.prog 36 #[.pointer (some ⟨rb, 0, none⟩), .int .i64 n] w (DrawnToksS rb p 300 least w) := by
  have hrb := H.lt
  go_enter Try.func36, Try.ntmps36
  go_wp2_with fail
  refine (l20Line rb p _ _ H hp (by omega) (by omega)).mono ?_
  rintro e w1 ⟨s, q1, rfl, hs, hq1, hR1, hK1⟩
  go_wp2_with fail
  refine (spec_TokensOf_row s _ (by unfold maxLen; omega)).mono ?_
  rintro e w2 ⟨v, rfl, hrow, hfr, hB2⟩
  have hcnt := (tokRes_all s).1
  obtain ⟨hE0, hok0⟩ := toks_rowE hrow hfr hs
  have hR2 := hR1.grow hB2
  have hK2 := hK1.trans (Kept.of_below (fp := [rb]) hB2)
  replace hE0 := hE0.lower hK1.size
  have HN : Hid (((tokRes s).1.map elemTok).length ≤ 60) := by show _ ≤ _; rw [List.length_map]; exact hcnt
  have hst0 : ∀ x ∈ (tokRes s).1.map elemTok, StrTy w2 x.fp := fun x hx b hb => by
    obtain ⟨t, _, rfl⟩ := List.mem_map.1 hx
    simp [elemTok] at hb
  generalize (tokRes s).1.map elemTok = L0 at hE0 hok0 HN hst0
  have HST0 := Lib.hid hst0
  clear hst0
  generalize (tokRes s).2 = b0 at *
  clear hrow hfr hcnt hB2 hR1 hK1
  obtain ⟨a, cap, rfl, hc, hm, hpos⟩ := hE0.val
  unfold maxLen at hm
  have hlen := HN.out
  go_wp2
  go_loopw [7] (fun i wr => ∃ (k q : Nat) (L : List (Elem Tok)), k ≤ L0.length ∧ i = .int .i64 k ∧ q ≤ q1 + 2 * k ∧ Hid (L.length = L0.length) ∧ RowE sTok w.heap.size 56 (.slice a L0.length cap) L wr ∧ (∀ x ∈ L, okTok x.d) ∧ Rd wr rb q ∧ Kept [rb] w wr ∧ Hid (∀ x ∈ L, StrTy wr x.fp)) (fun i _ => L0.length - (intOf i).toNat)
  case atStart => exact ⟨0, q1, L0, by omega, rfl, by omega, rfl, hE0, hok0, hR2, hK2, HST0⟩
  case round =>
    obtain ⟨k, q, L, hk, rfl, hq, HL, hE, hok, hR, hK, HST⟩ := hrel
    clear hE0 hok0 hR2 hK2 HST0
    by_cases hlt : k < L0.length
    · obtain ⟨g, rfl, hg1, hg2⟩ := hpos (by omega)
      go_wp2_with fail
      refine (pick rb q _ _ hR (by omega) (by omega) (by omega)).mono ?_
      rintro e w3 ⟨r, rfl, h0, h1, hR3, hK3⟩
      have hE3 := hE.keptR hK3 hrb
      have HST3 : Hid (∀ x ∈ L, StrTy w3 x.fp) := fun x hx => (HST.out x hx).kept hK3 (fun b hb => by have := hE.lo x hx b hb; omega)
      have hK3' := hK.trans hK3
      by_cases hr : r = 0
      · have hr' : (r == 0) = true := by simp [hr]
        clear hr
        go_wp2_with fail
        refine (pick rb (q + 1) _ _ (hR3.grow (hidW_below w3)) (by omega) (by omega) (by omega)).mono ?_
        rintro e w4 ⟨r2, rfl, h20, h21, hR4, hK4⟩
        obtain ⟨hb, hn', l, hcl, hRl, hll, hlb, hty⟩ := hid_lits hR3.lt hK4 h20 (by omega)
        have hE4 := (hE3.below (hidW_below w3)).keptR hK4 hrb
        have HST4 : Hid (∀ x ∈ L, StrTy w4 x.fp) := fun x hx => ((HST3.out x hx).below (hidW_below w3)).kept hK4 (fun b hb => by have := hE3.lo x hx b hb; omega)
        have hK4' := (hK3'.trans (Kept.of_below (fp := [rb]) (hidW_below w3))).trans hK4
        have hkL : k < L.length := by rw [HL.out]; exact hlt
        have hkm := List.getElem_mem hkL
        obtain ⟨hh, hcs, hi, hst, _⟩ := hE4.el _ hkm
        have HCS := Lib.hid hcs
        have c3 : w4.cell? ⟨g, k * 4 + 3, none⟩ = some hh := hE4.cellAt hkL (j := 3) (by decide) (by rw [hcs]; rfl)
        have f3 : w4.frozen? ⟨g, k * 4 + 3, none⟩ = false := hE4.frozen _
        have HOK := Lib.hid (hok _ hkm)
        have HI := Lib.hid (And.intro hi hst)
        obtain ⟨cur, fr, hcur⟩ := hty
        have HS : Hid (RowE sTok w.heap.size 56 (.slice (some ⟨g, 0, none⟩) L0.length cap) (L.set k ⟨[.int .i64 L[k].d.kind, .string L[k].d.text, .bool L[k].d.spaced, .slice (some ⟨hb, 0, none⟩) hn' hn'], ⟨L[k].d.kind, L[k].d.text, L[k].d.spaced, l⟩, [hb]⟩) (w4.setCell ⟨g, k * 4 + 3, none⟩ (.slice (some ⟨hb, 0, none⟩) hn' hn'))) := by
          refine hE4.set hkL (j := 3) (by decide) _ _ (by rw [HCS.out]; rfl) ⟨_, rfl, HI.out.1, HI.out.2, hRl⟩ (fun b hb' => ?_) (fun b hb' => ?_)
          · have e : b = hb := by simpa using hb'
            subst e
            have := hK3'.size; omega
          · have e : b = hb := by simpa using hb'
            subst e
            exact ⟨cur, _, fr, hcur, by decide⟩
        have HSTs : Hid (∀ x ∈ L.set k ⟨[.int .i64 L[k].d.kind, .string L[k].d.text, .bool L[k].d.spaced, .slice (some ⟨hb, 0, none⟩) hn' hn'], ⟨L[k].d.kind, L[k].d.text, L[k].d.spaced, l⟩, [hb]⟩, StrTy (w4.setCell ⟨g, k * 4 + 3, none⟩ (.slice (some ⟨hb, 0, none⟩) hn' hn')) x.fp) := by
          intro x hx
          rcases List.mem_or_eq_of_mem_set hx with h | h
          · exact (HST4.out x h).far (fun b hb e => hE4.ap h hb (by rw [e]; rfl)) _ _
          · subst h
            intro b hb'
            have e : b = hb := by simpa using hb'
            subst e
            refine ⟨cur, fr, blk_other hcur (fun e => ?_) _ _⟩
            have hg := hE4.row.2
            rcases hg with ⟨h', _⟩ | ⟨g', cap', cur', h', _, hgc, _⟩
            · cases h'
            · simp only [Value.slice.injEq, Option.some.injEq, Addr.mk.injEq, and_true] at h'
              obtain ⟨rfl, _⟩ := h'
              rw [← e, hcur] at hgc
              simp only [Option.some.injEq, Obj.cells.injEq] at hgc
              exact absurd hgc.2.1 (by decide)
        have HOKs : Hid (∀ x ∈ L.set k ⟨[.int .i64 L[k].d.kind, .string L[k].d.text, .bool L[k].d.spaced, .slice (some ⟨hb, 0, none⟩) hn' hn'], ⟨L[k].d.kind, L[k].d.text, L[k].d.spaced, l⟩, [hb]⟩, okTok x.d) := by
          intro x hx
          rcases List.mem_or_eq_of_mem_set hx with h | h
          · exact hok x h
          · subst h; exact ⟨HOK.out.1, HOK.out.2.1, HOK.out.2.2.1, hll⟩
        have HLs : Hid ((L.set k ⟨[.int .i64 L[k].d.kind, .string L[k].d.text, .bool L[k].d.spaced, .slice (some ⟨hb, 0, none⟩) hn' hn'], ⟨L[k].d.kind, L[k].d.text, L[k].d.spaced, l⟩, [hb]⟩).length = L0.length) := by show _ = _; rw [List.length_set]; exact HL.out
        have hR5 : Hid (Rd (w4.setCell ⟨g, k * 4 + 3, none⟩ (.slice (some ⟨hb, 0, none⟩) hn' hn')) rb (q + 1 + 1)) := hR4.kept ((Kept.refl [g] w4).setCell (p := ⟨g, k * 4 + 3, none⟩) (by simp) _) (fun b hb' => by have e : b = g := (by simpa using hb'); omega)
        have hK5 : Hid (Kept [rb] w (w4.setCell ⟨g, k * 4 + 3, none⟩ (.slice (some ⟨hb, 0, none⟩) hn' hn'))) := keptSet hK4' hg1 _ _
        clear HST HST3 HST4 hcs hok hE hE3 hE4 hi hst HCS HI hcur hR3 hK hK3 hK3' hK4 hR hRl hkm hR4 hK4'
        go_wp2
        go_roundw
        case rel => exact ⟨k + 1, q + 1 + 1, _, by omega, by go_num, by omega, HLs.out, HS.out, HOKs.out, hR5.out, hK5.out, HSTs⟩
        case measure => simp [intOf]; omega
      · have hr' : (r == 0) = false := by simp [hr]
        clear hr
        go_wp2
        go_roundw
        case rel => exact ⟨k + 1, q + 1, L, by omega, by go_num, by omega, HL, hE3, hok, hR3, hK3', HST3⟩
        case measure => simp [intOf]; omega
    · go_wp2_with fail
      refine (oddT rb q _ _ hR (by omega) (by omega) (by omega)).mono ?_
      rintro e w3 ⟨b, q2, rfl, hb1, hq1', hq2, hR3, hK3⟩
      have hE3 := hE.keptR hK3 hrb
      have HST3 : Hid (∀ x ∈ L, StrTy w3 x.fp) := fun x hx => (HST.out x hx).kept hK3 (fun b hb => by have := hE.lo x hx b hb; omega)
      have hK3' := hK.trans hK3
      have HL1 := HL.out
      clear hE hK hR
      cases b
      · have HZ : Hid (least = 0) := by
          show _ = _
          by_cases h : 0 < least
          · exact absurd (hb1.out (hl1 h)) (by decide)
          · omega
        go_wp2
        go_ret
        exact ⟨_, L, q2, rfl, hE3, hok, by rw [HZ.out]; omega, by omega, by omega, hR3, hK3', HST3.out⟩
      · go_wp2_with fail
        refine (pick rb q2 _ _ (hR3.grow (badW_below w3)) (by omega) (by omega) (by omega)).mono ?_
        rintro e w4 ⟨r2, rfl, h20, h21, hR4, hK4⟩
        obtain ⟨tk, ts, ao, tm, tl, tf, d0, d1, d2, d3, dR, dok, dlo, dty, dst⟩ := bad_pickS hR3.lt hK4 h20 (by omega)
        have hE4 := (hE3.below (badW_below w3)).keptR hK4 hrb
        have HST4 : Hid (∀ x ∈ L, StrTy w4 x.fp) := fun x hx => ((HST3.out x hx).below (badW_below w3)).kept hK4 (fun b hb => by have := hE3.lo x hx b hb; omega)
        have HDST := Lib.hid dst
        have hK4' := (hK3'.trans (Kept.of_below (fp := [rb]) (badW_below w3))).trans hK4
        have hw4 : w3.heap.size ≤ w4.heap.size := Nat.le_trans (badW_below w3).size hK4.size
        have hw0 := hK4'.size
        have HT := Lib.hid (And.intro dR (And.intro (fun b hb => Nat.le_trans (Nat.le_trans hK3'.size (Nat.le_refl _)) (dlo b hb)) dty))
        have HR4 := Lib.hid hR4
        have HE4 := Lib.hid hE4
        have HOK := Lib.hid hok
        have HDK := Lib.hid dok
        have HK4' := Lib.hid hK4'
        clear hE3 hK3 hK3' hK4 hR3 dR dlo dty dst hE4 hR4 hok dok hK4' HL HN HST HST3
        go_wp2_with (at_builtin; refine wp_append_tokE rfl (.tmp 51) (.tmp 59) rfl w.heap.size (.slice a L0.length cap) L rfl HE4.out tk ts false ao tm tm tl tf rfl HT.out.1 HT.out.2.1 HT.out.2.2 (by omega) hw0 ?_; intro v5 w5 hE5 hg5)
        go_ret
        exact ⟨v5, _, q2 + 1, rfl, hE5, okApp HOK.out HDK.out, by rw [List.length_append]; simp; omega, by rw [List.length_append]; simp; omega, by omega, grownRd HR4.out hg5 hrb HE4.out.mine, grownKept HK4'.out hg5 HE4.out.mine, fun x hx => by
          rcases List.mem_append.1 hx with hx | hx
          · exact (HST4.out x hx).grown hg5 (fun b hb e => HE4.out.ap hx hb e.symm)
          · obtain rfl := List.mem_singleton.1 hx
            exact HDST.out.grown hg5 (fun b hb e => HDST.out.ne HE4.out.row (by decide) b hb e)⟩

end Go.Proofs.Ythbojipdhgidlaa
