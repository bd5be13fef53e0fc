/- Texts that the proof of U stands on, in one file. -/
import Derived.Test.YtipfpppcbmpjiaaZU6
import Derived.Test.YtipfpppcbmpjiaaZU14
import Derived.Lib.Join
import Derived.Test.YtipfpppcbmpjiaaZU9
import Derived.Test.YtipfpppcbmpjiaaZU8
import Derived.Test.YtipfpppcbmpjiaaZU11
import Derived.Test.YtipfpppcbmpjiaaZU1
set_option linter.unusedVariables false
set_option linter.unusedSimpArgs false
/- MacroText of both. (Made by gen_mac7.py.) -/
namespace Go.Proofs.Ytipfpppcbmpjiaa
open Go.RowKit

/-! ### The head's bytes -/
theorem name_size {s : ByteArray} (h : oneTok s 1 = true) : s.size ≤ 12 := (name_facts h).2.1
end Go.Proofs.Ytipfpppcbmpjiaa

/- Macros are drawn. (Made by gen_drawmac.py.) -/
namespace Go.Proofs.Ytipfpppcbmpjiaa
open Go.RowKit

/-- A drawn macro: small. -/
def okMac (m : DMacro) : Prop := m.name.size ≤ 1000 ∧ m.params.length ≤ 100 ∧ m.body.length ≤ 100 ∧ ∀ t ∈ m.body, t.hidden.length ≤ 3
/-- What is read out of tokens is small, and hides nothing. -/
theorem of_small (l : List Tok) : (macOf l).1.name.size ≤ 12 ∧ (macOf l).1.params.length ≤ 4 ∧ (macOf l).1.body.length ≤ 20 ∧ ∀ t ∈ (macOf l).1.body, t.hidden = [] := by
  rcases h : macOf l with ⟨m, ok⟩
  cases ok
  · have := macOf_no h
    subst this
    exact ⟨by show (0 : Nat) ≤ 12; omega, by show (0 : Nat) ≤ 4; omega, by show (0 : Nat) ≤ 20; omega, fun t ht => by simp [zeroMac] at ht⟩
  · obtain ⟨⟨h1, h2, h3, h4, h5⟩, h6, h7⟩ := macOk_facts (macOf_ok h)
    refine ⟨name_size h1, h3, h5, fun t ht => ?_⟩
    obtain ⟨k, hk, rfl⟩ := List.getElem_of_mem ht
    exact (bodOk_facts hk (h7 k hk)).2.1
/-- A macro is drawn, by at most n picks. -/
def DrawnMac (rb p n : Nat) (w : World) (e : Ending) (w' : World) : Prop :=
  ∃ (nm : ByteArray) (f : Bool) (a2 a3 : Option Addr) (n2 c2 n3 c3 : Nat) (ps : List ByteArray) (bd : List Tok) (fp : List Nat) (q : Nat), e = .returned (.agg #[.string nm, .bool f, .slice a2 n2 c2, .slice a3 n3 c3]) ∧
    sMacro.R w' [.string nm, .bool f, .slice a2 n2 c2, .slice a3 n3 c3] ⟨nm, f, ps, bd⟩ fp ∧ okMac ⟨nm, f, ps, bd⟩ ∧ (∀ b ∈ fp, w.heap.size ≤ b) ∧ q ≤ p + n ∧ Rd w' rb q ∧ Kept [rb] w w'

/-- Four cells of a result. -/
theorem set4_mac {w wP : World} {g rb q : Nat} {nm : ByteArray} {f : Bool} {s2 s3 : Value} {m : DMacro} {fp : List Nat} (HZ : wP.heap[g]? = some (.cells #[.string ⟨#[]⟩, .bool false, .slice none 0 0, .slice none 0 0] 70 (0, 0))) (R : sMacro.R wP [.string nm, .bool f, s2, s3] m fp) (hn : g ∉ fp) (HR : Rd wP rb q) (hr : rb < g) (HK : Kept [rb] w wP) (hg : w.heap.size ≤ g) :
    (set4 wP g (.string nm) (.bool f) s2 s3).heap[g]? = some (.cells #[.string nm, .bool f, s2, s3] 70 (0, 0)) ∧ sMacro.R (set4 wP g (.string nm) (.bool f) s2 s3) [.string nm, .bool f, s2, s3] m fp ∧ Rd (set4 wP g (.string nm) (.bool f) s2 s3) rb q ∧ Kept [rb] w (set4 wP g (.string nm) (.bool f) s2 s3) :=
  ⟨blk_set (blk_set (blk_set (blk_set HZ 0 _) 1 _) 2 _) 3 _, sMacro.setB (sMacro.setB (sMacro.setB (sMacro.setB R hn 0 _) hn 1 _) hn 2 _) hn 3 _, rdSet (rdSet (rdSet (rdSet HR hr 0 _) hr 1 _) hr 2 _) hr 3 _, keptSet (keptSet (keptSet (keptSet HK hg _ 0) hg _ 1) hg _ 2) hg _ 3⟩
theorem dm_ret {rb p n q : Nat} {w wF : World} {nm : ByteArray} {f : Bool} {a2 a3 : Option Addr} {n2 c2 n3 c3 : Nat} {ps : List ByteArray} {bd : List Tok} {fp : List Nat} (hR : sMacro.R wF [.string nm, .bool f, .slice a2 n2 c2, .slice a3 n3 c3] ⟨nm, f, ps, bd⟩ fp) (ho : okMac ⟨nm, f, ps, bd⟩) (hlo : ∀ b ∈ fp, w.heap.size ≤ b) (hq : q ≤ p + n) (hRd : Rd wF rb q) (hK : Kept [rb] w wF) :
    DrawnMac rb p n w (.returned (.agg #[.string nm, .bool f, .slice a2 n2 c2, .slice a3 n3 c3])) wF := ⟨nm, f, a2, a3, n2, c2, n3, c3, ps, bd, fp, q, rfl, hR, ho, hlo, hq, hRd, hK⟩

/-- append of any tokens that can be read, and hide nothing, behind a row of the call's own. -/
theorem wp_append_toksR {w : World} {ops : Array Oper} {rest : List Oper} {o : Oper} {a : Act} {Q : Exit → Act → World → Prop} (hg : o.guard = none) (s y : Operand)
    (ho : o.op = .call { callee := .builtin .append, args := #[s, y], argTypes := #[24, 24] })
    (base : Nat) (v u : Value) (L : List (Elem Tok)) (M : List Tok) (fp : List Nat) (hs : a.eval s = v) (hown : RowE sTok base 33 v L w) (hy : a.eval y = u) (HM : (sSlice sTok).R w [u] M fp) (hh : ∀ t ∈ M, t.hidden = [])
    (h63 : L.length + M.length ≤ 2000000) (hbase : base ≤ w.heap.size)
    (h : ∀ v' X w', X.map (·.d) = M → (∀ x ∈ X, x.fp = []) → RowE sTok base 33 v' (L ++ X) w' → w.grownBy w' v.ownBlock → wpList Try.prog ops Q rest (a.put o.dst v') w') : wpList Try.prog ops Q (o :: rest) a w := by
  obtain ⟨i, hi, hz0, hz1, hz2⟩ := info_parts ti_tok.2
  obtain ⟨ad, cap, rfl, hc, hm, hrow⟩ := open_rows HM
  by_cases h0 : 0 < M.length
  · obtain ⟨b, off, fps, rfl, hb, -, he⟩ := hrow h0
    have hex : ∀ k, (hk : k < M.length) → ∃ hh : Value, ElemAt w b off 4 k [.int .i64 M[k].kind, .string M[k].text, .bool M[k].spaced, hh] ∧ sTok.R w [.int .i64 M[k].kind, .string M[k].text, .bool M[k].spaced, hh] M[k] [] ∧ hh.oneCell' = true := fun k hk => by
      obtain ⟨es, hE, hR⟩ := he k hk
      have hk0 := hh _ (List.getElem_mem hk)
      obtain ⟨hv, rfl, k1, k2, hK⟩ := hR
      obtain ⟨ao, co, rfl, hc1, hm1, -⟩ := open_rows hK
      exact ⟨_, hE, ⟨_, rfl, k1, k2, by rw [hk0]; exact slice_empty sStr w ao co hm1⟩, rfl⟩
    let X : List (Elem Tok) := List.ofFn fun (k : Fin M.length) => (⟨[.int .i64 M[k.1].kind, .string M[k.1].text, .bool M[k.1].spaced, (hex k.1 k.2).choose], M[k.1], []⟩ : Elem Tok)
    have hXl : X.length = M.length := by simp [X]
    have hXg : ∀ k, (hk : k < X.length) → X[k] = ⟨[.int .i64 (M[k]'(by omega)).kind, .string (M[k]'(by omega)).text, .bool (M[k]'(by omega)).spaced, (hex k (by omega)).choose], M[k]'(by omega), []⟩ := fun k hk => by simp [X]
    have hXm : ∀ x ∈ X, ∃ k, ∃ hk : k < M.length, x = ⟨[.int .i64 M[k].kind, .string M[k].text, .bool M[k].spaced, (hex k hk).choose], M[k], []⟩ := fun x hx => by
      obtain ⟨k, hk, rfl⟩ := List.getElem_of_mem hx
      exact ⟨k, by omega, hXg k hk⟩
    have hXd : X.map (·.d) = M := List.ext_getElem (by simpa using hXl) fun k h1 h2 => by rw [List.getElem_map, hXg k (by simpa using h1)]
    have hX4 : ∀ x ∈ X, x.cells.length = 4 := fun x hx => by obtain ⟨k, hk, rfl⟩ := hXm x hx; rfl
    have hX1 : ∀ x ∈ X, ∀ u ∈ x.cells, u.oneCell' = true := fun x hx u hu => by
      obtain ⟨k, hk, rfl⟩ := hXm x hx
      have := (hex k hk).choose_spec.2.2
      simp only [List.mem_cons, List.not_mem_nil, or_false] at hu
      rcases hu with rfl | rfl | rfl | rfl
      · rfl
      · rfl
      · rfl
      · exact this
    refine wpList_append_own _ hg s y _ ho base _ i _ 4 _ ti_tok.1 hi hz0 hz1 hz2 rfl (by decide) v L.length _ hs hown.row ⟨b, off, none⟩ M.length cap (X.flatMap (·.cells)) hy (by rw [flatMap_len hX4, hXl]) ?_ ?_ (by unfold maxLen; omega) (by omega) hbase fun v' w' h1 h2 _ => h v' X w' hXd (fun x hx => by obtain ⟨k, hk, rfl⟩ := hXm x hx; rfl) (hown.appended (X := X) (by rw [List.length_append, hXl, List.flatMap_append]; exact h1) h2 hX4 (fun x hx => by obtain ⟨k, hk, rfl⟩ := hXm x hx; exact (hex k hk).choose_spec.2.1) (fun x hx b hb => by obtain ⟨k, hk, rfl⟩ := hXm x hx; simp at hb) (fun x hx b hb => by obtain ⟨k, hk, rfl⟩ := hXm x hx; simp at hb)) h2
    · intro j u hj
      have hjl : j < X.length * 4 := by have := (List.getElem?_eq_some_iff.1 hj).1; rwa [flatMap_len hX4] at this
      have hdm : j = j / 4 * 4 + j % 4 := by omega
      have hk : j / 4 < X.length := by omega
      rw [hdm, flatMap_at (f := Elem.cells) hX4 hk (by omega), hXg _ hk] at hj
      have hE := (hex (j / 4) (by omega)).choose_spec.1
      have := hE.2 (j % 4) (by omega)
      rw [Addr.add_lit, show off + j = off + j / 4 * 4 + j % 4 by omega, this]
      exact hj
    · intro u hu
      obtain ⟨x, hx, hu⟩ := List.mem_flatMap.1 hu
      exact hX1 x hx u hu
  · have hM : M = [] := List.length_eq_zero_iff.1 (by omega)
    subst hM
    cases ad with
    | none =>
      have hrun := run_append_nil (P := Try.prog) (w := w) base _ o.type _ i 4 cap ti_tok.1 hi v L.length _ hown.row
      have hK := h v [] w rfl (by simp) (by simpa using hown) ⟨rfl, rfl, rfl, Nat.le_refl _, fun _ _ _ => rfl⟩
      refine wpList_plain hg fun K hK' => ?_
      unfold Oper.wp
      simp only [List.length_nil] at hy
      simp [execOp, ho, resolve, invoke, builtin, hs, hy, hrun, Result.andThen]
      exact hK' _ _ hK
    | some ad =>
      refine wpList_append_own _ hg s y _ ho base _ i _ 4 _ ti_tok.1 hi hz0 hz1 hz2 rfl (by decide) v L.length _ hs hown.row ad 0 cap [] hy rfl (by simp) (by simp) (by unfold maxLen; omega) (by omega) hbase fun v' w' h1 h2 _ => h v' [] w' rfl (by simp) ?_ h2
      exact hown.appended (X := []) (by have h1' := h1; simp only [Nat.add_zero, List.append_nil] at h1' ⊢; exact h1') h2 (by simp) (by simp) (by simp) (by simp)

def mac_texts : List ByteArray := [⟨#[97, 32, 49]⟩, ⟨#[98, 32, 97, 32, 43, 32, 50]⟩, ⟨#[65, 66, 32, 97, 32, 98]⟩, ⟨#[102, 40, 120, 41, 32, 120, 32, 43, 32, 120]⟩, ⟨#[103, 40, 120, 44, 121, 41, 32, 120, 32, 35, 35, 32, 121]⟩, ⟨#[104, 40, 120, 41, 32, 35, 32, 120]⟩, ⟨#[101, 40, 41, 32, 55]⟩, ⟨#[97, 32, 102]⟩, ⟨#[114, 32, 114, 32, 43, 32, 49]⟩, ⟨#[112, 40, 120, 41, 32, 102, 40, 120, 41]⟩, ⟨#[113, 40, 120, 44, 121, 44, 122, 41, 32, 122, 32, 121, 32, 120]⟩, ⟨#[110]⟩, ⟨#[102, 40, 120, 41, 32, 120, 32, 35, 35, 32, 49]⟩, ⟨#[109, 40, 120, 41, 32, 40, 120, 41, 32, 42, 32, 40, 120, 41]⟩, ⟨#[98, 32, 98]⟩, ⟨#[103, 40, 120, 44, 121, 41, 32, 102, 40, 120, 41, 32, 121]⟩, ⟨#[97, 32, 40, 32, 50, 32, 41]⟩, ⟨#[120, 32, 102, 32, 40, 32, 51]⟩, ⟨#[99, 40, 120, 41, 32, 120, 32, 120]⟩, ⟨#[100, 32, 53, 32, 35, 35, 32, 54]⟩]
theorem mac_texts_size : ∀ s ∈ mac_texts, s.size ≤ 14 := by decide
def mac_names : List ByteArray := [⟨#[]⟩, ⟨#[49]⟩, ⟨#[100, 101, 102, 105, 110, 101, 100]⟩, ⟨#[97, 32, 98]⟩]
theorem mac_names_size : ∀ s ∈ mac_names, s.size ≤ 7 := by decide
def mac_pars : List ByteArray := [⟨#[120]⟩, ⟨#[49]⟩, ⟨#[]⟩]
theorem mac_pars_size : ∀ s ∈ mac_pars, s.size ≤ 1 := by decide

set_option maxHeartbeats 32000000 in
set_option maxRecDepth 100000 in
theorem l20Macro (rb p : Nat) (n : Int) (w : World) (H : Rd w rb p) (hp : p ≤ 900000) (hn : n ≤ 100) (hn0 : 0 ≤ n) :
    Calls Try.prog 49 #[.pointer (some ⟨rb, 0, none⟩), .int .i64 n] w (DrawnMac rb p 10 w) := by
  have hrb := H.lt
  have hz0 := alloc_below' w (.cells #[.string ⟨#[]⟩, .bool false, .slice none 0 0, .slice none 0 0] 70)
  have HZ := Lib.hid (heap_alloc_new w (.cells #[.string ⟨#[]⟩, .bool false, .slice none 0 0, .slice none 0 0] 70))
  have hzl := alloc_below' (w.alloc (.cells #[.string ⟨#[]⟩, .bool false, .slice none 0 0, .slice none 0 0] 70)) (.cells #[.string ⟨#[97, 32, 49]⟩, .string ⟨#[98, 32, 97, 32, 43, 32, 50]⟩, .string ⟨#[65, 66, 32, 97, 32, 98]⟩, .string ⟨#[102, 40, 120, 41, 32, 120, 32, 43, 32, 120]⟩, .string ⟨#[103, 40, 120, 44, 121, 41, 32, 120, 32, 35, 35, 32, 121]⟩, .string ⟨#[104, 40, 120, 41, 32, 35, 32, 120]⟩, .string ⟨#[101, 40, 41, 32, 55]⟩, .string ⟨#[97, 32, 102]⟩, .string ⟨#[114, 32, 114, 32, 43, 32, 49]⟩, .string ⟨#[112, 40, 120, 41, 32, 102, 40, 120, 41]⟩, .string ⟨#[113, 40, 120, 44, 121, 44, 122, 41, 32, 122, 32, 121, 32, 120]⟩, .string ⟨#[110]⟩, .string ⟨#[102, 40, 120, 41, 32, 120, 32, 35, 35, 32, 49]⟩, .string ⟨#[109, 40, 120, 41, 32, 40, 120, 41, 32, 42, 32, 40, 120, 41]⟩, .string ⟨#[98, 32, 98]⟩, .string ⟨#[103, 40, 120, 44, 121, 41, 32, 102, 40, 120, 41, 32, 121]⟩, .string ⟨#[97, 32, 40, 32, 50, 32, 41]⟩, .string ⟨#[120, 32, 102, 32, 40, 32, 51]⟩, .string ⟨#[99, 40, 120, 41, 32, 120, 32, 120]⟩, .string ⟨#[100, 32, 53, 32, 35, 35, 32, 54]⟩] 9)
  have hs1 : (w.alloc (.cells #[.string ⟨#[]⟩, .bool false, .slice none 0 0, .slice none 0 0] 70)).heap.size = w.heap.size + 1 := Array.size_push _
  have HS1 := Lib.hid hs1
  clear hs1
  have HR1 := Lib.hid ((H.grow hz0).grow hzl)
  go_enter Try.func49, Try.ntmps49
  go_wp2_with fail
  refine (pick rb p _ _ HR1.out (by omega) (by omega) (by omega)).mono ?_
  rintro e w2 ⟨r, rfl, h0, h1, hR2, hK2⟩
  obtain ⟨s, hs, hcs⟩ := lit_pick mac_texts 20 (fun s hs => Nat.le_trans (mac_texts_size s hs) (by decide)) h0 (by show r < 20; omega) (by rw [HS1.out]; omega) hK2
  rw [HS1.out] at hcs
  have hb2 := hz0.trans (hzl.mono hz0.size)
  have hK02 := (Kept.of_below (fp := [rb]) hb2).trans hK2
  have HZ2 := Lib.hid (blkKept ((hzl.block _ (by rw [HS1.out]; omega)).trans HZ.out) hK2 (by omega))
  have hok : okStr s := by unfold okStr maxLen; omega
  clear hzl hz0 HZ HR1
  go_wp2_with fail
  refine (spec_TokensOf s _ hok).mono ?_
  rintro e w3 ⟨v3, f3, rfl, hT, hO, hb3⟩
  have hall := tokRes_all s
  have hK03 := hK02.trans (Kept.of_below hb3)
  have HZ3 := Lib.hid (mbox HZ2.out hb3)
  have hR3 := hR2.grow hb3
  clear hO hb3 hcs HZ2 hR2 hK2 hK02 hb2
  go_wp2_with fail
  refine (spec_MacroOf v3 _ f3 _ (by omega) (fun k hk => by rw [hall.2 _ (List.getElem_mem hk)]; simp) hT).mono ?_
  rintro e w4 ⟨cs, fp, rfl, hM, hMO, hb4⟩
  have HSM := of_small (tokRes s).1
  have hw34 : w.heap.size + 1 ≤ w3.heap.size := mlt HZ3.out
  clear hT hall
  generalize macOf (tokRes s).1 = MM at hM HSM
  obtain ⟨⟨nm, fb, ps, bd⟩, okb⟩ := MM
  obtain ⟨h2, h3, fp2, fp3, rfl, okn, K2, K3, rfl⟩ := hM
  obtain ⟨a2, c2, rfl, -⟩ := open_strs K2
  obtain ⟨a3, c3, rfl, -⟩ := open_rows K3
  obtain ⟨sm1, sm2, sm3, sm4⟩ := HSM
  have hK04 := hK03.trans (Kept.of_below hb4)
  have HZ4 := mbox HZ3.out hb4
  have hR4 := hR3.grow hb4
  have hlo : ∀ b ∈ fp2 ++ fp3, w.heap.size + 1 ≤ b ∧ b < w4.heap.size := fun b hb => ⟨by have := (hMO.2 b hb).1; omega, hMO.lt b hb⟩
  have hbx := alloc_below' w4 (.cells #[.string nm, .bool fb, .slice a2 ps.length c2, .slice a3 bd.length c3] 70)
  have HM5 := Lib.hid (heap_alloc_new w4 (.cells #[.string nm, .bool fb, .slice a2 ps.length c2, .slice a3 bd.length c3] 70))
  have HZ5 := Lib.hid (mbox HZ4 hbx)
  have HR5 := Lib.hid (hR4.grow hbx)
  have HK5 := Lib.hid (hK04.trans (Kept.of_below hbx))
  have HP5 := Lib.hid ((sSlice sStr).below K2 hbx)
  have HB5 := Lib.hid ((sSlice sTok).below K3 hbx)
  have hg1 : w.heap.size < w4.heap.size := mlt HZ4
  have HOK := Lib.hid (And.intro okn (And.intro sm1 (And.intro sm2 (And.intro sm3 sm4))))
  have HLO := Lib.hid hlo
  clear hMO hb4 hK03 hK04 HZ3 HZ4 hR3 hR4 K2 K3 hbx hlo okn sm1 sm2 sm3 sm4
  go_wp2_with fail
  refine (odd rb (p + 1) n _ HR5.out (by omega) (by omega) hn0).mono ?_
  rintro e w5 ⟨b, q, rfl, hq1, hq2, hR6, hK6⟩
  have HM6 := Lib.hid (blkKept HM5.out hK6 (by omega))
  have HZ6 := Lib.hid (blkKept HZ5.out hK6 (by omega))
  have HK6 := Lib.hid (HK5.out.trans hK6)
  have nrb : ∀ b ∈ fp2 ++ fp3, b ∉ [rb] := fun b hb hx => by have := (HLO.out b hb).1; have e : b = rb := (by simpa using hx); omega
  have HP6 := Lib.hid ((sSlice sStr).kept HP5.out (fun b hb => nrb b (by simp [hb])) hK6)
  have HB6 := Lib.hid ((sSlice sTok).kept HB5.out (fun b hb => nrb b (by simp [hb])) hK6)
  have HR6 := Lib.hid hR6
  clear HM5 HZ5 HK5 HP5 HB5 HR5 hK6 hR6
  cases b
  · -- as it is
    have y0 : w5.cell? ⟨w4.heap.size, 0, none⟩ = some (.string nm) := cell_of_row _ _ 0 _ _ _ HM6.out
    have y1 : w5.cell? ⟨w4.heap.size, 1, none⟩ = some (.bool fb) := cell_of_row _ _ 1 _ _ _ HM6.out
    have y2 : w5.cell? ⟨w4.heap.size, 2, none⟩ = some (.slice a2 ps.length c2) := cell_of_row _ _ 2 _ _ _ HM6.out
    have y3 : w5.cell? ⟨w4.heap.size, 3, none⟩ = some (.slice a3 bd.length c3) := cell_of_row _ _ 3 _ _ _ HM6.out
    have z0 : w5.cell? ⟨w.heap.size, 0, none⟩ = some (.string ⟨#[]⟩) := cell_of_row _ _ 0 _ _ _ HZ6.out
    have zf0 : w5.frozen? ⟨w.heap.size, 0, none⟩ = false := frozen_of_row _ _ 0 _ _ HZ6.out
    have z1 : w5.cell? ⟨w.heap.size, 1, none⟩ = some (.bool false) := cell_of_row _ _ 1 _ _ _ HZ6.out
    have zf1 : w5.frozen? ⟨w.heap.size, 1, none⟩ = false := frozen_of_row _ _ 1 _ _ HZ6.out
    have z2 : w5.cell? ⟨w.heap.size, 2, none⟩ = some (.slice none 0 0) := cell_of_row _ _ 2 _ _ _ HZ6.out
    have zf2 : w5.frozen? ⟨w.heap.size, 2, none⟩ = false := frozen_of_row _ _ 2 _ _ HZ6.out
    have z3 : w5.cell? ⟨w.heap.size, 3, none⟩ = some (.slice none 0 0) := cell_of_row _ _ 3 _ _ _ HZ6.out
    have zf3 : w5.frozen? ⟨w.heap.size, 3, none⟩ = false := frozen_of_row _ _ 3 _ _ HZ6.out
    have HS := Lib.hid (set4_mac (w := w) (wP := w5) HZ6.out (show sMacro.R w5 [.string nm, .bool fb, .slice a2 ps.length c2, .slice a3 bd.length c3] ⟨nm, fb, ps, bd⟩ (fp2 ++ fp3) from ⟨_, _, fp2, fp3, rfl, HOK.out.1, HP6.out, HB6.out, rfl⟩) (fun hx => by have := (HLO.out _ hx).1; omega) HR6.out (by omega) HK6.out (Nat.le_refl _))
    have HOKF : Hid (okMac ⟨nm, fb, ps, bd⟩) := ⟨by have := HOK.out.2.1; show nm.size ≤ 1000; omega, by have := HOK.out.2.2.1; show ps.length ≤ 100; omega, by have := HOK.out.2.2.2.1; show bd.length ≤ 100; omega, fun t ht => by rw [HOK.out.2.2.2.2 t ht]; simp⟩
    have HLOF : Hid (∀ b ∈ fp2 ++ fp3, w.heap.size ≤ b) := fun b hb => by have := (HLO.out b hb).1; omega
    clear HLO
    go_wp2
    refine bodyPost_ret (results_cell_row rfl _ _ w.heap.size _ _ _ _ rfl HS.out.1 Try.underlying70 rfl (by kernel_rfl)) rfl ?_
    exact dm_ret HS.out.2.1 HOKF.out HLOF.out (by omega) HS.out.2.2.1 HS.out.2.2.2
  · go_wp2_with fail
    refine (pick rb q _ _ HR6.out (by omega) (by omega) (by omega)).mono ?_
    rintro e w6 ⟨r8, rfl, hr0, hr1, hR7, hK7⟩
    have HM7 := Lib.hid (blkKept HM6.out hK7 (by omega))
    have HZ7 := Lib.hid (blkKept HZ6.out hK7 (by omega))
    have HK7 := Lib.hid (HK6.out.trans hK7)
    have HP7 := Lib.hid ((sSlice sStr).kept HP6.out (fun b hb => nrb b (by simp [hb])) hK7)
    have HB7 := Lib.hid ((sSlice sTok).kept HB6.out (fun b hb => nrb b (by simp [hb])) hK7)
    have HR7 := Lib.hid hR7
    have hs6 : w4.heap.size < w6.heap.size := mlt HM7.out
    have HX0 := Lib.hid (show ¬ (w.heap.size ∈ fp2 ++ fp3) from fun hx => by have := (HLO.out _ hx).1; omega)
    have HX1 := Lib.hid (show ¬ (w4.heap.size ∈ fp2 ++ fp3) from fun hx => by have := (HLO.out _ hx).2; omega)
    clear HM6 HZ6 HK6 HP6 HB6 HR6 hK7 hR7 nrb
    have hr8 : r8 = 0 ∨ r8 = 1 ∨ r8 = 2 ∨ r8 = 3 ∨ r8 = 4 ∨ r8 = 5 ∨ r8 = 6 ∨ r8 = 7 := by omega
    rcases hr8 with rfl | rfl | rfl | rfl | rfl | rfl | rfl | rfl
    · -- case 0
      have hbl := alloc_below' w6 (.cells #[.string ⟨#[]⟩, .string ⟨#[49]⟩, .string ⟨#[100, 101, 102, 105, 110, 101, 100]⟩, .string ⟨#[97, 32, 98]⟩] 9)
      have HRl := Lib.hid (HR7.out.grow hbl)
      go_wp2_with fail
      refine (pick rb (q + 1) _ _ HRl.out (by omega) (by omega) (by omega)).mono ?_
      rintro e w7 ⟨r4, rfl, hr40, hr41, hR8, hK8⟩
      obtain ⟨sn, hsn, hcn⟩ := lit_pick mac_names 7 mac_names_size hr40 (by show r4 < 4; omega) (by omega) hK8
      have HM8 := Lib.hid (blkKept (mbox HM7.out hbl) hK8 (by omega))
      have HZ8 := Lib.hid (blkKept (mbox HZ7.out hbl) hK8 (by omega))
      have HK8 := Lib.hid ((HK7.out.trans (Kept.of_below hbl)).trans hK8)
      have nrb : ∀ b ∈ fp2 ++ fp3, b ∉ [rb] := fun b hb hx => by have := (HLO.out b hb).1; have e : b = rb := (by simpa using hx); omega
      have HP8 := Lib.hid ((sSlice sStr).kept ((sSlice sStr).below HP7.out hbl) (fun b hb => nrb b (by simp [hb])) hK8)
      have HB8 := Lib.hid ((sSlice sTok).kept ((sSlice sTok).below HB7.out hbl) (fun b hb => nrb b (by simp [hb])) hK8)
      have HR8 := Lib.hid hR8
      have oksn : okStr sn := by unfold okStr maxLen; omega
      clear hK8 hR8 hbl HRl
      have y0 : w7.cell? ⟨w4.heap.size, 0, none⟩ = some (.string nm) := cell_of_row _ _ 0 _ _ _ HM8.out
      have y1 : w7.cell? ⟨w4.heap.size, 1, none⟩ = some (.bool fb) := cell_of_row _ _ 1 _ _ _ HM8.out
      have y2 : w7.cell? ⟨w4.heap.size, 2, none⟩ = some (.slice a2 ps.length c2) := cell_of_row _ _ 2 _ _ _ HM8.out
      have y3 : w7.cell? ⟨w4.heap.size, 3, none⟩ = some (.slice a3 bd.length c3) := cell_of_row _ _ 3 _ _ _ HM8.out
      have yf : w7.frozen? ⟨w4.heap.size, 0, none⟩ = false := frozen_of_row _ _ 0 _ _ HM8.out
      have z0 : w7.cell? ⟨w.heap.size, 0, none⟩ = some (.string ⟨#[]⟩) := cell_of_row _ _ 0 _ _ _ HZ8.out
      have zf0 : w7.frozen? ⟨w.heap.size, 0, none⟩ = false := frozen_of_row _ _ 0 _ _ HZ8.out
      have z1 : w7.cell? ⟨w.heap.size, 1, none⟩ = some (.bool false) := cell_of_row _ _ 1 _ _ _ HZ8.out
      have zf1 : w7.frozen? ⟨w.heap.size, 1, none⟩ = false := frozen_of_row _ _ 1 _ _ HZ8.out
      have z2 : w7.cell? ⟨w.heap.size, 2, none⟩ = some (.slice none 0 0) := cell_of_row _ _ 2 _ _ _ HZ8.out
      have zf2 : w7.frozen? ⟨w.heap.size, 2, none⟩ = false := frozen_of_row _ _ 2 _ _ HZ8.out
      have z3 : w7.cell? ⟨w.heap.size, 3, none⟩ = some (.slice none 0 0) := cell_of_row _ _ 3 _ _ _ HZ8.out
      have zf3 : w7.frozen? ⟨w.heap.size, 3, none⟩ = false := frozen_of_row _ _ 3 _ _ HZ8.out
      have HS := Lib.hid (set4_mac (w := w) (wP := w7.setCell ⟨w4.heap.size, 0, none⟩ (.string sn)) (blk_other HZ8.out (by omega : w.heap.size ≠ w4.heap.size) 0 (.string sn)) (sMacro.setB (show sMacro.R w7 [.string sn, .bool fb, .slice a2 ps.length c2, .slice a3 bd.length c3] ⟨sn, fb, ps, bd⟩ (fp2 ++ fp3) from ⟨_, _, fp2, fp3, rfl, oksn, HP8.out, HB8.out, rfl⟩) HX1.out 0 (.string sn)) HX0.out (rdSet HR8.out (by omega) 0 (.string sn)) (by omega) (keptSet HK8.out (by omega) (.string sn) 0) (Nat.le_refl _))
      have HOKF : Hid (okMac ⟨sn, fb, ps, bd⟩) := ⟨by show sn.size ≤ 1000; omega, by have := HOK.out.2.2.1; show ps.length ≤ 100; omega, by have := HOK.out.2.2.2.1; show bd.length ≤ 100; omega, fun t ht => by rw [HOK.out.2.2.2.2 t ht]; simp⟩
      have HLOF : Hid (∀ b ∈ fp2 ++ fp3, w.heap.size ≤ b) := fun b hb => by have := (HLO.out b hb).1; omega
      clear HLO
      go_wp2
      refine bodyPost_ret (results_cell_row rfl _ _ w.heap.size _ _ _ _ rfl HS.out.1 Try.underlying70 rfl (by kernel_rfl)) rfl ?_
      exact dm_ret HS.out.2.1 HOKF.out HLOF.out (by omega) HS.out.2.2.1 HS.out.2.2.2
    · -- case 1
      have hbl := alloc_below' w6 (.cells #[] 9)
      have hlit : Hid ((w6.alloc (.cells #[] 9)).ownsRow w6.heap.size 9 1 (.slice (some ⟨w6.heap.size, 0, none⟩) 0 0) ([] : List ByteArray).length (([] : List ByteArray).map Value.string)) := World.ownsRow_lit (base := w6.heap.size) (e := 9) (size := 1) w6 #[] 0 (Nat.le_refl _) (by simp) rfl
      have HMW := Lib.hid (mbox HM7.out hbl)
      have HZW := Lib.hid (mbox HZ7.out hbl)
      have HRW := Lib.hid (HR7.out.grow hbl)
      have HKW := Lib.hid (HK7.out.trans (Kept.of_below hbl))
      have HPW := Lib.hid ((sSlice sStr).below HP7.out hbl)
      have HBW := Lib.hid ((sSlice sTok).below HB7.out hbl)
      obtain ⟨_, _, -, -, -, -, hsz⟩ := open_strs HPW.out
      have HSZ := Lib.hid hsz
      clear hsz
      have y2 : (w6.alloc (.cells #[] 9)).cell? ⟨w4.heap.size, 2, none⟩ = some (.slice a2 ps.length c2) := cell_of_row _ _ 2 _ _ _ HMW.out
      have hws : (w6.alloc (.cells #[] 9)).heap.size = w6.heap.size + 1 := Array.size_push _
      have HWS := Lib.hid hws
      have hps4 := HOK.out.2.2.1
      clear hbl hws
      have hq1' : q ≤ p + 8 := by omega
      go_wp2_with (first
        | (
          at_builtin
          refine wp_append_strsR rfl (.tmp 48) (.tmp 50) rfl w6.heap.size (.slice (some ⟨w6.heap.size, 0, none⟩) 0 0) (.slice a2 ps.length c2) [] ps fp2 rfl hlit.out rfl HPW.out (by simp; omega) (by rw [HWS.out]; omega) ?_
          intro v8 w8 hE hg
          have hown : ∀ b, (Value.slice (some ⟨w6.heap.size, 0, none⟩) 0 0).ownBlock = some b → w6.heap.size ≤ b := fun b hb => by simp only [Value.ownBlock, Option.some.injEq] at hb; omega
          have hlt6 : w6.heap.size < (w6.alloc (.cells #[] 9)).heap.size := by rw [HWS.out]; omega
          have kb : ∀ b, b < w6.heap.size → w8.heap[b]? = ((w6.alloc (.cells #[] 9))).heap[b]? := fun b hb => hg.block b (by omega) (fun he => by have := hown b he.symm; omega)
          have HM8 := Lib.hid ((kb _ (by omega)).trans HMW.out)
          have HZ8 := Lib.hid ((kb _ (by omega)).trans HZW.out)
          have HR8 := Lib.hid (grownRd HRW.out hg (by omega : rb < w6.heap.size) (fun b hb => hown b hb))
          have HK8 := Lib.hid (grownKept HKW.out hg (fun b hb => by have := hown b hb; omega))
          have HB8 := Lib.hid ((sSlice sTok).frame (fun b hb => kb b (by have := (HLO.out b (by simp [hb])).2; omega)) HBW.out)
          have hs8 : w6.heap.size < w8.heap.size := Nat.lt_of_lt_of_le hlt6 hg.size
          rw [List.nil_append] at hE
          obtain ⟨fp1, R1, -, -⟩ := own_flat (ok := okStr) hE HSZ.out
          obtain ⟨a8, c8, rfl, -⟩ := open_rows R1
          have HE8 := Lib.hid hE
          have hbl2 := alloc_below' w8 (.cells #[.string ⟨#[120]⟩, .string ⟨#[49]⟩, .string ⟨#[]⟩] 9)
          have HR9 := Lib.hid (HR8.out.grow hbl2)
          have HM9 := Lib.hid (mbox HM8.out hbl2)
          have HZ9 := Lib.hid (mbox HZ8.out hbl2)
          have HK9 := Lib.hid (HK8.out.trans (Kept.of_below hbl2))
          have HB9 := Lib.hid ((sSlice sTok).below HB8.out hbl2)
          have HE9 := Lib.hid (HE8.out.alloc (.cells #[.string ⟨#[120]⟩, .string ⟨#[49]⟩, .string ⟨#[]⟩] 9))
          have HS9 : Hid ((w8.alloc (.cells #[.string ⟨#[120]⟩, .string ⟨#[49]⟩, .string ⟨#[]⟩] 9)).heap.size = w8.heap.size + 1) := Array.size_push _
          clear hE hg kb hown y2 hlit R1 HR8 HM8 HZ8 HK8 HB8 HE8 hbl2)
        | (
          go_at_call 47
          refine (pick rb (q + 1) _ _ HR9.out (by omega) (by omega) (by omega)).mono ?_
          rintro e w9 ⟨r9, rfl, hr90, hr91, hR, hK⟩
          obtain ⟨sn, hsn, hcn⟩ := lit_pick mac_pars 1 mac_pars_size hr90 (by show r9 < 3; omega) (by omega) hK
          have nrb : ∀ b ∈ fp2 ++ fp3, b ∉ [rb] := fun b hb hx => by have := (HLO.out b hb).1; have e : b = rb := (by simpa using hx); omega
          have hs9 : w8.heap.size < w9.heap.size := by have := hK.size; have e := HS9.out; omega
          have HMA := Lib.hid (blkKept HM9.out hK (by omega))
          have HZA := Lib.hid (blkKept HZ9.out hK (by omega))
          have HKA := Lib.hid (HK9.out.trans hK)
          have HBA := Lib.hid ((sSlice sTok).kept HB9.out (fun b hb => nrb b (by simp [hb])) hK)
          have HEA := Lib.hid (own_kept HE9.out hK (by omega))
          have HRA := Lib.hid hR
          have oksn : okStr sn := by unfold okStr maxLen; omega
          clear hK hR nrb HR9 HM9 HZ9 HK9 HB9 HE9 HS9)
        | (
          at_builtin
          refine wp_append_one ti27 rfl _ (.string sn) rfl rfl (.tmp 51) (.tmp 57) rfl w6.heap.size (.slice a8 ps.length c8) ps.length (ps.map Value.string) rfl HEA.out rfl (by unfold maxLen; omega) (by omega) (by omega) ?_
          intro v10 w10 hE10 hg10
          have hown : ∀ b, (Value.slice a8 ps.length c8).ownBlock = some b → w6.heap.size ≤ b := fun b hb => (HEA.out.lt b hb).1
          have kb : ∀ b, b < w6.heap.size → w10.heap[b]? = w9.heap[b]? := fun b hb => hg10.block b (by omega) (fun he => by have := hown b he.symm; omega)
          have HMX := Lib.hid ((kb _ (by omega)).trans HMA.out)
          have HZX := Lib.hid ((kb _ (by omega)).trans HZA.out)
          have HRX := Lib.hid (grownRd HRA.out hg10 (by omega : rb < w6.heap.size) (fun b hb => hown b hb))
          have HKX := Lib.hid (grownKept HKA.out hg10 (fun b hb => by have := hown b hb; omega))
          have HBX := Lib.hid ((sSlice sTok).frame (fun b hb => kb b (by have := (HLO.out b (by simp [hb])).2; omega)) HBA.out)
          have hE11 : w10.ownsRow w6.heap.size 9 1 v10 (ps ++ [sn]).length ((ps ++ [sn]).map Value.string) := by simpa using hE10
          obtain ⟨fpP, hRP, hOP, -⟩ := own_flat (ok := okStr) hE11 (fun i hi => (List.mem_append.1 (List.getElem_mem hi)).elim (fun h => by obtain ⟨k, hk, e⟩ := List.getElem_of_mem h; rw [← e]; exact HSZ.out k hk) (fun h => by rw [List.mem_singleton.1 h]; exact oksn))
          have HFB : Hid (∀ b ∈ fpP, w6.heap.size ≤ b) := fun b hb => (hOP.2 b hb).1
          have HRP := Lib.hid hRP
          obtain ⟨av, cv, hv, -⟩ := open_rows hRP
          generalize (ps ++ [sn]).length = nv at hv
          subst hv
          clear hE10 hE11 hg10 kb hRP hOP hown
          have y0 : w10.cell? ⟨w4.heap.size, 0, none⟩ = some (.string nm) := cell_of_row _ _ 0 _ _ _ HMX.out
          have y1 : w10.cell? ⟨w4.heap.size, 1, none⟩ = some (.bool fb) := cell_of_row _ _ 1 _ _ _ HMX.out
          have y2 : w10.cell? ⟨w4.heap.size, 2, none⟩ = some (.slice a2 ps.length c2) := cell_of_row _ _ 2 _ _ _ HMX.out
          have y3 : w10.cell? ⟨w4.heap.size, 3, none⟩ = some (.slice a3 bd.length c3) := cell_of_row _ _ 3 _ _ _ HMX.out
          have yf : w10.frozen? ⟨w4.heap.size, 2, none⟩ = false := frozen_of_row _ _ 2 _ _ HMX.out
          have z0 : w10.cell? ⟨w.heap.size, 0, none⟩ = some (.string ⟨#[]⟩) := cell_of_row _ _ 0 _ _ _ HZX.out
          have zf0 : w10.frozen? ⟨w.heap.size, 0, none⟩ = false := frozen_of_row _ _ 0 _ _ HZX.out
          have z1 : w10.cell? ⟨w.heap.size, 1, none⟩ = some (.bool false) := cell_of_row _ _ 1 _ _ _ HZX.out
          have zf1 : w10.frozen? ⟨w.heap.size, 1, none⟩ = false := frozen_of_row _ _ 1 _ _ HZX.out
          have z2 : w10.cell? ⟨w.heap.size, 2, none⟩ = some (.slice none 0 0) := cell_of_row _ _ 2 _ _ _ HZX.out
          have zf2 : w10.frozen? ⟨w.heap.size, 2, none⟩ = false := frozen_of_row _ _ 2 _ _ HZX.out
          have z3 : w10.cell? ⟨w.heap.size, 3, none⟩ = some (.slice none 0 0) := cell_of_row _ _ 3 _ _ _ HZX.out
          have zf3 : w10.frozen? ⟨w.heap.size, 3, none⟩ = false := frozen_of_row _ _ 3 _ _ HZX.out
          have HS := Lib.hid (set4_mac (w := w) (wP := w10.setCell ⟨w4.heap.size, 2, none⟩ (.slice av nv cv)) (blk_other HZX.out (by omega : w.heap.size ≠ w4.heap.size) 2 (.slice av nv cv)) (sMacro.setB (show sMacro.R w10 [.string nm, .bool fb, .slice av nv cv, .slice a3 bd.length c3] ⟨nm, fb, ps ++ [sn], bd⟩ (fpP ++ fp3) from ⟨_, _, fpP, fp3, rfl, HOK.out.1, HRP.out, HBX.out, rfl⟩) (fun hx => (List.mem_append.1 hx).elim (fun h => by have := HFB.out _ h; omega) (fun h => HX1.out (by simp [h]))) 2 (.slice av nv cv)) (fun hx => (List.mem_append.1 hx).elim (fun h => by have := HFB.out _ h; omega) (fun h => HX0.out (by simp [h]))) (rdSet HRX.out (by omega) 2 (.slice av nv cv)) (by omega) (keptSet HKX.out (by omega) (.slice av nv cv) 2) (Nat.le_refl _))
          have HOKF : Hid (okMac ⟨nm, fb, ps ++ [sn], bd⟩) := ⟨by have := HOK.out.2.1; show nm.size ≤ 1000; omega, by show (ps ++ [sn]).length ≤ 100; simp only [List.length_append, List.length_cons, List.length_nil]; omega, by have := HOK.out.2.2.2.1; show bd.length ≤ 100; omega, fun t ht => by rw [HOK.out.2.2.2.2 t ht]; simp⟩
          have HLOF : Hid (∀ b ∈ fpP ++ fp3, w.heap.size ≤ b) := fun b hb => (List.mem_append.1 hb).elim (fun h => by have := HFB.out _ h; omega) (fun h => by have := (HLO.out b (by simp [h])).1; omega)
          clear HLO))
      refine bodyPost_ret (results_cell_row rfl _ _ w.heap.size _ _ _ _ rfl HS.out.1 Try.underlying70 rfl (by kernel_rfl)) rfl ?_
      exact dm_ret HS.out.2.1 HOKF.out HLOF.out (by omega) HS.out.2.2.1 HS.out.2.2.2
    · -- case 2
      have y0 : w6.cell? ⟨w4.heap.size, 0, none⟩ = some (.string nm) := cell_of_row _ _ 0 _ _ _ HM7.out
      have y1 : w6.cell? ⟨w4.heap.size, 1, none⟩ = some (.bool fb) := cell_of_row _ _ 1 _ _ _ HM7.out
      have y2 : w6.cell? ⟨w4.heap.size, 2, none⟩ = some (.slice a2 ps.length c2) := cell_of_row _ _ 2 _ _ _ HM7.out
      have y3 : w6.cell? ⟨w4.heap.size, 3, none⟩ = some (.slice a3 bd.length c3) := cell_of_row _ _ 3 _ _ _ HM7.out
      have yf : w6.frozen? ⟨w4.heap.size, 1, none⟩ = false := frozen_of_row _ _ 1 _ _ HM7.out
      have z0 : w6.cell? ⟨w.heap.size, 0, none⟩ = some (.string ⟨#[]⟩) := cell_of_row _ _ 0 _ _ _ HZ7.out
      have zf0 : w6.frozen? ⟨w.heap.size, 0, none⟩ = false := frozen_of_row _ _ 0 _ _ HZ7.out
      have z1 : w6.cell? ⟨w.heap.size, 1, none⟩ = some (.bool false) := cell_of_row _ _ 1 _ _ _ HZ7.out
      have zf1 : w6.frozen? ⟨w.heap.size, 1, none⟩ = false := frozen_of_row _ _ 1 _ _ HZ7.out
      have z2 : w6.cell? ⟨w.heap.size, 2, none⟩ = some (.slice none 0 0) := cell_of_row _ _ 2 _ _ _ HZ7.out
      have zf2 : w6.frozen? ⟨w.heap.size, 2, none⟩ = false := frozen_of_row _ _ 2 _ _ HZ7.out
      have z3 : w6.cell? ⟨w.heap.size, 3, none⟩ = some (.slice none 0 0) := cell_of_row _ _ 3 _ _ _ HZ7.out
      have zf3 : w6.frozen? ⟨w.heap.size, 3, none⟩ = false := frozen_of_row _ _ 3 _ _ HZ7.out
      have HS := Lib.hid (set4_mac (w := w) (wP := w6.setCell ⟨w4.heap.size, 1, none⟩ (.bool (!fb))) (blk_other HZ7.out (by omega : w.heap.size ≠ w4.heap.size) 1 (.bool (!fb))) (sMacro.setB (show sMacro.R w6 [.string nm, .bool (!fb), .slice a2 ps.length c2, .slice a3 bd.length c3] ⟨nm, !fb, ps, bd⟩ (fp2 ++ fp3) from ⟨_, _, fp2, fp3, rfl, HOK.out.1, HP7.out, HB7.out, rfl⟩) HX1.out 1 (.bool (!fb))) HX0.out (rdSet HR7.out (by omega) 1 (.bool (!fb))) (by omega) (keptSet HK7.out (by omega) (.bool (!fb)) 1) (Nat.le_refl _))
      have HOKF : Hid (okMac ⟨nm, !fb, ps, bd⟩) := ⟨by have := HOK.out.2.1; show nm.size ≤ 1000; omega, by have := HOK.out.2.2.1; show ps.length ≤ 100; omega, by have := HOK.out.2.2.2.1; show bd.length ≤ 100; omega, fun t ht => by rw [HOK.out.2.2.2.2 t ht]; simp⟩
      have HLOF : Hid (∀ b ∈ fp2 ++ fp3, w.heap.size ≤ b) := fun b hb => by have := (HLO.out b hb).1; omega
      clear HLO
      go_wp2
      refine bodyPost_ret (results_cell_row rfl _ _ w.heap.size _ _ _ _ rfl HS.out.1 Try.underlying70 rfl (by kernel_rfl)) rfl ?_
      exact dm_ret HS.out.2.1 HOKF.out HLOF.out (by omega) HS.out.2.2.1 HS.out.2.2.2
    · -- case 3
      have hbl := alloc_below' w6 (.cells #[.int .i64 4, .string ⟨#[35, 35]⟩, .bool false, .slice none 0 0] 33)
      have hlit : Hid (RowE sTok w6.heap.size 33 (.slice (some ⟨w6.heap.size, 0, none⟩) 1 1) [(⟨[.int .i64 4, .string ⟨#[35, 35]⟩, .bool false, .slice none 0 0], ⟨4, ⟨#[35, 35]⟩, false, []⟩, []⟩ : Elem Tok)] (w6.alloc (.cells #[.int .i64 4, .string ⟨#[35, 35]⟩, .bool false, .slice none 0 0] 33))) := RowE.lit [(⟨[.int .i64 4, .string ⟨#[35, 35]⟩, .bool false, .slice none 0 0], ⟨4, ⟨#[35, 35]⟩, false, []⟩, []⟩ : Elem Tok)] (by intro x hx; obtain rfl := List.mem_singleton.1 hx; rfl) (by intro x hx; obtain rfl := List.mem_singleton.1 hx; exact ⟨_, rfl, ⟨by decide, by decide⟩, by show okStr _; unfold okStr; decide, slice_empty sStr _ _ _ (by simp)⟩) (by intro x hx b hb; obtain rfl := List.mem_singleton.1 hx; simp at hb) (by intro x hx b hb; obtain rfl := List.mem_singleton.1 hx; simp at hb) (Nat.le_refl _) (by decide)
      have HMW := Lib.hid (mbox HM7.out hbl)
      have HZW := Lib.hid (mbox HZ7.out hbl)
      have HRW := Lib.hid (HR7.out.grow hbl)
      have HKW := Lib.hid (HK7.out.trans (Kept.of_below hbl))
      have HPW := Lib.hid ((sSlice sStr).below HP7.out hbl)
      have HBW := Lib.hid ((sSlice sTok).below HB7.out hbl)
      have y3 : (w6.alloc (.cells #[.int .i64 4, .string ⟨#[35, 35]⟩, .bool false, .slice none 0 0] 33)).cell? ⟨w4.heap.size, 3, none⟩ = some (.slice a3 bd.length c3) := cell_of_row _ _ 3 _ _ _ HMW.out
      have hws : (w6.alloc (.cells #[.int .i64 4, .string ⟨#[35, 35]⟩, .bool false, .slice none 0 0] 33)).heap.size = w6.heap.size + 1 := Array.size_push _
      have HWS := Lib.hid hws
      clear hbl hws
      have hq1' : q ≤ p + 9 := by omega
      go_wp2_with (
        at_builtin
        refine wp_append_toksR rfl (.tmp 69) (.tmp 71) rfl w6.heap.size (.slice (some ⟨w6.heap.size, 0, none⟩) 1 1) (.slice a3 bd.length c3) [(⟨[.int .i64 4, .string ⟨#[35, 35]⟩, .bool false, .slice none 0 0], ⟨4, ⟨#[35, 35]⟩, false, []⟩, []⟩ : Elem Tok)] bd fp3 rfl hlit.out rfl HBW.out HOK.out.2.2.2.2 (by have := HOK.out.2.2.2.1; simp; omega) (by rw [HWS.out]; omega) ?_
        intro v8 X w8 hX hXf hE hg
        have hown : ∀ b, (Value.slice (some ⟨w6.heap.size, 0, none⟩) 1 1).ownBlock = some b → w6.heap.size ≤ b := hlit.out.mine
        have hlt6 : w6.heap.size < (w6.alloc (.cells #[.int .i64 4, .string ⟨#[35, 35]⟩, .bool false, .slice none 0 0] 33)).heap.size := by rw [HWS.out]; omega
        have kb : ∀ b, b < w6.heap.size → w8.heap[b]? = ((w6.alloc (.cells #[.int .i64 4, .string ⟨#[35, 35]⟩, .bool false, .slice none 0 0] 33))).heap[b]? := fun b hb => hg.block b (by omega) (fun he => by have := hown b he.symm; omega)
        have HM8 := Lib.hid ((kb _ (by omega)).trans HMW.out)
        have HZ8 := Lib.hid ((kb _ (by omega)).trans HZW.out)
        have HR8 := Lib.hid (grownRd HRW.out hg (by omega : rb < w6.heap.size) (fun b hb => hown b hb))
        have HK8 := Lib.hid (grownKept HKW.out hg (fun b hb => by have := hown b hb; omega))
        have HP8 := Lib.hid ((sSlice sStr).frame (fun b hb => kb b (by have := (HLO.out b (by simp [hb])).2; omega)) HPW.out)
        obtain ⟨fpB, hRB, hOB⟩ := rowE_own hE (fun x hx => (List.mem_append.1 hx).elim (fun h => by obtain rfl := List.mem_singleton.1 h; rfl) (hXf x))
        have HFB : Hid (∀ b ∈ fpB, w6.heap.size ≤ b) := fun b hb => (hOB.2 b hb).1
        obtain ⟨av, cv, hv, -⟩ := hE.val
        generalize ([(⟨[.int .i64 4, .string ⟨#[35, 35]⟩, .bool false, .slice none 0 0], ⟨4, ⟨#[35, 35]⟩, false, []⟩, []⟩ : Elem Tok)] ++ X).length = nv at hv
        subst hv
        have HRB := Lib.hid hRB
        clear hE hg kb hRB hOB hown y3
        have y0 : w8.cell? ⟨w4.heap.size, 0, none⟩ = some (.string nm) := cell_of_row _ _ 0 _ _ _ HM8.out
        have y1 : w8.cell? ⟨w4.heap.size, 1, none⟩ = some (.bool fb) := cell_of_row _ _ 1 _ _ _ HM8.out
        have y2 : w8.cell? ⟨w4.heap.size, 2, none⟩ = some (.slice a2 ps.length c2) := cell_of_row _ _ 2 _ _ _ HM8.out
        have y3 : w8.cell? ⟨w4.heap.size, 3, none⟩ = some (.slice a3 bd.length c3) := cell_of_row _ _ 3 _ _ _ HM8.out
        have yf : w8.frozen? ⟨w4.heap.size, 3, none⟩ = false := frozen_of_row _ _ 3 _ _ HM8.out
        have z0 : w8.cell? ⟨w.heap.size, 0, none⟩ = some (.string ⟨#[]⟩) := cell_of_row _ _ 0 _ _ _ HZ8.out
        have zf0 : w8.frozen? ⟨w.heap.size, 0, none⟩ = false := frozen_of_row _ _ 0 _ _ HZ8.out
        have z1 : w8.cell? ⟨w.heap.size, 1, none⟩ = some (.bool false) := cell_of_row _ _ 1 _ _ _ HZ8.out
        have zf1 : w8.frozen? ⟨w.heap.size, 1, none⟩ = false := frozen_of_row _ _ 1 _ _ HZ8.out
        have z2 : w8.cell? ⟨w.heap.size, 2, none⟩ = some (.slice none 0 0) := cell_of_row _ _ 2 _ _ _ HZ8.out
        have zf2 : w8.frozen? ⟨w.heap.size, 2, none⟩ = false := frozen_of_row _ _ 2 _ _ HZ8.out
        have z3 : w8.cell? ⟨w.heap.size, 3, none⟩ = some (.slice none 0 0) := cell_of_row _ _ 3 _ _ _ HZ8.out
        have zf3 : w8.frozen? ⟨w.heap.size, 3, none⟩ = false := frozen_of_row _ _ 3 _ _ HZ8.out
        have HS := Lib.hid (set4_mac (w := w) (wP := w8.setCell ⟨w4.heap.size, 3, none⟩ (.slice av nv cv)) (blk_other HZ8.out (by omega : w.heap.size ≠ w4.heap.size) 3 (.slice av nv cv)) (sMacro.setB (show sMacro.R w8 [.string nm, .bool fb, .slice a2 ps.length c2, .slice av nv cv] ⟨nm, fb, ps, ([(⟨[.int .i64 4, .string ⟨#[35, 35]⟩, .bool false, .slice none 0 0], ⟨4, ⟨#[35, 35]⟩, false, []⟩, []⟩ : Elem Tok)] ++ X).map (·.d)⟩ (fp2 ++ fpB) from ⟨_, _, fp2, fpB, rfl, HOK.out.1, HP8.out, HRB.out, rfl⟩) (fun hx => (List.mem_append.1 hx).elim (fun h => HX1.out (by simp [h])) (fun h => by have := HFB.out _ h; omega)) 3 (.slice av nv cv)) (fun hx => (List.mem_append.1 hx).elim (fun h => HX0.out (by simp [h])) (fun h => by have := HFB.out _ h; omega)) (rdSet HR8.out (by omega) 3 (.slice av nv cv)) (by omega) (keptSet HK8.out (by omega) (.slice av nv cv) 3) (Nat.le_refl _))
        have HOKF : Hid (okMac ⟨nm, fb, ps, ([(⟨[.int .i64 4, .string ⟨#[35, 35]⟩, .bool false, .slice none 0 0], ⟨4, ⟨#[35, 35]⟩, false, []⟩, []⟩ : Elem Tok)] ++ X).map (·.d)⟩) := ⟨by have := HOK.out.2.1; show nm.size ≤ 1000; omega, by have := HOK.out.2.2.1; show ps.length ≤ 100; omega, by rw [List.map_append, hX]; simp; have := HOK.out.2.2.2.1; omega, fun t ht => by rw [List.map_append, hX] at ht; exact (List.mem_append.1 ht).elim (fun h => by simp at h; rw [h]; decide) (fun h => by rw [HOK.out.2.2.2.2 t h]; simp)⟩
        have HLOF : Hid (∀ b ∈ fp2 ++ fpB, w.heap.size ≤ b) := fun b hb => (List.mem_append.1 hb).elim (fun h => by have := (HLO.out b (by simp [h])).1; omega) (fun h => by have := HFB.out _ h; omega)
        clear HLO)
      refine bodyPost_ret (results_cell_row rfl _ _ w.heap.size _ _ _ _ rfl HS.out.1 Try.underlying70 rfl (by kernel_rfl)) rfl ?_
      exact dm_ret HS.out.2.1 HOKF.out HLOF.out (by omega) HS.out.2.2.1 HS.out.2.2.2
    · -- case 4
      have hbl := alloc_below' w6 (.cells #[] 33)
      have hlit : Hid (RowE sTok w6.heap.size 33 (.slice (some ⟨w6.heap.size, 0, none⟩) 0 0) [] (w6.alloc (.cells #[] 33))) := RowE.lit [] (by simp) (by simp) (by simp) (by simp) (Nat.le_refl _) (by simp)
      have HMW := Lib.hid (mbox HM7.out hbl)
      have HZW := Lib.hid (mbox HZ7.out hbl)
      have HRW := Lib.hid (HR7.out.grow hbl)
      have HKW := Lib.hid (HK7.out.trans (Kept.of_below hbl))
      have HPW := Lib.hid ((sSlice sStr).below HP7.out hbl)
      have HBW := Lib.hid ((sSlice sTok).below HB7.out hbl)
      have y3 : (w6.alloc (.cells #[] 33)).cell? ⟨w4.heap.size, 3, none⟩ = some (.slice a3 bd.length c3) := cell_of_row _ _ 3 _ _ _ HMW.out
      have hws : (w6.alloc (.cells #[] 33)).heap.size = w6.heap.size + 1 := Array.size_push _
      have HWS := Lib.hid hws
      clear hbl hws
      have hq1' : q ≤ p + 9 := by omega
      go_wp2_with (first
        | (
          at_builtin
          refine wp_append_toksR rfl (.tmp 76) (.tmp 78) rfl w6.heap.size (.slice (some ⟨w6.heap.size, 0, none⟩) 0 0) (.slice a3 bd.length c3) [] bd fp3 rfl hlit.out rfl HBW.out HOK.out.2.2.2.2 (by have := HOK.out.2.2.2.1; simp; omega) (by rw [HWS.out]; omega) ?_
          intro v8 X w8 hX hXf hE hg
          have hown : ∀ b, (Value.slice (some ⟨w6.heap.size, 0, none⟩) 0 0).ownBlock = some b → w6.heap.size ≤ b := hlit.out.mine
          have hlt6 : w6.heap.size < (w6.alloc (.cells #[] 33)).heap.size := by rw [HWS.out]; omega
          have kb : ∀ b, b < w6.heap.size → w8.heap[b]? = ((w6.alloc (.cells #[] 33))).heap[b]? := fun b hb => hg.block b (by omega) (fun he => by have := hown b he.symm; omega)
          have HM8 := Lib.hid ((kb _ (by omega)).trans HMW.out)
          have HZ8 := Lib.hid ((kb _ (by omega)).trans HZW.out)
          have HR8 := Lib.hid (grownRd HRW.out hg (by omega : rb < w6.heap.size) (fun b hb => hown b hb))
          have HK8 := Lib.hid (grownKept HKW.out hg (fun b hb => by have := hown b hb; omega))
          have HP8 := Lib.hid ((sSlice sStr).frame (fun b hb => kb b (by have := (HLO.out b (by simp [hb])).2; omega)) HPW.out)
          have hs8 : w6.heap.size < w8.heap.size := Nat.lt_of_lt_of_le hlt6 hg.size
          rw [List.nil_append] at hE
          obtain ⟨a8, c8, hv8, -⟩ := hE.val
          obtain ⟨n8, hn8⟩ : ∃ n, n = X.length := ⟨_, rfl⟩
          rw [← hn8] at hv8
          subst hv8
          have hn8b : n8 ≤ 20 := by have e : X.length = bd.length := (by rw [← hX, List.length_map]); have := HOK.out.2.2.2.1; omega
          have HN8 := Lib.hid hn8
          have HX8 := Lib.hid hX
          have HE8 := Lib.hid hE
          clear hE hg kb hown y3 hn8 hX hXf hlit)
        | (
          at_builtin
          refine wp_append_tokE rfl (.tmp 79) (.tmp 81) rfl w6.heap.size (.slice a8 n8 c8) X rfl HE8.out 4 ⟨#[35]⟩ false none 0 0 [] [] rfl (⟨_, rfl, ⟨by decide, by decide⟩, by show okStr _; unfold okStr; decide, slice_empty sStr _ _ _ (by simp)⟩) (by simp) (by simp) (by rw [← HN8.out]; omega) (by skip; omega) ?_
          intro v10 w10 hE10 hg10
          have hown := HE8.out.mine
          have kb : ∀ b, b < w6.heap.size → w10.heap[b]? = w8.heap[b]? := fun b hb => hg10.block b (by skip; omega) (fun he => by have := hown b he.symm; omega)
          have HMX := Lib.hid ((kb _ (by omega)).trans HM8.out)
          have HZX := Lib.hid ((kb _ (by omega)).trans HZ8.out)
          have HRX := Lib.hid (grownRd HR8.out hg10 (by omega : rb < w6.heap.size) (fun b hb => hown b hb))
          have HKX := Lib.hid (grownKept HK8.out hg10 (fun b hb => by have := hown b hb; omega))
          have HPX := Lib.hid ((sSlice sStr).frame (fun b hb => kb b (by have := (HLO.out b (by simp [hb])).2; omega)) HP8.out)
          obtain ⟨fpB, hRB, hOB⟩ := hE10.read
          have HFB : Hid (∀ b ∈ fpB, w6.heap.size ≤ b) := hOB
          have HRB := Lib.hid hRB
          obtain ⟨av, cv, hv, -⟩ := hE10.val
          generalize (X ++ [(⟨[.int .i64 4, .string ⟨#[35]⟩, .bool false, .slice none 0 0], ⟨4, ⟨#[35]⟩, false, []⟩, []⟩ : Elem Tok)]).length = nv at hv
          subst hv
          clear hE10 hg10 kb hRB hOB hown
          have y0 : w10.cell? ⟨w4.heap.size, 0, none⟩ = some (.string nm) := cell_of_row _ _ 0 _ _ _ HMX.out
          have y1 : w10.cell? ⟨w4.heap.size, 1, none⟩ = some (.bool fb) := cell_of_row _ _ 1 _ _ _ HMX.out
          have y2 : w10.cell? ⟨w4.heap.size, 2, none⟩ = some (.slice a2 ps.length c2) := cell_of_row _ _ 2 _ _ _ HMX.out
          have y3 : w10.cell? ⟨w4.heap.size, 3, none⟩ = some (.slice a3 bd.length c3) := cell_of_row _ _ 3 _ _ _ HMX.out
          have yf : w10.frozen? ⟨w4.heap.size, 3, none⟩ = false := frozen_of_row _ _ 3 _ _ HMX.out
          have z0 : w10.cell? ⟨w.heap.size, 0, none⟩ = some (.string ⟨#[]⟩) := cell_of_row _ _ 0 _ _ _ HZX.out
          have zf0 : w10.frozen? ⟨w.heap.size, 0, none⟩ = false := frozen_of_row _ _ 0 _ _ HZX.out
          have z1 : w10.cell? ⟨w.heap.size, 1, none⟩ = some (.bool false) := cell_of_row _ _ 1 _ _ _ HZX.out
          have zf1 : w10.frozen? ⟨w.heap.size, 1, none⟩ = false := frozen_of_row _ _ 1 _ _ HZX.out
          have z2 : w10.cell? ⟨w.heap.size, 2, none⟩ = some (.slice none 0 0) := cell_of_row _ _ 2 _ _ _ HZX.out
          have zf2 : w10.frozen? ⟨w.heap.size, 2, none⟩ = false := frozen_of_row _ _ 2 _ _ HZX.out
          have z3 : w10.cell? ⟨w.heap.size, 3, none⟩ = some (.slice none 0 0) := cell_of_row _ _ 3 _ _ _ HZX.out
          have zf3 : w10.frozen? ⟨w.heap.size, 3, none⟩ = false := frozen_of_row _ _ 3 _ _ HZX.out
          have HS := Lib.hid (set4_mac (w := w) (wP := w10.setCell ⟨w4.heap.size, 3, none⟩ (.slice av nv cv)) (blk_other HZX.out (by omega : w.heap.size ≠ w4.heap.size) 3 (.slice av nv cv)) (sMacro.setB (show sMacro.R w10 [.string nm, .bool fb, .slice a2 ps.length c2, .slice av nv cv] ⟨nm, fb, ps, (X ++ [(⟨[.int .i64 4, .string ⟨#[35]⟩, .bool false, .slice none 0 0], ⟨4, ⟨#[35]⟩, false, []⟩, []⟩ : Elem Tok)]).map (·.d)⟩ (fp2 ++ fpB) from ⟨_, _, fp2, fpB, rfl, HOK.out.1, HPX.out, HRB.out, rfl⟩) (fun hx => (List.mem_append.1 hx).elim (fun h => HX1.out (by simp [h])) (fun h => by have := HFB.out _ h; omega)) 3 (.slice av nv cv)) (fun hx => (List.mem_append.1 hx).elim (fun h => HX0.out (by simp [h])) (fun h => by have := HFB.out _ h; omega)) (rdSet HRX.out (by omega) 3 (.slice av nv cv)) (by omega) (keptSet HKX.out (by omega) (.slice av nv cv) 3) (Nat.le_refl _))
          have HOKF : Hid (okMac ⟨nm, fb, ps, (X ++ [(⟨[.int .i64 4, .string ⟨#[35]⟩, .bool false, .slice none 0 0], ⟨4, ⟨#[35]⟩, false, []⟩, []⟩ : Elem Tok)]).map (·.d)⟩) := ⟨by have := HOK.out.2.1; show nm.size ≤ 1000; omega, by have := HOK.out.2.2.1; show ps.length ≤ 100; omega, by rw [List.map_append, HX8.out]; simp; have := HOK.out.2.2.2.1; omega, fun t ht => by rw [List.map_append, HX8.out] at ht; exact (List.mem_append.1 ht).elim (fun h => by rw [HOK.out.2.2.2.2 t h]; simp) (fun h => by simp at h; rw [h]; decide)⟩
          have HLOF : Hid (∀ b ∈ fp2 ++ fpB, w.heap.size ≤ b) := fun b hb => (List.mem_append.1 hb).elim (fun h => by have := (HLO.out b (by simp [h])).1; omega) (fun h => by have := HFB.out _ h; omega)
          clear HLO))
      refine bodyPost_ret (results_cell_row rfl _ _ w.heap.size _ _ _ _ rfl HS.out.1 Try.underlying70 rfl (by kernel_rfl)) rfl ?_
      exact dm_ret HS.out.2.1 HOKF.out HLOF.out (by omega) HS.out.2.2.1 HS.out.2.2.2
    · -- case 5
      have hbl := alloc_below' w6 (.cells #[] 33)
      have hlit : Hid (RowE sTok w6.heap.size 33 (.slice (some ⟨w6.heap.size, 0, none⟩) 0 0) [] (w6.alloc (.cells #[] 33))) := RowE.lit [] (by simp) (by simp) (by simp) (by simp) (Nat.le_refl _) (by simp)
      have HMW := Lib.hid (mbox HM7.out hbl)
      have HZW := Lib.hid (mbox HZ7.out hbl)
      have HRW := Lib.hid (HR7.out.grow hbl)
      have HKW := Lib.hid (HK7.out.trans (Kept.of_below hbl))
      have HPW := Lib.hid ((sSlice sStr).below HP7.out hbl)
      have HBW := Lib.hid ((sSlice sTok).below HB7.out hbl)
      have y3 : (w6.alloc (.cells #[] 33)).cell? ⟨w4.heap.size, 3, none⟩ = some (.slice a3 bd.length c3) := cell_of_row _ _ 3 _ _ _ HMW.out
      have hws : (w6.alloc (.cells #[] 33)).heap.size = w6.heap.size + 1 := Array.size_push _
      have HWS := Lib.hid hws
      clear hbl hws
      have hq1' : q ≤ p + 9 := by omega
      go_wp2_with (first
        | (
          at_builtin
          refine wp_append_toksR rfl (.tmp 86) (.tmp 88) rfl w6.heap.size (.slice (some ⟨w6.heap.size, 0, none⟩) 0 0) (.slice a3 bd.length c3) [] bd fp3 rfl hlit.out rfl HBW.out HOK.out.2.2.2.2 (by have := HOK.out.2.2.2.1; simp; omega) (by rw [HWS.out]; omega) ?_
          intro v8 X w8 hX hXf hE hg
          have hown : ∀ b, (Value.slice (some ⟨w6.heap.size, 0, none⟩) 0 0).ownBlock = some b → w6.heap.size ≤ b := hlit.out.mine
          have hlt6 : w6.heap.size < (w6.alloc (.cells #[] 33)).heap.size := by rw [HWS.out]; omega
          have kb : ∀ b, b < w6.heap.size → w8.heap[b]? = ((w6.alloc (.cells #[] 33))).heap[b]? := fun b hb => hg.block b (by omega) (fun he => by have := hown b he.symm; omega)
          have HM8 := Lib.hid ((kb _ (by omega)).trans HMW.out)
          have HZ8 := Lib.hid ((kb _ (by omega)).trans HZW.out)
          have HR8 := Lib.hid (grownRd HRW.out hg (by omega : rb < w6.heap.size) (fun b hb => hown b hb))
          have HK8 := Lib.hid (grownKept HKW.out hg (fun b hb => by have := hown b hb; omega))
          have HP8 := Lib.hid ((sSlice sStr).frame (fun b hb => kb b (by have := (HLO.out b (by simp [hb])).2; omega)) HPW.out)
          have hs8 : w6.heap.size < w8.heap.size := Nat.lt_of_lt_of_le hlt6 hg.size
          rw [List.nil_append] at hE
          obtain ⟨a8, c8, hv8, -⟩ := hE.val
          obtain ⟨n8, hn8⟩ : ∃ n, n = X.length := ⟨_, rfl⟩
          rw [← hn8] at hv8
          subst hv8
          have hn8b : n8 ≤ 20 := by have e : X.length = bd.length := (by rw [← hX, List.length_map]); have := HOK.out.2.2.2.1; omega
          have HN8 := Lib.hid hn8
          have HX8 := Lib.hid hX
          have HE8 := Lib.hid hE
          have hbh := alloc_below' w8 (.cells #[.string ⟨#[97]⟩] 9)
          have hh : (w8.alloc (.cells #[.string ⟨#[97]⟩] 9)).ownsRow w8.heap.size 9 1 (.slice (some ⟨w8.heap.size, 0, none⟩) 1 1) 1 (([⟨#[97]⟩] : List ByteArray).map Value.string) := World.ownsRow_lit (base := w8.heap.size) (e := 9) (size := 1) w8 #[.string ⟨#[97]⟩] 1 (Nat.le_refl _) (by unfold maxLen; omega) rfl
          obtain ⟨fpH, RH, OH, hfpH⟩ := own_flat (ok := okStr) hh (by intro i hi; have e : i = 0 := (by simp at hi; omega); subst e; exact (show okStr (⟨#[97]⟩ : ByteArray) by unfold okStr; decide))
          have HTT : Hid (∀ b ∈ fpH, ∃ cur t fr, (w8.alloc (.cells #[.string ⟨#[97]⟩] 9)).heap[b]? = some (.cells cur t fr) ∧ t ≠ 33) := fun b hb => by
            have e := hfpH b hb
            simp only [Value.ownBlock, Option.some.injEq] at e
            subst e
            exact ⟨_, _, _, heap_alloc_new w8 _, by decide⟩
          have HLH : Hid (∀ b ∈ fpH, w6.heap.size ≤ b) := fun b hb => by have := (OH.2 b hb).1; omega
          have HRH : Hid (sTok.R (w8.alloc (.cells #[.string ⟨#[97]⟩] 9)) [.int .i64 1, .string ⟨#[97]⟩, .bool false, .slice (some ⟨w8.heap.size, 0, none⟩) 1 1] ⟨1, ⟨#[97]⟩, false, [⟨#[97]⟩]⟩ fpH) := ⟨_, rfl, ⟨by decide, by decide⟩, by show okStr _; unfold okStr; decide, RH⟩
          have HW9 : Hid ((w8.alloc (.cells #[.string ⟨#[97]⟩] 9)).heap.size = w8.heap.size + 1) := Array.size_push _
          have HM9 := Lib.hid (mbox HM8.out hbh)
          have HZ9 := Lib.hid (mbox HZ8.out hbh)
          have HR9 := Lib.hid (HR8.out.grow hbh)
          have HK9 := Lib.hid (HK8.out.trans (Kept.of_below hbh))
          have HP9 := Lib.hid ((sSlice sStr).below HP8.out hbh)
          have HE9 := Lib.hid (HE8.out.below hbh)
          clear hbh hh RH OH hfpH HM8 HZ8 HR8 HK8 HP8 HE8
          clear hE hg kb hown y3 hn8 hX hXf hlit)
        | (
          at_builtin
          refine wp_append_tokE rfl (.tmp 89) (.tmp 92) rfl w6.heap.size (.slice a8 n8 c8) X rfl HE9.out 1 ⟨#[97]⟩ false (some ⟨w8.heap.size, 0, none⟩) 1 1 [⟨#[97]⟩] fpH (by rw [HW9.out]; rfl) HRH.out HLH.out HTT.out (by rw [← HN8.out]; omega) (by rw [HW9.out]; omega) ?_
          intro v10 w10 hE10 hg10
          have hown := HE9.out.mine
          have kb : ∀ b, b < w6.heap.size → w10.heap[b]? = (w8.alloc (.cells #[.string ⟨#[97]⟩] 9)).heap[b]? := fun b hb => hg10.block b (by rw [HW9.out]; omega) (fun he => by have := hown b he.symm; omega)
          have HMX := Lib.hid ((kb _ (by omega)).trans HM9.out)
          have HZX := Lib.hid ((kb _ (by omega)).trans HZ9.out)
          have HRX := Lib.hid (grownRd HR9.out hg10 (by omega : rb < w6.heap.size) (fun b hb => hown b hb))
          have HKX := Lib.hid (grownKept HK9.out hg10 (fun b hb => by have := hown b hb; omega))
          have HPX := Lib.hid ((sSlice sStr).frame (fun b hb => kb b (by have := (HLO.out b (by simp [hb])).2; omega)) HP9.out)
          obtain ⟨fpB, hRB, hOB⟩ := hE10.read
          have HFB : Hid (∀ b ∈ fpB, w6.heap.size ≤ b) := hOB
          have HRB := Lib.hid hRB
          obtain ⟨av, cv, hv, -⟩ := hE10.val
          generalize (X ++ [(⟨[.int .i64 1, .string ⟨#[97]⟩, .bool false, .slice (some ⟨w8.heap.size, 0, none⟩) 1 1], ⟨1, ⟨#[97]⟩, false, [⟨#[97]⟩]⟩, fpH⟩ : Elem Tok)]).length = nv at hv
          subst hv
          clear hE10 hg10 kb hRB hOB hown
          have y0 : w10.cell? ⟨w4.heap.size, 0, none⟩ = some (.string nm) := cell_of_row _ _ 0 _ _ _ HMX.out
          have y1 : w10.cell? ⟨w4.heap.size, 1, none⟩ = some (.bool fb) := cell_of_row _ _ 1 _ _ _ HMX.out
          have y2 : w10.cell? ⟨w4.heap.size, 2, none⟩ = some (.slice a2 ps.length c2) := cell_of_row _ _ 2 _ _ _ HMX.out
          have y3 : w10.cell? ⟨w4.heap.size, 3, none⟩ = some (.slice a3 bd.length c3) := cell_of_row _ _ 3 _ _ _ HMX.out
          have yf : w10.frozen? ⟨w4.heap.size, 3, none⟩ = false := frozen_of_row _ _ 3 _ _ HMX.out
          have z0 : w10.cell? ⟨w.heap.size, 0, none⟩ = some (.string ⟨#[]⟩) := cell_of_row _ _ 0 _ _ _ HZX.out
          have zf0 : w10.frozen? ⟨w.heap.size, 0, none⟩ = false := frozen_of_row _ _ 0 _ _ HZX.out
          have z1 : w10.cell? ⟨w.heap.size, 1, none⟩ = some (.bool false) := cell_of_row _ _ 1 _ _ _ HZX.out
          have zf1 : w10.frozen? ⟨w.heap.size, 1, none⟩ = false := frozen_of_row _ _ 1 _ _ HZX.out
          have z2 : w10.cell? ⟨w.heap.size, 2, none⟩ = some (.slice none 0 0) := cell_of_row _ _ 2 _ _ _ HZX.out
          have zf2 : w10.frozen? ⟨w.heap.size, 2, none⟩ = false := frozen_of_row _ _ 2 _ _ HZX.out
          have z3 : w10.cell? ⟨w.heap.size, 3, none⟩ = some (.slice none 0 0) := cell_of_row _ _ 3 _ _ _ HZX.out
          have zf3 : w10.frozen? ⟨w.heap.size, 3, none⟩ = false := frozen_of_row _ _ 3 _ _ HZX.out
          have HS := Lib.hid (set4_mac (w := w) (wP := w10.setCell ⟨w4.heap.size, 3, none⟩ (.slice av nv cv)) (blk_other HZX.out (by omega : w.heap.size ≠ w4.heap.size) 3 (.slice av nv cv)) (sMacro.setB (show sMacro.R w10 [.string nm, .bool fb, .slice a2 ps.length c2, .slice av nv cv] ⟨nm, fb, ps, (X ++ [(⟨[.int .i64 1, .string ⟨#[97]⟩, .bool false, .slice (some ⟨w8.heap.size, 0, none⟩) 1 1], ⟨1, ⟨#[97]⟩, false, [⟨#[97]⟩]⟩, fpH⟩ : Elem Tok)]).map (·.d)⟩ (fp2 ++ fpB) from ⟨_, _, fp2, fpB, rfl, HOK.out.1, HPX.out, HRB.out, rfl⟩) (fun hx => (List.mem_append.1 hx).elim (fun h => HX1.out (by simp [h])) (fun h => by have := HFB.out _ h; omega)) 3 (.slice av nv cv)) (fun hx => (List.mem_append.1 hx).elim (fun h => HX0.out (by simp [h])) (fun h => by have := HFB.out _ h; omega)) (rdSet HRX.out (by omega) 3 (.slice av nv cv)) (by omega) (keptSet HKX.out (by omega) (.slice av nv cv) 3) (Nat.le_refl _))
          have HOKF : Hid (okMac ⟨nm, fb, ps, (X ++ [(⟨[.int .i64 1, .string ⟨#[97]⟩, .bool false, .slice (some ⟨w8.heap.size, 0, none⟩) 1 1], ⟨1, ⟨#[97]⟩, false, [⟨#[97]⟩]⟩, fpH⟩ : Elem Tok)]).map (·.d)⟩) := ⟨by have := HOK.out.2.1; show nm.size ≤ 1000; omega, by have := HOK.out.2.2.1; show ps.length ≤ 100; omega, by rw [List.map_append, HX8.out]; simp; have := HOK.out.2.2.2.1; omega, fun t ht => by rw [List.map_append, HX8.out] at ht; exact (List.mem_append.1 ht).elim (fun h => by rw [HOK.out.2.2.2.2 t h]; simp) (fun h => by simp at h; rw [h]; decide)⟩
          have HLOF : Hid (∀ b ∈ fp2 ++ fpB, w.heap.size ≤ b) := fun b hb => (List.mem_append.1 hb).elim (fun h => by have := (HLO.out b (by simp [h])).1; omega) (fun h => by have := HFB.out _ h; omega)
          clear HLO))
      refine bodyPost_ret (results_cell_row rfl _ _ w.heap.size _ _ _ _ rfl HS.out.1 Try.underlying70 rfl (by kernel_rfl)) rfl ?_
      exact dm_ret HS.out.2.1 HOKF.out HLOF.out (by omega) HS.out.2.2.1 HS.out.2.2.2
    · -- case 6
      have hbl := alloc_below' w6 (.cells #[.int .i64 1, .string ⟨#[97]⟩, .bool true, .slice none 0 0] 33)
      have hlit : RowE sTok w6.heap.size 33 (.slice (some ⟨w6.heap.size, 0, none⟩) 1 1) [(⟨[.int .i64 1, .string ⟨#[97]⟩, .bool true, .slice none 0 0], ⟨1, ⟨#[97]⟩, true, []⟩, []⟩ : Elem Tok)] (w6.alloc (.cells #[.int .i64 1, .string ⟨#[97]⟩, .bool true, .slice none 0 0] 33)) := RowE.lit [(⟨[.int .i64 1, .string ⟨#[97]⟩, .bool true, .slice none 0 0], ⟨1, ⟨#[97]⟩, true, []⟩, []⟩ : Elem Tok)] (by intro x hx; simp only [List.mem_cons, List.not_mem_nil, or_false] at hx; rcases hx with rfl <;> rfl) (by intro x hx; simp only [List.mem_cons, List.not_mem_nil, or_false] at hx; rcases hx with rfl <;> exact ⟨_, rfl, ⟨by decide, by decide⟩, by show okStr _; unfold okStr; decide, slice_empty sStr _ _ _ (by simp)⟩) (by intro x hx b hb; simp only [List.mem_cons, List.not_mem_nil, or_false] at hx; rcases hx with rfl <;> simp at hb) (by intro x hx b hb; simp only [List.mem_cons, List.not_mem_nil, or_false] at hx; rcases hx with rfl <;> simp at hb) (Nat.le_refl _) (by decide)
      obtain ⟨fpB, hRB, hOB⟩ := rowE_own hlit (by intro x hx; simp only [List.mem_cons, List.not_mem_nil, or_false] at hx; rcases hx with rfl <;> rfl)
      have HFB : Hid (∀ b ∈ fpB, w6.heap.size ≤ b) := fun b hb => (hOB.2 b hb).1
      have HRB := Lib.hid hRB
      have HMW := Lib.hid (mbox HM7.out hbl)
      have HZW := Lib.hid (mbox HZ7.out hbl)
      have HRW := Lib.hid (HR7.out.grow hbl)
      have HKW := Lib.hid (HK7.out.trans (Kept.of_below hbl))
      have HPW := Lib.hid ((sSlice sStr).below HP7.out hbl)
      clear hlit hRB hOB hbl
      have x0 : (w6.alloc (.cells #[.int .i64 1, .string ⟨#[97]⟩, .bool true, .slice none 0 0] 33)).cell? ⟨w4.heap.size, 0, none⟩ = some (.string nm) := cell_of_row _ _ 0 _ _ _ HMW.out
      have x1 : (w6.alloc (.cells #[.int .i64 1, .string ⟨#[97]⟩, .bool true, .slice none 0 0] 33)).cell? ⟨w4.heap.size, 1, none⟩ = some (.bool fb) := cell_of_row _ _ 1 _ _ _ HMW.out
      have x2 : (w6.alloc (.cells #[.int .i64 1, .string ⟨#[97]⟩, .bool true, .slice none 0 0] 33)).cell? ⟨w4.heap.size, 2, none⟩ = some (.slice a2 ps.length c2) := cell_of_row _ _ 2 _ _ _ HMW.out
      have x3 : (w6.alloc (.cells #[.int .i64 1, .string ⟨#[97]⟩, .bool true, .slice none 0 0] 33)).cell? ⟨w4.heap.size, 3, none⟩ = some (.slice a3 bd.length c3) := cell_of_row _ _ 3 _ _ _ HMW.out
      have xf : (w6.alloc (.cells #[.int .i64 1, .string ⟨#[97]⟩, .bool true, .slice none 0 0] 33)).frozen? ⟨w4.heap.size, 3, none⟩ = false := frozen_of_row _ _ 3 _ _ HMW.out
      have eW : (w6.alloc (.cells #[.int .i64 1, .string ⟨#[97]⟩, .bool true, .slice none 0 0] 33)).setCell ⟨w4.heap.size, 3, none⟩ (.slice (some ⟨w6.heap.size, 0, none⟩) 1 1) = ((w6.setCell ⟨w4.heap.size, 3, none⟩ (.slice (some ⟨w6.heap.size, 0, none⟩) 1 1)).alloc (.cells #[.int .i64 1, .string ⟨#[97]⟩, .bool true, .slice none 0 0] 33)) := World.setCell_alloc_past _ _ _ _ hs6
      have HMS := Lib.hid (eW ▸ blk_set HMW.out 3 (.slice (some ⟨w6.heap.size, 0, none⟩) 1 1))
      have HZS := Lib.hid (eW ▸ blk_other HZW.out (by omega : w.heap.size ≠ w4.heap.size) 3 (.slice (some ⟨w6.heap.size, 0, none⟩) 1 1))
      have HRS := Lib.hid (eW ▸ rdSet HRW.out (by omega : rb < w4.heap.size) 3 (.slice (some ⟨w6.heap.size, 0, none⟩) 1 1))
      have HKS := Lib.hid (eW ▸ keptSet HKW.out (by omega : w.heap.size ≤ w4.heap.size) (.slice (some ⟨w6.heap.size, 0, none⟩) 1 1) 3)
      have HPS := Lib.hid (eW ▸ (sSlice sStr).setB HPW.out (fun hx => HX1.out (by simp [hx])) 3 (.slice (some ⟨w6.heap.size, 0, none⟩) 1 1))
      have HBS := Lib.hid (eW ▸ (sSlice sTok).setB HRB.out (fun hx => by have := HFB.out _ hx; omega) 3 (.slice (some ⟨w6.heap.size, 0, none⟩) 1 1))
      clear eW HMW HZW HRW HKW HPW HRB
      have y0 : ((w6.setCell ⟨w4.heap.size, 3, none⟩ (.slice (some ⟨w6.heap.size, 0, none⟩) 1 1)).alloc (.cells #[.int .i64 1, .string ⟨#[97]⟩, .bool true, .slice none 0 0] 33)).cell? ⟨w4.heap.size, 0, none⟩ = some (.string nm) := cell_of_row _ _ 0 _ _ _ HMS.out
      have y1 : ((w6.setCell ⟨w4.heap.size, 3, none⟩ (.slice (some ⟨w6.heap.size, 0, none⟩) 1 1)).alloc (.cells #[.int .i64 1, .string ⟨#[97]⟩, .bool true, .slice none 0 0] 33)).cell? ⟨w4.heap.size, 1, none⟩ = some (.bool fb) := cell_of_row _ _ 1 _ _ _ HMS.out
      have y2 : ((w6.setCell ⟨w4.heap.size, 3, none⟩ (.slice (some ⟨w6.heap.size, 0, none⟩) 1 1)).alloc (.cells #[.int .i64 1, .string ⟨#[97]⟩, .bool true, .slice none 0 0] 33)).cell? ⟨w4.heap.size, 2, none⟩ = some (.slice a2 ps.length c2) := cell_of_row _ _ 2 _ _ _ HMS.out
      have y3 : ((w6.setCell ⟨w4.heap.size, 3, none⟩ (.slice (some ⟨w6.heap.size, 0, none⟩) 1 1)).alloc (.cells #[.int .i64 1, .string ⟨#[97]⟩, .bool true, .slice none 0 0] 33)).cell? ⟨w4.heap.size, 3, none⟩ = some (.slice (some ⟨w6.heap.size, 0, none⟩) 1 1) := cell_of_row _ _ 3 _ _ _ HMS.out
      have z0 : ((w6.setCell ⟨w4.heap.size, 3, none⟩ (.slice (some ⟨w6.heap.size, 0, none⟩) 1 1)).alloc (.cells #[.int .i64 1, .string ⟨#[97]⟩, .bool true, .slice none 0 0] 33)).cell? ⟨w.heap.size, 0, none⟩ = some (.string ⟨#[]⟩) := cell_of_row _ _ 0 _ _ _ HZS.out
      have zf0 : ((w6.setCell ⟨w4.heap.size, 3, none⟩ (.slice (some ⟨w6.heap.size, 0, none⟩) 1 1)).alloc (.cells #[.int .i64 1, .string ⟨#[97]⟩, .bool true, .slice none 0 0] 33)).frozen? ⟨w.heap.size, 0, none⟩ = false := frozen_of_row _ _ 0 _ _ HZS.out
      have z1 : ((w6.setCell ⟨w4.heap.size, 3, none⟩ (.slice (some ⟨w6.heap.size, 0, none⟩) 1 1)).alloc (.cells #[.int .i64 1, .string ⟨#[97]⟩, .bool true, .slice none 0 0] 33)).cell? ⟨w.heap.size, 1, none⟩ = some (.bool false) := cell_of_row _ _ 1 _ _ _ HZS.out
      have zf1 : ((w6.setCell ⟨w4.heap.size, 3, none⟩ (.slice (some ⟨w6.heap.size, 0, none⟩) 1 1)).alloc (.cells #[.int .i64 1, .string ⟨#[97]⟩, .bool true, .slice none 0 0] 33)).frozen? ⟨w.heap.size, 1, none⟩ = false := frozen_of_row _ _ 1 _ _ HZS.out
      have z2 : ((w6.setCell ⟨w4.heap.size, 3, none⟩ (.slice (some ⟨w6.heap.size, 0, none⟩) 1 1)).alloc (.cells #[.int .i64 1, .string ⟨#[97]⟩, .bool true, .slice none 0 0] 33)).cell? ⟨w.heap.size, 2, none⟩ = some (.slice none 0 0) := cell_of_row _ _ 2 _ _ _ HZS.out
      have zf2 : ((w6.setCell ⟨w4.heap.size, 3, none⟩ (.slice (some ⟨w6.heap.size, 0, none⟩) 1 1)).alloc (.cells #[.int .i64 1, .string ⟨#[97]⟩, .bool true, .slice none 0 0] 33)).frozen? ⟨w.heap.size, 2, none⟩ = false := frozen_of_row _ _ 2 _ _ HZS.out
      have z3 : ((w6.setCell ⟨w4.heap.size, 3, none⟩ (.slice (some ⟨w6.heap.size, 0, none⟩) 1 1)).alloc (.cells #[.int .i64 1, .string ⟨#[97]⟩, .bool true, .slice none 0 0] 33)).cell? ⟨w.heap.size, 3, none⟩ = some (.slice none 0 0) := cell_of_row _ _ 3 _ _ _ HZS.out
      have zf3 : ((w6.setCell ⟨w4.heap.size, 3, none⟩ (.slice (some ⟨w6.heap.size, 0, none⟩) 1 1)).alloc (.cells #[.int .i64 1, .string ⟨#[97]⟩, .bool true, .slice none 0 0] 33)).frozen? ⟨w.heap.size, 3, none⟩ = false := frozen_of_row _ _ 3 _ _ HZS.out
      have HS := Lib.hid (set4_mac (w := w) (wP := ((w6.setCell ⟨w4.heap.size, 3, none⟩ (.slice (some ⟨w6.heap.size, 0, none⟩) 1 1)).alloc (.cells #[.int .i64 1, .string ⟨#[97]⟩, .bool true, .slice none 0 0] 33))) HZS.out (show sMacro.R ((w6.setCell ⟨w4.heap.size, 3, none⟩ (.slice (some ⟨w6.heap.size, 0, none⟩) 1 1)).alloc (.cells #[.int .i64 1, .string ⟨#[97]⟩, .bool true, .slice none 0 0] 33)) [.string nm, .bool fb, .slice a2 ps.length c2, .slice (some ⟨w6.heap.size, 0, none⟩) 1 1] ⟨nm, fb, ps, ([(⟨[.int .i64 1, .string ⟨#[97]⟩, .bool true, .slice none 0 0], ⟨1, ⟨#[97]⟩, true, []⟩, []⟩ : Elem Tok)]).map (·.d)⟩ (fp2 ++ fpB) from ⟨_, _, fp2, fpB, rfl, HOK.out.1, HPS.out, HBS.out, rfl⟩) (fun hx => (List.mem_append.1 hx).elim (fun h => HX0.out (by simp [h])) (fun h => by have := HFB.out _ h; omega)) HRS.out (by omega) HKS.out (Nat.le_refl _))
      have HOKF : Hid (okMac ⟨nm, fb, ps, ([(⟨[.int .i64 1, .string ⟨#[97]⟩, .bool true, .slice none 0 0], ⟨1, ⟨#[97]⟩, true, []⟩, []⟩ : Elem Tok)]).map (·.d)⟩) := ⟨by have := HOK.out.2.1; show nm.size ≤ 1000; omega, by have := HOK.out.2.2.1; show ps.length ≤ 100; omega, by show (1 : Nat) ≤ 100; omega, fun t ht => by simp only [List.map_cons, List.map_nil, List.mem_cons, List.not_mem_nil, or_false] at ht; rcases ht with rfl <;> decide⟩
      have HLOF : Hid (∀ b ∈ fp2 ++ fpB, w.heap.size ≤ b) := fun b hb => (List.mem_append.1 hb).elim (fun h => by have := (HLO.out b (by simp [h])).1; omega) (fun h => by have := HFB.out _ h; omega)
      clear HLO
      go_wp2
      refine bodyPost_ret (results_cell_row rfl _ _ w.heap.size _ _ _ _ rfl HS.out.1 Try.underlying70 rfl (by kernel_rfl)) rfl ?_
      exact dm_ret HS.out.2.1 HOKF.out HLOF.out (by omega) HS.out.2.2.1 HS.out.2.2.2
    · -- case 7
      have hbl := alloc_below' w6 (.cells #[.int .i64 1, .string ⟨#[97]⟩, .bool false, .slice none 0 0, .int .i64 4, .string ⟨#[35, 35]⟩, .bool false, .slice none 0 0, .int .i64 4, .string ⟨#[35, 35]⟩, .bool false, .slice none 0 0, .int .i64 1, .string ⟨#[98]⟩, .bool false, .slice none 0 0] 33)
      have hlit : RowE sTok w6.heap.size 33 (.slice (some ⟨w6.heap.size, 0, none⟩) 4 4) [(⟨[.int .i64 1, .string ⟨#[97]⟩, .bool false, .slice none 0 0], ⟨1, ⟨#[97]⟩, false, []⟩, []⟩ : Elem Tok), (⟨[.int .i64 4, .string ⟨#[35, 35]⟩, .bool false, .slice none 0 0], ⟨4, ⟨#[35, 35]⟩, false, []⟩, []⟩ : Elem Tok), (⟨[.int .i64 4, .string ⟨#[35, 35]⟩, .bool false, .slice none 0 0], ⟨4, ⟨#[35, 35]⟩, false, []⟩, []⟩ : Elem Tok), (⟨[.int .i64 1, .string ⟨#[98]⟩, .bool false, .slice none 0 0], ⟨1, ⟨#[98]⟩, false, []⟩, []⟩ : Elem Tok)] (w6.alloc (.cells #[.int .i64 1, .string ⟨#[97]⟩, .bool false, .slice none 0 0, .int .i64 4, .string ⟨#[35, 35]⟩, .bool false, .slice none 0 0, .int .i64 4, .string ⟨#[35, 35]⟩, .bool false, .slice none 0 0, .int .i64 1, .string ⟨#[98]⟩, .bool false, .slice none 0 0] 33)) := RowE.lit [(⟨[.int .i64 1, .string ⟨#[97]⟩, .bool false, .slice none 0 0], ⟨1, ⟨#[97]⟩, false, []⟩, []⟩ : Elem Tok), (⟨[.int .i64 4, .string ⟨#[35, 35]⟩, .bool false, .slice none 0 0], ⟨4, ⟨#[35, 35]⟩, false, []⟩, []⟩ : Elem Tok), (⟨[.int .i64 4, .string ⟨#[35, 35]⟩, .bool false, .slice none 0 0], ⟨4, ⟨#[35, 35]⟩, false, []⟩, []⟩ : Elem Tok), (⟨[.int .i64 1, .string ⟨#[98]⟩, .bool false, .slice none 0 0], ⟨1, ⟨#[98]⟩, false, []⟩, []⟩ : Elem Tok)] (by intro x hx; simp only [List.mem_cons, List.not_mem_nil, or_false] at hx; rcases hx with rfl | rfl | rfl | rfl <;> rfl) (by intro x hx; simp only [List.mem_cons, List.not_mem_nil, or_false] at hx; rcases hx with rfl | rfl | rfl | rfl <;> exact ⟨_, rfl, ⟨by decide, by decide⟩, by show okStr _; unfold okStr; decide, slice_empty sStr _ _ _ (by simp)⟩) (by intro x hx b hb; simp only [List.mem_cons, List.not_mem_nil, or_false] at hx; rcases hx with rfl | rfl | rfl | rfl <;> simp at hb) (by intro x hx b hb; simp only [List.mem_cons, List.not_mem_nil, or_false] at hx; rcases hx with rfl | rfl | rfl | rfl <;> simp at hb) (Nat.le_refl _) (by decide)
      obtain ⟨fpB, hRB, hOB⟩ := rowE_own hlit (by intro x hx; simp only [List.mem_cons, List.not_mem_nil, or_false] at hx; rcases hx with rfl | rfl | rfl | rfl <;> rfl)
      have HFB : Hid (∀ b ∈ fpB, w6.heap.size ≤ b) := fun b hb => (hOB.2 b hb).1
      have HRB := Lib.hid hRB
      have HMW := Lib.hid (mbox HM7.out hbl)
      have HZW := Lib.hid (mbox HZ7.out hbl)
      have HRW := Lib.hid (HR7.out.grow hbl)
      have HKW := Lib.hid (HK7.out.trans (Kept.of_below hbl))
      have HPW := Lib.hid ((sSlice sStr).below HP7.out hbl)
      clear hlit hRB hOB hbl
      have x0 : (w6.alloc (.cells #[.int .i64 1, .string ⟨#[97]⟩, .bool false, .slice none 0 0, .int .i64 4, .string ⟨#[35, 35]⟩, .bool false, .slice none 0 0, .int .i64 4, .string ⟨#[35, 35]⟩, .bool false, .slice none 0 0, .int .i64 1, .string ⟨#[98]⟩, .bool false, .slice none 0 0] 33)).cell? ⟨w4.heap.size, 0, none⟩ = some (.string nm) := cell_of_row _ _ 0 _ _ _ HMW.out
      have x1 : (w6.alloc (.cells #[.int .i64 1, .string ⟨#[97]⟩, .bool false, .slice none 0 0, .int .i64 4, .string ⟨#[35, 35]⟩, .bool false, .slice none 0 0, .int .i64 4, .string ⟨#[35, 35]⟩, .bool false, .slice none 0 0, .int .i64 1, .string ⟨#[98]⟩, .bool false, .slice none 0 0] 33)).cell? ⟨w4.heap.size, 1, none⟩ = some (.bool fb) := cell_of_row _ _ 1 _ _ _ HMW.out
      have x2 : (w6.alloc (.cells #[.int .i64 1, .string ⟨#[97]⟩, .bool false, .slice none 0 0, .int .i64 4, .string ⟨#[35, 35]⟩, .bool false, .slice none 0 0, .int .i64 4, .string ⟨#[35, 35]⟩, .bool false, .slice none 0 0, .int .i64 1, .string ⟨#[98]⟩, .bool false, .slice none 0 0] 33)).cell? ⟨w4.heap.size, 2, none⟩ = some (.slice a2 ps.length c2) := cell_of_row _ _ 2 _ _ _ HMW.out
      have x3 : (w6.alloc (.cells #[.int .i64 1, .string ⟨#[97]⟩, .bool false, .slice none 0 0, .int .i64 4, .string ⟨#[35, 35]⟩, .bool false, .slice none 0 0, .int .i64 4, .string ⟨#[35, 35]⟩, .bool false, .slice none 0 0, .int .i64 1, .string ⟨#[98]⟩, .bool false, .slice none 0 0] 33)).cell? ⟨w4.heap.size, 3, none⟩ = some (.slice a3 bd.length c3) := cell_of_row _ _ 3 _ _ _ HMW.out
      have xf : (w6.alloc (.cells #[.int .i64 1, .string ⟨#[97]⟩, .bool false, .slice none 0 0, .int .i64 4, .string ⟨#[35, 35]⟩, .bool false, .slice none 0 0, .int .i64 4, .string ⟨#[35, 35]⟩, .bool false, .slice none 0 0, .int .i64 1, .string ⟨#[98]⟩, .bool false, .slice none 0 0] 33)).frozen? ⟨w4.heap.size, 3, none⟩ = false := frozen_of_row _ _ 3 _ _ HMW.out
      have eW : (w6.alloc (.cells #[.int .i64 1, .string ⟨#[97]⟩, .bool false, .slice none 0 0, .int .i64 4, .string ⟨#[35, 35]⟩, .bool false, .slice none 0 0, .int .i64 4, .string ⟨#[35, 35]⟩, .bool false, .slice none 0 0, .int .i64 1, .string ⟨#[98]⟩, .bool false, .slice none 0 0] 33)).setCell ⟨w4.heap.size, 3, none⟩ (.slice (some ⟨w6.heap.size, 0, none⟩) 4 4) = ((w6.setCell ⟨w4.heap.size, 3, none⟩ (.slice (some ⟨w6.heap.size, 0, none⟩) 4 4)).alloc (.cells #[.int .i64 1, .string ⟨#[97]⟩, .bool false, .slice none 0 0, .int .i64 4, .string ⟨#[35, 35]⟩, .bool false, .slice none 0 0, .int .i64 4, .string ⟨#[35, 35]⟩, .bool false, .slice none 0 0, .int .i64 1, .string ⟨#[98]⟩, .bool false, .slice none 0 0] 33)) := World.setCell_alloc_past _ _ _ _ hs6
      have HMS := Lib.hid (eW ▸ blk_set HMW.out 3 (.slice (some ⟨w6.heap.size, 0, none⟩) 4 4))
      have HZS := Lib.hid (eW ▸ blk_other HZW.out (by omega : w.heap.size ≠ w4.heap.size) 3 (.slice (some ⟨w6.heap.size, 0, none⟩) 4 4))
      have HRS := Lib.hid (eW ▸ rdSet HRW.out (by omega : rb < w4.heap.size) 3 (.slice (some ⟨w6.heap.size, 0, none⟩) 4 4))
      have HKS := Lib.hid (eW ▸ keptSet HKW.out (by omega : w.heap.size ≤ w4.heap.size) (.slice (some ⟨w6.heap.size, 0, none⟩) 4 4) 3)
      have HPS := Lib.hid (eW ▸ (sSlice sStr).setB HPW.out (fun hx => HX1.out (by simp [hx])) 3 (.slice (some ⟨w6.heap.size, 0, none⟩) 4 4))
      have HBS := Lib.hid (eW ▸ (sSlice sTok).setB HRB.out (fun hx => by have := HFB.out _ hx; omega) 3 (.slice (some ⟨w6.heap.size, 0, none⟩) 4 4))
      clear eW HMW HZW HRW HKW HPW HRB
      have y0 : ((w6.setCell ⟨w4.heap.size, 3, none⟩ (.slice (some ⟨w6.heap.size, 0, none⟩) 4 4)).alloc (.cells #[.int .i64 1, .string ⟨#[97]⟩, .bool false, .slice none 0 0, .int .i64 4, .string ⟨#[35, 35]⟩, .bool false, .slice none 0 0, .int .i64 4, .string ⟨#[35, 35]⟩, .bool false, .slice none 0 0, .int .i64 1, .string ⟨#[98]⟩, .bool false, .slice none 0 0] 33)).cell? ⟨w4.heap.size, 0, none⟩ = some (.string nm) := cell_of_row _ _ 0 _ _ _ HMS.out
      have y1 : ((w6.setCell ⟨w4.heap.size, 3, none⟩ (.slice (some ⟨w6.heap.size, 0, none⟩) 4 4)).alloc (.cells #[.int .i64 1, .string ⟨#[97]⟩, .bool false, .slice none 0 0, .int .i64 4, .string ⟨#[35, 35]⟩, .bool false, .slice none 0 0, .int .i64 4, .string ⟨#[35, 35]⟩, .bool false, .slice none 0 0, .int .i64 1, .string ⟨#[98]⟩, .bool false, .slice none 0 0] 33)).cell? ⟨w4.heap.size, 1, none⟩ = some (.bool fb) := cell_of_row _ _ 1 _ _ _ HMS.out
      have y2 : ((w6.setCell ⟨w4.heap.size, 3, none⟩ (.slice (some ⟨w6.heap.size, 0, none⟩) 4 4)).alloc (.cells #[.int .i64 1, .string ⟨#[97]⟩, .bool false, .slice none 0 0, .int .i64 4, .string ⟨#[35, 35]⟩, .bool false, .slice none 0 0, .int .i64 4, .string ⟨#[35, 35]⟩, .bool false, .slice none 0 0, .int .i64 1, .string ⟨#[98]⟩, .bool false, .slice none 0 0] 33)).cell? ⟨w4.heap.size, 2, none⟩ = some (.slice a2 ps.length c2) := cell_of_row _ _ 2 _ _ _ HMS.out
      have y3 : ((w6.setCell ⟨w4.heap.size, 3, none⟩ (.slice (some ⟨w6.heap.size, 0, none⟩) 4 4)).alloc (.cells #[.int .i64 1, .string ⟨#[97]⟩, .bool false, .slice none 0 0, .int .i64 4, .string ⟨#[35, 35]⟩, .bool false, .slice none 0 0, .int .i64 4, .string ⟨#[35, 35]⟩, .bool false, .slice none 0 0, .int .i64 1, .string ⟨#[98]⟩, .bool false, .slice none 0 0] 33)).cell? ⟨w4.heap.size, 3, none⟩ = some (.slice (some ⟨w6.heap.size, 0, none⟩) 4 4) := cell_of_row _ _ 3 _ _ _ HMS.out
      have z0 : ((w6.setCell ⟨w4.heap.size, 3, none⟩ (.slice (some ⟨w6.heap.size, 0, none⟩) 4 4)).alloc (.cells #[.int .i64 1, .string ⟨#[97]⟩, .bool false, .slice none 0 0, .int .i64 4, .string ⟨#[35, 35]⟩, .bool false, .slice none 0 0, .int .i64 4, .string ⟨#[35, 35]⟩, .bool false, .slice none 0 0, .int .i64 1, .string ⟨#[98]⟩, .bool false, .slice none 0 0] 33)).cell? ⟨w.heap.size, 0, none⟩ = some (.string ⟨#[]⟩) := cell_of_row _ _ 0 _ _ _ HZS.out
      have zf0 : ((w6.setCell ⟨w4.heap.size, 3, none⟩ (.slice (some ⟨w6.heap.size, 0, none⟩) 4 4)).alloc (.cells #[.int .i64 1, .string ⟨#[97]⟩, .bool false, .slice none 0 0, .int .i64 4, .string ⟨#[35, 35]⟩, .bool false, .slice none 0 0, .int .i64 4, .string ⟨#[35, 35]⟩, .bool false, .slice none 0 0, .int .i64 1, .string ⟨#[98]⟩, .bool false, .slice none 0 0] 33)).frozen? ⟨w.heap.size, 0, none⟩ = false := frozen_of_row _ _ 0 _ _ HZS.out
      have z1 : ((w6.setCell ⟨w4.heap.size, 3, none⟩ (.slice (some ⟨w6.heap.size, 0, none⟩) 4 4)).alloc (.cells #[.int .i64 1, .string ⟨#[97]⟩, .bool false, .slice none 0 0, .int .i64 4, .string ⟨#[35, 35]⟩, .bool false, .slice none 0 0, .int .i64 4, .string ⟨#[35, 35]⟩, .bool false, .slice none 0 0, .int .i64 1, .string ⟨#[98]⟩, .bool false, .slice none 0 0] 33)).cell? ⟨w.heap.size, 1, none⟩ = some (.bool false) := cell_of_row _ _ 1 _ _ _ HZS.out
      have zf1 : ((w6.setCell ⟨w4.heap.size, 3, none⟩ (.slice (some ⟨w6.heap.size, 0, none⟩) 4 4)).alloc (.cells #[.int .i64 1, .string ⟨#[97]⟩, .bool false, .slice none 0 0, .int .i64 4, .string ⟨#[35, 35]⟩, .bool false, .slice none 0 0, .int .i64 4, .string ⟨#[35, 35]⟩, .bool false, .slice none 0 0, .int .i64 1, .string ⟨#[98]⟩, .bool false, .slice none 0 0] 33)).frozen? ⟨w.heap.size, 1, none⟩ = false := frozen_of_row _ _ 1 _ _ HZS.out
      have z2 : ((w6.setCell ⟨w4.heap.size, 3, none⟩ (.slice (some ⟨w6.heap.size, 0, none⟩) 4 4)).alloc (.cells #[.int .i64 1, .string ⟨#[97]⟩, .bool false, .slice none 0 0, .int .i64 4, .string ⟨#[35, 35]⟩, .bool false, .slice none 0 0, .int .i64 4, .string ⟨#[35, 35]⟩, .bool false, .slice none 0 0, .int .i64 1, .string ⟨#[98]⟩, .bool false, .slice none 0 0] 33)).cell? ⟨w.heap.size, 2, none⟩ = some (.slice none 0 0) := cell_of_row _ _ 2 _ _ _ HZS.out
      have zf2 : ((w6.setCell ⟨w4.heap.size, 3, none⟩ (.slice (some ⟨w6.heap.size, 0, none⟩) 4 4)).alloc (.cells #[.int .i64 1, .string ⟨#[97]⟩, .bool false, .slice none 0 0, .int .i64 4, .string ⟨#[35, 35]⟩, .bool false, .slice none 0 0, .int .i64 4, .string ⟨#[35, 35]⟩, .bool false, .slice none 0 0, .int .i64 1, .string ⟨#[98]⟩, .bool false, .slice none 0 0] 33)).frozen? ⟨w.heap.size, 2, none⟩ = false := frozen_of_row _ _ 2 _ _ HZS.out
      have z3 : ((w6.setCell ⟨w4.heap.size, 3, none⟩ (.slice (some ⟨w6.heap.size, 0, none⟩) 4 4)).alloc (.cells #[.int .i64 1, .string ⟨#[97]⟩, .bool false, .slice none 0 0, .int .i64 4, .string ⟨#[35, 35]⟩, .bool false, .slice none 0 0, .int .i64 4, .string ⟨#[35, 35]⟩, .bool false, .slice none 0 0, .int .i64 1, .string ⟨#[98]⟩, .bool false, .slice none 0 0] 33)).cell? ⟨w.heap.size, 3, none⟩ = some (.slice none 0 0) := cell_of_row _ _ 3 _ _ _ HZS.out
      have zf3 : ((w6.setCell ⟨w4.heap.size, 3, none⟩ (.slice (some ⟨w6.heap.size, 0, none⟩) 4 4)).alloc (.cells #[.int .i64 1, .string ⟨#[97]⟩, .bool false, .slice none 0 0, .int .i64 4, .string ⟨#[35, 35]⟩, .bool false, .slice none 0 0, .int .i64 4, .string ⟨#[35, 35]⟩, .bool false, .slice none 0 0, .int .i64 1, .string ⟨#[98]⟩, .bool false, .slice none 0 0] 33)).frozen? ⟨w.heap.size, 3, none⟩ = false := frozen_of_row _ _ 3 _ _ HZS.out
      have HS := Lib.hid (set4_mac (w := w) (wP := ((w6.setCell ⟨w4.heap.size, 3, none⟩ (.slice (some ⟨w6.heap.size, 0, none⟩) 4 4)).alloc (.cells #[.int .i64 1, .string ⟨#[97]⟩, .bool false, .slice none 0 0, .int .i64 4, .string ⟨#[35, 35]⟩, .bool false, .slice none 0 0, .int .i64 4, .string ⟨#[35, 35]⟩, .bool false, .slice none 0 0, .int .i64 1, .string ⟨#[98]⟩, .bool false, .slice none 0 0] 33))) HZS.out (show sMacro.R ((w6.setCell ⟨w4.heap.size, 3, none⟩ (.slice (some ⟨w6.heap.size, 0, none⟩) 4 4)).alloc (.cells #[.int .i64 1, .string ⟨#[97]⟩, .bool false, .slice none 0 0, .int .i64 4, .string ⟨#[35, 35]⟩, .bool false, .slice none 0 0, .int .i64 4, .string ⟨#[35, 35]⟩, .bool false, .slice none 0 0, .int .i64 1, .string ⟨#[98]⟩, .bool false, .slice none 0 0] 33)) [.string nm, .bool fb, .slice a2 ps.length c2, .slice (some ⟨w6.heap.size, 0, none⟩) 4 4] ⟨nm, fb, ps, ([(⟨[.int .i64 1, .string ⟨#[97]⟩, .bool false, .slice none 0 0], ⟨1, ⟨#[97]⟩, false, []⟩, []⟩ : Elem Tok), (⟨[.int .i64 4, .string ⟨#[35, 35]⟩, .bool false, .slice none 0 0], ⟨4, ⟨#[35, 35]⟩, false, []⟩, []⟩ : Elem Tok), (⟨[.int .i64 4, .string ⟨#[35, 35]⟩, .bool false, .slice none 0 0], ⟨4, ⟨#[35, 35]⟩, false, []⟩, []⟩ : Elem Tok), (⟨[.int .i64 1, .string ⟨#[98]⟩, .bool false, .slice none 0 0], ⟨1, ⟨#[98]⟩, false, []⟩, []⟩ : Elem Tok)]).map (·.d)⟩ (fp2 ++ fpB) from ⟨_, _, fp2, fpB, rfl, HOK.out.1, HPS.out, HBS.out, rfl⟩) (fun hx => (List.mem_append.1 hx).elim (fun h => HX0.out (by simp [h])) (fun h => by have := HFB.out _ h; omega)) HRS.out (by omega) HKS.out (Nat.le_refl _))
      have HOKF : Hid (okMac ⟨nm, fb, ps, ([(⟨[.int .i64 1, .string ⟨#[97]⟩, .bool false, .slice none 0 0], ⟨1, ⟨#[97]⟩, false, []⟩, []⟩ : Elem Tok), (⟨[.int .i64 4, .string ⟨#[35, 35]⟩, .bool false, .slice none 0 0], ⟨4, ⟨#[35, 35]⟩, false, []⟩, []⟩ : Elem Tok), (⟨[.int .i64 4, .string ⟨#[35, 35]⟩, .bool false, .slice none 0 0], ⟨4, ⟨#[35, 35]⟩, false, []⟩, []⟩ : Elem Tok), (⟨[.int .i64 1, .string ⟨#[98]⟩, .bool false, .slice none 0 0], ⟨1, ⟨#[98]⟩, false, []⟩, []⟩ : Elem Tok)]).map (·.d)⟩) := ⟨by have := HOK.out.2.1; show nm.size ≤ 1000; omega, by have := HOK.out.2.2.1; show ps.length ≤ 100; omega, by show (4 : Nat) ≤ 100; omega, fun t ht => by simp only [List.map_cons, List.map_nil, List.mem_cons, List.not_mem_nil, or_false] at ht; rcases ht with rfl | rfl | rfl | rfl <;> decide⟩
      have HLOF : Hid (∀ b ∈ fp2 ++ fpB, w.heap.size ≤ b) := fun b hb => (List.mem_append.1 hb).elim (fun h => by have := (HLO.out b (by simp [h])).1; omega) (fun h => by have := HFB.out _ h; omega)
      clear HLO
      go_wp2
      refine bodyPost_ret (results_cell_row rfl _ _ w.heap.size _ _ _ _ rfl HS.out.1 Try.underlying70 rfl (by kernel_rfl)) rfl ?_
      exact dm_ret HS.out.2.1 HOKF.out HLOF.out (by omega) HS.out.2.2.1 HS.out.2.2.2

end Go.Proofs.Ytipfpppcbmpjiaa

/- Tables are drawn. -/
namespace Go.Proofs.Ytipfpppcbmpjiaa
open Go.RowKit

theorem okMac_sm {m : DMacro} (h : okMac m) : MacSm m := ⟨by have := h.2.1; omega, by have := h.2.2.1; omega, fun k hk => by have := h.2.2.2 _ (List.getElem_mem hk); omega⟩
theorem defM_mem {l : List DMacro} {m : DMacro} : ∀ x ∈ (defM l m).1, x ∈ l ∨ x = m := by
  intro x hx
  unfold defM at hx
  split at hx
  · split at hx
    · split at hx
      · exact .inl hx
      · split at hx
        · exact .inl hx
        · unfold putAt at hx
          simp only [List.mem_append, List.mem_singleton] at hx
          rcases hx with (h | h) | h
          · exact .inl (List.mem_of_mem_take h)
          · exact .inr h
          · exact .inl (List.mem_of_mem_drop h)
    · exact .inl hx
  · simp at hx
theorem defM_len (l : List DMacro) (m : DMacro) : (defM l m).1.length ≤ l.length + 1 := by
  unfold defM
  split
  · split
    · split
      · simp
      · split
        · simp
        · unfold putAt
          simp only [List.length_append, List.length_take, List.length_drop, List.length_singleton]
          omega
    · simp
  · simp
/-- A drawn table. -/
def DrawnTab (rb p n : Nat) (w : World) (e : Ending) (w' : World) : Prop :=
  ∃ (v : Value) (l : List DMacro) (fp : List Nat) (q : Nat), e = .returned v ∧ (sSlice sMacro).R w' [v] l fp ∧ (∀ b ∈ fp, w.heap.size ≤ b) ∧ (∀ m ∈ l, okMac m) ∧ l.length ≤ 9 ∧ q ≤ p + n ∧ Rd w' rb q ∧ Kept [rb] w w'
/-- append behind a row: what can be read then. -/
theorem wp_append_read {α : Type} {S : Shape α} {P : Program} {t e : TypeId} {z : Value} {bytes : Nat} (ti : TI P t e z S.m bytes) (hzs : z.cells.size = S.m) (h0 : 0 < S.m) (w : World) {L X : List (Elem α)} {ops : Array Oper} {rest : List Oper} {o : Oper} {a : Act} {Q : Exit → Act → World → Prop}
    (hg : o.guard = none) (s y : Operand) (ho : o.op = .call { callee := .builtin .append, args := #[s, y], argTypes := #[t, t] })
    (base : Nat) (v : Value) (hs : a.eval s = v) (hown : RowG S base e v L w) (g off m c : Nat) (hy : a.eval y = .slice (some ⟨g, off, none⟩) m c) (hm : X.length = m)
    (hX : ∀ x ∈ X, x.cells.length = S.m ∧ S.R w x.cells x.d x.fp ∧ ∀ b ∈ x.fp, v.ownBlock ≠ some b) (h1 : ∀ x ∈ X, ∀ u ∈ x.cells, u.oneCell' = true) (hcell : ∀ j u, (X.flatMap (·.cells))[j]? = some u → w.cell? ⟨g, off + j, none⟩ = some u)
    (h63 : L.length + m ≤ maxLen) (hbytes : (L.length + m) * bytes ≤ 140737488355328) (hbase : base ≤ w.heap.size)
    (h : ∀ v' fp w', (sSlice S).R w' [v'] ((L ++ X).map (·.d)) fp → (∀ b ∈ fp, base ≤ b ∨ ∃ x ∈ L ++ X, b ∈ x.fp) → w.grownBy w' v.ownBlock → wpList P ops Q rest (a.put o.dst v') w') : wpList P ops Q (o :: rest) a w := by
  obtain ⟨i, hi, hz0, hz1, hz2⟩ := info_parts ti.2
  subst hm
  refine wpList_append_own _ hg s y t ho base e i z S.m bytes ti.1 hi hz0 hz1 hz2 hzs h0 v L.length _ hs hown.row ⟨g, off, none⟩ X.length c (X.flatMap (·.cells)) hy (flatMap_len (f := Elem.cells) fun x hx => (hX x hx).1) ?_ ?_ h63 hbytes hbase fun v' w' r1 r2 _ => ?_
  · intro j u hj
    rw [Addr.add_lit]
    exact hcell j u hj
  · intro u hu
    obtain ⟨x, hx, hu⟩ := List.mem_flatMap.1 hu
    exact h1 x hx u hu
  · have hall : ∀ x ∈ L ++ X, x.cells.length = S.m ∧ S.R w' x.cells x.d x.fp := fun x hx => by
      have hb : x.cells.length = S.m ∧ S.R w x.cells x.d x.fp ∧ ∀ b ∈ x.fp, v.ownBlock ≠ some b := by
        rcases List.mem_append.1 hx with hx | hx
        · exact ⟨hown.len x hx, hown.el x hx, hown.ap x hx⟩
        · exact hX x hx
      exact ⟨hb.1, S.frame (fun b hb' => r2.block b (S.lt hb.2.1 b hb') fun e => hb.2.2 b hb' e.symm) hb.2.1⟩
    have hrow : w'.ownsRow base e S.m v' (L ++ X).length ((L ++ X).flatMap (·.cells)) := by
      rw [List.length_append, List.flatMap_append]; exact r1
    obtain ⟨fp, q1, q2, _⟩ := slice_of_row hrow hall
    refine h v' fp w' q1 (fun b hb => ?_) r2
    rcases q2 b hb with h0 | h0
    · exact .inl (hrow.lt b h0).1
    · obtain ⟨x, hx, hb'⟩ := List.mem_flatMap.1 h0
      exact .inr ⟨x, hx, hb'⟩

set_option maxHeartbeats 8000000 in
set_option maxRecDepth 100000 in
theorem l20Table (rb p : Nat) (n : Int) (w : World) (H : Rd w rb p) (hp : p ≤ 1000) (hn : n ≤ 100) (hn0 : 0 ≤ n) :
    Calls Try.prog 20 #[.pointer (some ⟨rb, 0, none⟩), .int .i64 n] w (DrawnTab rb p 200 w) := by
  have hrb := H.lt
  have hlit := Lib.hid (RowG.lit0 sMacro 70 w)
  have hba := alloc_below' w (.cells #[] 70)
  have HR0 := Lib.hid (H.grow hba)
  have HK0 := Lib.hid (Kept.of_below (fp := [rb]) hba)
  have hs0 := hba.size
  go_enter Try.func20, Try.ntmps20
  go_wp2_with fail
  refine (pick rb p _ _ HR0.out (by omega) (by omega) (by omega)).mono ?_
  rintro e w1 ⟨r, rfl, hr0, hr1, hR1, hK1⟩
  have HE1 := Lib.hid (hlit.out.kept hK1 (fun g hg hx => by have h1 := hlit.out.mine g hg; have h2 : g = rb := (by simpa using hx); omega) (by simp))
  have HK01 := Lib.hid (HK0.out.trans hK1)
  obtain ⟨c, rfl⟩ : ∃ c : Nat, r = c := ⟨r.toNat, by omega⟩
  clear hlit hba HR0 HK0 hK1
  go_wp2
  go_loopw [5, 6] (fun o i wr => ∃ (k q top : Nat) (L : List (Elem DMacro)), k ≤ c ∧ i = .int .i64 k ∧ q ≤ p + 1 + 10 * (c - k) ∧ w.heap.size ≤ top ∧ top ≤ wr.heap.size ∧ Hid (RowG sMacro top 70 o L wr) ∧ L.length + k ≤ c ∧ Hid (∀ x ∈ L, okMac x.d ∧ ∀ b ∈ x.fp, w.heap.size ≤ b) ∧ Rd wr rb q ∧ Kept [rb] w wr) (fun _ i _ => (intOf i).toNat)
  case atStart => exact ⟨c, p + 1, w.heap.size, [], by omega, rfl, by omega, by omega, by have := HK01.out.size; omega, HE1, by simp, (show ∀ x ∈ ([] : List (Elem DMacro)), okMac x.d ∧ ∀ b ∈ x.fp, w.heap.size ≤ b from by simp), hR1, HK01.out⟩
  case round =>
    clear HE1 HK01 hR1
    obtain ⟨k, q, top, L, hk, rfl, hq, ht1, ht2, HE, hLk, HO, hR, hK⟩ := hrel
    by_cases hk0 : 0 < k
    · have hk0' : (0 : Int) < (k : Int) := by omega
      go_wp2_with fail
      refine (l20Macro rb q _ _ hR (by omega) (by omega) (by omega)).mono ?_
      rintro e w2 ⟨nm, f, a2, a3, n2, c2, n3, c3, ps, bd, fp, q2, rfl, hT, hok, hlo, hq2, hR2, hK2⟩
      have HE2 := Lib.hid (HE.out.kept hK2 (fun g hg hx => by have h1 := HE.out.mine g hg; have h2 : g = rb := (by simpa using hx); omega) (fun x hx b hb hy => by have h1 := (HO.out x hx).2 b hb; have h2 : b = rb := (by simpa using hy); omega))
      have hKK := hK.trans hK2
      obtain ⟨fpl, hRL, -, -⟩ := HE2.out.read
      have hsz := hKK.size
      have HOKM := Lib.hid hok
      have HLO := Lib.hid hlo
      go_wp2_with fail
      refine (spec_Define _ (L.map (·.d)) fpl [.string nm, .bool f, .slice a2 n2 c2, .slice a3 n3 c3] ⟨nm, f, ps, bd⟩ fp _ (by rw [List.length_map]; omega) (fun k hk => by rw [List.getElem_map]; exact okMac_sm (HO.out _ (List.getElem_mem _)).1) (okMac_sm hok) hRL hT).mono ?_
      rintro e w3 ⟨v3, L3, top3, rfl, hG3, hD3, ht3, ht3', hlo3, hb3⟩
      have HE3 := Lib.hid hG3
      have hl3 : L3.length + (k - 1) ≤ c := by
        have h1 := defM_len (L.map (·.d)) ⟨nm, f, ps, bd⟩
        rw [← hD3, List.length_map, List.length_map] at h1
        omega
      have HO3 : Hid (∀ x ∈ L3, okMac x.d ∧ ∀ b ∈ x.fp, w.heap.size ≤ b) := fun x hx => by
        refine ⟨?_, fun b hb => by have := hlo3 x hx b hb; omega⟩
        have hm : x.d ∈ (defM (L.map (·.d)) ⟨nm, f, ps, bd⟩).1 := by rw [← hD3]; exact List.mem_map_of_mem hx
        rcases defM_mem _ hm with h | h
        · obtain ⟨y, hy, e⟩ := List.mem_map.1 h
          rw [← e]
          exact (HO.out y hy).1
        · rw [h]; exact HOKM.out
      have HR3 := Lib.hid (hR2.grow hb3)
      have HK3 := Lib.hid (hKK.trans (Kept.of_below (fp := [rb]) hb3))
      clear hT hok hlo hK2 hRL HE hD3 hlo3 hb3 hG3 hR2 hKK hK hR HO HE2 HOKM HLO
      obtain ⟨av, cv, rfl, -⟩ := HE3.out.val
      go_wp2
      go_roundw
      case rel => exact ⟨k - 1, q2, top3, L3, by omega, by first | rfl | (congr 1; omega) | go_num, by omega, by omega, ht3', HE3, by omega, HO3, HR3.out, HK3.out⟩
      case measure => simp [intOf]; omega
    · have hk0' : ¬ (0 : Int) < (k : Int) := by omega
      go_wp2_with fail
      refine (odd rb q n _ hR (by omega) (by omega) hn0).mono ?_
      rintro e w2 ⟨b, q2, rfl, hq1, hq2, hR2, hK2⟩
      have HE2 := Lib.hid (HE.out.kept hK2 (fun g hg hx => by have h1 := HE.out.mine g hg; have h2 : g = rb := (by simpa using hx); omega) (fun x hx b hb hy => by have h1 := (HO.out x hx).2 b hb; have h2 : b = rb := (by simpa using hy); omega))
      have HKK := Lib.hid (hK.trans hK2)
      have HOK : Hid (∀ m ∈ L.map (·.d), okMac m) := fun m hm => by
        obtain ⟨y, hy, e⟩ := List.mem_map.1 hm
        rw [← e]
        exact (HO.out y hy).1
      have hs2 := hK2.size
      have hl7 : L.length ≤ 7 := by omega
      clear HE hK hK2 hR
      cases b
      · obtain ⟨fpl, hRL, hin, -⟩ := HE2.out.read
        have HRL := Lib.hid hRL
        have HIN : Hid (∀ b ∈ fpl, w.heap.size ≤ b) := fun b hb => by
          rcases hin b hb with h | ⟨x, hx, h⟩
          · have := HE2.out.mine b h; omega
          · exact (HO.out x hx).2 b h
        clear hRL hin
        go_wp2
        go_ret
        exact ⟨_, _, fpl, q2, rfl, HRL.out, HIN.out, HOK.out, by rw [List.length_map]; omega, by omega, hR2, HKK.out⟩
      · go_wp2_with fail
        refine (pick rb q2 _ _ hR2 (by omega) (by omega) (by omega)).mono ?_
        rintro e w3 ⟨r3, rfl, h30, h31, hR3, hK3⟩
        have HE3 := Lib.hid (HE2.out.kept hK3 (fun g hg hx => by have h1 := HE2.out.mine g hg; have h2 : g = rb := (by simpa using hx); omega) (fun x hx b hb hy => by have h1 := (HO.out x hx).2 b hb; have h2 : b = rb := (by simpa using hy); omega))
        have HK3 := Lib.hid (HKK.out.trans hK3)
        have hs3 := hK3.size
        clear HE2 HKK hR2 hK3
        by_cases h3 : r3 = 0
        · have h3' : (r3 == 0) = true := by simp [h3]
          clear h3
          go_wp2_with fail
          refine (l20Macro rb (q2 + 1) _ _ hR3 (by omega) (by omega) (by omega)).mono ?_
          rintro e w4 ⟨nm, f, a2, a3, n2, c2, n3, c3, ps, bd, fp, q4, rfl, hT, hok, hlo, hq4, hR4, hK4⟩
          have HE4 := Lib.hid (HE3.out.kept hK4 (fun g hg hx => by have h1 := HE3.out.mine g hg; have h2 : g = rb := (by simpa using hx); omega) (fun x hx b hb hy => by have h1 := (HO.out x hx).2 b hb; have h2 : b = rb := (by simpa using hy); omega))
          have HK4 := Lib.hid (HK3.out.trans hK4)
          have HAP := Lib.hid (fun g hg => (HE3.out.row.lt g hg).2)
          have hs4 := hK4.size
          have HT := Lib.hid hT
          have HOM := Lib.hid hok
          have HLO := Lib.hid hlo
          have HR4 := Lib.hid hR4
          obtain ⟨av, cv, rfl, -⟩ := HE4.out.val
          have hba := alloc_below' w4 (.cells #[.string nm, .bool f, .slice a2 n2 c2, .slice a3 n3 c3] 70)
          have HBA := Lib.hid hba
          clear hT hok hlo HE3 HK3 hR3 hK4 hR4 hba
          go_wp2_with (at_builtin; refine wp_append_read ti_mac rfl (by decide) _ (X := [(⟨[.string nm, .bool f, .slice a2 n2 c2, .slice a3 n3 c3], ⟨nm, f, ps, bd⟩, fp⟩ : Elem DMacro)]) rfl (.tmp 36) (.tmp 39) rfl top (.slice av L.length cv) rfl (HE4.out.below HBA.out) w4.heap.size 0 1 1 rfl rfl (fun x hx => by obtain rfl := List.mem_singleton.1 hx; exact ⟨rfl, sMacro.below HT.out HBA.out, fun b hb e => by have h1 := HAP.out b e; have h2 := HLO.out b hb; omega⟩) (fun x hx => by obtain rfl := List.mem_singleton.1 hx; simp [Value.oneCell']) (fun j u hj => by rw [Nat.zero_add, World.cell?_alloc_at _ _ _ _ rfl]; simpa using hj) (by unfold maxLen; omega) (by omega) (by have := HBA.out.size; omega) ?_; intro v5 fp5 w5 hR5 hin5 hg5; have HIN5 := Lib.hid hin5; have HR5 := Lib.hid hR5; have HRF := Lib.hid (grownRd (HR4.out.grow HBA.out) hg5 (by omega) (fun b hb => HE4.out.mine b hb)); have HKF := Lib.hid (grownKept (HK4.out.trans (Kept.of_below HBA.out)) hg5 (fun b hb => by have := HE4.out.mine b hb; omega)); clear hR5 hg5 hin5)
          go_wp2
          go_ret
          exact ⟨_, _, fp5, q4, rfl, HR5.out, fun b hb => by
            rcases HIN5.out b hb with h | ⟨x, hx, h⟩
            · omega
            · rcases List.mem_append.1 hx with hx | hx
              · exact (HO.out x hx).2 b h
              · obtain rfl := List.mem_singleton.1 hx
                have := HLO.out b h
                omega, fun m hm => by
            rw [List.map_append, List.mem_append] at hm
            rcases hm with h | h
            · exact HOK.out m h
            · obtain rfl := List.mem_singleton.1 h; exact HOM.out, by rw [List.length_map, List.length_append]; simp; omega, by omega, HRF.out, HKF.out⟩
        · have h3' : (r3 == 0) = false := by simp [h3]
          clear h3
          have hAA : ∀ W : World, sMacro.R W [.string ⟨#[65]⟩, .bool false, .slice none 0 0, .slice none 0 0] ⟨⟨#[65]⟩, false, [], []⟩ [] := fun W => ⟨_, _, [], [], rfl, (by show okStr _; unfold okStr; decide), slice_empty sStr W none 0 (by simp), slice_empty sTok W none 0 (by simp), rfl⟩
          obtain ⟨av, cv, rfl, -⟩ := HE3.out.val
          have hba := alloc_below' w3 (.cells #[.string ⟨#[65]⟩, .bool false, .slice none 0 0, .slice none 0 0, .string ⟨#[65]⟩, .bool false, .slice none 0 0, .slice none 0 0] 70)
          have HBA := Lib.hid hba
          have HAA := Lib.hid hAA
          have HR3 := Lib.hid hR3
          clear hba hAA hR3
          go_wp2_with (at_builtin; refine wp_append_read ti_mac rfl (by decide) _ (X := [(⟨[.string ⟨#[65]⟩, .bool false, .slice none 0 0, .slice none 0 0], ⟨⟨#[65]⟩, false, [], []⟩, []⟩ : Elem DMacro), (⟨[.string ⟨#[65]⟩, .bool false, .slice none 0 0, .slice none 0 0], ⟨⟨#[65]⟩, false, [], []⟩, []⟩ : Elem DMacro)]) rfl (.tmp 29) (.tmp 32) rfl top (.slice av L.length cv) rfl (HE3.out.below HBA.out) w3.heap.size 0 2 2 rfl rfl (fun x hx => by have e : x = (⟨[.string ⟨#[65]⟩, .bool false, .slice none 0 0, .slice none 0 0], ⟨⟨#[65]⟩, false, [], []⟩, []⟩ : Elem DMacro) := (by simpa using hx); subst e; exact ⟨rfl, HAA.out _, by simp⟩) (fun x hx => by have e : x = (⟨[.string ⟨#[65]⟩, .bool false, .slice none 0 0, .slice none 0 0], ⟨⟨#[65]⟩, false, [], []⟩, []⟩ : Elem DMacro) := (by simpa using hx); subst e; simp [Value.oneCell']) (fun j u hj => by rw [Nat.zero_add, World.cell?_alloc_at _ _ _ _ rfl]; simpa using hj) (by unfold maxLen; omega) (by omega) (by have := HBA.out.size; omega) ?_; intro v5 fp5 w5 hR5 hin5 hg5; have HIN5 := Lib.hid hin5; have HR5 := Lib.hid hR5; have HRF := Lib.hid (grownRd (HR3.out.grow HBA.out) hg5 (by omega) (fun b hb => HE3.out.mine b hb)); have HKF := Lib.hid (grownKept (HK3.out.trans (Kept.of_below HBA.out)) hg5 (fun b hb => by have := HE3.out.mine b hb; omega)); clear hR5 hg5 hin5)
          go_wp2
          go_ret
          exact ⟨_, _, fp5, q2 + 1, rfl, HR5.out, fun b hb => by
            rcases HIN5.out b hb with h | ⟨x, hx, h⟩
            · omega
            · rcases List.mem_append.1 hx with hx | hx
              · exact (HO.out x hx).2 b h
              · have e : x = (⟨[.string ⟨#[65]⟩, .bool false, .slice none 0 0, .slice none 0 0], ⟨⟨#[65]⟩, false, [], []⟩, []⟩ : Elem DMacro) := (by simpa using hx)
                subst e
                simp at h, fun m hm => by
            rw [List.map_append, List.mem_append] at hm
            rcases hm with h | h
            · exact HOK.out m h
            · have e : m = ⟨⟨#[65]⟩, false, [], []⟩ := (by simpa using h)
              subst e
              exact ⟨by show (1 : Nat) ≤ _; omega, by show (0 : Nat) ≤ _; omega, by show (0 : Nat) ≤ _; omega, by simp⟩, by rw [List.length_map, List.length_append]; simp; omega, by omega, HRF.out, HKF.out⟩

end Go.Proofs.Ytipfpppcbmpjiaa

/- Conditions are drawn. (Made by gen_drawcon.py.) -/
namespace Go.Proofs.Ytipfpppcbmpjiaa
open Go.RowKit

theorem con_pick {W : World} {g g2 : Nat} {r : Int} (h0 : 0 ≤ r) (h1 : r < 10) (hI : W.heap[g2]? = some (.cells #[.int .i64 0, .int .i64 0, .int .i64 1, .int .i64 1, .int .i64 2, .int .i64 2, .int .i64 3, .int .i64 4, .int .i64 5, .int .i64 6] 3 (0, 0))) (hS : W.heap[g]? = some (.cells #[.string ⟨#[49]⟩, .string ⟨#[48]⟩, .string ⟨#[97]⟩, .string ⟨#[100, 101, 102, 105, 110, 101, 100]⟩, .string ⟨#[100, 101, 102, 105, 110, 101, 100, 40]⟩, .string ⟨#[100, 101, 102, 105, 110, 101, 100, 40, 97, 32, 98, 41]⟩, .string ⟨#[100, 101, 102, 105, 110, 101, 100, 32, 49]⟩] 9 (0, 0))) :
    ∃ (n : Int) (s : ByteArray), W.cell? ⟨g2, r.toNat, none⟩ = some (.int .i64 n) ∧ 0 ≤ n ∧ n < 7 ∧ W.cell? ⟨g, n.toNat, none⟩ = some (.string s) ∧ s.size ≤ 12 := by
  have hr : r = 0 ∨ r = 1 ∨ r = 2 ∨ r = 3 ∨ r = 4 ∨ r = 5 ∨ r = 6 ∨ r = 7 ∨ r = 8 ∨ r = 9 := by omega
  rcases hr with rfl | rfl | rfl | rfl | rfl | rfl | rfl | rfl | rfl | rfl
  · exact ⟨0, ⟨#[49]⟩, cell_of_row _ _ 0 _ _ _ hI, by decide, by decide, cell_of_row _ _ 0 _ _ _ hS, show (1 : Nat) ≤ 12 by decide⟩
  · exact ⟨0, ⟨#[49]⟩, cell_of_row _ _ 1 _ _ _ hI, by decide, by decide, cell_of_row _ _ 0 _ _ _ hS, show (1 : Nat) ≤ 12 by decide⟩
  · exact ⟨1, ⟨#[48]⟩, cell_of_row _ _ 2 _ _ _ hI, by decide, by decide, cell_of_row _ _ 1 _ _ _ hS, show (1 : Nat) ≤ 12 by decide⟩
  · exact ⟨1, ⟨#[48]⟩, cell_of_row _ _ 3 _ _ _ hI, by decide, by decide, cell_of_row _ _ 1 _ _ _ hS, show (1 : Nat) ≤ 12 by decide⟩
  · exact ⟨2, ⟨#[97]⟩, cell_of_row _ _ 4 _ _ _ hI, by decide, by decide, cell_of_row _ _ 2 _ _ _ hS, show (1 : Nat) ≤ 12 by decide⟩
  · exact ⟨2, ⟨#[97]⟩, cell_of_row _ _ 5 _ _ _ hI, by decide, by decide, cell_of_row _ _ 2 _ _ _ hS, show (1 : Nat) ≤ 12 by decide⟩
  · exact ⟨3, ⟨#[100, 101, 102, 105, 110, 101, 100]⟩, cell_of_row _ _ 6 _ _ _ hI, by decide, by decide, cell_of_row _ _ 3 _ _ _ hS, show (7 : Nat) ≤ 12 by decide⟩
  · exact ⟨4, ⟨#[100, 101, 102, 105, 110, 101, 100, 40]⟩, cell_of_row _ _ 7 _ _ _ hI, by decide, by decide, cell_of_row _ _ 4 _ _ _ hS, show (8 : Nat) ≤ 12 by decide⟩
  · exact ⟨5, ⟨#[100, 101, 102, 105, 110, 101, 100, 40, 97, 32, 98, 41]⟩, cell_of_row _ _ 8 _ _ _ hI, by decide, by decide, cell_of_row _ _ 5 _ _ _ hS, show (12 : Nat) ≤ 12 by decide⟩
  · exact ⟨6, ⟨#[100, 101, 102, 105, 110, 101, 100, 32, 49]⟩, cell_of_row _ _ 9 _ _ _ hI, by decide, by decide, cell_of_row _ _ 6 _ _ _ hS, show (9 : Nat) ≤ 12 by decide⟩

set_option maxHeartbeats 16000000 in
set_option maxRecDepth 100000 in
theorem l20Condition (rb p : Nat) (w : World) (H : Rd w rb p) (hp : p ≤ 90000) :
    Calls Try.prog 23 #[.pointer (some ⟨rb, 0, none⟩)] w (DrawnToks rb p 60 0 w) := by
  have hrb := H.lt
  go_enter Try.func23, Try.ntmps23
  go_wp2_with fail
  refine (pick rb p _ _ H (by omega) (by omega) (by omega)).mono ?_
  rintro e w2 ⟨r, rfl, h0, h1, hR2, hK⟩
  have hwr : IntKind.i64.wrap (1 + r) = ((r.toNat + 1 : Nat) : Int) := by rw [IntWalk.i64_in _ (by omega)]; omega
  clear H
  go_wp2_with fail
  go_loopw [3, 4] (fun o i wr => ∃ (k q : Nat) (out : ByteArray), k ≤ 3 ∧ q + 14 * k ≤ p + 50 ∧ out.size + 20 * k ≤ 80 ∧ o = .string out ∧ i = .int .i64 k ∧ Rd wr rb q ∧ Kept [rb] w wr) (fun _ i _ => (intOf i).toNat)
  case atStart => exact ⟨r.toNat + 1, p + 1, _, by omega, by omega, by show 0 + _ ≤ _; omega, rfl, by go_num, hR2, hK⟩
  case round =>
    obtain ⟨k, q, out, hk, hq, ho, rfl, rfl, hR, hB⟩ := hrel
    clear hR2 hK hwr h0 h1
    by_cases hlt : 0 < k
    · go_wp2
      refine wp_region_types (P := Try.prog) (by kernel_rfl) (by kernel_rfl) (Kept [rb]) [pVal (.string out), pLits [rb] 7 12, pVal (.pointer (some ⟨rb, 0, none⟩)), pInt 7, pPtr [rb] 12, pStr 12, pStr (out.size + 12), pLits [rb] 2 4, pVal (.pointer (some ⟨rb, 0, none⟩)), pInt 2, pPtr [rb] 4, pStr 4, pStr ((out.size + 12) + 4), pStr ((out.size + 12) + 4)] (stab_all ⟨stVal _, stLits _ _, stVal _, stInt _, stPtr _, stStr _, stStr _, stLits _ _, stVal _, stInt _, stPtr _, stStr _, stStr _, stStr _, trivial⟩) (jRd rb q wr) ?start (steps_all ⟨?s0, ?s1, ?s2, ?s3, ?s4, ?s5, ?s6, ?s7, ?s8, ?s9, ?s10, ?s11, ?s12, ?s13, trivial⟩) ?done
      case start => exact jRd.start hR
      case s0 =>
        intro xs w' m hl hm hJ hlast hf ho K hK
        replace hm : m < 14 := hm
        obtain ⟨x0, x1, x2, x3, x4, x5, x6, x7, x8, x9, x10, x11, x12, x13, rfl⟩ := len14 hl
        obtain rfl : x13 = .string out := by have := ho 13 _ rfl (.inr ⟨⟨0, .phase⟩, by simp, rfl, rfl⟩); simpa [origs] using this
        clear hlast
        clear hf ho
        simp only [fill, Act.put, List.map_cons, List.map_nil, List.setIfInBounds_toArray, List.set_cons_succ, List.set_cons_zero] at hK ⊢
        go_wp2
        exact hK _ _ (At.mk rfl rfl) (Kept.refl _ _) hJ.same
      case s1 =>
        intro xs w' m hl hm hJ hlast hf ho K hK
        replace hm : m < 14 := hm
        obtain ⟨x0, x1, x2, x3, x4, x5, x6, x7, x8, x9, x10, x11, x12, x13, rfl⟩ := len14 hl
        clear hlast
        clear hf ho
        simp only [fill, Act.put, List.map_cons, List.map_nil, List.setIfInBounds_toArray, List.set_cons_succ, List.set_cons_zero] at hK ⊢
        go_wp2
        exact hK _ _ (At.mk rfl (pLits_new [⟨#[100, 101, 102, 105, 110, 101, 100, 32, 97]⟩, ⟨#[100, 101, 102, 105, 110, 101, 100, 40, 98, 41]⟩, ⟨#[97]⟩, ⟨#[98, 32, 61, 61, 32, 51]⟩, ⟨#[33, 100, 101, 102, 105, 110, 101, 100, 40, 65, 66, 41]⟩, ⟨#[102, 40, 49, 41, 32, 62, 32, 49]⟩, ⟨#[49]⟩] 12 [rb] w' (by decide) hJ.lts 7 rfl)) (Kept.of_below ((Below.refl _ _).alloc (Nat.le_refl _) _)) (hJ.alloc _)
      case s2 =>
        intro xs w' m hl hm hJ hlast hf ho K hK
        replace hm : m < 14 := hm
        obtain ⟨x0, x1, x2, x3, x4, x5, x6, x7, x8, x9, x10, x11, x12, x13, rfl⟩ := len14 hl
        clear hlast
        clear hf ho
        simp only [fill, Act.put, List.map_cons, List.map_nil, List.setIfInBounds_toArray, List.set_cons_succ, List.set_cons_zero] at hK ⊢
        go_wp2
        exact hK _ _ (At.mk rfl rfl) (Kept.refl _ _) hJ.same
      case s3 =>
        intro xs w' m hl hm hJ hlast hf ho K hK
        replace hm : m < 14 := hm
        obtain ⟨x0, x1, x2, x3, x4, x5, x6, x7, x8, x9, x10, x11, x12, x13, rfl⟩ := len14 hl
        have f2 : pVal (.pointer (some ⟨rb, 0, none⟩)) x2 w' := hf ⟨2, .data⟩ (by simp) rfl _ rfl _ rfl
        clear hlast
        clear hf ho
        obtain rfl := f2
        obtain ⟨⟨p1, hp1, hR1⟩, hK1⟩ := hJ
        simp only [fill, Act.put, List.map_cons, List.map_nil, List.setIfInBounds_toArray, List.set_cons_succ, List.set_cons_zero] at hK ⊢
        go_wp2_with (go_at_call 47; refine (pick rb p1 _ _ hR1 (by omega) (by omega) (by omega)).mono ?_; rintro e w2 ⟨rr, rfl, hr0, hr1, hRq, hkq⟩)
        exact hK _ _ (At.mk rfl ⟨rr, rfl, hr0, by omega⟩) hkq ⟨⟨p1 + 1, by omega, hRq⟩, hK1.trans hkq⟩
      case s4 =>
        intro xs w' m hl hm hJ hlast hf ho K hK
        replace hm : m < 14 := hm
        obtain ⟨x0, x1, x2, x3, x4, x5, x6, x7, x8, x9, x10, x11, x12, x13, rfl⟩ := len14 hl
        have f1 : pLits [rb] 7 12 x1 w' := hf ⟨1, .data⟩ (by simp) rfl _ rfl _ rfl
        have f3 : pInt 7 x3 w' := hf ⟨3, .data⟩ (by simp) rfl _ rfl _ rfl
        clear hlast
        clear hf ho
        obtain ⟨ba, rfl, hnea, hba, hca⟩ := f1
        obtain ⟨ri, rfl, hii, hji⟩ := f3
        obtain ⟨s, hc1, hs1⟩ := hca ri.toNat (by omega)
        simp only [fill, Act.put, List.map_cons, List.map_nil, List.setIfInBounds_toArray, List.set_cons_succ, List.set_cons_zero] at hK ⊢
        go_wp2
        exact hK _ _ (At.mk rfl ⟨ba, _, s, rfl, hnea, hba, hc1, hs1⟩) (Kept.refl _ _) hJ.same
      case s5 =>
        intro xs w' m hl hm hJ hlast hf ho K hK
        replace hm : m < 14 := hm
        obtain ⟨x0, x1, x2, x3, x4, x5, x6, x7, x8, x9, x10, x11, x12, x13, rfl⟩ := len14 hl
        have f4 : pPtr [rb] 12 x4 w' := hf ⟨4, .data⟩ (by simp) rfl _ rfl _ rfl
        clear hlast
        clear hf ho
        obtain ⟨ba, ja, sa, rfl, hnea, hba, hca, hsa⟩ := f4
        simp only [fill, Act.put, List.map_cons, List.map_nil, List.setIfInBounds_toArray, List.set_cons_succ, List.set_cons_zero] at hK ⊢
        go_wp2
        exact hK _ _ (At.mk rfl ⟨_, rfl, hsa⟩) (Kept.refl _ _) hJ.same
      case s6 =>
        intro xs w' m hl hm hJ hlast hf ho K hK
        replace hm : m < 14 := hm
        obtain ⟨x0, x1, x2, x3, x4, x5, x6, x7, x8, x9, x10, x11, x12, x13, rfl⟩ := len14 hl
        have f0 : pVal (.string out) x0 w' := hf ⟨0, .data⟩ (by simp) rfl _ rfl _ rfl
        have f5 : pStr 12 x5 w' := hf ⟨5, .data⟩ (by simp) rfl _ rfl _ rfl
        clear hlast
        clear hf ho
        obtain rfl := f0
        obtain ⟨sb, rfl, hsb⟩ := f5
        have hadd := fun W => run_string_add_sum (P := Try.prog) W out sb (by omega)
        simp only [fill, Act.put, List.map_cons, List.map_nil, List.setIfInBounds_toArray, List.set_cons_succ, List.set_cons_zero] at hK ⊢
        go_wp2
        exact hK _ _ (At.mk rfl ⟨_, rfl, by rw [ByteArray.size_append]; omega⟩) (Kept.refl _ _) hJ.same
      case s7 =>
        intro xs w' m hl hm hJ hlast hf ho K hK
        replace hm : m < 14 := hm
        obtain ⟨x0, x1, x2, x3, x4, x5, x6, x7, x8, x9, x10, x11, x12, x13, rfl⟩ := len14 hl
        clear hlast
        clear hf ho
        simp only [fill, Act.put, List.map_cons, List.map_nil, List.setIfInBounds_toArray, List.set_cons_succ, List.set_cons_zero] at hK ⊢
        go_wp2
        exact hK _ _ (At.mk rfl (pLits_new [⟨#[32, 38, 38, 32]⟩, ⟨#[32, 124, 124, 32]⟩] 4 [rb] w' (by decide) hJ.lts 2 rfl)) (Kept.of_below ((Below.refl _ _).alloc (Nat.le_refl _) _)) (hJ.alloc _)
      case s8 =>
        intro xs w' m hl hm hJ hlast hf ho K hK
        replace hm : m < 14 := hm
        obtain ⟨x0, x1, x2, x3, x4, x5, x6, x7, x8, x9, x10, x11, x12, x13, rfl⟩ := len14 hl
        clear hlast
        clear hf ho
        simp only [fill, Act.put, List.map_cons, List.map_nil, List.setIfInBounds_toArray, List.set_cons_succ, List.set_cons_zero] at hK ⊢
        go_wp2
        exact hK _ _ (At.mk rfl rfl) (Kept.refl _ _) hJ.same
      case s9 =>
        intro xs w' m hl hm hJ hlast hf ho K hK
        replace hm : m < 14 := hm
        obtain ⟨x0, x1, x2, x3, x4, x5, x6, x7, x8, x9, x10, x11, x12, x13, rfl⟩ := len14 hl
        have f8 : pVal (.pointer (some ⟨rb, 0, none⟩)) x8 w' := hf ⟨8, .data⟩ (by simp) rfl _ rfl _ rfl
        clear hlast
        clear hf ho
        obtain rfl := f8
        obtain ⟨⟨p1, hp1, hR1⟩, hK1⟩ := hJ
        simp only [fill, Act.put, List.map_cons, List.map_nil, List.setIfInBounds_toArray, List.set_cons_succ, List.set_cons_zero] at hK ⊢
        go_wp2_with (go_at_call 47; refine (pick rb p1 _ _ hR1 (by omega) (by omega) (by omega)).mono ?_; rintro e w2 ⟨rr, rfl, hr0, hr1, hRq, hkq⟩)
        exact hK _ _ (At.mk rfl ⟨rr, rfl, hr0, by omega⟩) hkq ⟨⟨p1 + 1, by omega, hRq⟩, hK1.trans hkq⟩
      case s10 =>
        intro xs w' m hl hm hJ hlast hf ho K hK
        replace hm : m < 14 := hm
        obtain ⟨x0, x1, x2, x3, x4, x5, x6, x7, x8, x9, x10, x11, x12, x13, rfl⟩ := len14 hl
        have f7 : pLits [rb] 2 4 x7 w' := hf ⟨7, .data⟩ (by simp) rfl _ rfl _ rfl
        have f9 : pInt 2 x9 w' := hf ⟨9, .data⟩ (by simp) rfl _ rfl _ rfl
        clear hlast
        clear hf ho
        obtain ⟨ba, rfl, hnea, hba, hca⟩ := f7
        obtain ⟨ri, rfl, hii, hji⟩ := f9
        obtain ⟨s, hc1, hs1⟩ := hca ri.toNat (by omega)
        simp only [fill, Act.put, List.map_cons, List.map_nil, List.setIfInBounds_toArray, List.set_cons_succ, List.set_cons_zero] at hK ⊢
        go_wp2
        exact hK _ _ (At.mk rfl ⟨ba, _, s, rfl, hnea, hba, hc1, hs1⟩) (Kept.refl _ _) hJ.same
      case s11 =>
        intro xs w' m hl hm hJ hlast hf ho K hK
        replace hm : m < 14 := hm
        obtain ⟨x0, x1, x2, x3, x4, x5, x6, x7, x8, x9, x10, x11, x12, x13, rfl⟩ := len14 hl
        have f10 : pPtr [rb] 4 x10 w' := hf ⟨10, .data⟩ (by simp) rfl _ rfl _ rfl
        clear hlast
        clear hf ho
        obtain ⟨ba, ja, sa, rfl, hnea, hba, hca, hsa⟩ := f10
        simp only [fill, Act.put, List.map_cons, List.map_nil, List.setIfInBounds_toArray, List.set_cons_succ, List.set_cons_zero] at hK ⊢
        go_wp2
        exact hK _ _ (At.mk rfl ⟨_, rfl, hsa⟩) (Kept.refl _ _) hJ.same
      case s12 =>
        intro xs w' m hl hm hJ hlast hf ho K hK
        replace hm : m < 14 := hm
        obtain ⟨x0, x1, x2, x3, x4, x5, x6, x7, x8, x9, x10, x11, x12, x13, rfl⟩ := len14 hl
        have f6 : pStr (out.size + 12) x6 w' := hf ⟨6, .data⟩ (by simp) rfl _ rfl _ rfl
        have f11 : pStr 4 x11 w' := hf ⟨11, .data⟩ (by simp) rfl _ rfl _ rfl
        clear hlast
        clear hf ho
        obtain ⟨sa, rfl, hsa⟩ := f6
        obtain ⟨sb, rfl, hsb⟩ := f11
        have hadd := fun W => run_string_add_sum (P := Try.prog) W sa sb (by omega)
        simp only [fill, Act.put, List.map_cons, List.map_nil, List.setIfInBounds_toArray, List.set_cons_succ, List.set_cons_zero] at hK ⊢
        go_wp2
        exact hK _ _ (At.mk rfl ⟨_, rfl, by rw [ByteArray.size_append]; omega⟩) (Kept.refl _ _) hJ.same
      case s13 =>
        intro xs w' m hl hm hJ hlast hf ho K hK
        replace hm : m < 14 := hm
        obtain ⟨x0, x1, x2, x3, x4, x5, x6, x7, x8, x9, x10, x11, x12, x13, rfl⟩ := len14 hl
        have f12 : pStr ((out.size + 12) + 4) x12 w' := hf ⟨12, .data⟩ (by simp) rfl _ rfl _ rfl
        clear hlast
        clear hf ho
        obtain ⟨sa, rfl, hsa⟩ := f12
        simp only [fill, Act.put, List.map_cons, List.map_nil, List.setIfInBounds_toArray, List.set_cons_succ, List.set_cons_zero] at hK ⊢
        go_wp2
        exact hK _ _ (At.mk rfl ⟨_, rfl, hsa⟩) (Kept.refl _ _) hJ.same
      case done =>
        intro xs w' hl hf hJ
        obtain ⟨x0, x1, x2, x3, x4, x5, x6, x7, x8, x9, x10, x11, x12, x13, rfl⟩ := len14 hl
        have f13 : pStr ((out.size + 12) + 4) x13 w' := hf 13 _ rfl _ rfl
        obtain ⟨sz, rfl, hsz⟩ := f13
        clear hf
        obtain ⟨⟨p1, hp1, hR1⟩, hK1⟩ := hJ
        replace hp1 : p1 ≤ q + 14 := hp1
        simp only [fill, Act.put, List.map_cons, List.map_nil, List.setIfInBounds_toArray, List.set_cons_succ, List.set_cons_zero]
        go_wp2
        go_roundw
        case rel => exact ⟨k - 1, p1, sz, by omega, by omega, by omega, rfl, by go_num, hR1, hB.trans hK1⟩
        case measure => simp [intOf]; omega
    have hz1 := alloc_below' wr (.cells #[.string ⟨#[49]⟩, .string ⟨#[48]⟩, .string ⟨#[97]⟩, .string ⟨#[100, 101, 102, 105, 110, 101, 100]⟩, .string ⟨#[100, 101, 102, 105, 110, 101, 100, 40]⟩, .string ⟨#[100, 101, 102, 105, 110, 101, 100, 40, 97, 32, 98, 41]⟩, .string ⟨#[100, 101, 102, 105, 110, 101, 100, 32, 49]⟩] 9)
    have hs1 : (wr.alloc (.cells #[.string ⟨#[49]⟩, .string ⟨#[48]⟩, .string ⟨#[97]⟩, .string ⟨#[100, 101, 102, 105, 110, 101, 100]⟩, .string ⟨#[100, 101, 102, 105, 110, 101, 100, 40]⟩, .string ⟨#[100, 101, 102, 105, 110, 101, 100, 40, 97, 32, 98, 41]⟩, .string ⟨#[100, 101, 102, 105, 110, 101, 100, 32, 49]⟩] 9)).heap.size = wr.heap.size + 1 := Array.size_push _
    have hz2 := hz1.trans ((alloc_below' (wr.alloc (.cells #[.string ⟨#[49]⟩, .string ⟨#[48]⟩, .string ⟨#[97]⟩, .string ⟨#[100, 101, 102, 105, 110, 101, 100]⟩, .string ⟨#[100, 101, 102, 105, 110, 101, 100, 40]⟩, .string ⟨#[100, 101, 102, 105, 110, 101, 100, 40, 97, 32, 98, 41]⟩, .string ⟨#[100, 101, 102, 105, 110, 101, 100, 32, 49]⟩] 9)) (.cells #[.int .i64 0, .int .i64 0, .int .i64 1, .int .i64 1, .int .i64 2, .int .i64 2, .int .i64 3, .int .i64 4, .int .i64 5, .int .i64 6] 3)).mono hz1.size)
    have hS2 := Lib.hid (mbox (heap_alloc_new wr (.cells #[.string ⟨#[49]⟩, .string ⟨#[48]⟩, .string ⟨#[97]⟩, .string ⟨#[100, 101, 102, 105, 110, 101, 100]⟩, .string ⟨#[100, 101, 102, 105, 110, 101, 100, 40]⟩, .string ⟨#[100, 101, 102, 105, 110, 101, 100, 40, 97, 32, 98, 41]⟩, .string ⟨#[100, 101, 102, 105, 110, 101, 100, 32, 49]⟩] 9)) (alloc_below' (wr.alloc (.cells #[.string ⟨#[49]⟩, .string ⟨#[48]⟩, .string ⟨#[97]⟩, .string ⟨#[100, 101, 102, 105, 110, 101, 100]⟩, .string ⟨#[100, 101, 102, 105, 110, 101, 100, 40]⟩, .string ⟨#[100, 101, 102, 105, 110, 101, 100, 40, 97, 32, 98, 41]⟩, .string ⟨#[100, 101, 102, 105, 110, 101, 100, 32, 49]⟩] 9)) (.cells #[.int .i64 0, .int .i64 0, .int .i64 1, .int .i64 1, .int .i64 2, .int .i64 2, .int .i64 3, .int .i64 4, .int .i64 5, .int .i64 6] 3)))
    have hI2 := Lib.hid (heap_alloc_new (wr.alloc (.cells #[.string ⟨#[49]⟩, .string ⟨#[48]⟩, .string ⟨#[97]⟩, .string ⟨#[100, 101, 102, 105, 110, 101, 100]⟩, .string ⟨#[100, 101, 102, 105, 110, 101, 100, 40]⟩, .string ⟨#[100, 101, 102, 105, 110, 101, 100, 40, 97, 32, 98, 41]⟩, .string ⟨#[100, 101, 102, 105, 110, 101, 100, 32, 49]⟩] 9)) (.cells #[.int .i64 0, .int .i64 0, .int .i64 1, .int .i64 1, .int .i64 2, .int .i64 2, .int .i64 3, .int .i64 4, .int .i64 5, .int .i64 6] 3))
    rw [hs1] at hI2
    have hR2 := Lib.hid (hR.grow hz2)
    have hs2 := hz2.size
    have hs3 : wr.heap.size + 1 < ((wr.alloc (.cells #[.string ⟨#[49]⟩, .string ⟨#[48]⟩, .string ⟨#[97]⟩, .string ⟨#[100, 101, 102, 105, 110, 101, 100]⟩, .string ⟨#[100, 101, 102, 105, 110, 101, 100, 40]⟩, .string ⟨#[100, 101, 102, 105, 110, 101, 100, 40, 97, 32, 98, 41]⟩, .string ⟨#[100, 101, 102, 105, 110, 101, 100, 32, 49]⟩] 9)).alloc (.cells #[.int .i64 0, .int .i64 0, .int .i64 1, .int .i64 1, .int .i64 2, .int .i64 2, .int .i64 3, .int .i64 4, .int .i64 5, .int .i64 6] 3)).heap.size := by rw [show ((wr.alloc (.cells #[.string ⟨#[49]⟩, .string ⟨#[48]⟩, .string ⟨#[97]⟩, .string ⟨#[100, 101, 102, 105, 110, 101, 100]⟩, .string ⟨#[100, 101, 102, 105, 110, 101, 100, 40]⟩, .string ⟨#[100, 101, 102, 105, 110, 101, 100, 40, 97, 32, 98, 41]⟩, .string ⟨#[100, 101, 102, 105, 110, 101, 100, 32, 49]⟩] 9)).alloc (.cells #[.int .i64 0, .int .i64 0, .int .i64 1, .int .i64 1, .int .i64 2, .int .i64 2, .int .i64 3, .int .i64 4, .int .i64 5, .int .i64 6] 3)).heap.size = (wr.alloc (.cells #[.string ⟨#[49]⟩, .string ⟨#[48]⟩, .string ⟨#[97]⟩, .string ⟨#[100, 101, 102, 105, 110, 101, 100]⟩, .string ⟨#[100, 101, 102, 105, 110, 101, 100, 40]⟩, .string ⟨#[100, 101, 102, 105, 110, 101, 100, 40, 97, 32, 98, 41]⟩, .string ⟨#[100, 101, 102, 105, 110, 101, 100, 32, 49]⟩] 9)).heap.size + 1 from Array.size_push _, hs1]; omega
    have hrl := hR.lt
    have hBX := hB.size
    clear hR
    go_wp2_with fail
    refine (pick rb q _ _ hR2.out (by omega) (by omega) (by omega)).mono ?_
    rintro e w5 ⟨r5, rfl, h50, h51, hR5, hK5⟩
    have hk5 : Below wr.heap.size wr w5 ∨ True := .inr trivial
    have bI : w5.heap[wr.heap.size + 1]? = some (.cells #[.int .i64 0, .int .i64 0, .int .i64 1, .int .i64 1, .int .i64 2, .int .i64 2, .int .i64 3, .int .i64 4, .int .i64 5, .int .i64 6] 3 (0, 0)) := (hK5.block _ (by omega) (by simp; omega)).trans hI2.out
    have bS : w5.heap[wr.heap.size]? = some (.cells #[.string ⟨#[49]⟩, .string ⟨#[48]⟩, .string ⟨#[97]⟩, .string ⟨#[100, 101, 102, 105, 110, 101, 100]⟩, .string ⟨#[100, 101, 102, 105, 110, 101, 100, 40]⟩, .string ⟨#[100, 101, 102, 105, 110, 101, 100, 40, 97, 32, 98, 41]⟩, .string ⟨#[100, 101, 102, 105, 110, 101, 100, 32, 49]⟩] 9 (0, 0)) := (hK5.block _ (by omega) (by simp; omega)).trans hS2.out
    obtain ⟨n, s, ci, n0, n7, cs, hsz⟩ := con_pick h50 (by omega) bI bS
    have hadd := fun W => run_string_add_sum (P := Try.prog) W out s (by omega)
    have HK5 := Lib.hid (hB.trans (((Kept.of_below hz2 : Kept [rb] wr _)).trans hK5))
    clear hk5 bI bS hI2 hS2 hR2 hz1 hz2
    go_wp2_with fail
    refine (spec_TokensOf_row (out ++ s) _ (by unfold maxLen; rw [ByteArray.size_append]; omega)).mono ?_
    rintro e w6 ⟨v4, rfl, hrow, hfr, hB6⟩
    have hcnt := (tokRes_all (out ++ s)).1
    obtain ⟨hE0, hok0⟩ := toks_rowE hrow hfr (by rw [ByteArray.size_append]; omega)
    have hX := HK5.out.size
    have hR6 := Lib.hid (hR5.grow hB6)
    have HK6 := Lib.hid (HK5.out.trans (Kept.of_below hB6))
    go_wp2
    go_ret
    exact ⟨v4, _, q + 1, rfl, hE0.lower (by omega), hok0, by omega, by rw [List.length_map]; omega, by omega, hR6.out, HK6.out⟩

end Go.Proofs.Ytipfpppcbmpjiaa

/- A table and a condition, drawn. -/
namespace Go.Proofs.Ytipfpppcbmpjiaa
open Go.RowKit

/-- What is drawn: a table, tokens. -/
def DrawnCon (w : World) (e : Ending) (w' : World) : Prop :=
  ∃ (v' : Value) (t : List DMacro) (fp' : List Nat) (v2 : Value) (L : List (Elem Tok)), e = .returned (.tuple #[v', v2]) ∧ (sSlice sMacro).R w' [v'] t fp' ∧ (∀ m ∈ t, okMac m) ∧ t.length ≤ 9 ∧ RowE sTok w.heap.size 33 v2 L w' ∧ (∀ x ∈ L, okTok x.d) ∧ L.length ≤ 61 ∧ Below w.heap.size w w'

set_option maxHeartbeats 4000000 in
theorem DrawReplaceDefined (v : Value) (l : List UInt8) (fp : List Nat) (w : World) (H : (sSlice sByte).R w [v] l fp) :
    Calls Try.prog 5 #[v] w (DrawnCon w) := by
  go_enter Try.func5, Try.ntmps5
  go_wp2_with fail
  refine (l20Open _ l fp _ H).mono ?_
  rintro e w1 ⟨rb, rfl, hrb, hR, hB⟩
  go_wp2_with fail
  refine (l20Table rb 0 _ _ hR (by omega) (by omega) (by omega)).mono ?_
  rintro e w4 ⟨v', t, fp', q, rfl, hT, hlo, hok, hl, hq, hR4, hK⟩
  have HT := Lib.hid hT
  have HF := Lib.hid (kept_below hB hK hrb hB.size)
  have HOK := Lib.hid hok
  have HLO := Lib.hid hlo
  have hlt := hR.lt
  have hnr : Hid (rb ∉ fp') := fun hx => by have := HLO.out rb hx; omega
  clear hT hK hok hlo hR hB
  go_wp2_with fail
  refine (odd rb q _ _ hR4 (by omega) (by omega) (by omega)).mono ?_
  rintro e w5 ⟨b, q5, rfl, hq1, hq2, hR5, hK5⟩
  have HT5 := Lib.hid ((sSlice sMacro).kept HT.out (fun b hb hx => hnr.out (by have e : b = rb := (by simpa using hx); rw [← e]; exact hb)) hK5)
  have HF5 := Lib.hid (kept_below HF.out hK5 hrb HF.out.size)
  have hsz := HF5.out.size
  clear hK5 HT HF hR4
  cases b
  · go_wp2_with fail
    refine (l20Condition rb q5 _ hR5 (by omega)).mono ?_
    rintro e w6 ⟨v2, L, q6, rfl, hE, hokL, -, hL, -, hR6, hK6⟩
    have HT6 := Lib.hid ((sSlice sMacro).kept HT5.out (fun b hb hx => hnr.out (by have e : b = rb := (by simpa using hx); rw [← e]; exact hb)) hK6)
    have HF6 := Lib.hid (kept_below HF5.out hK6 hrb HF5.out.size)
    have HE := Lib.hid hE
    have HOL := Lib.hid hokL
    clear hK6 HT5 hR5 hR6 hE hokL
    go_wp2
    go_ret2
    exact ⟨v', t, fp', v2, L, rfl, HT6.out, HOK.out, hl, HE.out.lower hsz, HOL.out, hL, HF6.out⟩
  · go_wp2_with fail
    refine (l20Tokens rb q5 1 _ hR5 (by omega) (by omega) (by omega) 0 (by omega) (by omega)).mono ?_
    rintro e w6 ⟨v2, L, q6, rfl, hE, hokL, -, hL, -, hR6, hK6⟩
    have HT6 := Lib.hid ((sSlice sMacro).kept HT5.out (fun b hb hx => hnr.out (by have e : b = rb := (by simpa using hx); rw [← e]; exact hb)) hK6)
    have HF6 := Lib.hid (kept_below HF5.out hK6 hrb HF5.out.size)
    have HE := Lib.hid hE
    have HOL := Lib.hid hokL
    clear hK6 HT5 hR5 hR6 hE hokL
    go_wp2
    go_ret2
    exact ⟨v', t, fp', v2, L, rfl, HT6.out, HOK.out, hl, HE.out.lower hsz, HOL.out, hL, HF6.out⟩
end Go.Proofs.Ytipfpppcbmpjiaa

/- The law's fixed answer. -/
namespace Go.Proofs.Ytipfpppcbmpjiaa
open Go.RowKit

theorem small_ok {s : ByteArray} (h : s.size ≤ 1000000) : s.size ≤ maxLen := by unfold maxLen; omega
theorem line_ab (w : World) : Calls Try.prog 37 #[.string ⟨#[97, 32, 98]⟩] w fun e w' => e = .returned (.bool true) ∧ w = w' := by
  have := impl_LineValid ⟨#[97, 32, 98]⟩ w (small_ok (by decide))
  rwa [show lineOk ⟨#[97, 32, 98]⟩ = true from by decide] at this
theorem line_nl (w : World) : Calls Try.prog 37 #[.string ⟨#[10]⟩] w fun e w' => e = .returned (.bool false) ∧ w = w' := by
  have := impl_LineValid ⟨#[10]⟩ w (small_ok (by decide))
  rwa [show lineOk ⟨#[10]⟩ = false from by decide] at this
theorem alive (w : World) : Calls Try.prog 9 #[] w fun e w' => e = .returned (.bool true) ∧ w = w' := by
  go_enter Try.func9, Try.ntmps9
  go_wp2_with fail
  refine (line_ab _).mono ?_
  rintro e w' ⟨rfl, rfl⟩
  go_wp2_with fail
  refine (line_nl _).mono ?_
  rintro e w' ⟨rfl, rfl⟩
  go_wp2
  go_ret
  exact ⟨rfl, rfl⟩

end Go.Proofs.Ytipfpppcbmpjiaa
