/- Texts that the proof of U stands on, in one file. -/
import Derived.Test.YtflbdanlcpojbaaZU10
import Derived.Test.YtflbdanlcpojbaaZU13
import Derived.Test.YtflbdanlcpojbaaZU7
import Derived.Test.YtflbdanlcpojbaaZU5
import Derived.Test.YtflbdanlcpojbaaZU8
import Derived.Test.YtflbdanlcpojbaaZU11
import Derived.Test.YtflbdanlcpojbaaZU1
set_option linter.unusedVariables false
set_option linter.unusedSimpArgs false
/- Macros are drawn. (Made by gen_drawmac.py.) -/
namespace Go.Proofs.Ytflbdanlcpojbaa
open Go.RowKit

/-- A drawn macro: small. -/
def okMac (m : DMacro) : Prop := m.name.size ≤ 1000 ∧ m.params.length ≤ 100 ∧ m.body.length ≤ 100 ∧ ∀ t ∈ m.body, t.hidden.length ≤ 3
/-- What is read out of tokens is small, and hides nothing. -/
theorem of_small (l : List Tok) : (macOf l).1.name.size ≤ 12 ∧ (macOf l).1.params.length ≤ 4 ∧ (macOf l).1.body.length ≤ 20 ∧ ∀ t ∈ (macOf l).1.body, t.hidden = [] := by
  rcases h : macOf l with ⟨m, ok⟩
  cases ok
  · have := macOf_no h
    subst this
    exact ⟨by show (0 : Nat) ≤ 12; omega, by show (0 : Nat) ≤ 4; omega, by show (0 : Nat) ≤ 20; omega, fun t ht => by simp [zeroMac] at ht⟩
  · obtain ⟨⟨h1, h2, h3, h4, h5⟩, h6, h7⟩ := macOk_facts (macOf_ok h)
    refine ⟨name_size h1, h3, h5, fun t ht => ?_⟩
    obtain ⟨k, hk, rfl⟩ := List.getElem_of_mem ht
    exact (bodOk_facts hk (h7 k hk)).2.1
/-- A macro is drawn, by at most n picks. -/
def DrawnMac (rb p n : Nat) (w : World) (e : Ending) (w' : World) : Prop :=
  ∃ (nm : ByteArray) (f : Bool) (a2 a3 : Option Addr) (n2 c2 n3 c3 : Nat) (ps : List ByteArray) (bd : List Tok) (fp : List Nat) (q : Nat), e = .returned (.agg #[.string nm, .bool f, .slice a2 n2 c2, .slice a3 n3 c3]) ∧
    sMacro.R w' [.string nm, .bool f, .slice a2 n2 c2, .slice a3 n3 c3] ⟨nm, f, ps, bd⟩ fp ∧ okMac ⟨nm, f, ps, bd⟩ ∧ (∀ b ∈ fp, w.heap.size ≤ b) ∧ q ≤ p + n ∧ Rd w' rb q ∧ Kept [rb] w w'

/-- Four cells of a result. -/
theorem set4_mac {w wP : World} {g rb q : Nat} {nm : ByteArray} {f : Bool} {s2 s3 : Value} {m : DMacro} {fp : List Nat} (HZ : wP.heap[g]? = some (.cells #[.string ⟨#[]⟩, .bool false, .slice none 0 0, .slice none 0 0] 26 (0, 0))) (R : sMacro.R wP [.string nm, .bool f, s2, s3] m fp) (hn : g ∉ fp) (HR : Rd wP rb q) (hr : rb < g) (HK : Kept [rb] w wP) (hg : w.heap.size ≤ g) :
    (set4 wP g (.string nm) (.bool f) s2 s3).heap[g]? = some (.cells #[.string nm, .bool f, s2, s3] 26 (0, 0)) ∧ sMacro.R (set4 wP g (.string nm) (.bool f) s2 s3) [.string nm, .bool f, s2, s3] m fp ∧ Rd (set4 wP g (.string nm) (.bool f) s2 s3) rb q ∧ Kept [rb] w (set4 wP g (.string nm) (.bool f) s2 s3) :=
  ⟨blk_set (blk_set (blk_set (blk_set HZ 0 _) 1 _) 2 _) 3 _, sMacro.setB (sMacro.setB (sMacro.setB (sMacro.setB R hn 0 _) hn 1 _) hn 2 _) hn 3 _, rdSet (rdSet (rdSet (rdSet HR hr 0 _) hr 1 _) hr 2 _) hr 3 _, keptSet (keptSet (keptSet (keptSet HK hg _ 0) hg _ 1) hg _ 2) hg _ 3⟩
theorem dm_ret {rb p n q : Nat} {w wF : World} {nm : ByteArray} {f : Bool} {a2 a3 : Option Addr} {n2 c2 n3 c3 : Nat} {ps : List ByteArray} {bd : List Tok} {fp : List Nat} (hR : sMacro.R wF [.string nm, .bool f, .slice a2 n2 c2, .slice a3 n3 c3] ⟨nm, f, ps, bd⟩ fp) (ho : okMac ⟨nm, f, ps, bd⟩) (hlo : ∀ b ∈ fp, w.heap.size ≤ b) (hq : q ≤ p + n) (hRd : Rd wF rb q) (hK : Kept [rb] w wF) :
    DrawnMac rb p n w (.returned (.agg #[.string nm, .bool f, .slice a2 n2 c2, .slice a3 n3 c3])) wF := ⟨nm, f, a2, a3, n2, c2, n3, c3, ps, bd, fp, q, rfl, hR, ho, hlo, hq, hRd, hK⟩

/-- append of any tokens that can be read, and hide nothing, behind a row of the call's own. -/
theorem wp_append_toksR {w : World} {ops : Array Oper} {rest : List Oper} {o : Oper} {a : Act} {Q : Exit → Act → World → Prop} (hg : o.guard = none) (s y : Operand)
    (ho : o.op = .call { callee := .builtin .append, args := #[s, y], argTypes := #[24, 24] })
    (base : Nat) (v u : Value) (L : List (Elem Tok)) (M : List Tok) (fp : List Nat) (hs : a.eval s = v) (hown : RowE sTok base 35 v L w) (hy : a.eval y = u) (HM : (sSlice sTok).R w [u] M fp) (hh : ∀ t ∈ M, t.hidden = [])
    (h63 : L.length + M.length ≤ 2000000) (hbase : base ≤ w.heap.size)
    (h : ∀ v' X w', X.map (·.d) = M → (∀ x ∈ X, x.fp = []) → RowE sTok base 35 v' (L ++ X) w' → w.grownBy w' v.ownBlock → wpList Try.prog ops Q rest (a.put o.dst v') w') : wpList Try.prog ops Q (o :: rest) a w := by
  obtain ⟨i, hi, hz0, hz1, hz2⟩ := info_parts ti_tok.2
  obtain ⟨ad, cap, rfl, hc, hm, hrow⟩ := open_rows HM
  by_cases h0 : 0 < M.length
  · obtain ⟨b, off, fps, rfl, hb, -, he⟩ := hrow h0
    have hex : ∀ k, (hk : k < M.length) → ∃ hh : Value, ElemAt w b off 4 k [.int .i64 M[k].kind, .string M[k].text, .bool M[k].spaced, hh] ∧ sTok.R w [.int .i64 M[k].kind, .string M[k].text, .bool M[k].spaced, hh] M[k] [] ∧ hh.oneCell' = true := fun k hk => by
      obtain ⟨es, hE, hR⟩ := he k hk
      have hk0 := hh _ (List.getElem_mem hk)
      obtain ⟨hv, rfl, k1, k2, hK⟩ := hR
      obtain ⟨ao, co, rfl, hc1, hm1, -⟩ := open_rows hK
      exact ⟨_, hE, ⟨_, rfl, k1, k2, by rw [hk0]; exact slice_empty sStr w ao co hm1⟩, rfl⟩
    let X : List (Elem Tok) := List.ofFn fun (k : Fin M.length) => (⟨[.int .i64 M[k.1].kind, .string M[k.1].text, .bool M[k.1].spaced, (hex k.1 k.2).choose], M[k.1], []⟩ : Elem Tok)
    have hXl : X.length = M.length := by simp [X]
    have hXg : ∀ k, (hk : k < X.length) → X[k] = ⟨[.int .i64 (M[k]'(by omega)).kind, .string (M[k]'(by omega)).text, .bool (M[k]'(by omega)).spaced, (hex k (by omega)).choose], M[k]'(by omega), []⟩ := fun k hk => by simp [X]
    have hXm : ∀ x ∈ X, ∃ k, ∃ hk : k < M.length, x = ⟨[.int .i64 M[k].kind, .string M[k].text, .bool M[k].spaced, (hex k hk).choose], M[k], []⟩ := fun x hx => by
      obtain ⟨k, hk, rfl⟩ := List.getElem_of_mem hx
      exact ⟨k, by omega, hXg k hk⟩
    have hXd : X.map (·.d) = M := List.ext_getElem (by simpa using hXl) fun k h1 h2 => by rw [List.getElem_map, hXg k (by simpa using h1)]
    have hX4 : ∀ x ∈ X, x.cells.length = 4 := fun x hx => by obtain ⟨k, hk, rfl⟩ := hXm x hx; rfl
    have hX1 : ∀ x ∈ X, ∀ u ∈ x.cells, u.oneCell' = true := fun x hx u hu => by
      obtain ⟨k, hk, rfl⟩ := hXm x hx
      have := (hex k hk).choose_spec.2.2
      simp only [List.mem_cons, List.not_mem_nil, or_false] at hu
      rcases hu with rfl | rfl | rfl | rfl
      · rfl
      · rfl
      · rfl
      · exact this
    refine wpList_append_own _ hg s y _ ho base _ i _ 4 _ ti_tok.1 hi hz0 hz1 hz2 rfl (by decide) v L.length _ hs hown.row ⟨b, off, none⟩ M.length cap (X.flatMap (·.cells)) hy (by rw [flatMap_len hX4, hXl]) ?_ ?_ (by unfold maxLen; omega) (by omega) hbase fun v' w' h1 h2 _ => h v' X w' hXd (fun x hx => by obtain ⟨k, hk, rfl⟩ := hXm x hx; rfl) (hown.appended (X := X) (by rw [List.length_append, hXl, List.flatMap_append]; exact h1) h2 hX4 (fun x hx => by obtain ⟨k, hk, rfl⟩ := hXm x hx; exact (hex k hk).choose_spec.2.1) (fun x hx b hb => by obtain ⟨k, hk, rfl⟩ := hXm x hx; simp at hb) (fun x hx b hb => by obtain ⟨k, hk, rfl⟩ := hXm x hx; simp at hb)) h2
    · intro j u hj
      have hjl : j < X.length * 4 := by have := (List.getElem?_eq_some_iff.1 hj).1; rwa [flatMap_len hX4] at this
      have hdm : j = j / 4 * 4 + j % 4 := by omega
      have hk : j / 4 < X.length := by omega
      rw [hdm, flatMap_at (f := Elem.cells) hX4 hk (by omega), hXg _ hk] at hj
      have hE := (hex (j / 4) (by omega)).choose_spec.1
      have := hE.2 (j % 4) (by omega)
      rw [Addr.add_lit, show off + j = off + j / 4 * 4 + j % 4 by omega, this]
      exact hj
    · intro u hu
      obtain ⟨x, hx, hu⟩ := List.mem_flatMap.1 hu
      exact hX1 x hx u hu
  · have hM : M = [] := List.length_eq_zero_iff.1 (by omega)
    subst hM
    cases ad with
    | none =>
      have hrun := run_append_nil (P := Try.prog) (w := w) base _ o.type _ i 4 cap ti_tok.1 hi v L.length _ hown.row
      have hK := h v [] w rfl (by simp) (by simpa using hown) ⟨rfl, rfl, rfl, Nat.le_refl _, fun _ _ _ => rfl⟩
      refine wpList_plain hg fun K hK' => ?_
      unfold Oper.wp
      simp only [List.length_nil] at hy
      simp [execOp, ho, resolve, invoke, builtin, hs, hy, hrun, Result.andThen]
      exact hK' _ _ hK
    | some ad =>
      refine wpList_append_own _ hg s y _ ho base _ i _ 4 _ ti_tok.1 hi hz0 hz1 hz2 rfl (by decide) v L.length _ hs hown.row ad 0 cap [] hy rfl (by simp) (by simp) (by unfold maxLen; omega) (by omega) hbase fun v' w' h1 h2 _ => h v' [] w' rfl (by simp) ?_ h2
      exact hown.appended (X := []) (by have h1' := h1; simp only [Nat.add_zero, List.append_nil] at h1' ⊢; exact h1') h2 (by simp) (by simp) (by simp) (by simp)

def mac_texts : List ByteArray := [⟨#[97, 32, 49]⟩, ⟨#[98, 32, 97, 32, 43, 32, 50]⟩, ⟨#[65, 66, 32, 97, 32, 98]⟩, ⟨#[102, 40, 120, 41, 32, 120, 32, 43, 32, 120]⟩, ⟨#[103, 40, 120, 44, 121, 41, 32, 120, 32, 35, 35, 32, 121]⟩, ⟨#[104, 40, 120, 41, 32, 35, 32, 120]⟩, ⟨#[101, 40, 41, 32, 55]⟩, ⟨#[97, 32, 102]⟩, ⟨#[114, 32, 114, 32, 43, 32, 49]⟩, ⟨#[112, 40, 120, 41, 32, 102, 40, 120, 41]⟩, ⟨#[113, 40, 120, 44, 121, 44, 122, 41, 32, 122, 32, 121, 32, 120]⟩, ⟨#[110]⟩, ⟨#[102, 40, 120, 41, 32, 120, 32, 35, 35, 32, 49]⟩, ⟨#[109, 40, 120, 41, 32, 40, 120, 41, 32, 42, 32, 40, 120, 41]⟩, ⟨#[98, 32, 98]⟩, ⟨#[103, 40, 120, 44, 121, 41, 32, 102, 40, 120, 41, 32, 121]⟩, ⟨#[97, 32, 40, 32, 50, 32, 41]⟩, ⟨#[120, 32, 102, 32, 40, 32, 51]⟩, ⟨#[99, 40, 120, 41, 32, 120, 32, 120]⟩, ⟨#[100, 32, 53, 32, 35, 35, 32, 54]⟩]
theorem mac_texts_size : ∀ s ∈ mac_texts, s.size ≤ 14 := by decide
def mac_names : List ByteArray := [⟨#[]⟩, ⟨#[49]⟩, ⟨#[100, 101, 102, 105, 110, 101, 100]⟩, ⟨#[97, 32, 98]⟩]
theorem mac_names_size : ∀ s ∈ mac_names, s.size ≤ 7 := by decide
def mac_pars : List ByteArray := [⟨#[120]⟩, ⟨#[49]⟩, ⟨#[]⟩]
theorem mac_pars_size : ∀ s ∈ mac_pars, s.size ≤ 1 := by decide

set_option maxHeartbeats 32000000 in
set_option maxRecDepth 100000 in
theorem l20Macro (rb p : Nat) (n : Int) (w : World) (H : Rd w rb p) (hp : p ≤ 900000) (hn : n ≤ 100) (hn0 : 0 ≤ n) :
    Calls Try.prog 22 #[.pointer (some ⟨rb, 0, none⟩), .int .i64 n] w (DrawnMac rb p 10 w) := by
  have hrb := H.lt
  have hz0 := alloc_below' w (.cells #[.string ⟨#[]⟩, .bool false, .slice none 0 0, .slice none 0 0] 26)
  have HZ := Lib.hid (heap_alloc_new w (.cells #[.string ⟨#[]⟩, .bool false, .slice none 0 0, .slice none 0 0] 26))
  have hzl := alloc_below' (w.alloc (.cells #[.string ⟨#[]⟩, .bool false, .slice none 0 0, .slice none 0 0] 26)) (.cells #[.string ⟨#[97, 32, 49]⟩, .string ⟨#[98, 32, 97, 32, 43, 32, 50]⟩, .string ⟨#[65, 66, 32, 97, 32, 98]⟩, .string ⟨#[102, 40, 120, 41, 32, 120, 32, 43, 32, 120]⟩, .string ⟨#[103, 40, 120, 44, 121, 41, 32, 120, 32, 35, 35, 32, 121]⟩, .string ⟨#[104, 40, 120, 41, 32, 35, 32, 120]⟩, .string ⟨#[101, 40, 41, 32, 55]⟩, .string ⟨#[97, 32, 102]⟩, .string ⟨#[114, 32, 114, 32, 43, 32, 49]⟩, .string ⟨#[112, 40, 120, 41, 32, 102, 40, 120, 41]⟩, .string ⟨#[113, 40, 120, 44, 121, 44, 122, 41, 32, 122, 32, 121, 32, 120]⟩, .string ⟨#[110]⟩, .string ⟨#[102, 40, 120, 41, 32, 120, 32, 35, 35, 32, 49]⟩, .string ⟨#[109, 40, 120, 41, 32, 40, 120, 41, 32, 42, 32, 40, 120, 41]⟩, .string ⟨#[98, 32, 98]⟩, .string ⟨#[103, 40, 120, 44, 121, 41, 32, 102, 40, 120, 41, 32, 121]⟩, .string ⟨#[97, 32, 40, 32, 50, 32, 41]⟩, .string ⟨#[120, 32, 102, 32, 40, 32, 51]⟩, .string ⟨#[99, 40, 120, 41, 32, 120, 32, 120]⟩, .string ⟨#[100, 32, 53, 32, 35, 35, 32, 54]⟩] 9)
  have hs1 : (w.alloc (.cells #[.string ⟨#[]⟩, .bool false, .slice none 0 0, .slice none 0 0] 26)).heap.size = w.heap.size + 1 := Array.size_push _
  have HS1 := Lib.hid hs1
  clear hs1
  have HR1 := Lib.hid ((H.grow hz0).grow hzl)
  go_enter Try.func22, Try.ntmps22
  go_wp2_with fail
  refine (pick rb p _ _ HR1.out (by omega) (by omega) (by omega)).mono ?_
  rintro e w2 ⟨r, rfl, h0, h1, hR2, hK2⟩
  obtain ⟨s, hs, hcs⟩ := lit_pick mac_texts 20 (fun s hs => Nat.le_trans (mac_texts_size s hs) (by decide)) h0 (by show r < 20; omega) (by rw [HS1.out]; omega) hK2
  rw [HS1.out] at hcs
  have hb2 := hz0.trans (hzl.mono hz0.size)
  have hK02 := (Kept.of_below (fp := [rb]) hb2).trans hK2
  have HZ2 := Lib.hid (blkKept ((hzl.block _ (by rw [HS1.out]; omega)).trans HZ.out) hK2 (by omega))
  have hok : okStr s := by unfold okStr maxLen; omega
  clear hzl hz0 HZ HR1
  go_wp2_with fail
  refine (spec_TokensOf s _ hok).mono ?_
  rintro e w3 ⟨v3, f3, rfl, hT, hO, hb3⟩
  have hall := tokRes_all s
  have hK03 := hK02.trans (Kept.of_below hb3)
  have HZ3 := Lib.hid (mbox HZ2.out hb3)
  have hR3 := hR2.grow hb3
  clear hO hb3 hcs HZ2 hR2 hK2 hK02 hb2
  go_wp2_with fail
  refine (spec_MacroOf v3 _ f3 _ (by omega) (fun k hk => by rw [hall.2 _ (List.getElem_mem hk)]; simp) hT).mono ?_
  rintro e w4 ⟨cs, fp, rfl, hM, hMO, hb4⟩
  have HSM := of_small (tokRes s).1
  have hw34 : w.heap.size + 1 ≤ w3.heap.size := mlt HZ3.out
  clear hT hall
  generalize macOf (tokRes s).1 = MM at hM HSM
  obtain ⟨⟨nm, fb, ps, bd⟩, okb⟩ := MM
  obtain ⟨h2, h3, fp2, fp3, rfl, okn, K2, K3, rfl⟩ := hM
  obtain ⟨a2, c2, rfl, -⟩ := open_strs K2
  obtain ⟨a3, c3, rfl, -⟩ := open_rows K3
  obtain ⟨sm1, sm2, sm3, sm4⟩ := HSM
  have hK04 := hK03.trans (Kept.of_below hb4)
  have HZ4 := mbox HZ3.out hb4
  have hR4 := hR3.grow hb4
  have hlo : ∀ b ∈ fp2 ++ fp3, w.heap.size + 1 ≤ b ∧ b < w4.heap.size := fun b hb => ⟨by have := (hMO.2 b hb).1; omega, hMO.lt b hb⟩
  have hbx := alloc_below' w4 (.cells #[.string nm, .bool fb, .slice a2 ps.length c2, .slice a3 bd.length c3] 26)
  have HM5 := Lib.hid (heap_alloc_new w4 (.cells #[.string nm, .bool fb, .slice a2 ps.length c2, .slice a3 bd.length c3] 26))
  have HZ5 := Lib.hid (mbox HZ4 hbx)
  have HR5 := Lib.hid (hR4.grow hbx)
  have HK5 := Lib.hid (hK04.trans (Kept.of_below hbx))
  have HP5 := Lib.hid ((sSlice sStr).below K2 hbx)
  have HB5 := Lib.hid ((sSlice sTok).below K3 hbx)
  have hg1 : w.heap.size < w4.heap.size := mlt HZ4
  have HOK := Lib.hid (And.intro okn (And.intro sm1 (And.intro sm2 (And.intro sm3 sm4))))
  have HLO := Lib.hid hlo
  clear hMO hb4 hK03 hK04 HZ3 HZ4 hR3 hR4 K2 K3 hbx hlo okn sm1 sm2 sm3 sm4
  go_wp2_with fail
  refine (odd rb (p + 1) n _ HR5.out (by omega) (by omega) hn0).mono ?_
  rintro e w5 ⟨b, q, rfl, hq1, hq2, hR6, hK6⟩
  have HM6 := Lib.hid (blkKept HM5.out hK6 (by omega))
  have HZ6 := Lib.hid (blkKept HZ5.out hK6 (by omega))
  have HK6 := Lib.hid (HK5.out.trans hK6)
  have nrb : ∀ b ∈ fp2 ++ fp3, b ∉ [rb] := fun b hb hx => by have := (HLO.out b hb).1; have e : b = rb := (by simpa using hx); omega
  have HP6 := Lib.hid ((sSlice sStr).kept HP5.out (fun b hb => nrb b (by simp [hb])) hK6)
  have HB6 := Lib.hid ((sSlice sTok).kept HB5.out (fun b hb => nrb b (by simp [hb])) hK6)
  have HR6 := Lib.hid hR6
  clear HM5 HZ5 HK5 HP5 HB5 HR5 hK6 hR6
  cases b
  · -- as it is
    have y0 : w5.cell? ⟨w4.heap.size, 0, none⟩ = some (.string nm) := cell_of_row _ _ 0 _ _ _ HM6.out
    have y1 : w5.cell? ⟨w4.heap.size, 1, none⟩ = some (.bool fb) := cell_of_row _ _ 1 _ _ _ HM6.out
    have y2 : w5.cell? ⟨w4.heap.size, 2, none⟩ = some (.slice a2 ps.length c2) := cell_of_row _ _ 2 _ _ _ HM6.out
    have y3 : w5.cell? ⟨w4.heap.size, 3, none⟩ = some (.slice a3 bd.length c3) := cell_of_row _ _ 3 _ _ _ HM6.out
    have z0 : w5.cell? ⟨w.heap.size, 0, none⟩ = some (.string ⟨#[]⟩) := cell_of_row _ _ 0 _ _ _ HZ6.out
    have zf0 : w5.frozen? ⟨w.heap.size, 0, none⟩ = false := frozen_of_row _ _ 0 _ _ HZ6.out
    have z1 : w5.cell? ⟨w.heap.size, 1, none⟩ = some (.bool false) := cell_of_row _ _ 1 _ _ _ HZ6.out
    have zf1 : w5.frozen? ⟨w.heap.size, 1, none⟩ = false := frozen_of_row _ _ 1 _ _ HZ6.out
    have z2 : w5.cell? ⟨w.heap.size, 2, none⟩ = some (.slice none 0 0) := cell_of_row _ _ 2 _ _ _ HZ6.out
    have zf2 : w5.frozen? ⟨w.heap.size, 2, none⟩ = false := frozen_of_row _ _ 2 _ _ HZ6.out
    have z3 : w5.cell? ⟨w.heap.size, 3, none⟩ = some (.slice none 0 0) := cell_of_row _ _ 3 _ _ _ HZ6.out
    have zf3 : w5.frozen? ⟨w.heap.size, 3, none⟩ = false := frozen_of_row _ _ 3 _ _ HZ6.out
    have HS := Lib.hid (set4_mac (w := w) (wP := w5) HZ6.out (show sMacro.R w5 [.string nm, .bool fb, .slice a2 ps.length c2, .slice a3 bd.length c3] ⟨nm, fb, ps, bd⟩ (fp2 ++ fp3) from ⟨_, _, fp2, fp3, rfl, HOK.out.1, HP6.out, HB6.out, rfl⟩) (fun hx => by have := (HLO.out _ hx).1; omega) HR6.out (by omega) HK6.out (Nat.le_refl _))
    have HOKF : Hid (okMac ⟨nm, fb, ps, bd⟩) := ⟨by have := HOK.out.2.1; show nm.size ≤ 1000; omega, by have := HOK.out.2.2.1; show ps.length ≤ 100; omega, by have := HOK.out.2.2.2.1; show bd.length ≤ 100; omega, fun t ht => by rw [HOK.out.2.2.2.2 t ht]; simp⟩
    have HLOF : Hid (∀ b ∈ fp2 ++ fp3, w.heap.size ≤ b) := fun b hb => by have := (HLO.out b hb).1; omega
    clear HLO
    go_wp2
    refine bodyPost_ret (results_cell_row rfl _ _ w.heap.size _ _ _ _ rfl HS.out.1 Try.underlying26 rfl (by kernel_rfl)) rfl ?_
    exact dm_ret HS.out.2.1 HOKF.out HLOF.out (by omega) HS.out.2.2.1 HS.out.2.2.2
  · go_wp2_with fail
    refine (pick rb q _ _ HR6.out (by omega) (by omega) (by omega)).mono ?_
    rintro e w6 ⟨r8, rfl, hr0, hr1, hR7, hK7⟩
    have HM7 := Lib.hid (blkKept HM6.out hK7 (by omega))
    have HZ7 := Lib.hid (blkKept HZ6.out hK7 (by omega))
    have HK7 := Lib.hid (HK6.out.trans hK7)
    have HP7 := Lib.hid ((sSlice sStr).kept HP6.out (fun b hb => nrb b (by simp [hb])) hK7)
    have HB7 := Lib.hid ((sSlice sTok).kept HB6.out (fun b hb => nrb b (by simp [hb])) hK7)
    have HR7 := Lib.hid hR7
    have hs6 : w4.heap.size < w6.heap.size := mlt HM7.out
    have HX0 := Lib.hid (show ¬ (w.heap.size ∈ fp2 ++ fp3) from fun hx => by have := (HLO.out _ hx).1; omega)
    have HX1 := Lib.hid (show ¬ (w4.heap.size ∈ fp2 ++ fp3) from fun hx => by have := (HLO.out _ hx).2; omega)
    clear HM6 HZ6 HK6 HP6 HB6 HR6 hK7 hR7 nrb
    have hr8 : r8 = 0 ∨ r8 = 1 ∨ r8 = 2 ∨ r8 = 3 ∨ r8 = 4 ∨ r8 = 5 ∨ r8 = 6 ∨ r8 = 7 := by omega
    rcases hr8 with rfl | rfl | rfl | rfl | rfl | rfl | rfl | rfl
    · -- case 0
      have hbl := alloc_below' w6 (.cells #[.string ⟨#[]⟩, .string ⟨#[49]⟩, .string ⟨#[100, 101, 102, 105, 110, 101, 100]⟩, .string ⟨#[97, 32, 98]⟩] 9)
      have HRl := Lib.hid (HR7.out.grow hbl)
      go_wp2_with fail
      refine (pick rb (q + 1) _ _ HRl.out (by omega) (by omega) (by omega)).mono ?_
      rintro e w7 ⟨r4, rfl, hr40, hr41, hR8, hK8⟩
      obtain ⟨sn, hsn, hcn⟩ := lit_pick mac_names 7 mac_names_size hr40 (by show r4 < 4; omega) (by omega) hK8
      have HM8 := Lib.hid (blkKept (mbox HM7.out hbl) hK8 (by omega))
      have HZ8 := Lib.hid (blkKept (mbox HZ7.out hbl) hK8 (by omega))
      have HK8 := Lib.hid ((HK7.out.trans (Kept.of_below hbl)).trans hK8)
      have nrb : ∀ b ∈ fp2 ++ fp3, b ∉ [rb] := fun b hb hx => by have := (HLO.out b hb).1; have e : b = rb := (by simpa using hx); omega
      have HP8 := Lib.hid ((sSlice sStr).kept ((sSlice sStr).below HP7.out hbl) (fun b hb => nrb b (by simp [hb])) hK8)
      have HB8 := Lib.hid ((sSlice sTok).kept ((sSlice sTok).below HB7.out hbl) (fun b hb => nrb b (by simp [hb])) hK8)
      have HR8 := Lib.hid hR8
      have oksn : okStr sn := by unfold okStr maxLen; omega
      clear hK8 hR8 hbl HRl
      have y0 : w7.cell? ⟨w4.heap.size, 0, none⟩ = some (.string nm) := cell_of_row _ _ 0 _ _ _ HM8.out
      have y1 : w7.cell? ⟨w4.heap.size, 1, none⟩ = some (.bool fb) := cell_of_row _ _ 1 _ _ _ HM8.out
      have y2 : w7.cell? ⟨w4.heap.size, 2, none⟩ = some (.slice a2 ps.length c2) := cell_of_row _ _ 2 _ _ _ HM8.out
      have y3 : w7.cell? ⟨w4.heap.size, 3, none⟩ = some (.slice a3 bd.length c3) := cell_of_row _ _ 3 _ _ _ HM8.out
      have yf : w7.frozen? ⟨w4.heap.size, 0, none⟩ = false := frozen_of_row _ _ 0 _ _ HM8.out
      have z0 : w7.cell? ⟨w.heap.size, 0, none⟩ = some (.string ⟨#[]⟩) := cell_of_row _ _ 0 _ _ _ HZ8.out
      have zf0 : w7.frozen? ⟨w.heap.size, 0, none⟩ = false := frozen_of_row _ _ 0 _ _ HZ8.out
      have z1 : w7.cell? ⟨w.heap.size, 1, none⟩ = some (.bool false) := cell_of_row _ _ 1 _ _ _ HZ8.out
      have zf1 : w7.frozen? ⟨w.heap.size, 1, none⟩ = false := frozen_of_row _ _ 1 _ _ HZ8.out
      have z2 : w7.cell? ⟨w.heap.size, 2, none⟩ = some (.slice none 0 0) := cell_of_row _ _ 2 _ _ _ HZ8.out
      have zf2 : w7.frozen? ⟨w.heap.size, 2, none⟩ = false := frozen_of_row _ _ 2 _ _ HZ8.out
      have z3 : w7.cell? ⟨w.heap.size, 3, none⟩ = some (.slice none 0 0) := cell_of_row _ _ 3 _ _ _ HZ8.out
      have zf3 : w7.frozen? ⟨w.heap.size, 3, none⟩ = false := frozen_of_row _ _ 3 _ _ HZ8.out
      have HS := Lib.hid (set4_mac (w := w) (wP := w7.setCell ⟨w4.heap.size, 0, none⟩ (.string sn)) (blk_other HZ8.out (by omega : w.heap.size ≠ w4.heap.size) 0 (.string sn)) (sMacro.setB (show sMacro.R w7 [.string sn, .bool fb, .slice a2 ps.length c2, .slice a3 bd.length c3] ⟨sn, fb, ps, bd⟩ (fp2 ++ fp3) from ⟨_, _, fp2, fp3, rfl, oksn, HP8.out, HB8.out, rfl⟩) HX1.out 0 (.string sn)) HX0.out (rdSet HR8.out (by omega) 0 (.string sn)) (by omega) (keptSet HK8.out (by omega) (.string sn) 0) (Nat.le_refl _))
      have HOKF : Hid (okMac ⟨sn, fb, ps, bd⟩) := ⟨by show sn.size ≤ 1000; omega, by have := HOK.out.2.2.1; show ps.length ≤ 100; omega, by have := HOK.out.2.2.2.1; show bd.length ≤ 100; omega, fun t ht => by rw [HOK.out.2.2.2.2 t ht]; simp⟩
      have HLOF : Hid (∀ b ∈ fp2 ++ fp3, w.heap.size ≤ b) := fun b hb => by have := (HLO.out b hb).1; omega
      clear HLO
      go_wp2
      refine bodyPost_ret (results_cell_row rfl _ _ w.heap.size _ _ _ _ rfl HS.out.1 Try.underlying26 rfl (by kernel_rfl)) rfl ?_
      exact dm_ret HS.out.2.1 HOKF.out HLOF.out (by omega) HS.out.2.2.1 HS.out.2.2.2
    · -- case 1
      have hbl := alloc_below' w6 (.cells #[] 9)
      have hlit : Hid ((w6.alloc (.cells #[] 9)).ownsRow w6.heap.size 9 1 (.slice (some ⟨w6.heap.size, 0, none⟩) 0 0) ([] : List ByteArray).length (([] : List ByteArray).map Value.string)) := World.ownsRow_lit (base := w6.heap.size) (e := 9) (size := 1) w6 #[] 0 (Nat.le_refl _) (by simp) rfl
      have HMW := Lib.hid (mbox HM7.out hbl)
      have HZW := Lib.hid (mbox HZ7.out hbl)
      have HRW := Lib.hid (HR7.out.grow hbl)
      have HKW := Lib.hid (HK7.out.trans (Kept.of_below hbl))
      have HPW := Lib.hid ((sSlice sStr).below HP7.out hbl)
      have HBW := Lib.hid ((sSlice sTok).below HB7.out hbl)
      obtain ⟨_, _, -, -, -, -, hsz⟩ := open_strs HPW.out
      have HSZ := Lib.hid hsz
      clear hsz
      have y2 : (w6.alloc (.cells #[] 9)).cell? ⟨w4.heap.size, 2, none⟩ = some (.slice a2 ps.length c2) := cell_of_row _ _ 2 _ _ _ HMW.out
      have hws : (w6.alloc (.cells #[] 9)).heap.size = w6.heap.size + 1 := Array.size_push _
      have HWS := Lib.hid hws
      have hps4 := HOK.out.2.2.1
      clear hbl hws
      have hq1' : q ≤ p + 8 := by omega
      go_wp2_with (first
        | (
          at_builtin
          refine wp_append_strsR rfl (.tmp 48) (.tmp 50) rfl w6.heap.size (.slice (some ⟨w6.heap.size, 0, none⟩) 0 0) (.slice a2 ps.length c2) [] ps fp2 rfl hlit.out rfl HPW.out (by simp; omega) (by rw [HWS.out]; omega) ?_
          intro v8 w8 hE hg
          have hown : ∀ b, (Value.slice (some ⟨w6.heap.size, 0, none⟩) 0 0).ownBlock = some b → w6.heap.size ≤ b := fun b hb => by simp only [Value.ownBlock, Option.some.injEq] at hb; omega
          have hlt6 : w6.heap.size < (w6.alloc (.cells #[] 9)).heap.size := by rw [HWS.out]; omega
          have kb : ∀ b, b < w6.heap.size → w8.heap[b]? = ((w6.alloc (.cells #[] 9))).heap[b]? := fun b hb => hg.block b (by omega) (fun he => by have := hown b he.symm; omega)
          have HM8 := Lib.hid ((kb _ (by omega)).trans HMW.out)
          have HZ8 := Lib.hid ((kb _ (by omega)).trans HZW.out)
          have HR8 := Lib.hid (grownRd HRW.out hg (by omega : rb < w6.heap.size) (fun b hb => hown b hb))
          have HK8 := Lib.hid (grownKept HKW.out hg (fun b hb => by have := hown b hb; omega))
          have HB8 := Lib.hid ((sSlice sTok).frame (fun b hb => kb b (by have := (HLO.out b (by simp [hb])).2; omega)) HBW.out)
          have hs8 : w6.heap.size < w8.heap.size := Nat.lt_of_lt_of_le hlt6 hg.size
          rw [List.nil_append] at hE
          obtain ⟨fp1, R1, -, -⟩ := own_flat (ok := okStr) hE HSZ.out
          obtain ⟨a8, c8, rfl, -⟩ := open_rows R1
          have HE8 := Lib.hid hE
          have hbl2 := alloc_below' w8 (.cells #[.string ⟨#[120]⟩, .string ⟨#[49]⟩, .string ⟨#[]⟩] 9)
          have HR9 := Lib.hid (HR8.out.grow hbl2)
          have HM9 := Lib.hid (mbox HM8.out hbl2)
          have HZ9 := Lib.hid (mbox HZ8.out hbl2)
          have HK9 := Lib.hid (HK8.out.trans (Kept.of_below hbl2))
          have HB9 := Lib.hid ((sSlice sTok).below HB8.out hbl2)
          have HE9 := Lib.hid (HE8.out.alloc (.cells #[.string ⟨#[120]⟩, .string ⟨#[49]⟩, .string ⟨#[]⟩] 9))
          have HS9 : Hid ((w8.alloc (.cells #[.string ⟨#[120]⟩, .string ⟨#[49]⟩, .string ⟨#[]⟩] 9)).heap.size = w8.heap.size + 1) := Array.size_push _
          clear hE hg kb hown y2 hlit R1 HR8 HM8 HZ8 HK8 HB8 HE8 hbl2)
        | (
          go_at_call 47
          refine (pick rb (q + 1) _ _ HR9.out (by omega) (by omega) (by omega)).mono ?_
          rintro e w9 ⟨r9, rfl, hr90, hr91, hR, hK⟩
          obtain ⟨sn, hsn, hcn⟩ := lit_pick mac_pars 1 mac_pars_size hr90 (by show r9 < 3; omega) (by omega) hK
          have nrb : ∀ b ∈ fp2 ++ fp3, b ∉ [rb] := fun b hb hx => by have := (HLO.out b hb).1; have e : b = rb := (by simpa using hx); omega
          have hs9 : w8.heap.size < w9.heap.size := by have := hK.size; have e := HS9.out; omega
          have HMA := Lib.hid (blkKept HM9.out hK (by omega))
          have HZA := Lib.hid (blkKept HZ9.out hK (by omega))
          have HKA := Lib.hid (HK9.out.trans hK)
          have HBA := Lib.hid ((sSlice sTok).kept HB9.out (fun b hb => nrb b (by simp [hb])) hK)
          have HEA := Lib.hid (own_kept HE9.out hK (by omega))
          have HRA := Lib.hid hR
          have oksn : okStr sn := by unfold okStr maxLen; omega
          clear hK hR nrb HR9 HM9 HZ9 HK9 HB9 HE9 HS9)
        | (
          at_builtin
          refine wp_append_one ti27 rfl _ (.string sn) rfl rfl (.tmp 51) (.tmp 57) rfl w6.heap.size (.slice a8 ps.length c8) ps.length (ps.map Value.string) rfl HEA.out rfl (by unfold maxLen; omega) (by omega) (by omega) ?_
          intro v10 w10 hE10 hg10
          have hown : ∀ b, (Value.slice a8 ps.length c8).ownBlock = some b → w6.heap.size ≤ b := fun b hb => (HEA.out.lt b hb).1
          have kb : ∀ b, b < w6.heap.size → w10.heap[b]? = w9.heap[b]? := fun b hb => hg10.block b (by omega) (fun he => by have := hown b he.symm; omega)
          have HMX := Lib.hid ((kb _ (by omega)).trans HMA.out)
          have HZX := Lib.hid ((kb _ (by omega)).trans HZA.out)
          have HRX := Lib.hid (grownRd HRA.out hg10 (by omega : rb < w6.heap.size) (fun b hb => hown b hb))
          have HKX := Lib.hid (grownKept HKA.out hg10 (fun b hb => by have := hown b hb; omega))
          have HBX := Lib.hid ((sSlice sTok).frame (fun b hb => kb b (by have := (HLO.out b (by simp [hb])).2; omega)) HBA.out)
          have hE11 : w10.ownsRow w6.heap.size 9 1 v10 (ps ++ [sn]).length ((ps ++ [sn]).map Value.string) := by simpa using hE10
          obtain ⟨fpP, hRP, hOP, -⟩ := own_flat (ok := okStr) hE11 (fun i hi => (List.mem_append.1 (List.getElem_mem hi)).elim (fun h => by obtain ⟨k, hk, e⟩ := List.getElem_of_mem h; rw [← e]; exact HSZ.out k hk) (fun h => by rw [List.mem_singleton.1 h]; exact oksn))
          have HFB : Hid (∀ b ∈ fpP, w6.heap.size ≤ b) := fun b hb => (hOP.2 b hb).1
          have HRP := Lib.hid hRP
          obtain ⟨av, cv, hv, -⟩ := open_rows hRP
          generalize (ps ++ [sn]).length = nv at hv
          subst hv
          clear hE10 hE11 hg10 kb hRP hOP hown
          have y0 : w10.cell? ⟨w4.heap.size, 0, none⟩ = some (.string nm) := cell_of_row _ _ 0 _ _ _ HMX.out
          have y1 : w10.cell? ⟨w4.heap.size, 1, none⟩ = some (.bool fb) := cell_of_row _ _ 1 _ _ _ HMX.out
          have y2 : w10.cell? ⟨w4.heap.size, 2, none⟩ = some (.slice a2 ps.length c2) := cell_of_row _ _ 2 _ _ _ HMX.out
          have y3 : w10.cell? ⟨w4.heap.size, 3, none⟩ = some (.slice a3 bd.length c3) := cell_of_row _ _ 3 _ _ _ HMX.out
          have yf : w10.frozen? ⟨w4.heap.size, 2, none⟩ = false := frozen_of_row _ _ 2 _ _ HMX.out
          have z0 : w10.cell? ⟨w.heap.size, 0, none⟩ = some (.string ⟨#[]⟩) := cell_of_row _ _ 0 _ _ _ HZX.out
          have zf0 : w10.frozen? ⟨w.heap.size, 0, none⟩ = false := frozen_of_row _ _ 0 _ _ HZX.out
          have z1 : w10.cell? ⟨w.heap.size, 1, none⟩ = some (.bool false) := cell_of_row _ _ 1 _ _ _ HZX.out
          have zf1 : w10.frozen? ⟨w.heap.size, 1, none⟩ = false := frozen_of_row _ _ 1 _ _ HZX.out
          have z2 : w10.cell? ⟨w.heap.size, 2, none⟩ = some (.slice none 0 0) := cell_of_row _ _ 2 _ _ _ HZX.out
          have zf2 : w10.frozen? ⟨w.heap.size, 2, none⟩ = false := frozen_of_row _ _ 2 _ _ HZX.out
          have z3 : w10.cell? ⟨w.heap.size, 3, none⟩ = some (.slice none 0 0) := cell_of_row _ _ 3 _ _ _ HZX.out
          have zf3 : w10.frozen? ⟨w.heap.size, 3, none⟩ = false := frozen_of_row _ _ 3 _ _ HZX.out
          have HS := Lib.hid (set4_mac (w := w) (wP := w10.setCell ⟨w4.heap.size, 2, none⟩ (.slice av nv cv)) (blk_other HZX.out (by omega : w.heap.size ≠ w4.heap.size) 2 (.slice av nv cv)) (sMacro.setB (show sMacro.R w10 [.string nm, .bool fb, .slice av nv cv, .slice a3 bd.length c3] ⟨nm, fb, ps ++ [sn], bd⟩ (fpP ++ fp3) from ⟨_, _, fpP, fp3, rfl, HOK.out.1, HRP.out, HBX.out, rfl⟩) (fun hx => (List.mem_append.1 hx).elim (fun h => by have := HFB.out _ h; omega) (fun h => HX1.out (by simp [h]))) 2 (.slice av nv cv)) (fun hx => (List.mem_append.1 hx).elim (fun h => by have := HFB.out _ h; omega) (fun h => HX0.out (by simp [h]))) (rdSet HRX.out (by omega) 2 (.slice av nv cv)) (by omega) (keptSet HKX.out (by omega) (.slice av nv cv) 2) (Nat.le_refl _))
          have HOKF : Hid (okMac ⟨nm, fb, ps ++ [sn], bd⟩) := ⟨by have := HOK.out.2.1; show nm.size ≤ 1000; omega, by show (ps ++ [sn]).length ≤ 100; simp only [List.length_append, List.length_cons, List.length_nil]; omega, by have := HOK.out.2.2.2.1; show bd.length ≤ 100; omega, fun t ht => by rw [HOK.out.2.2.2.2 t ht]; simp⟩
          have HLOF : Hid (∀ b ∈ fpP ++ fp3, w.heap.size ≤ b) := fun b hb => (List.mem_append.1 hb).elim (fun h => by have := HFB.out _ h; omega) (fun h => by have := (HLO.out b (by simp [h])).1; omega)
          clear HLO))
      refine bodyPost_ret (results_cell_row rfl _ _ w.heap.size _ _ _ _ rfl HS.out.1 Try.underlying26 rfl (by kernel_rfl)) rfl ?_
      exact dm_ret HS.out.2.1 HOKF.out HLOF.out (by omega) HS.out.2.2.1 HS.out.2.2.2
    · -- case 2
      have y0 : w6.cell? ⟨w4.heap.size, 0, none⟩ = some (.string nm) := cell_of_row _ _ 0 _ _ _ HM7.out
      have y1 : w6.cell? ⟨w4.heap.size, 1, none⟩ = some (.bool fb) := cell_of_row _ _ 1 _ _ _ HM7.out
      have y2 : w6.cell? ⟨w4.heap.size, 2, none⟩ = some (.slice a2 ps.length c2) := cell_of_row _ _ 2 _ _ _ HM7.out
      have y3 : w6.cell? ⟨w4.heap.size, 3, none⟩ = some (.slice a3 bd.length c3) := cell_of_row _ _ 3 _ _ _ HM7.out
      have yf : w6.frozen? ⟨w4.heap.size, 1, none⟩ = false := frozen_of_row _ _ 1 _ _ HM7.out
      have z0 : w6.cell? ⟨w.heap.size, 0, none⟩ = some (.string ⟨#[]⟩) := cell_of_row _ _ 0 _ _ _ HZ7.out
      have zf0 : w6.frozen? ⟨w.heap.size, 0, none⟩ = false := frozen_of_row _ _ 0 _ _ HZ7.out
      have z1 : w6.cell? ⟨w.heap.size, 1, none⟩ = some (.bool false) := cell_of_row _ _ 1 _ _ _ HZ7.out
      have zf1 : w6.frozen? ⟨w.heap.size, 1, none⟩ = false := frozen_of_row _ _ 1 _ _ HZ7.out
      have z2 : w6.cell? ⟨w.heap.size, 2, none⟩ = some (.slice none 0 0) := cell_of_row _ _ 2 _ _ _ HZ7.out
      have zf2 : w6.frozen? ⟨w.heap.size, 2, none⟩ = false := frozen_of_row _ _ 2 _ _ HZ7.out
      have z3 : w6.cell? ⟨w.heap.size, 3, none⟩ = some (.slice none 0 0) := cell_of_row _ _ 3 _ _ _ HZ7.out
      have zf3 : w6.frozen? ⟨w.heap.size, 3, none⟩ = false := frozen_of_row _ _ 3 _ _ HZ7.out
      have HS := Lib.hid (set4_mac (w := w) (wP := w6.setCell ⟨w4.heap.size, 1, none⟩ (.bool (!fb))) (blk_other HZ7.out (by omega : w.heap.size ≠ w4.heap.size) 1 (.bool (!fb))) (sMacro.setB (show sMacro.R w6 [.string nm, .bool (!fb), .slice a2 ps.length c2, .slice a3 bd.length c3] ⟨nm, !fb, ps, bd⟩ (fp2 ++ fp3) from ⟨_, _, fp2, fp3, rfl, HOK.out.1, HP7.out, HB7.out, rfl⟩) HX1.out 1 (.bool (!fb))) HX0.out (rdSet HR7.out (by omega) 1 (.bool (!fb))) (by omega) (keptSet HK7.out (by omega) (.bool (!fb)) 1) (Nat.le_refl _))
      have HOKF : Hid (okMac ⟨nm, !fb, ps, bd⟩) := ⟨by have := HOK.out.2.1; show nm.size ≤ 1000; omega, by have := HOK.out.2.2.1; show ps.length ≤ 100; omega, by have := HOK.out.2.2.2.1; show bd.length ≤ 100; omega, fun t ht => by rw [HOK.out.2.2.2.2 t ht]; simp⟩
      have HLOF : Hid (∀ b ∈ fp2 ++ fp3, w.heap.size ≤ b) := fun b hb => by have := (HLO.out b hb).1; omega
      clear HLO
      go_wp2
      refine bodyPost_ret (results_cell_row rfl _ _ w.heap.size _ _ _ _ rfl HS.out.1 Try.underlying26 rfl (by kernel_rfl)) rfl ?_
      exact dm_ret HS.out.2.1 HOKF.out HLOF.out (by omega) HS.out.2.2.1 HS.out.2.2.2
    · -- case 3
      have hbl := alloc_below' w6 (.cells #[.int .i64 4, .string ⟨#[35, 35]⟩, .bool false, .slice none 0 0] 35)
      have hlit : Hid (RowE sTok w6.heap.size 35 (.slice (some ⟨w6.heap.size, 0, none⟩) 1 1) [(⟨[.int .i64 4, .string ⟨#[35, 35]⟩, .bool false, .slice none 0 0], ⟨4, ⟨#[35, 35]⟩, false, []⟩, []⟩ : Elem Tok)] (w6.alloc (.cells #[.int .i64 4, .string ⟨#[35, 35]⟩, .bool false, .slice none 0 0] 35))) := RowE.lit [(⟨[.int .i64 4, .string ⟨#[35, 35]⟩, .bool false, .slice none 0 0], ⟨4, ⟨#[35, 35]⟩, false, []⟩, []⟩ : Elem Tok)] (by intro x hx; obtain rfl := List.mem_singleton.1 hx; rfl) (by intro x hx; obtain rfl := List.mem_singleton.1 hx; exact ⟨_, rfl, ⟨by decide, by decide⟩, by show okStr _; unfold okStr; decide, slice_empty sStr _ _ _ (by simp)⟩) (by intro x hx b hb; obtain rfl := List.mem_singleton.1 hx; simp at hb) (by intro x hx b hb; obtain rfl := List.mem_singleton.1 hx; simp at hb) (Nat.le_refl _) (by decide)
      have HMW := Lib.hid (mbox HM7.out hbl)
      have HZW := Lib.hid (mbox HZ7.out hbl)
      have HRW := Lib.hid (HR7.out.grow hbl)
      have HKW := Lib.hid (HK7.out.trans (Kept.of_below hbl))
      have HPW := Lib.hid ((sSlice sStr).below HP7.out hbl)
      have HBW := Lib.hid ((sSlice sTok).below HB7.out hbl)
      have y3 : (w6.alloc (.cells #[.int .i64 4, .string ⟨#[35, 35]⟩, .bool false, .slice none 0 0] 35)).cell? ⟨w4.heap.size, 3, none⟩ = some (.slice a3 bd.length c3) := cell_of_row _ _ 3 _ _ _ HMW.out
      have hws : (w6.alloc (.cells #[.int .i64 4, .string ⟨#[35, 35]⟩, .bool false, .slice none 0 0] 35)).heap.size = w6.heap.size + 1 := Array.size_push _
      have HWS := Lib.hid hws
      clear hbl hws
      have hq1' : q ≤ p + 9 := by omega
      go_wp2_with (
        at_builtin
        refine wp_append_toksR rfl (.tmp 69) (.tmp 71) rfl w6.heap.size (.slice (some ⟨w6.heap.size, 0, none⟩) 1 1) (.slice a3 bd.length c3) [(⟨[.int .i64 4, .string ⟨#[35, 35]⟩, .bool false, .slice none 0 0], ⟨4, ⟨#[35, 35]⟩, false, []⟩, []⟩ : Elem Tok)] bd fp3 rfl hlit.out rfl HBW.out HOK.out.2.2.2.2 (by have := HOK.out.2.2.2.1; simp; omega) (by rw [HWS.out]; omega) ?_
        intro v8 X w8 hX hXf hE hg
        have hown : ∀ b, (Value.slice (some ⟨w6.heap.size, 0, none⟩) 1 1).ownBlock = some b → w6.heap.size ≤ b := hlit.out.mine
        have hlt6 : w6.heap.size < (w6.alloc (.cells #[.int .i64 4, .string ⟨#[35, 35]⟩, .bool false, .slice none 0 0] 35)).heap.size := by rw [HWS.out]; omega
        have kb : ∀ b, b < w6.heap.size → w8.heap[b]? = ((w6.alloc (.cells #[.int .i64 4, .string ⟨#[35, 35]⟩, .bool false, .slice none 0 0] 35))).heap[b]? := fun b hb => hg.block b (by omega) (fun he => by have := hown b he.symm; omega)
        have HM8 := Lib.hid ((kb _ (by omega)).trans HMW.out)
        have HZ8 := Lib.hid ((kb _ (by omega)).trans HZW.out)
        have HR8 := Lib.hid (grownRd HRW.out hg (by omega : rb < w6.heap.size) (fun b hb => hown b hb))
        have HK8 := Lib.hid (grownKept HKW.out hg (fun b hb => by have := hown b hb; omega))
        have HP8 := Lib.hid ((sSlice sStr).frame (fun b hb => kb b (by have := (HLO.out b (by simp [hb])).2; omega)) HPW.out)
        obtain ⟨fpB, hRB, hOB⟩ := rowE_own hE (fun x hx => (List.mem_append.1 hx).elim (fun h => by obtain rfl := List.mem_singleton.1 h; rfl) (hXf x))
        have HFB : Hid (∀ b ∈ fpB, w6.heap.size ≤ b) := fun b hb => (hOB.2 b hb).1
        obtain ⟨av, cv, hv, -⟩ := hE.val
        generalize ([(⟨[.int .i64 4, .string ⟨#[35, 35]⟩, .bool false, .slice none 0 0], ⟨4, ⟨#[35, 35]⟩, false, []⟩, []⟩ : Elem Tok)] ++ X).length = nv at hv
        subst hv
        have HRB := Lib.hid hRB
        clear hE hg kb hRB hOB hown y3
        have y0 : w8.cell? ⟨w4.heap.size, 0, none⟩ = some (.string nm) := cell_of_row _ _ 0 _ _ _ HM8.out
        have y1 : w8.cell? ⟨w4.heap.size, 1, none⟩ = some (.bool fb) := cell_of_row _ _ 1 _ _ _ HM8.out
        have y2 : w8.cell? ⟨w4.heap.size, 2, none⟩ = some (.slice a2 ps.length c2) := cell_of_row _ _ 2 _ _ _ HM8.out
        have y3 : w8.cell? ⟨w4.heap.size, 3, none⟩ = some (.slice a3 bd.length c3) := cell_of_row _ _ 3 _ _ _ HM8.out
        have yf : w8.frozen? ⟨w4.heap.size, 3, none⟩ = false := frozen_of_row _ _ 3 _ _ HM8.out
        have z0 : w8.cell? ⟨w.heap.size, 0, none⟩ = some (.string ⟨#[]⟩) := cell_of_row _ _ 0 _ _ _ HZ8.out
        have zf0 : w8.frozen? ⟨w.heap.size, 0, none⟩ = false := frozen_of_row _ _ 0 _ _ HZ8.out
        have z1 : w8.cell? ⟨w.heap.size, 1, none⟩ = some (.bool false) := cell_of_row _ _ 1 _ _ _ HZ8.out
        have zf1 : w8.frozen? ⟨w.heap.size, 1, none⟩ = false := frozen_of_row _ _ 1 _ _ HZ8.out
        have z2 : w8.cell? ⟨w.heap.size, 2, none⟩ = some (.slice none 0 0) := cell_of_row _ _ 2 _ _ _ HZ8.out
        have zf2 : w8.frozen? ⟨w.heap.size, 2, none⟩ = false := frozen_of_row _ _ 2 _ _ HZ8.out
        have z3 : w8.cell? ⟨w.heap.size, 3, none⟩ = some (.slice none 0 0) := cell_of_row _ _ 3 _ _ _ HZ8.out
        have zf3 : w8.frozen? ⟨w.heap.size, 3, none⟩ = false := frozen_of_row _ _ 3 _ _ HZ8.out
        have HS := Lib.hid (set4_mac (w := w) (wP := w8.setCell ⟨w4.heap.size, 3, none⟩ (.slice av nv cv)) (blk_other HZ8.out (by omega : w.heap.size ≠ w4.heap.size) 3 (.slice av nv cv)) (sMacro.setB (show sMacro.R w8 [.string nm, .bool fb, .slice a2 ps.length c2, .slice av nv cv] ⟨nm, fb, ps, ([(⟨[.int .i64 4, .string ⟨#[35, 35]⟩, .bool false, .slice none 0 0], ⟨4, ⟨#[35, 35]⟩, false, []⟩, []⟩ : Elem Tok)] ++ X).map (·.d)⟩ (fp2 ++ fpB) from ⟨_, _, fp2, fpB, rfl, HOK.out.1, HP8.out, HRB.out, rfl⟩) (fun hx => (List.mem_append.1 hx).elim (fun h => HX1.out (by simp [h])) (fun h => by have := HFB.out _ h; omega)) 3 (.slice av nv cv)) (fun hx => (List.mem_append.1 hx).elim (fun h => HX0.out (by simp [h])) (fun h => by have := HFB.out _ h; omega)) (rdSet HR8.out (by omega) 3 (.slice av nv cv)) (by omega) (keptSet HK8.out (by omega) (.slice av nv cv) 3) (Nat.le_refl _))
        have HOKF : Hid (okMac ⟨nm, fb, ps, ([(⟨[.int .i64 4, .string ⟨#[35, 35]⟩, .bool false, .slice none 0 0], ⟨4, ⟨#[35, 35]⟩, false, []⟩, []⟩ : Elem Tok)] ++ X).map (·.d)⟩) := ⟨by have := HOK.out.2.1; show nm.size ≤ 1000; omega, by have := HOK.out.2.2.1; show ps.length ≤ 100; omega, by rw [List.map_append, hX]; simp; have := HOK.out.2.2.2.1; omega, fun t ht => by rw [List.map_append, hX] at ht; exact (List.mem_append.1 ht).elim (fun h => by simp at h; rw [h]; decide) (fun h => by rw [HOK.out.2.2.2.2 t h]; simp)⟩
        have HLOF : Hid (∀ b ∈ fp2 ++ fpB, w.heap.size ≤ b) := fun b hb => (List.mem_append.1 hb).elim (fun h => by have := (HLO.out b (by simp [h])).1; omega) (fun h => by have := HFB.out _ h; omega)
        clear HLO)
      refine bodyPost_ret (results_cell_row rfl _ _ w.heap.size _ _ _ _ rfl HS.out.1 Try.underlying26 rfl (by kernel_rfl)) rfl ?_
      exact dm_ret HS.out.2.1 HOKF.out HLOF.out (by omega) HS.out.2.2.1 HS.out.2.2.2
    · -- case 4
      have hbl := alloc_below' w6 (.cells #[] 35)
      have hlit : Hid (RowE sTok w6.heap.size 35 (.slice (some ⟨w6.heap.size, 0, none⟩) 0 0) [] (w6.alloc (.cells #[] 35))) := RowE.lit [] (by simp) (by simp) (by simp) (by simp) (Nat.le_refl _) (by simp)
      have HMW := Lib.hid (mbox HM7.out hbl)
      have HZW := Lib.hid (mbox HZ7.out hbl)
      have HRW := Lib.hid (HR7.out.grow hbl)
      have HKW := Lib.hid (HK7.out.trans (Kept.of_below hbl))
      have HPW := Lib.hid ((sSlice sStr).below HP7.out hbl)
      have HBW := Lib.hid ((sSlice sTok).below HB7.out hbl)
      have y3 : (w6.alloc (.cells #[] 35)).cell? ⟨w4.heap.size, 3, none⟩ = some (.slice a3 bd.length c3) := cell_of_row _ _ 3 _ _ _ HMW.out
      have hws : (w6.alloc (.cells #[] 35)).heap.size = w6.heap.size + 1 := Array.size_push _
      have HWS := Lib.hid hws
      clear hbl hws
      have hq1' : q ≤ p + 9 := by omega
      go_wp2_with (first
        | (
          at_builtin
          refine wp_append_toksR rfl (.tmp 76) (.tmp 78) rfl w6.heap.size (.slice (some ⟨w6.heap.size, 0, none⟩) 0 0) (.slice a3 bd.length c3) [] bd fp3 rfl hlit.out rfl HBW.out HOK.out.2.2.2.2 (by have := HOK.out.2.2.2.1; simp; omega) (by rw [HWS.out]; omega) ?_
          intro v8 X w8 hX hXf hE hg
          have hown : ∀ b, (Value.slice (some ⟨w6.heap.size, 0, none⟩) 0 0).ownBlock = some b → w6.heap.size ≤ b := hlit.out.mine
          have hlt6 : w6.heap.size < (w6.alloc (.cells #[] 35)).heap.size := by rw [HWS.out]; omega
          have kb : ∀ b, b < w6.heap.size → w8.heap[b]? = ((w6.alloc (.cells #[] 35))).heap[b]? := fun b hb => hg.block b (by omega) (fun he => by have := hown b he.symm; omega)
          have HM8 := Lib.hid ((kb _ (by omega)).trans HMW.out)
          have HZ8 := Lib.hid ((kb _ (by omega)).trans HZW.out)
          have HR8 := Lib.hid (grownRd HRW.out hg (by omega : rb < w6.heap.size) (fun b hb => hown b hb))
          have HK8 := Lib.hid (grownKept HKW.out hg (fun b hb => by have := hown b hb; omega))
          have HP8 := Lib.hid ((sSlice sStr).frame (fun b hb => kb b (by have := (HLO.out b (by simp [hb])).2; omega)) HPW.out)
          have hs8 : w6.heap.size < w8.heap.size := Nat.lt_of_lt_of_le hlt6 hg.size
          rw [List.nil_append] at hE
          obtain ⟨a8, c8, hv8, -⟩ := hE.val
          obtain ⟨n8, hn8⟩ : ∃ n, n = X.length := ⟨_, rfl⟩
          rw [← hn8] at hv8
          subst hv8
          have hn8b : n8 ≤ 20 := by have e : X.length = bd.length := (by rw [← hX, List.length_map]); have := HOK.out.2.2.2.1; omega
          have HN8 := Lib.hid hn8
          have HX8 := Lib.hid hX
          have HE8 := Lib.hid hE
          clear hE hg kb hown y3 hn8 hX hXf hlit)
        | (
          at_builtin
          refine wp_append_tokE rfl (.tmp 79) (.tmp 81) rfl w6.heap.size (.slice a8 n8 c8) X rfl HE8.out 4 ⟨#[35]⟩ false none 0 0 [] [] rfl (⟨_, rfl, ⟨by decide, by decide⟩, by show okStr _; unfold okStr; decide, slice_empty sStr _ _ _ (by simp)⟩) (by simp) (by simp) (by rw [← HN8.out]; omega) (by skip; omega) ?_
          intro v10 w10 hE10 hg10
          have hown := HE8.out.mine
          have kb : ∀ b, b < w6.heap.size → w10.heap[b]? = w8.heap[b]? := fun b hb => hg10.block b (by skip; omega) (fun he => by have := hown b he.symm; omega)
          have HMX := Lib.hid ((kb _ (by omega)).trans HM8.out)
          have HZX := Lib.hid ((kb _ (by omega)).trans HZ8.out)
          have HRX := Lib.hid (grownRd HR8.out hg10 (by omega : rb < w6.heap.size) (fun b hb => hown b hb))
          have HKX := Lib.hid (grownKept HK8.out hg10 (fun b hb => by have := hown b hb; omega))
          have HPX := Lib.hid ((sSlice sStr).frame (fun b hb => kb b (by have := (HLO.out b (by simp [hb])).2; omega)) HP8.out)
          obtain ⟨fpB, hRB, hOB⟩ := hE10.read
          have HFB : Hid (∀ b ∈ fpB, w6.heap.size ≤ b) := hOB
          have HRB := Lib.hid hRB
          obtain ⟨av, cv, hv, -⟩ := hE10.val
          generalize (X ++ [(⟨[.int .i64 4, .string ⟨#[35]⟩, .bool false, .slice none 0 0], ⟨4, ⟨#[35]⟩, false, []⟩, []⟩ : Elem Tok)]).length = nv at hv
          subst hv
          clear hE10 hg10 kb hRB hOB hown
          have y0 : w10.cell? ⟨w4.heap.size, 0, none⟩ = some (.string nm) := cell_of_row _ _ 0 _ _ _ HMX.out
          have y1 : w10.cell? ⟨w4.heap.size, 1, none⟩ = some (.bool fb) := cell_of_row _ _ 1 _ _ _ HMX.out
          have y2 : w10.cell? ⟨w4.heap.size, 2, none⟩ = some (.slice a2 ps.length c2) := cell_of_row _ _ 2 _ _ _ HMX.out
          have y3 : w10.cell? ⟨w4.heap.size, 3, none⟩ = some (.slice a3 bd.length c3) := cell_of_row _ _ 3 _ _ _ HMX.out
          have yf : w10.frozen? ⟨w4.heap.size, 3, none⟩ = false := frozen_of_row _ _ 3 _ _ HMX.out
          have z0 : w10.cell? ⟨w.heap.size, 0, none⟩ = some (.string ⟨#[]⟩) := cell_of_row _ _ 0 _ _ _ HZX.out
          have zf0 : w10.frozen? ⟨w.heap.size, 0, none⟩ = false := frozen_of_row _ _ 0 _ _ HZX.out
          have z1 : w10.cell? ⟨w.heap.size, 1, none⟩ = some (.bool false) := cell_of_row _ _ 1 _ _ _ HZX.out
          have zf1 : w10.frozen? ⟨w.heap.size, 1, none⟩ = false := frozen_of_row _ _ 1 _ _ HZX.out
          have z2 : w10.cell? ⟨w.heap.size, 2, none⟩ = some (.slice none 0 0) := cell_of_row _ _ 2 _ _ _ HZX.out
          have zf2 : w10.frozen? ⟨w.heap.size, 2, none⟩ = false := frozen_of_row _ _ 2 _ _ HZX.out
          have z3 : w10.cell? ⟨w.heap.size, 3, none⟩ = some (.slice none 0 0) := cell_of_row _ _ 3 _ _ _ HZX.out
          have zf3 : w10.frozen? ⟨w.heap.size, 3, none⟩ = false := frozen_of_row _ _ 3 _ _ HZX.out
          have HS := Lib.hid (set4_mac (w := w) (wP := w10.setCell ⟨w4.heap.size, 3, none⟩ (.slice av nv cv)) (blk_other HZX.out (by omega : w.heap.size ≠ w4.heap.size) 3 (.slice av nv cv)) (sMacro.setB (show sMacro.R w10 [.string nm, .bool fb, .slice a2 ps.length c2, .slice av nv cv] ⟨nm, fb, ps, (X ++ [(⟨[.int .i64 4, .string ⟨#[35]⟩, .bool false, .slice none 0 0], ⟨4, ⟨#[35]⟩, false, []⟩, []⟩ : Elem Tok)]).map (·.d)⟩ (fp2 ++ fpB) from ⟨_, _, fp2, fpB, rfl, HOK.out.1, HPX.out, HRB.out, rfl⟩) (fun hx => (List.mem_append.1 hx).elim (fun h => HX1.out (by simp [h])) (fun h => by have := HFB.out _ h; omega)) 3 (.slice av nv cv)) (fun hx => (List.mem_append.1 hx).elim (fun h => HX0.out (by simp [h])) (fun h => by have := HFB.out _ h; omega)) (rdSet HRX.out (by omega) 3 (.slice av nv cv)) (by omega) (keptSet HKX.out (by omega) (.slice av nv cv) 3) (Nat.le_refl _))
          have HOKF : Hid (okMac ⟨nm, fb, ps, (X ++ [(⟨[.int .i64 4, .string ⟨#[35]⟩, .bool false, .slice none 0 0], ⟨4, ⟨#[35]⟩, false, []⟩, []⟩ : Elem Tok)]).map (·.d)⟩) := ⟨by have := HOK.out.2.1; show nm.size ≤ 1000; omega, by have := HOK.out.2.2.1; show ps.length ≤ 100; omega, by rw [List.map_append, HX8.out]; simp; have := HOK.out.2.2.2.1; omega, fun t ht => by rw [List.map_append, HX8.out] at ht; exact (List.mem_append.1 ht).elim (fun h => by rw [HOK.out.2.2.2.2 t h]; simp) (fun h => by simp at h; rw [h]; decide)⟩
          have HLOF : Hid (∀ b ∈ fp2 ++ fpB, w.heap.size ≤ b) := fun b hb => (List.mem_append.1 hb).elim (fun h => by have := (HLO.out b (by simp [h])).1; omega) (fun h => by have := HFB.out _ h; omega)
          clear HLO))
      refine bodyPost_ret (results_cell_row rfl _ _ w.heap.size _ _ _ _ rfl HS.out.1 Try.underlying26 rfl (by kernel_rfl)) rfl ?_
      exact dm_ret HS.out.2.1 HOKF.out HLOF.out (by omega) HS.out.2.2.1 HS.out.2.2.2
    · -- case 5
      have hbl := alloc_below' w6 (.cells #[] 35)
      have hlit : Hid (RowE sTok w6.heap.size 35 (.slice (some ⟨w6.heap.size, 0, none⟩) 0 0) [] (w6.alloc (.cells #[] 35))) := RowE.lit [] (by simp) (by simp) (by simp) (by simp) (Nat.le_refl _) (by simp)
      have HMW := Lib.hid (mbox HM7.out hbl)
      have HZW := Lib.hid (mbox HZ7.out hbl)
      have HRW := Lib.hid (HR7.out.grow hbl)
      have HKW := Lib.hid (HK7.out.trans (Kept.of_below hbl))
      have HPW := Lib.hid ((sSlice sStr).below HP7.out hbl)
      have HBW := Lib.hid ((sSlice sTok).below HB7.out hbl)
      have y3 : (w6.alloc (.cells #[] 35)).cell? ⟨w4.heap.size, 3, none⟩ = some (.slice a3 bd.length c3) := cell_of_row _ _ 3 _ _ _ HMW.out
      have hws : (w6.alloc (.cells #[] 35)).heap.size = w6.heap.size + 1 := Array.size_push _
      have HWS := Lib.hid hws
      clear hbl hws
      have hq1' : q ≤ p + 9 := by omega
      go_wp2_with (first
        | (
          at_builtin
          refine wp_append_toksR rfl (.tmp 86) (.tmp 88) rfl w6.heap.size (.slice (some ⟨w6.heap.size, 0, none⟩) 0 0) (.slice a3 bd.length c3) [] bd fp3 rfl hlit.out rfl HBW.out HOK.out.2.2.2.2 (by have := HOK.out.2.2.2.1; simp; omega) (by rw [HWS.out]; omega) ?_
          intro v8 X w8 hX hXf hE hg
          have hown : ∀ b, (Value.slice (some ⟨w6.heap.size, 0, none⟩) 0 0).ownBlock = some b → w6.heap.size ≤ b := hlit.out.mine
          have hlt6 : w6.heap.size < (w6.alloc (.cells #[] 35)).heap.size := by rw [HWS.out]; omega
          have kb : ∀ b, b < w6.heap.size → w8.heap[b]? = ((w6.alloc (.cells #[] 35))).heap[b]? := fun b hb => hg.block b (by omega) (fun he => by have := hown b he.symm; omega)
          have HM8 := Lib.hid ((kb _ (by omega)).trans HMW.out)
          have HZ8 := Lib.hid ((kb _ (by omega)).trans HZW.out)
          have HR8 := Lib.hid (grownRd HRW.out hg (by omega : rb < w6.heap.size) (fun b hb => hown b hb))
          have HK8 := Lib.hid (grownKept HKW.out hg (fun b hb => by have := hown b hb; omega))
          have HP8 := Lib.hid ((sSlice sStr).frame (fun b hb => kb b (by have := (HLO.out b (by simp [hb])).2; omega)) HPW.out)
          have hs8 : w6.heap.size < w8.heap.size := Nat.lt_of_lt_of_le hlt6 hg.size
          rw [List.nil_append] at hE
          obtain ⟨a8, c8, hv8, -⟩ := hE.val
          obtain ⟨n8, hn8⟩ : ∃ n, n = X.length := ⟨_, rfl⟩
          rw [← hn8] at hv8
          subst hv8
          have hn8b : n8 ≤ 20 := by have e : X.length = bd.length := (by rw [← hX, List.length_map]); have := HOK.out.2.2.2.1; omega
          have HN8 := Lib.hid hn8
          have HX8 := Lib.hid hX
          have HE8 := Lib.hid hE
          have hbh := alloc_below' w8 (.cells #[.string ⟨#[97]⟩] 9)
          have hh : (w8.alloc (.cells #[.string ⟨#[97]⟩] 9)).ownsRow w8.heap.size 9 1 (.slice (some ⟨w8.heap.size, 0, none⟩) 1 1) 1 (([⟨#[97]⟩] : List ByteArray).map Value.string) := World.ownsRow_lit (base := w8.heap.size) (e := 9) (size := 1) w8 #[.string ⟨#[97]⟩] 1 (Nat.le_refl _) (by unfold maxLen; omega) rfl
          obtain ⟨fpH, RH, OH, hfpH⟩ := own_flat (ok := okStr) hh (by intro i hi; have e : i = 0 := (by simp at hi; omega); subst e; exact (show okStr (⟨#[97]⟩ : ByteArray) by unfold okStr; decide))
          have HTT : Hid (∀ b ∈ fpH, ∃ cur t fr, (w8.alloc (.cells #[.string ⟨#[97]⟩] 9)).heap[b]? = some (.cells cur t fr) ∧ t ≠ 35) := fun b hb => by
            have e := hfpH b hb
            simp only [Value.ownBlock, Option.some.injEq] at e
            subst e
            exact ⟨_, _, _, heap_alloc_new w8 _, by decide⟩
          have HLH : Hid (∀ b ∈ fpH, w6.heap.size ≤ b) := fun b hb => by have := (OH.2 b hb).1; omega
          have HRH : Hid (sTok.R (w8.alloc (.cells #[.string ⟨#[97]⟩] 9)) [.int .i64 1, .string ⟨#[97]⟩, .bool false, .slice (some ⟨w8.heap.size, 0, none⟩) 1 1] ⟨1, ⟨#[97]⟩, false, [⟨#[97]⟩]⟩ fpH) := ⟨_, rfl, ⟨by decide, by decide⟩, by show okStr _; unfold okStr; decide, RH⟩
          have HW9 : Hid ((w8.alloc (.cells #[.string ⟨#[97]⟩] 9)).heap.size = w8.heap.size + 1) := Array.size_push _
          have HM9 := Lib.hid (mbox HM8.out hbh)
          have HZ9 := Lib.hid (mbox HZ8.out hbh)
          have HR9 := Lib.hid (HR8.out.grow hbh)
          have HK9 := Lib.hid (HK8.out.trans (Kept.of_below hbh))
          have HP9 := Lib.hid ((sSlice sStr).below HP8.out hbh)
          have HE9 := Lib.hid (HE8.out.below hbh)
          clear hbh hh RH OH hfpH HM8 HZ8 HR8 HK8 HP8 HE8
          clear hE hg kb hown y3 hn8 hX hXf hlit)
        | (
          at_builtin
          refine wp_append_tokE rfl (.tmp 89) (.tmp 92) rfl w6.heap.size (.slice a8 n8 c8) X rfl HE9.out 1 ⟨#[97]⟩ false (some ⟨w8.heap.size, 0, none⟩) 1 1 [⟨#[97]⟩] fpH (by rw [HW9.out]; rfl) HRH.out HLH.out HTT.out (by rw [← HN8.out]; omega) (by rw [HW9.out]; omega) ?_
          intro v10 w10 hE10 hg10
          have hown := HE9.out.mine
          have kb : ∀ b, b < w6.heap.size → w10.heap[b]? = (w8.alloc (.cells #[.string ⟨#[97]⟩] 9)).heap[b]? := fun b hb => hg10.block b (by rw [HW9.out]; omega) (fun he => by have := hown b he.symm; omega)
          have HMX := Lib.hid ((kb _ (by omega)).trans HM9.out)
          have HZX := Lib.hid ((kb _ (by omega)).trans HZ9.out)
          have HRX := Lib.hid (grownRd HR9.out hg10 (by omega : rb < w6.heap.size) (fun b hb => hown b hb))
          have HKX := Lib.hid (grownKept HK9.out hg10 (fun b hb => by have := hown b hb; omega))
          have HPX := Lib.hid ((sSlice sStr).frame (fun b hb => kb b (by have := (HLO.out b (by simp [hb])).2; omega)) HP9.out)
          obtain ⟨fpB, hRB, hOB⟩ := hE10.read
          have HFB : Hid (∀ b ∈ fpB, w6.heap.size ≤ b) := hOB
          have HRB := Lib.hid hRB
          obtain ⟨av, cv, hv, -⟩ := hE10.val
          generalize (X ++ [(⟨[.int .i64 1, .string ⟨#[97]⟩, .bool false, .slice (some ⟨w8.heap.size, 0, none⟩) 1 1], ⟨1, ⟨#[97]⟩, false, [⟨#[97]⟩]⟩, fpH⟩ : Elem Tok)]).length = nv at hv
          subst hv
          clear hE10 hg10 kb hRB hOB hown
          have y0 : w10.cell? ⟨w4.heap.size, 0, none⟩ = some (.string nm) := cell_of_row _ _ 0 _ _ _ HMX.out
          have y1 : w10.cell? ⟨w4.heap.size, 1, none⟩ = some (.bool fb) := cell_of_row _ _ 1 _ _ _ HMX.out
          have y2 : w10.cell? ⟨w4.heap.size, 2, none⟩ = some (.slice a2 ps.length c2) := cell_of_row _ _ 2 _ _ _ HMX.out
          have y3 : w10.cell? ⟨w4.heap.size, 3, none⟩ = some (.slice a3 bd.length c3) := cell_of_row _ _ 3 _ _ _ HMX.out
          have yf : w10.frozen? ⟨w4.heap.size, 3, none⟩ = false := frozen_of_row _ _ 3 _ _ HMX.out
          have z0 : w10.cell? ⟨w.heap.size, 0, none⟩ = some (.string ⟨#[]⟩) := cell_of_row _ _ 0 _ _ _ HZX.out
          have zf0 : w10.frozen? ⟨w.heap.size, 0, none⟩ = false := frozen_of_row _ _ 0 _ _ HZX.out
          have z1 : w10.cell? ⟨w.heap.size, 1, none⟩ = some (.bool false) := cell_of_row _ _ 1 _ _ _ HZX.out
          have zf1 : w10.frozen? ⟨w.heap.size, 1, none⟩ = false := frozen_of_row _ _ 1 _ _ HZX.out
          have z2 : w10.cell? ⟨w.heap.size, 2, none⟩ = some (.slice none 0 0) := cell_of_row _ _ 2 _ _ _ HZX.out
          have zf2 : w10.frozen? ⟨w.heap.size, 2, none⟩ = false := frozen_of_row _ _ 2 _ _ HZX.out
          have z3 : w10.cell? ⟨w.heap.size, 3, none⟩ = some (.slice none 0 0) := cell_of_row _ _ 3 _ _ _ HZX.out
          have zf3 : w10.frozen? ⟨w.heap.size, 3, none⟩ = false := frozen_of_row _ _ 3 _ _ HZX.out
          have HS := Lib.hid (set4_mac (w := w) (wP := w10.setCell ⟨w4.heap.size, 3, none⟩ (.slice av nv cv)) (blk_other HZX.out (by omega : w.heap.size ≠ w4.heap.size) 3 (.slice av nv cv)) (sMacro.setB (show sMacro.R w10 [.string nm, .bool fb, .slice a2 ps.length c2, .slice av nv cv] ⟨nm, fb, ps, (X ++ [(⟨[.int .i64 1, .string ⟨#[97]⟩, .bool false, .slice (some ⟨w8.heap.size, 0, none⟩) 1 1], ⟨1, ⟨#[97]⟩, false, [⟨#[97]⟩]⟩, fpH⟩ : Elem Tok)]).map (·.d)⟩ (fp2 ++ fpB) from ⟨_, _, fp2, fpB, rfl, HOK.out.1, HPX.out, HRB.out, rfl⟩) (fun hx => (List.mem_append.1 hx).elim (fun h => HX1.out (by simp [h])) (fun h => by have := HFB.out _ h; omega)) 3 (.slice av nv cv)) (fun hx => (List.mem_append.1 hx).elim (fun h => HX0.out (by simp [h])) (fun h => by have := HFB.out _ h; omega)) (rdSet HRX.out (by omega) 3 (.slice av nv cv)) (by omega) (keptSet HKX.out (by omega) (.slice av nv cv) 3) (Nat.le_refl _))
          have HOKF : Hid (okMac ⟨nm, fb, ps, (X ++ [(⟨[.int .i64 1, .string ⟨#[97]⟩, .bool false, .slice (some ⟨w8.heap.size, 0, none⟩) 1 1], ⟨1, ⟨#[97]⟩, false, [⟨#[97]⟩]⟩, fpH⟩ : Elem Tok)]).map (·.d)⟩) := ⟨by have := HOK.out.2.1; show nm.size ≤ 1000; omega, by have := HOK.out.2.2.1; show ps.length ≤ 100; omega, by rw [List.map_append, HX8.out]; simp; have := HOK.out.2.2.2.1; omega, fun t ht => by rw [List.map_append, HX8.out] at ht; exact (List.mem_append.1 ht).elim (fun h => by rw [HOK.out.2.2.2.2 t h]; simp) (fun h => by simp at h; rw [h]; decide)⟩
          have HLOF : Hid (∀ b ∈ fp2 ++ fpB, w.heap.size ≤ b) := fun b hb => (List.mem_append.1 hb).elim (fun h => by have := (HLO.out b (by simp [h])).1; omega) (fun h => by have := HFB.out _ h; omega)
          clear HLO))
      refine bodyPost_ret (results_cell_row rfl _ _ w.heap.size _ _ _ _ rfl HS.out.1 Try.underlying26 rfl (by kernel_rfl)) rfl ?_
      exact dm_ret HS.out.2.1 HOKF.out HLOF.out (by omega) HS.out.2.2.1 HS.out.2.2.2
    · -- case 6
      have hbl := alloc_below' w6 (.cells #[.int .i64 1, .string ⟨#[97]⟩, .bool true, .slice none 0 0] 35)
      have hlit : RowE sTok w6.heap.size 35 (.slice (some ⟨w6.heap.size, 0, none⟩) 1 1) [(⟨[.int .i64 1, .string ⟨#[97]⟩, .bool true, .slice none 0 0], ⟨1, ⟨#[97]⟩, true, []⟩, []⟩ : Elem Tok)] (w6.alloc (.cells #[.int .i64 1, .string ⟨#[97]⟩, .bool true, .slice none 0 0] 35)) := RowE.lit [(⟨[.int .i64 1, .string ⟨#[97]⟩, .bool true, .slice none 0 0], ⟨1, ⟨#[97]⟩, true, []⟩, []⟩ : Elem Tok)] (by intro x hx; simp only [List.mem_cons, List.not_mem_nil, or_false] at hx; rcases hx with rfl <;> rfl) (by intro x hx; simp only [List.mem_cons, List.not_mem_nil, or_false] at hx; rcases hx with rfl <;> exact ⟨_, rfl, ⟨by decide, by decide⟩, by show okStr _; unfold okStr; decide, slice_empty sStr _ _ _ (by simp)⟩) (by intro x hx b hb; simp only [List.mem_cons, List.not_mem_nil, or_false] at hx; rcases hx with rfl <;> simp at hb) (by intro x hx b hb; simp only [List.mem_cons, List.not_mem_nil, or_false] at hx; rcases hx with rfl <;> simp at hb) (Nat.le_refl _) (by decide)
      obtain ⟨fpB, hRB, hOB⟩ := rowE_own hlit (by intro x hx; simp only [List.mem_cons, List.not_mem_nil, or_false] at hx; rcases hx with rfl <;> rfl)
      have HFB : Hid (∀ b ∈ fpB, w6.heap.size ≤ b) := fun b hb => (hOB.2 b hb).1
      have HRB := Lib.hid hRB
      have HMW := Lib.hid (mbox HM7.out hbl)
      have HZW := Lib.hid (mbox HZ7.out hbl)
      have HRW := Lib.hid (HR7.out.grow hbl)
      have HKW := Lib.hid (HK7.out.trans (Kept.of_below hbl))
      have HPW := Lib.hid ((sSlice sStr).below HP7.out hbl)
      clear hlit hRB hOB hbl
      have x0 : (w6.alloc (.cells #[.int .i64 1, .string ⟨#[97]⟩, .bool true, .slice none 0 0] 35)).cell? ⟨w4.heap.size, 0, none⟩ = some (.string nm) := cell_of_row _ _ 0 _ _ _ HMW.out
      have x1 : (w6.alloc (.cells #[.int .i64 1, .string ⟨#[97]⟩, .bool true, .slice none 0 0] 35)).cell? ⟨w4.heap.size, 1, none⟩ = some (.bool fb) := cell_of_row _ _ 1 _ _ _ HMW.out
      have x2 : (w6.alloc (.cells #[.int .i64 1, .string ⟨#[97]⟩, .bool true, .slice none 0 0] 35)).cell? ⟨w4.heap.size, 2, none⟩ = some (.slice a2 ps.length c2) := cell_of_row _ _ 2 _ _ _ HMW.out
      have x3 : (w6.alloc (.cells #[.int .i64 1, .string ⟨#[97]⟩, .bool true, .slice none 0 0] 35)).cell? ⟨w4.heap.size, 3, none⟩ = some (.slice a3 bd.length c3) := cell_of_row _ _ 3 _ _ _ HMW.out
      have xf : (w6.alloc (.cells #[.int .i64 1, .string ⟨#[97]⟩, .bool true, .slice none 0 0] 35)).frozen? ⟨w4.heap.size, 3, none⟩ = false := frozen_of_row _ _ 3 _ _ HMW.out
      have eW : (w6.alloc (.cells #[.int .i64 1, .string ⟨#[97]⟩, .bool true, .slice none 0 0] 35)).setCell ⟨w4.heap.size, 3, none⟩ (.slice (some ⟨w6.heap.size, 0, none⟩) 1 1) = ((w6.setCell ⟨w4.heap.size, 3, none⟩ (.slice (some ⟨w6.heap.size, 0, none⟩) 1 1)).alloc (.cells #[.int .i64 1, .string ⟨#[97]⟩, .bool true, .slice none 0 0] 35)) := World.setCell_alloc_past _ _ _ _ hs6
      have HMS := Lib.hid (eW ▸ blk_set HMW.out 3 (.slice (some ⟨w6.heap.size, 0, none⟩) 1 1))
      have HZS := Lib.hid (eW ▸ blk_other HZW.out (by omega : w.heap.size ≠ w4.heap.size) 3 (.slice (some ⟨w6.heap.size, 0, none⟩) 1 1))
      have HRS := Lib.hid (eW ▸ rdSet HRW.out (by omega : rb < w4.heap.size) 3 (.slice (some ⟨w6.heap.size, 0, none⟩) 1 1))
      have HKS := Lib.hid (eW ▸ keptSet HKW.out (by omega : w.heap.size ≤ w4.heap.size) (.slice (some ⟨w6.heap.size, 0, none⟩) 1 1) 3)
      have HPS := Lib.hid (eW ▸ (sSlice sStr).setB HPW.out (fun hx => HX1.out (by simp [hx])) 3 (.slice (some ⟨w6.heap.size, 0, none⟩) 1 1))
      have HBS := Lib.hid (eW ▸ (sSlice sTok).setB HRB.out (fun hx => by have := HFB.out _ hx; omega) 3 (.slice (some ⟨w6.heap.size, 0, none⟩) 1 1))
      clear eW HMW HZW HRW HKW HPW HRB
      have y0 : ((w6.setCell ⟨w4.heap.size, 3, none⟩ (.slice (some ⟨w6.heap.size, 0, none⟩) 1 1)).alloc (.cells #[.int .i64 1, .string ⟨#[97]⟩, .bool true, .slice none 0 0] 35)).cell? ⟨w4.heap.size, 0, none⟩ = some (.string nm) := cell_of_row _ _ 0 _ _ _ HMS.out
      have y1 : ((w6.setCell ⟨w4.heap.size, 3, none⟩ (.slice (some ⟨w6.heap.size, 0, none⟩) 1 1)).alloc (.cells #[.int .i64 1, .string ⟨#[97]⟩, .bool true, .slice none 0 0] 35)).cell? ⟨w4.heap.size, 1, none⟩ = some (.bool fb) := cell_of_row _ _ 1 _ _ _ HMS.out
      have y2 : ((w6.setCell ⟨w4.heap.size, 3, none⟩ (.slice (some ⟨w6.heap.size, 0, none⟩) 1 1)).alloc (.cells #[.int .i64 1, .string ⟨#[97]⟩, .bool true, .slice none 0 0] 35)).cell? ⟨w4.heap.size, 2, none⟩ = some (.slice a2 ps.length c2) := cell_of_row _ _ 2 _ _ _ HMS.out
      have y3 : ((w6.setCell ⟨w4.heap.size, 3, none⟩ (.slice (some ⟨w6.heap.size, 0, none⟩) 1 1)).alloc (.cells #[.int .i64 1, .string ⟨#[97]⟩, .bool true, .slice none 0 0] 35)).cell? ⟨w4.heap.size, 3, none⟩ = some (.slice (some ⟨w6.heap.size, 0, none⟩) 1 1) := cell_of_row _ _ 3 _ _ _ HMS.out
      have z0 : ((w6.setCell ⟨w4.heap.size, 3, none⟩ (.slice (some ⟨w6.heap.size, 0, none⟩) 1 1)).alloc (.cells #[.int .i64 1, .string ⟨#[97]⟩, .bool true, .slice none 0 0] 35)).cell? ⟨w.heap.size, 0, none⟩ = some (.string ⟨#[]⟩) := cell_of_row _ _ 0 _ _ _ HZS.out
      have zf0 : ((w6.setCell ⟨w4.heap.size, 3, none⟩ (.slice (some ⟨w6.heap.size, 0, none⟩) 1 1)).alloc (.cells #[.int .i64 1, .string ⟨#[97]⟩, .bool true, .slice none 0 0] 35)).frozen? ⟨w.heap.size, 0, none⟩ = false := frozen_of_row _ _ 0 _ _ HZS.out
      have z1 : ((w6.setCell ⟨w4.heap.size, 3, none⟩ (.slice (some ⟨w6.heap.size, 0, none⟩) 1 1)).alloc (.cells #[.int .i64 1, .string ⟨#[97]⟩, .bool true, .slice none 0 0] 35)).cell? ⟨w.heap.size, 1, none⟩ = some (.bool false) := cell_of_row _ _ 1 _ _ _ HZS.out
      have zf1 : ((w6.setCell ⟨w4.heap.size, 3, none⟩ (.slice (some ⟨w6.heap.size, 0, none⟩) 1 1)).alloc (.cells #[.int .i64 1, .string ⟨#[97]⟩, .bool true, .slice none 0 0] 35)).frozen? ⟨w.heap.size, 1, none⟩ = false := frozen_of_row _ _ 1 _ _ HZS.out
      have z2 : ((w6.setCell ⟨w4.heap.size, 3, none⟩ (.slice (some ⟨w6.heap.size, 0, none⟩) 1 1)).alloc (.cells #[.int .i64 1, .string ⟨#[97]⟩, .bool true, .slice none 0 0] 35)).cell? ⟨w.heap.size, 2, none⟩ = some (.slice none 0 0) := cell_of_row _ _ 2 _ _ _ HZS.out
      have zf2 : ((w6.setCell ⟨w4.heap.size, 3, none⟩ (.slice (some ⟨w6.heap.size, 0, none⟩) 1 1)).alloc (.cells #[.int .i64 1, .string ⟨#[97]⟩, .bool true, .slice none 0 0] 35)).frozen? ⟨w.heap.size, 2, none⟩ = false := frozen_of_row _ _ 2 _ _ HZS.out
      have z3 : ((w6.setCell ⟨w4.heap.size, 3, none⟩ (.slice (some ⟨w6.heap.size, 0, none⟩) 1 1)).alloc (.cells #[.int .i64 1, .string ⟨#[97]⟩, .bool true, .slice none 0 0] 35)).cell? ⟨w.heap.size, 3, none⟩ = some (.slice none 0 0) := cell_of_row _ _ 3 _ _ _ HZS.out
      have zf3 : ((w6.setCell ⟨w4.heap.size, 3, none⟩ (.slice (some ⟨w6.heap.size, 0, none⟩) 1 1)).alloc (.cells #[.int .i64 1, .string ⟨#[97]⟩, .bool true, .slice none 0 0] 35)).frozen? ⟨w.heap.size, 3, none⟩ = false := frozen_of_row _ _ 3 _ _ HZS.out
      have HS := Lib.hid (set4_mac (w := w) (wP := ((w6.setCell ⟨w4.heap.size, 3, none⟩ (.slice (some ⟨w6.heap.size, 0, none⟩) 1 1)).alloc (.cells #[.int .i64 1, .string ⟨#[97]⟩, .bool true, .slice none 0 0] 35))) HZS.out (show sMacro.R ((w6.setCell ⟨w4.heap.size, 3, none⟩ (.slice (some ⟨w6.heap.size, 0, none⟩) 1 1)).alloc (.cells #[.int .i64 1, .string ⟨#[97]⟩, .bool true, .slice none 0 0] 35)) [.string nm, .bool fb, .slice a2 ps.length c2, .slice (some ⟨w6.heap.size, 0, none⟩) 1 1] ⟨nm, fb, ps, ([(⟨[.int .i64 1, .string ⟨#[97]⟩, .bool true, .slice none 0 0], ⟨1, ⟨#[97]⟩, true, []⟩, []⟩ : Elem Tok)]).map (·.d)⟩ (fp2 ++ fpB) from ⟨_, _, fp2, fpB, rfl, HOK.out.1, HPS.out, HBS.out, rfl⟩) (fun hx => (List.mem_append.1 hx).elim (fun h => HX0.out (by simp [h])) (fun h => by have := HFB.out _ h; omega)) HRS.out (by omega) HKS.out (Nat.le_refl _))
      have HOKF : Hid (okMac ⟨nm, fb, ps, ([(⟨[.int .i64 1, .string ⟨#[97]⟩, .bool true, .slice none 0 0], ⟨1, ⟨#[97]⟩, true, []⟩, []⟩ : Elem Tok)]).map (·.d)⟩) := ⟨by have := HOK.out.2.1; show nm.size ≤ 1000; omega, by have := HOK.out.2.2.1; show ps.length ≤ 100; omega, by show (1 : Nat) ≤ 100; omega, fun t ht => by simp only [List.map_cons, List.map_nil, List.mem_cons, List.not_mem_nil, or_false] at ht; rcases ht with rfl <;> decide⟩
      have HLOF : Hid (∀ b ∈ fp2 ++ fpB, w.heap.size ≤ b) := fun b hb => (List.mem_append.1 hb).elim (fun h => by have := (HLO.out b (by simp [h])).1; omega) (fun h => by have := HFB.out _ h; omega)
      clear HLO
      go_wp2
      refine bodyPost_ret (results_cell_row rfl _ _ w.heap.size _ _ _ _ rfl HS.out.1 Try.underlying26 rfl (by kernel_rfl)) rfl ?_
      exact dm_ret HS.out.2.1 HOKF.out HLOF.out (by omega) HS.out.2.2.1 HS.out.2.2.2
    · -- case 7
      have hbl := alloc_below' w6 (.cells #[.int .i64 1, .string ⟨#[97]⟩, .bool false, .slice none 0 0, .int .i64 4, .string ⟨#[35, 35]⟩, .bool false, .slice none 0 0, .int .i64 4, .string ⟨#[35, 35]⟩, .bool false, .slice none 0 0, .int .i64 1, .string ⟨#[98]⟩, .bool false, .slice none 0 0] 35)
      have hlit : RowE sTok w6.heap.size 35 (.slice (some ⟨w6.heap.size, 0, none⟩) 4 4) [(⟨[.int .i64 1, .string ⟨#[97]⟩, .bool false, .slice none 0 0], ⟨1, ⟨#[97]⟩, false, []⟩, []⟩ : Elem Tok), (⟨[.int .i64 4, .string ⟨#[35, 35]⟩, .bool false, .slice none 0 0], ⟨4, ⟨#[35, 35]⟩, false, []⟩, []⟩ : Elem Tok), (⟨[.int .i64 4, .string ⟨#[35, 35]⟩, .bool false, .slice none 0 0], ⟨4, ⟨#[35, 35]⟩, false, []⟩, []⟩ : Elem Tok), (⟨[.int .i64 1, .string ⟨#[98]⟩, .bool false, .slice none 0 0], ⟨1, ⟨#[98]⟩, false, []⟩, []⟩ : Elem Tok)] (w6.alloc (.cells #[.int .i64 1, .string ⟨#[97]⟩, .bool false, .slice none 0 0, .int .i64 4, .string ⟨#[35, 35]⟩, .bool false, .slice none 0 0, .int .i64 4, .string ⟨#[35, 35]⟩, .bool false, .slice none 0 0, .int .i64 1, .string ⟨#[98]⟩, .bool false, .slice none 0 0] 35)) := RowE.lit [(⟨[.int .i64 1, .string ⟨#[97]⟩, .bool false, .slice none 0 0], ⟨1, ⟨#[97]⟩, false, []⟩, []⟩ : Elem Tok), (⟨[.int .i64 4, .string ⟨#[35, 35]⟩, .bool false, .slice none 0 0], ⟨4, ⟨#[35, 35]⟩, false, []⟩, []⟩ : Elem Tok), (⟨[.int .i64 4, .string ⟨#[35, 35]⟩, .bool false, .slice none 0 0], ⟨4, ⟨#[35, 35]⟩, false, []⟩, []⟩ : Elem Tok), (⟨[.int .i64 1, .string ⟨#[98]⟩, .bool false, .slice none 0 0], ⟨1, ⟨#[98]⟩, false, []⟩, []⟩ : Elem Tok)] (by intro x hx; simp only [List.mem_cons, List.not_mem_nil, or_false] at hx; rcases hx with rfl | rfl | rfl | rfl <;> rfl) (by intro x hx; simp only [List.mem_cons, List.not_mem_nil, or_false] at hx; rcases hx with rfl | rfl | rfl | rfl <;> exact ⟨_, rfl, ⟨by decide, by decide⟩, by show okStr _; unfold okStr; decide, slice_empty sStr _ _ _ (by simp)⟩) (by intro x hx b hb; simp only [List.mem_cons, List.not_mem_nil, or_false] at hx; rcases hx with rfl | rfl | rfl | rfl <;> simp at hb) (by intro x hx b hb; simp only [List.mem_cons, List.not_mem_nil, or_false] at hx; rcases hx with rfl | rfl | rfl | rfl <;> simp at hb) (Nat.le_refl _) (by decide)
      obtain ⟨fpB, hRB, hOB⟩ := rowE_own hlit (by intro x hx; simp only [List.mem_cons, List.not_mem_nil, or_false] at hx; rcases hx with rfl | rfl | rfl | rfl <;> rfl)
      have HFB : Hid (∀ b ∈ fpB, w6.heap.size ≤ b) := fun b hb => (hOB.2 b hb).1
      have HRB := Lib.hid hRB
      have HMW := Lib.hid (mbox HM7.out hbl)
      have HZW := Lib.hid (mbox HZ7.out hbl)
      have HRW := Lib.hid (HR7.out.grow hbl)
      have HKW := Lib.hid (HK7.out.trans (Kept.of_below hbl))
      have HPW := Lib.hid ((sSlice sStr).below HP7.out hbl)
      clear hlit hRB hOB hbl
      have x0 : (w6.alloc (.cells #[.int .i64 1, .string ⟨#[97]⟩, .bool false, .slice none 0 0, .int .i64 4, .string ⟨#[35, 35]⟩, .bool false, .slice none 0 0, .int .i64 4, .string ⟨#[35, 35]⟩, .bool false, .slice none 0 0, .int .i64 1, .string ⟨#[98]⟩, .bool false, .slice none 0 0] 35)).cell? ⟨w4.heap.size, 0, none⟩ = some (.string nm) := cell_of_row _ _ 0 _ _ _ HMW.out
      have x1 : (w6.alloc (.cells #[.int .i64 1, .string ⟨#[97]⟩, .bool false, .slice none 0 0, .int .i64 4, .string ⟨#[35, 35]⟩, .bool false, .slice none 0 0, .int .i64 4, .string ⟨#[35, 35]⟩, .bool false, .slice none 0 0, .int .i64 1, .string ⟨#[98]⟩, .bool false, .slice none 0 0] 35)).cell? ⟨w4.heap.size, 1, none⟩ = some (.bool fb) := cell_of_row _ _ 1 _ _ _ HMW.out
      have x2 : (w6.alloc (.cells #[.int .i64 1, .string ⟨#[97]⟩, .bool false, .slice none 0 0, .int .i64 4, .string ⟨#[35, 35]⟩, .bool false, .slice none 0 0, .int .i64 4, .string ⟨#[35, 35]⟩, .bool false, .slice none 0 0, .int .i64 1, .string ⟨#[98]⟩, .bool false, .slice none 0 0] 35)).cell? ⟨w4.heap.size, 2, none⟩ = some (.slice a2 ps.length c2) := cell_of_row _ _ 2 _ _ _ HMW.out
      have x3 : (w6.alloc (.cells #[.int .i64 1, .string ⟨#[97]⟩, .bool false, .slice none 0 0, .int .i64 4, .string ⟨#[35, 35]⟩, .bool false, .slice none 0 0, .int .i64 4, .string ⟨#[35, 35]⟩, .bool false, .slice none 0 0, .int .i64 1, .string ⟨#[98]⟩, .bool false, .slice none 0 0] 35)).cell? ⟨w4.heap.size, 3, none⟩ = some (.slice a3 bd.length c3) := cell_of_row _ _ 3 _ _ _ HMW.out
      have xf : (w6.alloc (.cells #[.int .i64 1, .string ⟨#[97]⟩, .bool false, .slice none 0 0, .int .i64 4, .string ⟨#[35, 35]⟩, .bool false, .slice none 0 0, .int .i64 4, .string ⟨#[35, 35]⟩, .bool false, .slice none 0 0, .int .i64 1, .string ⟨#[98]⟩, .bool false, .slice none 0 0] 35)).frozen? ⟨w4.heap.size, 3, none⟩ = false := frozen_of_row _ _ 3 _ _ HMW.out
      have eW : (w6.alloc (.cells #[.int .i64 1, .string ⟨#[97]⟩, .bool false, .slice none 0 0, .int .i64 4, .string ⟨#[35, 35]⟩, .bool false, .slice none 0 0, .int .i64 4, .string ⟨#[35, 35]⟩, .bool false, .slice none 0 0, .int .i64 1, .string ⟨#[98]⟩, .bool false, .slice none 0 0] 35)).setCell ⟨w4.heap.size, 3, none⟩ (.slice (some ⟨w6.heap.size, 0, none⟩) 4 4) = ((w6.setCell ⟨w4.heap.size, 3, none⟩ (.slice (some ⟨w6.heap.size, 0, none⟩) 4 4)).alloc (.cells #[.int .i64 1, .string ⟨#[97]⟩, .bool false, .slice none 0 0, .int .i64 4, .string ⟨#[35, 35]⟩, .bool false, .slice none 0 0, .int .i64 4, .string ⟨#[35, 35]⟩, .bool false, .slice none 0 0, .int .i64 1, .string ⟨#[98]⟩, .bool false, .slice none 0 0] 35)) := World.setCell_alloc_past _ _ _ _ hs6
      have HMS := Lib.hid (eW ▸ blk_set HMW.out 3 (.slice (some ⟨w6.heap.size, 0, none⟩) 4 4))
      have HZS := Lib.hid (eW ▸ blk_other HZW.out (by omega : w.heap.size ≠ w4.heap.size) 3 (.slice (some ⟨w6.heap.size, 0, none⟩) 4 4))
      have HRS := Lib.hid (eW ▸ rdSet HRW.out (by omega : rb < w4.heap.size) 3 (.slice (some ⟨w6.heap.size, 0, none⟩) 4 4))
      have HKS := Lib.hid (eW ▸ keptSet HKW.out (by omega : w.heap.size ≤ w4.heap.size) (.slice (some ⟨w6.heap.size, 0, none⟩) 4 4) 3)
      have HPS := Lib.hid (eW ▸ (sSlice sStr).setB HPW.out (fun hx => HX1.out (by simp [hx])) 3 (.slice (some ⟨w6.heap.size, 0, none⟩) 4 4))
      have HBS := Lib.hid (eW ▸ (sSlice sTok).setB HRB.out (fun hx => by have := HFB.out _ hx; omega) 3 (.slice (some ⟨w6.heap.size, 0, none⟩) 4 4))
      clear eW HMW HZW HRW HKW HPW HRB
      have y0 : ((w6.setCell ⟨w4.heap.size, 3, none⟩ (.slice (some ⟨w6.heap.size, 0, none⟩) 4 4)).alloc (.cells #[.int .i64 1, .string ⟨#[97]⟩, .bool false, .slice none 0 0, .int .i64 4, .string ⟨#[35, 35]⟩, .bool false, .slice none 0 0, .int .i64 4, .string ⟨#[35, 35]⟩, .bool false, .slice none 0 0, .int .i64 1, .string ⟨#[98]⟩, .bool false, .slice none 0 0] 35)).cell? ⟨w4.heap.size, 0, none⟩ = some (.string nm) := cell_of_row _ _ 0 _ _ _ HMS.out
      have y1 : ((w6.setCell ⟨w4.heap.size, 3, none⟩ (.slice (some ⟨w6.heap.size, 0, none⟩) 4 4)).alloc (.cells #[.int .i64 1, .string ⟨#[97]⟩, .bool false, .slice none 0 0, .int .i64 4, .string ⟨#[35, 35]⟩, .bool false, .slice none 0 0, .int .i64 4, .string ⟨#[35, 35]⟩, .bool false, .slice none 0 0, .int .i64 1, .string ⟨#[98]⟩, .bool false, .slice none 0 0] 35)).cell? ⟨w4.heap.size, 1, none⟩ = some (.bool fb) := cell_of_row _ _ 1 _ _ _ HMS.out
      have y2 : ((w6.setCell ⟨w4.heap.size, 3, none⟩ (.slice (some ⟨w6.heap.size, 0, none⟩) 4 4)).alloc (.cells #[.int .i64 1, .string ⟨#[97]⟩, .bool false, .slice none 0 0, .int .i64 4, .string ⟨#[35, 35]⟩, .bool false, .slice none 0 0, .int .i64 4, .string ⟨#[35, 35]⟩, .bool false, .slice none 0 0, .int .i64 1, .string ⟨#[98]⟩, .bool false, .slice none 0 0] 35)).cell? ⟨w4.heap.size, 2, none⟩ = some (.slice a2 ps.length c2) := cell_of_row _ _ 2 _ _ _ HMS.out
      have y3 : ((w6.setCell ⟨w4.heap.size, 3, none⟩ (.slice (some ⟨w6.heap.size, 0, none⟩) 4 4)).alloc (.cells #[.int .i64 1, .string ⟨#[97]⟩, .bool false, .slice none 0 0, .int .i64 4, .string ⟨#[35, 35]⟩, .bool false, .slice none 0 0, .int .i64 4, .string ⟨#[35, 35]⟩, .bool false, .slice none 0 0, .int .i64 1, .string ⟨#[98]⟩, .bool false, .slice none 0 0] 35)).cell? ⟨w4.heap.size, 3, none⟩ = some (.slice (some ⟨w6.heap.size, 0, none⟩) 4 4) := cell_of_row _ _ 3 _ _ _ HMS.out
      have z0 : ((w6.setCell ⟨w4.heap.size, 3, none⟩ (.slice (some ⟨w6.heap.size, 0, none⟩) 4 4)).alloc (.cells #[.int .i64 1, .string ⟨#[97]⟩, .bool false, .slice none 0 0, .int .i64 4, .string ⟨#[35, 35]⟩, .bool false, .slice none 0 0, .int .i64 4, .string ⟨#[35, 35]⟩, .bool false, .slice none 0 0, .int .i64 1, .string ⟨#[98]⟩, .bool false, .slice none 0 0] 35)).cell? ⟨w.heap.size, 0, none⟩ = some (.string ⟨#[]⟩) := cell_of_row _ _ 0 _ _ _ HZS.out
      have zf0 : ((w6.setCell ⟨w4.heap.size, 3, none⟩ (.slice (some ⟨w6.heap.size, 0, none⟩) 4 4)).alloc (.cells #[.int .i64 1, .string ⟨#[97]⟩, .bool false, .slice none 0 0, .int .i64 4, .string ⟨#[35, 35]⟩, .bool false, .slice none 0 0, .int .i64 4, .string ⟨#[35, 35]⟩, .bool false, .slice none 0 0, .int .i64 1, .string ⟨#[98]⟩, .bool false, .slice none 0 0] 35)).frozen? ⟨w.heap.size, 0, none⟩ = false := frozen_of_row _ _ 0 _ _ HZS.out
      have z1 : ((w6.setCell ⟨w4.heap.size, 3, none⟩ (.slice (some ⟨w6.heap.size, 0, none⟩) 4 4)).alloc (.cells #[.int .i64 1, .string ⟨#[97]⟩, .bool false, .slice none 0 0, .int .i64 4, .string ⟨#[35, 35]⟩, .bool false, .slice none 0 0, .int .i64 4, .string ⟨#[35, 35]⟩, .bool false, .slice none 0 0, .int .i64 1, .string ⟨#[98]⟩, .bool false, .slice none 0 0] 35)).cell? ⟨w.heap.size, 1, none⟩ = some (.bool false) := cell_of_row _ _ 1 _ _ _ HZS.out
      have zf1 : ((w6.setCell ⟨w4.heap.size, 3, none⟩ (.slice (some ⟨w6.heap.size, 0, none⟩) 4 4)).alloc (.cells #[.int .i64 1, .string ⟨#[97]⟩, .bool false, .slice none 0 0, .int .i64 4, .string ⟨#[35, 35]⟩, .bool false, .slice none 0 0, .int .i64 4, .string ⟨#[35, 35]⟩, .bool false, .slice none 0 0, .int .i64 1, .string ⟨#[98]⟩, .bool false, .slice none 0 0] 35)).frozen? ⟨w.heap.size, 1, none⟩ = false := frozen_of_row _ _ 1 _ _ HZS.out
      have z2 : ((w6.setCell ⟨w4.heap.size, 3, none⟩ (.slice (some ⟨w6.heap.size, 0, none⟩) 4 4)).alloc (.cells #[.int .i64 1, .string ⟨#[97]⟩, .bool false, .slice none 0 0, .int .i64 4, .string ⟨#[35, 35]⟩, .bool false, .slice none 0 0, .int .i64 4, .string ⟨#[35, 35]⟩, .bool false, .slice none 0 0, .int .i64 1, .string ⟨#[98]⟩, .bool false, .slice none 0 0] 35)).cell? ⟨w.heap.size, 2, none⟩ = some (.slice none 0 0) := cell_of_row _ _ 2 _ _ _ HZS.out
      have zf2 : ((w6.setCell ⟨w4.heap.size, 3, none⟩ (.slice (some ⟨w6.heap.size, 0, none⟩) 4 4)).alloc (.cells #[.int .i64 1, .string ⟨#[97]⟩, .bool false, .slice none 0 0, .int .i64 4, .string ⟨#[35, 35]⟩, .bool false, .slice none 0 0, .int .i64 4, .string ⟨#[35, 35]⟩, .bool false, .slice none 0 0, .int .i64 1, .string ⟨#[98]⟩, .bool false, .slice none 0 0] 35)).frozen? ⟨w.heap.size, 2, none⟩ = false := frozen_of_row _ _ 2 _ _ HZS.out
      have z3 : ((w6.setCell ⟨w4.heap.size, 3, none⟩ (.slice (some ⟨w6.heap.size, 0, none⟩) 4 4)).alloc (.cells #[.int .i64 1, .string ⟨#[97]⟩, .bool false, .slice none 0 0, .int .i64 4, .string ⟨#[35, 35]⟩, .bool false, .slice none 0 0, .int .i64 4, .string ⟨#[35, 35]⟩, .bool false, .slice none 0 0, .int .i64 1, .string ⟨#[98]⟩, .bool false, .slice none 0 0] 35)).cell? ⟨w.heap.size, 3, none⟩ = some (.slice none 0 0) := cell_of_row _ _ 3 _ _ _ HZS.out
      have zf3 : ((w6.setCell ⟨w4.heap.size, 3, none⟩ (.slice (some ⟨w6.heap.size, 0, none⟩) 4 4)).alloc (.cells #[.int .i64 1, .string ⟨#[97]⟩, .bool false, .slice none 0 0, .int .i64 4, .string ⟨#[35, 35]⟩, .bool false, .slice none 0 0, .int .i64 4, .string ⟨#[35, 35]⟩, .bool false, .slice none 0 0, .int .i64 1, .string ⟨#[98]⟩, .bool false, .slice none 0 0] 35)).frozen? ⟨w.heap.size, 3, none⟩ = false := frozen_of_row _ _ 3 _ _ HZS.out
      have HS := Lib.hid (set4_mac (w := w) (wP := ((w6.setCell ⟨w4.heap.size, 3, none⟩ (.slice (some ⟨w6.heap.size, 0, none⟩) 4 4)).alloc (.cells #[.int .i64 1, .string ⟨#[97]⟩, .bool false, .slice none 0 0, .int .i64 4, .string ⟨#[35, 35]⟩, .bool false, .slice none 0 0, .int .i64 4, .string ⟨#[35, 35]⟩, .bool false, .slice none 0 0, .int .i64 1, .string ⟨#[98]⟩, .bool false, .slice none 0 0] 35))) HZS.out (show sMacro.R ((w6.setCell ⟨w4.heap.size, 3, none⟩ (.slice (some ⟨w6.heap.size, 0, none⟩) 4 4)).alloc (.cells #[.int .i64 1, .string ⟨#[97]⟩, .bool false, .slice none 0 0, .int .i64 4, .string ⟨#[35, 35]⟩, .bool false, .slice none 0 0, .int .i64 4, .string ⟨#[35, 35]⟩, .bool false, .slice none 0 0, .int .i64 1, .string ⟨#[98]⟩, .bool false, .slice none 0 0] 35)) [.string nm, .bool fb, .slice a2 ps.length c2, .slice (some ⟨w6.heap.size, 0, none⟩) 4 4] ⟨nm, fb, ps, ([(⟨[.int .i64 1, .string ⟨#[97]⟩, .bool false, .slice none 0 0], ⟨1, ⟨#[97]⟩, false, []⟩, []⟩ : Elem Tok), (⟨[.int .i64 4, .string ⟨#[35, 35]⟩, .bool false, .slice none 0 0], ⟨4, ⟨#[35, 35]⟩, false, []⟩, []⟩ : Elem Tok), (⟨[.int .i64 4, .string ⟨#[35, 35]⟩, .bool false, .slice none 0 0], ⟨4, ⟨#[35, 35]⟩, false, []⟩, []⟩ : Elem Tok), (⟨[.int .i64 1, .string ⟨#[98]⟩, .bool false, .slice none 0 0], ⟨1, ⟨#[98]⟩, false, []⟩, []⟩ : Elem Tok)]).map (·.d)⟩ (fp2 ++ fpB) from ⟨_, _, fp2, fpB, rfl, HOK.out.1, HPS.out, HBS.out, rfl⟩) (fun hx => (List.mem_append.1 hx).elim (fun h => HX0.out (by simp [h])) (fun h => by have := HFB.out _ h; omega)) HRS.out (by omega) HKS.out (Nat.le_refl _))
      have HOKF : Hid (okMac ⟨nm, fb, ps, ([(⟨[.int .i64 1, .string ⟨#[97]⟩, .bool false, .slice none 0 0], ⟨1, ⟨#[97]⟩, false, []⟩, []⟩ : Elem Tok), (⟨[.int .i64 4, .string ⟨#[35, 35]⟩, .bool false, .slice none 0 0], ⟨4, ⟨#[35, 35]⟩, false, []⟩, []⟩ : Elem Tok), (⟨[.int .i64 4, .string ⟨#[35, 35]⟩, .bool false, .slice none 0 0], ⟨4, ⟨#[35, 35]⟩, false, []⟩, []⟩ : Elem Tok), (⟨[.int .i64 1, .string ⟨#[98]⟩, .bool false, .slice none 0 0], ⟨1, ⟨#[98]⟩, false, []⟩, []⟩ : Elem Tok)]).map (·.d)⟩) := ⟨by have := HOK.out.2.1; show nm.size ≤ 1000; omega, by have := HOK.out.2.2.1; show ps.length ≤ 100; omega, by show (4 : Nat) ≤ 100; omega, fun t ht => by simp only [List.map_cons, List.map_nil, List.mem_cons, List.not_mem_nil, or_false] at ht; rcases ht with rfl | rfl | rfl | rfl <;> decide⟩
      have HLOF : Hid (∀ b ∈ fp2 ++ fpB, w.heap.size ≤ b) := fun b hb => (List.mem_append.1 hb).elim (fun h => by have := (HLO.out b (by simp [h])).1; omega) (fun h => by have := HFB.out _ h; omega)
      clear HLO
      go_wp2
      refine bodyPost_ret (results_cell_row rfl _ _ w.heap.size _ _ _ _ rfl HS.out.1 Try.underlying26 rfl (by kernel_rfl)) rfl ?_
      exact dm_ret HS.out.2.1 HOKF.out HLOF.out (by omega) HS.out.2.2.1 HS.out.2.2.2

end Go.Proofs.Ytflbdanlcpojbaa

/- Two rows of the call's own, apart from each other: each grows without touching the other. A cell and two more results. Over any program. -/
namespace Go.Proofs.Ytflbdanlcpojbaa
open Go.RowKit

structure TwoR {α : Type} (S : Shape α) (base : Nat) (e : TypeId) (va : Value) (A : List (Elem α)) (vb : Value) (B : List (Elem α)) (w : World) : Prop where
  a : RowN S base e va A w
  b : RowN S base e vb B w
  ne : ∀ g, va.ownBlock = some g → vb.ownBlock ≠ some g
  ab : ∀ x ∈ A, ∀ c ∈ x.fp, base ≤ c ∧ vb.ownBlock ≠ some c
  ba : ∀ x ∈ B, ∀ c ∈ x.fp, base ≤ c ∧ va.ownBlock ≠ some c
section
variable {α : Type} {S : Shape α} {base : Nat} {e : TypeId} {va vb va' : Value} {A B : List (Elem α)} {w w' : World}
theorem TwoR.swap (h : TwoR S base e va A vb B w) : TwoR S base e vb B va A w := ⟨h.b, h.a, fun g h1 h2 => h.ne g h2 h1, h.ba, h.ab⟩
theorem TwoR.below (h : TwoR S base e va A vb B w) (hb : Below w.heap.size w w') : TwoR S base e va A vb B w' := ⟨h.a.below hb, h.b.below hb, h.ne, h.ab, h.ba⟩
theorem TwoR.kept {rb : Nat} (h : TwoR S base e va A vb B w) (hk : Kept [rb] w w') (hr : rb < base) : TwoR S base e va A vb B w' :=
  ⟨h.a.kept hk (fun g hg hx => by have := (h.a.mine g hg).1; have e : g = rb := (by simpa using hx); omega) (fun x hx c hc hx' => by have := (h.ab x hx c hc).1; have e : c = rb := (by simpa using hx'); omega),
   h.b.kept hk (fun g hg hx => by have := (h.b.mine g hg).1; have e : g = rb := (by simpa using hx); omega) (fun x hx c hc hx' => by have := (h.ba x hx c hc).1; have e : c = rb := (by simpa using hx'); omega), h.ne, h.ab, h.ba⟩
theorem TwoR.more (h : TwoR S base e va A vb B w) {x : Elem α} (hr : RowN S base e va' (A ++ [x]) w') (hg : w.grownBy w' va.ownBlock) (hp : va'.ownBlock = va.ownBlock ∨ va'.ownBlock = some w.heap.size) (hx : ∀ c ∈ x.fp, base ≤ c ∧ vb.ownBlock ≠ some c) : TwoR S base e va' (A ++ [x]) vb B w' where
  a := hr
  b := h.b.same (fun g hgv => hg.block g (h.b.mine g hgv).2 fun e => h.ne g e.symm hgv) (fun x hx c hc => hg.block c (S.lt (h.b.el x hx) c hc) fun e => (h.ba x hx c hc).2 e.symm)
  ne := fun g h1 h2 => by
    rcases hp with e | e
    · exact h.ne g (by rw [← e]; exact h1) h2
    · rw [e, Option.some.injEq] at h1; have := (h.b.mine g h2).2; omega
  ab := fun y hy c hc => by
    rcases List.mem_append.1 hy with hy | hy
    · exact h.ab y hy c hc
    · rw [List.mem_singleton.1 hy] at hc; exact hx c hc
  ba := fun y hy c hc => ⟨(h.ba y hy c hc).1, fun h1 => by
    rcases hp with e | e
    · exact (h.ba y hy c hc).2 (by rw [← e]; exact h1)
    · rw [e, Option.some.injEq] at h1; have := S.lt (h.b.el y hy) c hc; omega⟩
theorem TwoR.lt (h : TwoR S base e va A vb B w) : (∀ b, va.ownBlock = some b → b < w.heap.size) ∧ ∀ b, vb.ownBlock = some b → b < w.heap.size := ⟨fun b hb => (h.a.mine b hb).2, fun b hb => (h.b.mine b hb).2⟩
end
theorem results_cell3 {P : Program} {fn : Func} {p u v : Tmp} {ty : TypeId} (h : fn.results = #[.cell p ty, .tmp u, .tmp v]) (tmps : Array Value) (w : World) (g : Nat) (t : TypeId) (cs : Array Value) (fr : Nat × Nat) (d : TypeDesc)
    (hp : tmps.getD p undef = .pointer (some ⟨g, 0, none⟩)) (hg : w.heap[g]? = some (.cells cs t fr))
    (hu : P.underlying ty = some d) (hd : (match d with | .struct _ | .array _ _ => true | _ => false) = true) (hi : (P.info? ty).map (·.size) = some cs.size) :
    (results fn tmps).run P w = .ok (.tuple #[.agg cs, tmps.getD u undef, tmps.getD v undef]) w := by
  have hp' : tmps[p]?.getD undef = .pointer (some ⟨g, 0, none⟩) := by simpa using hp
  simp [results, h, hp', asAddr, run_loadVar_row w g t ty cs fr d hg hu hd hi]

end Go.Proofs.Ytflbdanlcpojbaa

/- A macro and two lists of arguments, drawn. (Made by gen_drawsub.py.) -/
namespace Go.Proofs.Ytflbdanlcpojbaa
open Go.RowKit

def okRow (l : List Tok) : Prop := l.length ≤ 61 ∧ ∀ t ∈ l, t.hidden.length ≤ 3
/-- A macro and two lists of arguments. -/
def DrawnSub (w : World) (e : Ending) (w' : World) : Prop :=
  ∃ (nm : ByteArray) (f : Bool) (s2 s3 : Value) (ps : List ByteArray) (bd : List Tok) (fp : List Nat) (va : Value) (A : List (List Tok)) (fpa : List Nat) (vb : Value) (B : List (List Tok)) (fpb : List Nat), e = .returned (.tuple #[.agg #[.string nm, .bool f, s2, s3], va, vb]) ∧
    sMacro.R w' [.string nm, .bool f, s2, s3] ⟨nm, f, ps, bd⟩ fp ∧ (sSlice sToks).R w' [va] A fpa ∧ (sSlice sToks).R w' [vb] B fpb ∧ okMac ⟨nm, f, ps, bd⟩ ∧ A.length ≤ 200 ∧ B.length ≤ 200 ∧ (∀ l ∈ A, okRow l) ∧ (∀ l ∈ B, okRow l) ∧ Below w.heap.size w w'
/-- Tokens that were drawn, as an element of a list of lists. -/
theorem drawn_elem {base : Nat} {v : Value} {L : List (Elem Tok)} {w0 w : World} (h : RowE sTok w0.heap.size 35 v L w) (ho : ∀ x ∈ L, okTok x.d) (hl : L.length ≤ 61) (hb : base ≤ w0.heap.size) :
    ∃ (a : Option Addr) (c : Nat) (fp : List Nat), v = .slice a L.length c ∧ sToks.R w [.slice a L.length c] (L.map (·.d)) fp ∧ (∀ b ∈ fp, w0.heap.size ≤ b) ∧ okRow (L.map (·.d)) := by
  obtain ⟨a, c, hv, -⟩ := h.val
  obtain ⟨fp, h1, h2, -⟩ := slice_of_row h.row fun x hx => ⟨h.len x hx, h.el x hx⟩
  refine ⟨a, c, fp, hv, by rw [← hv]; exact h1, fun b hb' => ?_, by rw [List.length_map]; exact hl, fun t ht => ?_⟩
  · rcases h2 b hb' with h0 | h0
    · exact h.mine b h0
    · obtain ⟨x, hx, hx'⟩ := List.mem_flatMap.1 h0
      exact h.lo x hx b hx'
  · obtain ⟨x, hx, rfl⟩ := List.mem_map.1 ht
    exact (ho x hx).2.2.2
theorem okRows_more {L : List (Elem (List Tok))} {x : Elem (List Tok)} (h : ∀ y ∈ L, okRow y.d) (hx : okRow x.d) : ∀ y ∈ L ++ [x], okRow y.d := fun y hy => by
  rcases List.mem_append.1 hy with hy | hy
  · exact h y hy
  · rw [List.mem_singleton.1 hy]; exact hx

set_option maxHeartbeats 16000000 in
set_option maxRecDepth 100000 in
theorem DrawSubstitute (v : Value) (l : List UInt8) (fp : List Nat) (w : World) (H : (sSlice sByte).R w [v] l fp) :
    Calls Try.prog 5 #[v] w (DrawnSub w) := by
  have bz := alloc_below' w (.cells #[.string ⟨#[]⟩, .bool false, .slice none 0 0, .slice none 0 0] 26)
  have HZ0 := Lib.hid (heap_alloc_new w (.cells #[.string ⟨#[]⟩, .bool false, .slice none 0 0, .slice none 0 0] 26))
  have HH := Lib.hid ((sSlice sByte).below H bz)
  have hsz : (w.alloc (.cells #[.string ⟨#[]⟩, .bool false, .slice none 0 0, .slice none 0 0] 26)).heap.size = w.heap.size + 1 := Array.size_push _
  clear H
  go_enter Try.func5, Try.ntmps5
  go_wp2_with fail
  refine (l20Open _ l fp _ HH.out).mono ?_
  rintro e w1 ⟨rb, rfl, hrb, hR, hB⟩
  have HZ1 := Lib.hid ((hB.block w.heap.size (by omega)).trans HZ0.out)
  have hs1 := hB.size
  have hr1 := hR.lt
  rw [hsz] at hrb hs1
  have hBw : Below w.heap.size w w1 := bz.trans (hB.mono bz.size)
  clear HH HZ0 bz hB hsz
  go_wp2_with fail
  refine (l20Macro rb 0 _ _ hR (by omega) (by omega) (by omega)).mono ?_
  rintro e w2 ⟨nm, f, a2, a3, n2, c2, n3, c3, ps, bd, fp', q, rfl, hT, hok, hlo, hq, hR2, hK2⟩
  have HT0 := hT
  obtain ⟨h2', h3', p2, p3, hcs, hnok, K2, K3, hfp⟩ := hT
  simp only [List.cons.injEq, Value.string.injEq, Value.bool.injEq, and_true, true_and] at hcs
  obtain ⟨e2, e3⟩ := hcs
  subst e2 e3
  obtain ⟨b2, d2, hv2, -⟩ := open_strs K2
  obtain ⟨b3, d3, hv3, -⟩ := open_rows K3
  simp only [Value.slice.injEq] at hv2 hv3
  obtain ⟨rfl, rfl, rfl⟩ := hv2
  obtain ⟨rfl, rfl, rfl⟩ := hv3
  clear K2 K3 hfp hnok
  have hps : ps.length ≤ 100 := hok.2.1
  have HOK := Lib.hid hok
  have hbm := alloc_below' w2 (.cells #[.string nm, .bool f, .slice a2 ps.length c2, .slice a3 bd.length c3] 26)
  have HM3 := Lib.hid (heap_alloc_new w2 (.cells #[.string nm, .bool f, .slice a2 ps.length c2, .slice a3 bd.length c3] 26))
  have hs3 : (w2.alloc (.cells #[.string nm, .bool f, .slice a2 ps.length c2, .slice a3 bd.length c3] 26)).heap.size = w2.heap.size + 1 := Array.size_push _
  have hs4 : ((w2.alloc (.cells #[.string nm, .bool f, .slice a2 ps.length c2, .slice a3 bd.length c3] 26)).alloc (.cells #[] 24)).heap.size = w2.heap.size + 2 := by show ((w2.heap.push _).push _).size = _; simp
  have hbl := alloc_below' (w2.alloc (.cells #[.string nm, .bool f, .slice a2 ps.length c2, .slice a3 bd.length c3] 26)) (.cells #[] 24)
  have hbk := alloc_below' ((w2.alloc (.cells #[.string nm, .bool f, .slice a2 ps.length c2, .slice a3 bd.length c3] 26)).alloc (.cells #[] 24)) (.cells #[] 24)
  have hb35 := hbl.trans (hbk.mono hbl.size)
  have HA4 := Lib.hid (RowN.lit0 sToks 24 (w2.alloc (.cells #[.string nm, .bool f, .slice a2 ps.length c2, .slice a3 bd.length c3] 26)) (base := w2.heap.size + 1) (by omega))
  have HB5 := Lib.hid (RowN.lit0 sToks 24 ((w2.alloc (.cells #[.string nm, .bool f, .slice a2 ps.length c2, .slice a3 bd.length c3] 26)).alloc (.cells #[] 24)) (base := w2.heap.size + 1) (by omega))
  rw [hs3] at HA4
  rw [hs4] at HB5
  have HTW : Hid (TwoR sToks (w2.heap.size + 1) 24 (.slice (some ⟨w2.heap.size + 1, 0, none⟩) 0 0) [] (.slice (some ⟨w2.heap.size + 2, 0, none⟩) 0 0) [] (((w2.alloc (.cells #[.string nm, .bool f, .slice a2 ps.length c2, .slice a3 bd.length c3] 26)).alloc (.cells #[] 24)).alloc (.cells #[] 24))) :=
    ⟨HA4.out.below hbk, HB5.out, fun g h1 h2 => by simp only [Value.ownBlock, Option.some.injEq] at h1 h2; omega, by simp, by simp⟩
  have HR5 := Lib.hid ((hR2.grow hbm).grow hb35)
  have HT3 := Lib.hid (sMacro.below HT0 hbm)
  have HK3 := Lib.hid (hK2.trans (Kept.of_below (fp := [rb]) hbm))
  have HK35 := Lib.hid (Kept.of_below (fp := [rb]) hb35)
  have hs12 := hK2.size
  have HFL : Hid (∀ b ∈ fp', w1.heap.size ≤ b ∧ b < w2.heap.size) := fun b hb => ⟨hlo b hb, sMacro.lt HT0 b hb⟩
  have HZ3 := Lib.hid ((hbm.block w.heap.size (by omega)).trans ((hK2.block w.heap.size (by omega) (by simp; omega)).trans HZ1.out))
  clear hbl hbk hR2 HT0 hK2 hlo hR HZ1 HA4 HB5 hok
  go_upto_region 5 with fail
  clear hs4 hb35 hbm
  generalize (((w2.alloc (.cells #[.string nm, .bool f, .slice a2 ps.length c2, .slice a3 bd.length c3] 26)).alloc (.cells #[] 24)).alloc (.cells #[] 24)) = w5 at *
  generalize (w2.alloc (.cells #[.string nm, .bool f, .slice a2 ps.length c2, .slice a3 bd.length c3] 26)) = W3 at *
  go_wp2
  go_loopw [7, 8, 9] (fun va vb i wr => ∃ (k qk : Nat) (A B : List (Elem (List Tok))), k ≤ ps.length ∧ i = .int .i64 k ∧ qk ≤ q + 600 * k ∧ Hid (A.length = k) ∧ Hid (B.length = k) ∧ Hid (TwoR sToks (w2.heap.size + 1) 24 va A vb B wr) ∧ Hid (∀ x ∈ A, okRow x.d) ∧ Hid (∀ x ∈ B, okRow x.d) ∧ Rd wr rb qk ∧ Kept [rb] W3 wr) (fun _ _ i _ => ps.length - (intOf i).toNat)
  case atStart => exact ⟨0, q, [], [], by omega, rfl, by omega, rfl, rfl, HTW.out, (fun x hx => by simp at hx), (fun x hx => by simp at hx), HR5.out, HK35.out⟩
  case round =>
    clear HTW HR5 HK35
    obtain ⟨k, qk, A, B, hk, rfl, hqk, HAk, HBk, HT, HOA, HOB, hRk, hKk⟩ := hrel
    have hsk := hKk.size
    have hrs := hRk.lt
    obtain ⟨aa, ca, hva, -⟩ := HT.out.a.val
    obtain ⟨ab, cb, hvb, -⟩ := HT.out.b.val
    rw [HAk.out] at hva
    rw [HBk.out] at hvb
    subst hva hvb
    have HMr := Lib.hid ((hKk.block w2.heap.size (by omega) (by simp; omega)).trans HM3.out)
    have m2 := cell_of_row wr (w2.heap.size) 2 _ _ _ HMr.out
    by_cases hlt : k < ps.length
    · have e0 : ((k : Int) < (ps.length : Int)) := by omega
      go_wp2_with fail
      clear m2
      refine (l20Tokens rb qk _ _ hRk (by omega) (by omega) (by omega) 0 (by omega) (by omega)).mono ?_
      rintro e w6 ⟨v6, L6, q6, rfl, hE6, hok6, -, hl6, hq6, hR6, hK6⟩
      have hs6 := hK6.size
      obtain ⟨a6, c6, f6, rfl, r6, lo6, or6⟩ := drawn_elem (base := w2.heap.size + 1) hE6 hok6 hl6 (by omega)
      have HT6 := Lib.hid (HT.out.kept hK6 (by omega))
      have HAM := Lib.hid HT.out.lt
      have bl := alloc_below' w6 (.cells #[.slice a6 L6.length c6] 24)
      have HL7 := Lib.hid (heap_alloc_new w6 (.cells #[.slice a6 L6.length c6] 24))
      have HT7 := Lib.hid (HT6.out.below bl)
      have R7 := Lib.hid (sToks.below r6 bl)
      have HR7 := Lib.hid (hR6.grow bl)
      have HK7 := Lib.hid ((hKk.trans hK6).trans (Kept.of_below (fp := [rb]) bl))
      have hs7 := bl.size
      have HF6 := Lib.hid lo6
      have HO6 := Lib.hid or6
      clear hE6 hok6 hR6 hK6 r6 lo6 or6 bl HT6 HT hKk hRk HMr
      go_upto_region 9 with (at_builtin; refine wp_append_rowN (X := [(⟨[.slice a6 L6.length c6], L6.map (·.d), f6⟩ : Elem (List Tok))]) ti_toks rfl (by decide) _ rfl (.tmp 23) (.tmp 26) rfl (w2.heap.size + 1) (.slice aa k ca) rfl HT7.out.a ⟨w6.heap.size, 0, none⟩ 1 1 rfl rfl (fun x hx => by obtain rfl := List.mem_singleton.1 hx; exact ⟨rfl, R7.out, fun b hb h => by have h1 := HF6.out b hb; have h2 := HAM.out.1 b h; omega⟩) (fun x hx u hu => by obtain rfl := List.mem_singleton.1 hx; rw [List.mem_singleton.1 hu]; rfl) (fun j u hj => by rw [addr_add, Nat.zero_add, cell_of_row _ _ _ _ _ _ HL7.out]; simpa using hj) (by have := HAk.out; unfold maxLen; omega) (by have := HAk.out; omega) (by omega) ?_; intro v8 w8 hR8 hg8 hp8)
      have HT8 := Lib.hid (HT7.out.more hR8 hg8 hp8 (fun c hc => ⟨by have := HF6.out c hc; omega, fun h => by have h1 := HF6.out c hc; have h2 := HAM.out.2 c h; omega⟩))
      have HR8 := Lib.hid (grownRd HR7.out hg8 (by omega : rb < w2.heap.size + 1) (fun b hb => (HT7.out.a.mine b hb).1))
      have HK8 := Lib.hid (grownKept HK7.out hg8 (fun b hb => by have := (HT7.out.a.mine b hb).1; omega))
      have hs8 := hg8.size
      have HAM8 := Lib.hid HT8.out.lt
      clear hR8 hg8 hp8 HT7 HR7 HK7 R7 HL7 HAM
      go_wp2_with fail
      refine (l20Tokens rb q6 _ _ HR8.out (by omega) (by omega) (by omega) 0 (by omega) (by omega)).mono ?_
      rintro e w9 ⟨v9, L9, q9, rfl, hE9, hok9, -, hl9, hq9, hR9, hK9⟩
      have hs9 := hK9.size
      obtain ⟨a9, c9, f9, rfl, r9, lo9, or9⟩ := drawn_elem (base := w2.heap.size + 1) hE9 hok9 hl9 (by omega)
      have bl := alloc_below' w9 (.cells #[.slice a9 L9.length c9] 24)
      have HL10 := Lib.hid (heap_alloc_new w9 (.cells #[.slice a9 L9.length c9] 24))
      have HT10 := Lib.hid ((HT8.out.kept hK9 (by omega)).below bl).swap
      have R10 := Lib.hid (sToks.below r9 bl)
      have HR10 := Lib.hid (hR9.grow bl)
      have HK10 := Lib.hid ((HK8.out.trans hK9).trans (Kept.of_below (fp := [rb]) bl))
      have hs10 := bl.size
      have HF9 := Lib.hid lo9
      have HO9 := Lib.hid or9
      clear hE9 hok9 hR9 hK9 r9 lo9 or9 bl HT8 HR8 HK8
      go_wp2_with (at_builtin; refine wp_append_rowN (X := [(⟨[.slice a9 L9.length c9], L9.map (·.d), f9⟩ : Elem (List Tok))]) ti_toks rfl (by decide) _ rfl (.tmp 28) (.tmp 31) rfl (w2.heap.size + 1) (.slice ab k cb) rfl HT10.out.a ⟨w9.heap.size, 0, none⟩ 1 1 rfl rfl (fun x hx => by obtain rfl := List.mem_singleton.1 hx; exact ⟨rfl, R10.out, fun b hb h => by have h1 := HF9.out b hb; have h2 := HAM8.out.2 b h; omega⟩) (fun x hx u hu => by obtain rfl := List.mem_singleton.1 hx; rw [List.mem_singleton.1 hu]; rfl) (fun j u hj => by rw [addr_add, Nat.zero_add, cell_of_row _ _ _ _ _ _ HL10.out]; simpa using hj) (by have := HBk.out; unfold maxLen; omega) (by have := HBk.out; omega) (by omega) ?_; intro v11 w11 hR11 hg11 hp11; have HT11 := Lib.hid (HT10.out.more hR11 hg11 hp11 (fun c hc => ⟨by have := HF9.out c hc; omega, fun h => by have h1 := HF9.out c hc; have h2 := HAM8.out.1 c h; omega⟩)).swap; have HR11 := Lib.hid (grownRd HR10.out hg11 (by omega : rb < w2.heap.size + 1) (fun b hb => (HT10.out.a.mine b hb).1)); have HK11 := Lib.hid (grownKept HK10.out hg11 (fun b hb => by have := (HT10.out.a.mine b hb).1; omega)); clear hR11 hg11 hp11)
      go_roundw
      case rel => exact ⟨k + 1, q9, _, _, by omega, by go_num, by omega, (by show _ = _; rw [List.length_append, HAk.out]; rfl), (by show _ = _; rw [List.length_append, HBk.out]; rfl), HT11, okRows_more HOA.out HO6.out, okRows_more HOB.out HO9.out, HR11.out, HK11.out⟩
      case measure => simp [intOf]; omega
    · have e0 : ¬ ((k : Int) < (ps.length : Int)) := by omega
      have HTR := Lib.hid (fun (hb : Below 0 wr wr) => trivial)
      go_wp2_with fail
      clear m2
      refine (odd rb qk _ _ hRk (by omega) (by omega) (by omega)).mono ?_
      rintro e w5 ⟨b, q5, rfl, -, -, hR5, hK5⟩
      have hs5 := hK5.size
      have HT5 := Lib.hid (HT.out.kept hK5 (by omega))
      have HK5 := Lib.hid (hKk.trans hK5)
      have HM5 := Lib.hid ((HK5.out.block w2.heap.size (by omega) (by simp; omega)).trans HM3.out)
      have HZ5 := Lib.hid ((HK5.out.block w.heap.size (by omega) (by simp; omega)).trans HZ3.out)
      have HX5 := Lib.hid (sMacro.kept HT3.out (fun b hb hx => by have := (HFL.out b hb).1; have e : b = rb := (by simpa using hx); omega) HK5.out)
      have HB5 := Lib.hid (kept_below (kept_below hBw HK3.out (by omega) hBw.size) HK5.out (by omega) (by omega))
      have hs35 := HK5.out.size
      have HA5 := Lib.hid HT5.out.a
      have HB5' := Lib.hid HT5.out.b
      have HAP := Lib.hid (And.intro (fun x hx c hc => (HT5.out.ab x hx c hc).1) (fun x hx c hc => (HT5.out.ba x hx c hc).1))
      clear HT hKk hK5 hR5 hRk HM3 HZ3 HT3 HMr HTR
      cases b
      · skip
        have HM6 := HM5
        have HZ6 := HZ5
        have HX6 := HX5
        have HW6 := HB5
        have HLOA : Hid (∀ x ∈ A, ∀ c ∈ x.fp, w2.heap.size + 1 ≤ c) := fun x hx c hc => HAP.out.1 x hx c hc
        have HLOB : Hid (∀ x ∈ B, ∀ c ∈ x.fp, w2.heap.size + 1 ≤ c) := fun x hx c hc => HAP.out.2 x hx c hc
        obtain ⟨fa, ra, fa1, -⟩ := HA5.out.read
        obtain ⟨fb, rb_, fb1, -⟩ := HB5'.out.read
        have HRA := Lib.hid ra
        have HRB := Lib.hid rb_
        have HNA : Hid (w.heap.size ∉ fa) := fun hx => by rcases fa1 _ hx with h | ⟨x, hx1, hx2⟩; have := (HA5.out.mine _ h).1; omega; have := HLOA.out x hx1 _ hx2; omega
        have HNB : Hid (w.heap.size ∉ fb) := fun hx => by rcases fb1 _ hx with h | ⟨x, hx1, hx2⟩; have := (HB5'.out.mine _ h).1; omega; have := HLOB.out x hx1 _ hx2; omega
        clear ra rb_ fa1 fb1
        have HLA : Hid ((A.map (·.d)).length ≤ 200) := by show _ ≤ _; rw [List.length_map, HAk.out]; omega
        have HLB : Hid ((B.map (·.d)).length ≤ 200) := by show _ ≤ _; rw [List.length_map, HBk.out]; omega
        have HKA : Hid (∀ l ∈ A.map (·.d), okRow l) := fun l hl => by obtain ⟨x, hx, rfl⟩ := List.mem_map.1 hl; exact HOA.out x hx
        have HKB : Hid (∀ l ∈ B.map (·.d), okRow l) := fun l hl => by obtain ⟨x, hx, rfl⟩ := List.mem_map.1 hl; exact HOB.out x hx
        clear HM5 HZ5 HX5 HB5 HA5 HB5' HAP HK5 HT5
        have x0 : w5.cell? ⟨w2.heap.size, 0, none⟩ = some (.string nm) := cell_of_row _ _ 0 _ _ _ HM6.out
        have x1 : w5.cell? ⟨w2.heap.size, 1, none⟩ = some (.bool f) := cell_of_row _ _ 1 _ _ _ HM6.out
        have x2 : w5.cell? ⟨w2.heap.size, 2, none⟩ = some (.slice a2 ps.length c2) := cell_of_row _ _ 2 _ _ _ HM6.out
        have x3 : w5.cell? ⟨w2.heap.size, 3, none⟩ = some (.slice a3 bd.length c3) := cell_of_row _ _ 3 _ _ _ HM6.out
        have z0 : w5.cell? ⟨w.heap.size, 0, none⟩ = some (.string ⟨#[]⟩) := cell_of_row _ _ 0 _ _ _ HZ6.out
        have zf0 : w5.frozen? ⟨w.heap.size, 0, none⟩ = false := frozen_of_row _ _ 0 _ _ HZ6.out
        have z1 : w5.cell? ⟨w.heap.size, 1, none⟩ = some (.bool false) := cell_of_row _ _ 1 _ _ _ HZ6.out
        have zf1 : w5.frozen? ⟨w.heap.size, 1, none⟩ = false := frozen_of_row _ _ 1 _ _ HZ6.out
        have z2 : w5.cell? ⟨w.heap.size, 2, none⟩ = some (.slice none 0 0) := cell_of_row _ _ 2 _ _ _ HZ6.out
        have zf2 : w5.frozen? ⟨w.heap.size, 2, none⟩ = false := frozen_of_row _ _ 2 _ _ HZ6.out
        have z3 : w5.cell? ⟨w.heap.size, 3, none⟩ = some (.slice none 0 0) := cell_of_row _ _ 3 _ _ _ HZ6.out
        have zf3 : w5.frozen? ⟨w.heap.size, 3, none⟩ = false := frozen_of_row _ _ 3 _ _ HZ6.out
        have HS := Lib.hid (set4_at HZ6.out (.string nm) (.bool f) (.slice a2 ps.length c2) (.slice a3 bd.length c3))
        have hnf : w.heap.size ∉ fp' := fun hx => by have := (HFL.out _ hx).1; omega
        have HTF := Lib.hid (sMacro.set4R HX6.out hnf (.string nm) (.bool f) (.slice a2 ps.length c2) (.slice a3 bd.length c3))
        have HAF := Lib.hid ((sSlice sToks).set4R HRA.out HNA.out (.string nm) (.bool f) (.slice a2 ps.length c2) (.slice a3 bd.length c3))
        have HBF := Lib.hid ((sSlice sToks).set4R HRB.out HNB.out (.string nm) (.bool f) (.slice a2 ps.length c2) (.slice a3 bd.length c3))
        have HWF := Lib.hid (set4_below HW6.out (Nat.le_refl w.heap.size) (.string nm) (.bool f) (.slice a2 ps.length c2) (.slice a3 bd.length c3))
        unfold set4 at HS HTF HAF HBF HWF
        clear HM6 HZ6 HX6 HRA HRB HW6
        go_wp2
        refine bodyPost_ret (results_cell3 rfl _ _ w.heap.size _ _ _ _ rfl HS.out Try.underlying26 rfl (by kernel_rfl)) rfl ?_
        exact ⟨nm, f, _, _, ps, bd, fp', _, _, _, _, _, _, rfl, HTF.out, HAF.out, HBF.out, HOK.out, HLA.out, HLB.out, HKA.out, HKB.out, HWF.out⟩
      · skip
        have b1 := alloc_below' w5 (.cells #[] 35)
        have b2 := b1.trans ((alloc_below' (w5.alloc (.cells #[] 35)) (.cells #[.slice (some ⟨w5.heap.size, 0, none⟩) 0 0] 24)).mono b1.size)
        have HL6 := Lib.hid (heap_alloc_new (w5.alloc (.cells #[] 35)) (.cells #[.slice (some ⟨w5.heap.size, 0, none⟩) 0 0] 24))
        have hsx : (w5.alloc (.cells #[] 35)).heap.size = w5.heap.size + 1 := Array.size_push _
        rw [hsx] at HL6
        have HA6 := Lib.hid (HA5.out.below b2)
        have HB6 := Lib.hid (HB5'.out.below b2)
        have HTN := Lib.hid (HT5.out.below b2)
        have HM6 := Lib.hid ((b2.block w2.heap.size (by omega)).trans HM5.out)
        have HZ6 := Lib.hid ((b2.block w.heap.size (by omega)).trans HZ5.out)
        have HX6 := Lib.hid (sMacro.below HX5.out b2)
        have HW6 := Lib.hid (HB5.out.trans (b2.mono HB5.out.size))
        have hs26 := b2.size
        clear HM5 HZ5 HX5 HB5 HA5 HB5' HK5 HT5 b1 b2 hsx
        go_upto_region 12 with (at_builtin; refine wp_append_rowN (X := [(⟨[.slice (some ⟨w5.heap.size, 0, none⟩) 0 0], [], []⟩ : Elem (List Tok))]) ti_toks rfl (by decide) _ rfl (.tmp 35) (.tmp 37) rfl (w2.heap.size + 1) (.slice aa k ca) rfl HTN.out.a ⟨w5.heap.size + 1, 0, none⟩ 1 1 rfl rfl (fun x hx => by obtain rfl := List.mem_singleton.1 hx; exact ⟨rfl, slice_empty sTok _ _ 0 (by simp), fun b hb => by simp at hb⟩) (fun x hx u hu => by obtain rfl := List.mem_singleton.1 hx; rw [List.mem_singleton.1 hu]; rfl) (fun j u hj => by rw [addr_add, Nat.zero_add, cell_of_row _ _ _ _ _ _ HL6.out]; simpa using hj) (by have := HAk.out; unfold maxLen; omega) (by have := HAk.out; omega) (by omega) ?_; intro v8 w8 hR8 hg8 hp8)
        have HT8 := Lib.hid (HTN.out.more hR8 hg8 hp8 (fun c hc => by simp at hc))
        have hm8 := HTN.out.a.mine
        replace HM6 := Lib.hid ((hg8.block w2.heap.size (by omega) (fun e => by have := (hm8 _ e.symm).1; omega)).trans HM6.out)
        replace HZ6 := Lib.hid ((hg8.block w.heap.size (by omega) (fun e => by have := (hm8 _ e.symm).1; omega)).trans HZ6.out)
        replace HX6 := Lib.hid (sMacro.frame (fun b hb => hg8.block b (sMacro.lt HX6.out b hb) (fun e => by have := (hm8 _ e.symm).1; have := (HFL.out b hb).2; omega)) HX6.out)
        replace HW6 := Lib.hid (HW6.out.grown hg8 (by omega) (fun b hb => by have := (hm8 b hb).1; omega))
        have HA8 := Lib.hid HT8.out.a
        have HB8 := Lib.hid HT8.out.b
        have hs8 := hg8.size
        clear hR8 hg8 hp8 hm8 HTN HA6 HB6 HL6
        have HLOA : Hid (∀ x ∈ A ++ [(⟨[.slice (some ⟨w5.heap.size, 0, none⟩) 0 0], [], []⟩ : Elem (List Tok))], ∀ c ∈ x.fp, w2.heap.size + 1 ≤ c) := fun x hx c hc => (HT8.out.ab x hx c hc).1
        have HLOB : Hid (∀ x ∈ B, ∀ c ∈ x.fp, w2.heap.size + 1 ≤ c) := fun x hx c hc => HAP.out.2 x hx c hc
        obtain ⟨fa, ra, fa1, -⟩ := HA8.out.read
        obtain ⟨fb, rb_, fb1, -⟩ := HB8.out.read
        have HRA := Lib.hid ra
        have HRB := Lib.hid rb_
        have HNA : Hid (w.heap.size ∉ fa) := fun hx => by rcases fa1 _ hx with h | ⟨x, hx1, hx2⟩; have := (HA8.out.mine _ h).1; omega; have := HLOA.out x hx1 _ hx2; omega
        have HNB : Hid (w.heap.size ∉ fb) := fun hx => by rcases fb1 _ hx with h | ⟨x, hx1, hx2⟩; have := (HB8.out.mine _ h).1; omega; have := HLOB.out x hx1 _ hx2; omega
        clear ra rb_ fa1 fb1
        obtain ⟨av, cv, hv8, -⟩ := HA8.out.val
        subst hv8
        have HLA : Hid (((A ++ [(⟨[.slice (some ⟨w5.heap.size, 0, none⟩) 0 0], [], []⟩ : Elem (List Tok))]).map (·.d)).length ≤ 200) := by show _ ≤ _; rw [List.length_map, List.length_append, HAk.out]; simp; omega
        have HLB : Hid ((B.map (·.d)).length ≤ 200) := by show _ ≤ _; rw [List.length_map, HBk.out]; omega
        have HKA : Hid (∀ l ∈ (A ++ [(⟨[.slice (some ⟨w5.heap.size, 0, none⟩) 0 0], [], []⟩ : Elem (List Tok))]).map (·.d), okRow l) := fun l hl => by obtain ⟨x, hx, rfl⟩ := List.mem_map.1 hl; exact okRows_more HOA.out (show okRow [] from ⟨by simp, by simp⟩) x hx
        have HKB : Hid (∀ l ∈ B.map (·.d), okRow l) := fun l hl => by obtain ⟨x, hx, rfl⟩ := List.mem_map.1 hl; exact HOB.out x hx
        clear HAP HT8 HA8 HB8
        obtain ⟨A8, HA8⟩ : ∃ A8, Hid (A8 = A ++ [(⟨[.slice (some ⟨w5.heap.size, 0, none⟩) 0 0], [], []⟩ : Elem (List Tok))]) := ⟨_, Lib.hid rfl⟩
        rw [show A ++ [(⟨[.slice (some ⟨w5.heap.size, 0, none⟩) 0 0], [], []⟩ : Elem (List Tok))] = A8 from HA8.out.symm] at HRA HLA HKA ⊢
        have x0 : w8.cell? ⟨w2.heap.size, 0, none⟩ = some (.string nm) := cell_of_row _ _ 0 _ _ _ HM6.out
        have x1 : w8.cell? ⟨w2.heap.size, 1, none⟩ = some (.bool f) := cell_of_row _ _ 1 _ _ _ HM6.out
        have x2 : w8.cell? ⟨w2.heap.size, 2, none⟩ = some (.slice a2 ps.length c2) := cell_of_row _ _ 2 _ _ _ HM6.out
        have x3 : w8.cell? ⟨w2.heap.size, 3, none⟩ = some (.slice a3 bd.length c3) := cell_of_row _ _ 3 _ _ _ HM6.out
        have z0 : w8.cell? ⟨w.heap.size, 0, none⟩ = some (.string ⟨#[]⟩) := cell_of_row _ _ 0 _ _ _ HZ6.out
        have zf0 : w8.frozen? ⟨w.heap.size, 0, none⟩ = false := frozen_of_row _ _ 0 _ _ HZ6.out
        have z1 : w8.cell? ⟨w.heap.size, 1, none⟩ = some (.bool false) := cell_of_row _ _ 1 _ _ _ HZ6.out
        have zf1 : w8.frozen? ⟨w.heap.size, 1, none⟩ = false := frozen_of_row _ _ 1 _ _ HZ6.out
        have z2 : w8.cell? ⟨w.heap.size, 2, none⟩ = some (.slice none 0 0) := cell_of_row _ _ 2 _ _ _ HZ6.out
        have zf2 : w8.frozen? ⟨w.heap.size, 2, none⟩ = false := frozen_of_row _ _ 2 _ _ HZ6.out
        have z3 : w8.cell? ⟨w.heap.size, 3, none⟩ = some (.slice none 0 0) := cell_of_row _ _ 3 _ _ _ HZ6.out
        have zf3 : w8.frozen? ⟨w.heap.size, 3, none⟩ = false := frozen_of_row _ _ 3 _ _ HZ6.out
        have HS := Lib.hid (set4_at HZ6.out (.string nm) (.bool f) (.slice a2 ps.length c2) (.slice a3 bd.length c3))
        have hnf : w.heap.size ∉ fp' := fun hx => by have := (HFL.out _ hx).1; omega
        have HTF := Lib.hid (sMacro.set4R HX6.out hnf (.string nm) (.bool f) (.slice a2 ps.length c2) (.slice a3 bd.length c3))
        have HAF := Lib.hid ((sSlice sToks).set4R HRA.out HNA.out (.string nm) (.bool f) (.slice a2 ps.length c2) (.slice a3 bd.length c3))
        have HBF := Lib.hid ((sSlice sToks).set4R HRB.out HNB.out (.string nm) (.bool f) (.slice a2 ps.length c2) (.slice a3 bd.length c3))
        have HWF := Lib.hid (set4_below HW6.out (Nat.le_refl w.heap.size) (.string nm) (.bool f) (.slice a2 ps.length c2) (.slice a3 bd.length c3))
        unfold set4 at HS HTF HAF HBF HWF
        clear HM6 HZ6 HX6 HRA HRB HW6
        go_wp2
        refine bodyPost_ret (results_cell3 rfl _ _ w.heap.size _ _ _ _ rfl HS.out Try.underlying26 rfl (by kernel_rfl)) rfl ?_
        exact ⟨nm, f, _, _, ps, bd, fp', _, _, _, _, _, _, rfl, HTF.out, HAF.out, HBF.out, HOK.out, HLA.out, HLB.out, HKA.out, HKB.out, HWF.out⟩

end Go.Proofs.Ytflbdanlcpojbaa

/- The law's fixed answer. -/
namespace Go.Proofs.Ytflbdanlcpojbaa
open Go.RowKit

theorem small_ok {s : ByteArray} (h : s.size ≤ 1000000) : s.size ≤ maxLen := by unfold maxLen; omega
theorem line_ab (w : World) : Calls Try.prog 36 #[.string ⟨#[97, 32, 98]⟩] w fun e w' => e = .returned (.bool true) ∧ w = w' := by
  have := impl_LineValid ⟨#[97, 32, 98]⟩ w (small_ok (by decide))
  rwa [show lineOk ⟨#[97, 32, 98]⟩ = true from by decide] at this
theorem line_nl (w : World) : Calls Try.prog 36 #[.string ⟨#[10]⟩] w fun e w' => e = .returned (.bool false) ∧ w = w' := by
  have := impl_LineValid ⟨#[10]⟩ w (small_ok (by decide))
  rwa [show lineOk ⟨#[10]⟩ = false from by decide] at this
theorem alive (w : World) : Calls Try.prog 9 #[] w fun e w' => e = .returned (.bool true) ∧ w = w' := by
  go_enter Try.func9, Try.ntmps9
  go_wp2_with fail
  refine (line_ab _).mono ?_
  rintro e w' ⟨rfl, rfl⟩
  go_wp2_with fail
  refine (line_nl _).mono ?_
  rintro e w' ⟨rfl, rfl⟩
  go_wp2
  go_ret
  exact ⟨rfl, rfl⟩

end Go.Proofs.Ytflbdanlcpojbaa
