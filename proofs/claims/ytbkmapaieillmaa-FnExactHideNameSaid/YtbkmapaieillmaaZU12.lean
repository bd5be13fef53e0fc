/- Texts that the proof of U stands on, in one file. -/
import Derived.Test.YtbkmapaieillmaaZU11
import Derived.Test.YtbkmapaieillmaaZU1
import Derived.Test.YtbkmapaieillmaaZU4
import Derived.Test.YtbkmapaieillmaaZU5
import Derived.Shelf.Spec.SlicesInsertGrow
import Derived.Test.YtbkmapaieillmaaZU8
import Derived.Test.YtbkmapaieillmaaZU9
import Derived.Test.YtbkmapaieillmaaZU10
import Derived.Test.YtbkmapaieillmaaZU6
set_option linter.unusedVariables false
set_option linter.unusedSimpArgs false
/- PasteTokens under a weight. -/
namespace Go.Proofs.Ytbkmapaieillmaa
open Go.RowKit

theorem wtToken_hid {x : Tok} (h : wtToken x ≤ 1048576) : x.hidden.length ≤ 2000000 := by unfold wtToken wtStringS at h; omega
theorem spec_PasteTokens_w (ca : List Value) (a : Tok) (fa : List Nat) (cb : List Value) (b : Tok) (fb : List Nat) (w : World) (ha : wtToken a ≤ 1048576) (hb : wtToken b ≤ 1048576) (HA : sTok.R w ca a fa) (HB : sTok.R w cb b fb) :
    Calls Try.prog 9 #[.agg ca.toArray, .agg cb.toArray] w (PasteOf a b w) := spec_PasteTokens ca cb a b fa fb w (wtToken_hid ha) (wtToken_hid hb) HA HB
theorem impl_PasteTokens_w (ca : List Value) (a : Tok) (fa : List Nat) (cb : List Value) (b : Tok) (fb : List Nat) (w : World) (ha : wtToken a ≤ 1048576) (hb : wtToken b ≤ 1048576) (HA : sTok.R w ca a fa) (HB : sTok.R w cb b fb) :
    Calls Try.prog 8 #[.agg ca.toArray, .agg cb.toArray] w (PasteOf a b w) := impl_PasteTokens ca cb a b fa fb w (wtToken_hid ha) (wtToken_hid hb) HA HB
theorem PasteTokens_cnt (a b : Tok) : cntVToken (pasteRes a b).1 ≤ 1000 := by
  rcases h : pasteRes a b with ⟨u, ok⟩
  unfold cntVToken
  cases ok
  · rw [paste_false h]; exact Nat.zero_le _
  · obtain ⟨h1, -, -, -, -, -⟩ := paste_fact h
    have := (hid_at (tok_hidOk h1)).1
    show u.hidden.length ≤ 1000
    omega

end Go.Proofs.Ytbkmapaieillmaa

/- The law's fixed answer. -/
namespace Go.Proofs.Ytbkmapaieillmaa
open Go.RowKit

theorem small_ok {s : ByteArray} (h : s.size ≤ 1000000) : s.size ≤ maxLen := by unfold maxLen; omega
theorem line_ab (w : World) : Calls Try.prog 38 #[.string ⟨#[97, 32, 98]⟩] w fun e w' => e = .returned (.bool true) ∧ w = w' := by
  have := impl_LineValid ⟨#[97, 32, 98]⟩ w (small_ok (by decide))
  rwa [show lineOk ⟨#[97, 32, 98]⟩ = true from by decide] at this
theorem line_nl (w : World) : Calls Try.prog 38 #[.string ⟨#[10]⟩] w fun e w' => e = .returned (.bool false) ∧ w = w' := by
  have := impl_LineValid ⟨#[10]⟩ w (small_ok (by decide))
  rwa [show lineOk ⟨#[10]⟩ = false from by decide] at this
theorem alive (w : World) : Calls Try.prog 11 #[] w fun e w' => e = .returned (.bool true) ∧ w = w' := by
  go_enter Try.func11, Try.ntmps11
  go_wp2_with fail
  refine (line_ab _).mono ?_
  rintro e w' ⟨rfl, rfl⟩
  go_wp2_with fail
  refine (line_nl _).mono ?_
  rintro e w' ⟨rfl, rfl⟩
  go_wp2
  go_ret
  exact ⟨rfl, rfl⟩

end Go.Proofs.Ytbkmapaieillmaa

/- An element put into a row: what the cells are. Over any program. -/
namespace Go.Proofs.Ytbkmapaieillmaa
open Go.RowKit

theorem putAll_eq (b : Nat) : ∀ (vs : List Value) (w : World) (o : Nat), putAll w b o vs = w.setCells b o vs
  | [], _, _ => rfl
  | v :: vs, w, o => putAll_eq b vs _ (o + 1)
def insAt {α : Type} (l : List α) (k : Nat) (x : α) : List α := l.take k ++ x :: l.drop k
theorem insAt_mem {α : Type} {l : List α} {k : Nat} {x y : α} (h : y ∈ insAt l k x) : y = x ∨ y ∈ l := by
  unfold insAt at h
  rcases List.mem_append.1 h with h | h
  · exact .inr (List.mem_of_mem_take h)
  · rcases List.mem_cons.1 h with h | h
    · exact .inl h
    · exact .inr (List.mem_of_mem_drop h)
theorem insAt_len {α : Type} {l : List α} {k : Nat} (x : α) : (insAt l k x).length = l.length + 1 := by
  unfold insAt
  rw [List.length_append, List.length_cons, List.length_take, List.length_drop]; omega
/-- A spare place of a row, seen as an element of it. -/
theorem row_wider {base e g n cap size : Nat} {xs : List Value} {w : World} (h : w.ownsRow base e size (.slice (some ⟨g, 0, none⟩) n cap) n xs) (hn : n + 1 ≤ cap) :
    ∃ Z, Z.length = size ∧ w.ownsRow base e size (.slice (some ⟨g, 0, none⟩) (n + 1) cap) (n + 1) (xs ++ Z) := by
  rcases h.2 with ⟨h', _⟩ | ⟨g', cap', cur, h', q2, q3, q4, q5, q6, q7⟩
  · cases h'
  · simp only [Value.slice.injEq, Option.some.injEq, Addr.mk.injEq, and_true, true_and] at h'
    obtain ⟨rfl, rfl⟩ := h'
    have hsz : (n + 1) * size ≤ cap * size := Nat.mul_le_mul_right _ hn
    have hsn : (n + 1) * size = n * size + size := Nat.succ_mul _ _
    refine ⟨(cur.toList.drop (n * size)).take size, ?_, ?_, .inr ⟨g, cap, cur, rfl, q2, q3, hn, q5, q6, ?_⟩⟩
    · rw [List.length_take, List.length_drop, Array.length_toList, q6]; omega
    · rw [List.length_append, h.1, List.length_take, List.length_drop, Array.length_toList, q6]; omega
    · rw [hsn, List.take_add, q7]
theorem setFrom_two {A D X Z : List Value} (hz : Z.length = X.length) (hy : (A ++ D ++ Z).length = A.length + X.length + D.length) : setFrom (setFrom (A ++ D ++ Z) (A.length + X.length) D) A.length X = A ++ (X ++ D) := by
  have h1 : A ++ D ++ Z = A ++ ((D ++ Z).take X.length ++ (D ++ Z).drop X.length) := by rw [List.take_append_drop, List.append_assoc]
  have ht : ((D ++ Z).take X.length).length = X.length := by rw [List.length_take, List.length_append]; omega
  have hd : ((D ++ Z).drop X.length).length = D.length := by rw [List.length_drop, List.length_append]; omega
  have h2 : A ++ D ++ Z = (A ++ (D ++ Z).take X.length) ++ ((D ++ Z).drop X.length ++ []) := by rw [h1, List.append_nil, List.append_assoc]
  have h3 : (A ++ (D ++ Z).take X.length).length = A.length + X.length := by rw [List.length_append, ht]
  rw [h2, ← h3, setFrom_app _ _ _ _ hd, List.append_nil, List.append_assoc]
  exact setFrom_app X A _ D ht
theorem setFrom_fwd {A X D Z1 Z2 : List Value} (h1 : Z1.length = X.length) (h2 : Z2.length = D.length) : setFrom (setFrom (A ++ (Z1 ++ Z2)) A.length X) (A.length + X.length) D = A ++ (X ++ D) := by
  rw [setFrom_app X A Z1 Z2 h1, ← List.append_assoc, ← List.length_append]
  have := setFrom_app D (A ++ X) Z2 [] h2
  rw [List.append_nil, List.append_nil] at this
  rw [this, List.append_assoc]

theorem heap_setCells (b : Nat) : ∀ (vs : List Value) (o : Nat) (w w' : World), w.heap = w'.heap → (w.setCells b o vs).heap = (w'.setCells b o vs).heap
  | [], _, _, _, h => h
  | v :: r, o, w, w', h => heap_setCells b r (o + 1) _ _ (by show (w.setCell _ _).heap = (w'.setCell _ _).heap; simp [World.setCell, h])
end Go.Proofs.Ytbkmapaieillmaa

/- slices.Insert of one string, into a row of the call's own: the library's contracts, laid at this program. -/
namespace Go.Proofs.Ytbkmapaieillmaa
open Go.RowKit Go.Shelf

def insLay_ren : Go.Shelf.Ren := ⟨fun | 17 => 81 | 22 => 61 | 29 => 74 | 30 => 75 | 36 => 79 | n => n, fun | 0 => 0 | 3 => 3 | 4 => 4 | 9 => 9 | 24 => 23 | n => n, fun | n => n⟩
theorem insLay : Go.Proofs.Lays2.n22 Try.prog insLay_ren := {
  mixed := by kernel_rfl
  f17 := Try.func81.trans (congrArg some (by kernel_rfl))
  f22 := Try.func61.trans (congrArg some (by kernel_rfl))
  f29 := Try.func74.trans (congrArg some (by kernel_rfl))
  f30 := Try.func75.trans (congrArg some (by kernel_rfl))
  f36 := Try.func79.trans (congrArg some (by kernel_rfl))
  t0 := Try.underlying0
  a0 := Try.isAgg0
  z0 := Try.sizeOf0
  v0 := Try.zeroValue0
  t3 := Try.underlying3
  a3 := Try.isAgg3
  z3 := Try.sizeOf3
  v3 := Try.zeroValue3
  t4 := Try.underlying4
  a4 := Try.isAgg4
  z4 := Try.sizeOf4
  v4 := Try.zeroValue4
  t9 := Try.underlying9
  a9 := Try.isAgg9
  z9 := Try.sizeOf9
  v9 := Try.zeroValue9
  t24 := Try.underlying23
  a24 := Try.isAgg23
  z24 := Try.sizeOf23
  v24 := Try.zeroValue23
  i9 := by kernel_rfl }

/-- What Insert of one string leaves. -/
def InsPostS (base k : Nat) (v : Value) (l : List ByteArray) (x : ByteArray) (w : World) (e : Ending) (w' : World) : Prop :=
  ∃ v', e = .returned v' ∧ w'.ownsRow base 9 1 v' (l.take k ++ x :: l.drop k).length ((l.take k ++ x :: l.drop k).map Value.string) ∧ w.grownBy w' v.ownBlock
theorem rowS_facts {base g n c : Nat} {xs : List Value} {w : World} (h : w.ownsRow base 9 1 (.slice (some ⟨g, 0, none⟩) n c) n xs) :
    ∃ cur : Array Value, w.heap[g]? = some (.cells cur 9 (0, 0)) ∧ base ≤ g ∧ n ≤ c ∧ c ≤ maxLen ∧ cur.size = c ∧ cur.toList.take n = xs := by
  rcases h.2 with ⟨h', _⟩ | ⟨g', cap', cur, h', q2, q3, q4, q5, q6, q7⟩
  · cases h'
  · simp only [Value.slice.injEq, Option.some.injEq, Addr.mk.injEq, and_true, true_and] at h'
    obtain ⟨rfl, rfl⟩ := h'
    exact ⟨cur, q3, q2, q4, q5, by simpa using q6, by simpa using q7⟩
theorem new_at (w : World) (arr : Array Value) (T : TypeId) : (w.alloc (.cells arr T)).heap[w.heap.size]? = some (.cells arr T (0, 0)) := by show (w.heap.push _)[_]? = _; simp
theorem kept_grown {g : Nat} {w w' : World} (hK : Kept [g] w w') : w.grownBy w' (some g) :=
  ⟨hK.os, hK.tape, hK.output, hK.size, fun b hb hn => hK.block b hb (by simp; intro e; exact hn (by rw [e]))⟩
theorem one_str (l : List ByteArray) : ∀ u ∈ l.map Value.string, u.oneCell' = true := fun u hu => by
  obtain ⟨s, _, rfl⟩ := List.mem_map.1 hu; rfl

set_option maxHeartbeats 4000000 in
theorem lib_InsertS (base vb : Nat) (v : Value) (l : List ByteArray) (x : ByteArray) (k : Nat) (w : World) (hn : l.length ≤ 1000000) (hk : k ≤ l.length) (H : w.ownsRow base 9 1 v l.length (l.map Value.string))
    (hvb : w.heap[vb]? = some (.cells #[.string x] 9 (0, 0))) (hne : v.ownBlock ≠ some vb) (hbase : base ≤ w.heap.size) :
    Calls Try.prog 61 #[v, .int .i64 k, .slice (some ⟨vb, 0, none⟩) 1 1] w (InsPostS base k v l x w) := by
  have hvs : ∀ j u, ([Value.string x] : List Value)[j]? = some u → w.cell? ⟨vb, 0 + j, none⟩ = some u := fun j u hj => by rw [Nat.zero_add, cell_of_row w vb j _ _ _ hvb]; simpa using hj
  have h1v : ∀ u ∈ ([Value.string x] : List Value), u.oneCell' = true := by simp [Value.oneCell']
  have hlen : (l.take k ++ x :: l.drop k).length = l.length + 1 := by simp; omega
  have hmap : (l.take k ++ x :: l.drop k).map Value.string = (l.take k).map Value.string ++ (Value.string x :: (l.drop k).map Value.string) := by simp
  obtain ⟨cs, hcs⟩ : ∃ cs, cs = l.map Value.string := ⟨_, rfl⟩
  have hcl : cs.length = l.length := by rw [hcs]; simp
  have htk : (l.take k).map Value.string = cs.take k := by rw [hcs, List.map_take]
  have hdk : (l.drop k).map Value.string = cs.drop k := by rw [hcs, List.map_drop]
  have h1c : ∀ u ∈ cs, u.oneCell' = true := by rw [hcs]; exact one_str l
  rw [← hcs] at H
  have hg63 : ∀ c, grownCap w (l.length + 1) c 9 ≤ maxLen := fun c => grownCap_le_maxLen w (l.length + 1) c 9 (by unfold maxLen; omega)
  have hgge : ∀ c, l.length + 1 ≤ grownCap w (l.length + 1) c 9 := fun c => grownCap_ge w _ _ _
  -- a new row
  have newrow : ∀ (W : World) (G : Nat) (cur : Array Value) (rest : List Value), W.heap[w.heap.size]? = some (.cells cur 9 (0, 0)) → l.length + 1 ≤ G → G ≤ maxLen → cur.size = G → cur.toList.take (l.length + 1) = (l.take k ++ x :: l.drop k).map Value.string →
      W.ownsRow base 9 1 (.slice (some ⟨w.heap.size, 0, none⟩) (l.length + 1) G) (l.take k ++ x :: l.drop k).length ((l.take k ++ x :: l.drop k).map Value.string) := by
    intro W G cur _ h1 h2 h3 h4 h5
    rw [hlen]
    exact ⟨by simp; omega, .inr ⟨w.heap.size, G, cur, rfl, hbase, h1, h2, h3, by rw [h4]; omega, by rw [Nat.mul_one]; exact h5⟩⟩
  rcases H.2 with ⟨hv0, h0⟩ | ⟨g, c, cur0, hv0, q2, q3, q4, q5, q6, q7⟩
  · -- the nil slice
    subst hv0
    have hl0 : l.length = 0 := h0
    have hk0 : k = 0 := by omega
    subst hk0
    have C := Any2.slices_Insert_string_end_grow insLay (none : Option Addr) 0 0 vb 0 1 1 [] [Value.string x] w (by omega) (by omega) (by omega) (by omega) rfl rfl (fun _ => rfl) (fun a h => by cases h) hvs h1v
    simp only [show insLay_ren.t 9 = 9 from rfl] at C
    refine C.mono ?_
    rintro e w' ⟨rfl, rfl⟩
    have hl : l = [] := List.length_eq_zero_iff.1 hl0
    subst hl
    have hG : 0 + 1 ≤ grownCap w (0 + 1) 0 9 := grownCap_ge w _ _ _
    have hG2 : grownCap w (0 + 1) 0 9 ≤ maxLen := grownCap_le_maxLen w (0 + 1) 0 9 (by unfold maxLen; omega)
    generalize grownCap w (0 + 1) 0 9 = G at *
    refine ⟨_, rfl, newrow _ _ _ [] (new_at w.drew _ _) hG hG2 (by simp [Builtin.zeroCells, Value.cells]; omega) (by simp), ?_⟩
    have hK : Kept [] w (w.drew.alloc (.cells (([] ++ [Value.string x]).toArray ++ Builtin.zeroCells (Value.string ⟨#[]⟩).cells (G - (0 + 1))) 9)) :=
      (Kept.of_below (belowN (Below.refl _ _) 1)).trans (Kept.of_below (alloc_below' _ _))
    exact ⟨hK.os, hK.tape, hK.output, hK.size, fun b hb hn => hK.block b hb (by simp)⟩
  · subst hv0
    have hown : (Value.slice (some ⟨g, 0, none⟩) l.length c).ownBlock = some g := rfl
    have hne' : vb ≠ g := fun e => hne (by rw [e]; rfl)
    have hgl : g < w.heap.size := (Array.getElem?_eq_some_iff.1 q3).1
    have q6' : cur0.size = c := by simpa using q6
    have q7' : cur0.toList.take l.length = cs := by simpa using q7
    have hcell : ∀ j u, cs[j]? = some u → w.cell? ⟨g, 0 + j, none⟩ = some u := fun j u hj => by
      have hjl : j < cs.length := (List.getElem?_eq_some_iff.1 hj).1
      rw [Nat.zero_add, H.cellAt j (by omega)]; exact hj
    have hsome : ∀ j, j < c → (w.cell? ⟨g, 0 + j, none⟩).isSome = true := fun j hj => by
      rw [Nat.zero_add, cell_of_row w g j _ _ _ q3, Array.getElem?_eq_getElem (show j < cur0.size by omega)]; rfl
    have hfz : ∀ j, w.frozen? ⟨g, 0 + j, none⟩ = false := fun j => frozen_of_row w g _ _ _ q3
    have hc63 : c ≤ 9223372036854775807 := by unfold maxLen at q5; omega
    by_cases hroom : l.length + 1 ≤ c
    · obtain ⟨Z, hZ, hrowZ⟩ := row_wider H hroom
      by_cases hkn : k < l.length
      · have C := Any2.slices_Insert_string_shift insLay g 0 l.length c k vb 0 1 1 cs [Value.string x] w hkn (by omega) hroom hc63 hne' hcl rfl hcell (fun j hj => hsome j (by omega)) (fun j _ => hfz j) hvs h1c h1v 9 9 1 c (by simp [World.shape?, hvb]) (by simp [World.shape?, q3, q6']) (by omega) (frozen_of_row w vb 0 _ _ hvb) (frozen_of_row w vb 1 _ _ hvb)
        refine C.mono ?_
        rintro e w' ⟨rfl, rfl⟩
        have r1 := putAll_row (cs.drop k) w.drew (cs ++ Z) (0 + (k + 1)) hrowZ
        have r2 := putAll_row [Value.string x] _ _ (0 + k) r1
        rw [putAll_eq, putAll_eq] at r2
        have e1 : setFrom (setFrom (cs ++ Z) (0 + (k + 1)) (cs.drop k)) (0 + k) [Value.string x] = cs.take k ++ ([Value.string x] ++ cs.drop k) := by
          have := setFrom_two (A := cs.take k) (D := cs.drop k) (X := [Value.string x]) (Z := Z) (by rw [hZ]; rfl) (by simp [hZ]; omega)
          rw [List.take_append_drop, List.length_take, Nat.min_eq_left (by omega)] at this
          simpa using this
        rw [e1] at r2
        refine ⟨_, rfl, ?_, kept_grown ?_⟩
        · rw [hlen, hmap, htk, hdk]; exact r2
        · rw [← putAll_eq, ← putAll_eq]
          exact ((Kept.of_below (belowN (Below.refl _ _) 1)).trans (putAll_kept _ _ _)).trans (putAll_kept _ _ _)
      · have hke : k = l.length := by omega
        subst hke
        have C := Any2.slices_Insert_string_end_room insLay g 0 l.length c vb 0 1 1 [Value.string x] w (by omega) hroom hc63 rfl (fun j hj => by have := hsome (l.length + j) (by omega); rwa [Nat.zero_add] at this ⊢) (fun j _ => by have := hfz (l.length + j); rwa [Nat.zero_add] at this ⊢) hvs h1v
        refine C.mono ?_
        rintro e w' ⟨rfl, rfl⟩
        have r1 := putAll_row [Value.string x] w (cs ++ Z) (0 + l.length) hrowZ
        rw [putAll_eq] at r1
        have e1 : setFrom (cs ++ Z) (0 + l.length) [Value.string x] = cs ++ ([Value.string x] ++ []) := by
          have := setFrom_app [Value.string x] cs Z [] (by rw [hZ]; rfl)
          rw [List.append_nil, hcl] at this
          rw [Nat.zero_add]; exact this
        rw [e1] at r1
        refine ⟨_, rfl, ?_, kept_grown ?_⟩
        · rw [hlen, hmap, htk, hdk, List.take_of_length_le (by omega), List.drop_eq_nil_of_le (by omega)]; exact r1
        · rw [← putAll_eq]; exact putAll_kept _ _ _
    · have hG := hgge c
      have hG2 := hg63 c
      by_cases hkn : k < l.length
      · have C := Any2.slices_Insert_string_grow insLay g 0 l.length c k vb 0 1 1 cs [Value.string x] w hkn (by omega) q4 (by omega) (by omega) hcl rfl hcell hvs h1c h1v
        simp only [show insLay_ren.t 9 = 9 from rfl] at C
        refine C.mono ?_
        rintro e w' ⟨rfl, rfl⟩
        obtain ⟨ROW, hROW⟩ : ∃ ROW : Array Value, ROW = (cs.take k).toArray ++ Builtin.zeroCells (Value.string ⟨#[]⟩).cells (l.length + 1 - k) ++ Builtin.zeroCells (Value.string ⟨#[]⟩).cells (grownCap w (l.length + 1) c 9 - (l.length + 1)) := ⟨_, rfl⟩
        have hzc : ∀ m, (Builtin.zeroCells (Value.string ⟨#[]⟩).cells m).size = m := fun m => by simp [Builtin.zeroCells, Value.cells]
        have hRs : ROW.size = grownCap w (l.length + 1) c 9 := by rw [hROW, Array.size_append, Array.size_append, hzc, hzc]; simp; omega
        have hrow1 : (w.alloc (.cells ROW 9)).ownsRow base 9 1 (.slice (some ⟨w.heap.size, 0, none⟩) (l.length + 1) (grownCap w (l.length + 1) c 9)) (l.length + 1) (cs.take k ++ ((ROW.toList.drop k).take (l.length + 1 - k))) := by
          refine ⟨by simp [hRs]; omega, .inr ⟨w.heap.size, _, ROW, rfl, hbase, by show (w.heap.push _)[_]? = _; simp, hG, hG2, by rw [hRs]; omega, ?_⟩⟩
          have ht : ROW.toList.take k = cs.take k := by
            rw [hROW, Array.append_assoc, Array.toList_append, List.take_append_of_le_length (by simp; omega)]
            simp [List.take_take]
          rw [Nat.mul_one]
          conv => lhs; rw [show l.length + 1 = k + (l.length + 1 - k) by omega, List.take_add, ht]
        have r1 := putAll_row [Value.string x] _ _ k (by exact hrow1 : ((w.alloc (.cells ROW 9)).drew).ownsRow base 9 1 _ _ _)
        have r2 := putAll_row (cs.drop k) _ _ (k + 1) (by exact r1 : ((putAll (w.alloc (.cells ROW 9)).drew w.heap.size k [Value.string x]).drew).ownsRow base 9 1 _ _ _)
        rw [putAll_eq, putAll_eq] at r2
        have hZl : ((ROW.toList.drop k).take (l.length + 1 - k)).length = l.length + 1 - k := by simp [hRs]; omega
        have e1 : setFrom (setFrom (cs.take k ++ ((ROW.toList.drop k).take (l.length + 1 - k))) k [Value.string x]) (k + 1) (cs.drop k) = cs.take k ++ ([Value.string x] ++ cs.drop k) := by
          have h1 := List.take_append_drop 1 ((ROW.toList.drop k).take (l.length + 1 - k))
          rw [← h1]
          have := setFrom_fwd (A := cs.take k) (X := [Value.string x]) (D := cs.drop k) (Z1 := ((ROW.toList.drop k).take (l.length + 1 - k)).take 1) (Z2 := ((ROW.toList.drop k).take (l.length + 1 - k)).drop 1) (by rw [List.length_take, hZl]; simp; omega) (by rw [List.length_drop, hZl]; simp; omega)
          rw [List.length_take, Nat.min_eq_left (by omega)] at this
          simpa using this
        rw [e1] at r2
        refine ⟨_, rfl, ?_, ?_⟩
        · rw [hlen, hmap, htk, hdk]
          rw [hROW] at r2
          exact r2
        · have hK : Kept [w.heap.size] w ((((w.alloc (.cells ROW 9)).drew.setCells w.heap.size k [Value.string x]).drew).setCells w.heap.size (k + 1) (cs.drop k)) := by
            rw [← putAll_eq, ← putAll_eq]
            exact ((((Kept.of_below (alloc_below' _ _)).drewN 1).trans (putAll_kept _ _ _)).drewN 1).trans (putAll_kept _ _ _)
          rw [hROW] at hK
          exact ⟨hK.os, hK.tape, hK.output, hK.size, fun b hb _ => hK.block b hb (by simp; omega)⟩
      · have hke : k = l.length := by omega
        subst hke
        have C := Any2.slices_Insert_string_end_grow insLay (some ⟨g, 0, none⟩) l.length c vb 0 1 1 cs [Value.string x] w (by omega) q4 (by omega) (by omega) hcl rfl (fun h => by cases h) (fun a h j u hj => by
          simp only [Option.some.injEq] at h
          subst h
          rw [Addr.add_lit]; exact hcell j u hj) hvs h1v
        simp only [show insLay_ren.t 9 = 9 from rfl] at C
        refine C.mono ?_
        rintro e w' ⟨rfl, rfl⟩
        refine ⟨_, rfl, newrow _ _ _ [] (new_at w.drew _ _) hG hG2 (by simp [Builtin.zeroCells, Value.cells, hcl]; omega) ?_, ?_⟩
        · rw [hmap, htk, hdk, List.take_of_length_le (l := cs) (by omega), List.drop_eq_nil_of_le (by omega)]
          rw [Array.toList_append, List.take_append_of_le_length (by simp; omega), List.take_of_length_le (by simp; omega)]
        · have hK : Kept [] w (w.drew.alloc (.cells ((cs ++ [Value.string x]).toArray ++ Builtin.zeroCells (Value.string ⟨#[]⟩).cells (grownCap w (l.length + 1) c 9 - (l.length + 1))) 9)) :=
            (Kept.of_below (belowN (Below.refl _ _) 1)).trans (Kept.of_below (alloc_below' _ _))
          exact ⟨hK.os, hK.tape, hK.output, hK.size, fun b hb hn => hK.block b hb (by simp)⟩

end Go.Proofs.Ytbkmapaieillmaa

/- Rows of strings of the call's own: append in a drawn region taken by hand; literals; what they read as. -/
namespace Go.Proofs.Ytbkmapaieillmaa
open Go.RowKit

/-- append(row, texts...), the texts of any slice that can be read; at one operation. -/
theorem step_append_strsR {w : World} {ops : Array Oper} {o : Oper} {a : Act} {K : Act → World → Prop} {Q : Exit → Act → World → Prop} {E : Prop} (d : Nat) (hdst : o.dst = some d) (hg : o.guard = none) (s y : Operand)
    (ho : o.op = .call { callee := .builtin .append, args := #[s, y], argTypes := #[23, 23] })
    (base : Nat) (v u : Value) (L M : List ByteArray) (fp : List Nat) (hs : a.eval s = v) (hown : w.ownsRow base 9 1 v L.length (L.map Value.string)) (hy : a.eval y = u) (HM : (sSlice sStr).R w [u] M fp)
    (h63 : L.length + M.length ≤ 4000000) (hbase : base ≤ w.heap.size)
    (h : ∀ v' w', w'.ownsRow base 9 1 v' (L ++ M).length ((L ++ M).map Value.string) → w.grownBy w' v.ownBlock → K (a.put (some d) v') w') : if Region.wanted o (yielded ops a.tmps) = true then Oper.wp Try.prog o a w K Q else E := by
  have hwt : Region.wanted o (yielded ops a.tmps) = true := by simp [Region.wanted, hg]
  rw [if_pos hwt]
  rw [← hdst] at h
  obtain ⟨i, hi, hz0, hz1, hz2⟩ := info_parts ti27.2
  obtain ⟨ad, cap, rfl, hc, hm, hcell, hsz⟩ := open_strs HM
  have key : ∀ (b off : Nat), (0 < M.length → ∀ j, (hj : j < M.length) → w.cell? ⟨b, off + j, none⟩ = some (.string M[j])) → a.eval y = .slice (some ⟨b, off, none⟩) M.length cap → Oper.wp Try.prog o a w K Q := by
    intro b off hat hy'
    refine wp_append_own w s y 23 ho base 9 i _ 1 16 ti27.1 hi hz0 hz1 hz2 rfl (by decide) v L.length (L.map Value.string) hs hown ⟨b, off, none⟩ M.length cap (M.map Value.string) hy' (by simp) ?_ ?_ (by unfold maxLen; omega) (by omega) hbase fun v' w' h1 h2 _ => h v' w' ?_ h2
    · intro j x hj
      have hj' : j < M.length := by have := (List.getElem?_eq_some_iff.1 hj).1; simpa using this
      rw [Addr.add_lit, hat (by omega) j hj', ← hj]
      simp [List.getElem?_eq_getElem hj']
    · intro x hx
      obtain ⟨s, _, rfl⟩ := List.mem_map.1 hx
      rfl
    · simpa using h1
  by_cases h0 : 0 < M.length
  · obtain ⟨b, off, rfl, _, _, hc2⟩ := hcell h0
    exact key b off (fun _ j hj => hc2 j hj) hy
  · have hM : M = [] := List.length_eq_zero_iff.1 (by omega)
    subst hM
    cases ad with
    | none =>
      have hrun := run_append_nil (P := Try.prog) (w := w) base 23 o.type 9 i 1 cap ti27.1 hi v L.length _ hown
      have hK := h v w (by simpa using hown) ⟨rfl, rfl, rfl, Nat.le_refl _, fun _ _ _ => rfl⟩
      unfold Oper.wp
      simp only [List.length_nil] at hy
      simp [execOp, ho, resolve, invoke, builtin, hs, hy, hrun, Result.andThen]
      exact hK
    | some ad =>
      refine wp_append_own w s y 23 ho base 9 i _ 1 16 ti27.1 hi hz0 hz1 hz2 rfl (by decide) v L.length (L.map Value.string) hs hown ad 0 cap [] hy rfl (by simp) (by simp) (by unfold maxLen; omega) (by omega) hbase fun v' w' h1 h2 _ => h v' w' (by simpa using h1) h2
/-- A literal of one text, read. -/
theorem lit_read {w : World} {g : Nat} {s : ByteArray} (h : w.heap[g]? = some (.cells #[.string s] 9 (0, 0))) (hs : s.size ≤ maxLen) : (sSlice sStr).R w [.slice (some ⟨g, 0, none⟩) 1 1] [s] [g] := by
  refine ⟨_, _, rfl, Nat.le_refl _, by unfold maxLen; omega, .inr ⟨by simp, g, 0, fun _ => [], rfl, by simp, (Array.getElem?_eq_some_iff.1 h).1, fun i hi => ?_⟩⟩
  have hi0 : i = 0 := by simpa using hi
  subst hi0
  refine ⟨[.string s], ⟨rfl, fun j hj => ?_⟩, rfl, hs, rfl⟩
  have hj0 : j = 0 := by simp [sStr, sFlat] at hj; exact hj
  subst hj0
  exact cell_of_row _ _ 0 _ _ _ h
theorem ownsRow_lower {w : World} {base base' : Nat} {e : TypeId} {m n : Nat} {v : Value} {xs : List Value} (h : w.ownsRow base e m v n xs) (hl : base' ≤ base) : w.ownsRow base' e m v n xs := by
  refine ⟨h.1, ?_⟩
  rcases h.2 with h0 | ⟨g, cap, cur, h1, h2, h3⟩
  · exact .inl h0
  · exact .inr ⟨g, cap, cur, h1, Nat.le_trans hl h2, h3⟩
theorem row_below {w w' : World} {base : Nat} {e : TypeId} {m n : Nat} {v : Value} {xs : List Value} (h : w.ownsRow base e m v n xs) (hb : Below w.heap.size w w') : w'.ownsRow base e m v n xs :=
  ownsRow_same h fun g hg => hb.block g (h.lt g hg).2
/-- A row of names of the call's own, as a slice. -/
def NamesOf (l : List ByteArray) (w : World) (e : Ending) (w' : World) : Prop :=
  ∃ (ao : Option Addr) (c : Nat) (fp : List Nat), e = .returned (.slice ao l.length c) ∧ (sSlice sStr).R w' [.slice ao l.length c] l fp ∧ Own w' w.heap.size fp ∧ (∀ b ∈ fp, ∃ cur t fr, w'.heap[b]? = some (.cells cur t fr) ∧ t = 9) ∧ Below w.heap.size w w'
theorem names_of {l : List ByteArray} {w w' : World} {v : Value} (h : w'.ownsRow w.heap.size 9 1 v l.length (l.map Value.string)) (hs : ∀ x ∈ l, x.size ≤ maxLen) (hb : Below w.heap.size w w') : NamesOf l w (.returned v) w' := by
  obtain ⟨fp, R, O, hfp⟩ := own_flat (ok := okStr) h fun i hi => hs _ (List.getElem_mem hi)
  obtain ⟨a, cap, rfl, -⟩ := open_strs R
  refine ⟨a, cap, fp, rfl, R, O, fun b hb' => ?_, hb⟩
  have hv := hfp b hb'
  rcases h.2 with ⟨h', _⟩ | ⟨g, capg, cur, h', _, hg, _⟩
  · rw [h'] at hv; simp [Value.ownBlock] at hv
  · rw [h'] at hv
    simp only [Value.ownBlock, Option.some.injEq] at hv
    subst hv
    exact ⟨_, _, _, hg, rfl⟩

end Go.Proofs.Ytbkmapaieillmaa

/- A name put into names: of both. (Made by gen_pst4.py.) -/
namespace Go.Proofs.Ytbkmapaieillmaa
open Go.RowKit

theorem ins_ok {l : List ByteArray} {nm : ByteArray} (h : ∀ x ∈ l, x.size ≤ maxLen) (hn : nm.size ≤ maxLen) : ∀ x ∈ ins l nm, x.size ≤ maxLen := by
  induction l with
  | nil => intro x hx; rw [ins] at hx; rw [List.mem_singleton.1 hx]; exact hn
  | cons y r ih =>
    intro x hx
    rw [ins] at hx
    split at hx
    · rcases List.mem_cons.1 hx with rfl | hx
      · exact h _ (by simp)
      · exact ih (fun z hz => h z (by simp [hz])) x hx
    · split at hx
      · exact h x hx
      · rcases List.mem_cons.1 hx with rfl | hx
        · exact hn
        · exact h x hx
theorem mem_ok {l : List ByteArray} (h : ∀ i, (hi : i < l.length) → l[i].size ≤ maxLen) : ∀ x ∈ l, x.size ≤ maxLen := fun x hx => by
  obtain ⟨i, hi, rfl⟩ := List.getElem_of_mem hx; exact h i hi

set_option maxHeartbeats 4000000 in
theorem impl_withName (v : Value) (l : List ByteArray) (nm : ByteArray) (fp : List Nat) (w : World) (hu : Up l) (hl : l.length ≤ 1000000) (hnm : nm.size ≤ maxLen) (H : (sSlice sStr).R w [v] l fp) :
    Calls Try.prog 43 #[v, .string nm] w (NamesOf (ins l nm) w) := by
  obtain ⟨a0, cap0, rfl, -, -, -, hsz⟩ := open_strs H
  have HSZ := Lib.hid (ins_ok (nm := nm) (mem_ok hsz) hnm)
  have HOK := Lib.hid (mem_ok hsz)
  have HU := Lib.hid hu
  have HLE := Lib.hid (lowS_le l nm)
  clear hsz hu
  cases hs : isS l nm
  · have HI := Lib.hid (ins_no HU.out hs)
    go_enter Try.func43, Try.ntmps43
    go_wp2_with (at_builtin; refine wp_append_strsR rfl (.tmp 8) (.tmp 9) rfl w.heap.size (.slice none 0 0) (.slice a0 l.length cap0) [] l _ rfl (World.ownsRow_nil _ _ _ _) rfl H (by simp; omega) (Nat.le_refl _) ?_; intro v5 w1 hown hgrow
                 rw [List.nil_append] at hown
                 have hb1 : Below w.heap.size w w1 := (Below.refl _ _).grown hgrow (Nat.le_refl _) (fun b hb => by simp [Value.ownBlock] at hb)
                 obtain ⟨fp1, R1, O1, -⟩ := own_flat (ok := okStr) hown (fun i hi => HOK.out _ (List.getElem_mem hi))
                 have HC := Lib.hid (lib_SearchS _ l nm fp1 w1 HU.out hl R1)
                 rw [hs] at HC
                 obtain ⟨a1, cap1, rfl, -⟩ := open_strs R1
                 have HO := Lib.hid hown
                 clear hown hgrow R1 O1)
    refine HC.out.mono ?_
    rintro e w2 ⟨rfl, rfl⟩
    clear HC
    have hba := alloc_below' w2 (.cells #[.string nm] 9)
    have hne : (Value.slice a1 l.length cap1).ownBlock ≠ some w2.heap.size := fun h => by have := (HO.out.lt _ h).2; omega
    have HINS := Lib.hid (lib_InsertS w.heap.size w2.heap.size _ l nm (lowS l nm) (w2.alloc (.cells #[.string nm] 9)) hl HLE.out (row_below HO.out hba) (new_at w2 _ _) hne (by have := hb1.size; simp; omega))
    have HR := Lib.hid (row_below HO.out hba)
    have hlo : ∀ b, (Value.slice a1 l.length cap1).ownBlock = some b → w.heap.size ≤ b := fun b hb => (HO.out.lt b hb).1
    generalize lowS l nm = lo at *
    clear hs hne
    go_wp2_with fail
    refine HINS.out.mono ?_
    rintro e w3 ⟨v3, rfl, hr3, hg3⟩
    have hb3 : Below w.heap.size w w3 := (hb1.trans (hba.mono hb1.size)).grown hg3 (by have := hb1.size; simp; omega) hlo
    have HF := Lib.hid (names_of (l := ins l nm) (w := w) (by rw [HI.out]; exact hr3) HSZ.out hb3)
    clear hr3 hg3 hb3
    go_wp2
    go_ret
    exact HF.out
  · have HI := Lib.hid (ins_yes HU.out hs)
    go_enter Try.func43, Try.ntmps43
    go_wp2_with (at_builtin; refine wp_append_strsR rfl (.tmp 8) (.tmp 9) rfl w.heap.size (.slice none 0 0) (.slice a0 l.length cap0) [] l _ rfl (World.ownsRow_nil _ _ _ _) rfl H (by simp; omega) (Nat.le_refl _) ?_; intro v5 w1 hown hgrow
                 rw [List.nil_append] at hown
                 have hb1 : Below w.heap.size w w1 := (Below.refl _ _).grown hgrow (Nat.le_refl _) (fun b hb => by simp [Value.ownBlock] at hb)
                 obtain ⟨fp1, R1, O1, -⟩ := own_flat (ok := okStr) hown (fun i hi => HOK.out _ (List.getElem_mem hi))
                 have HC := Lib.hid (lib_SearchS _ l nm fp1 w1 HU.out hl R1)
                 rw [hs] at HC
                 obtain ⟨a1, cap1, rfl, -⟩ := open_strs R1
                 have HO := Lib.hid hown
                 clear hown hgrow R1 O1)
    refine HC.out.mono ?_
    rintro e w2 ⟨rfl, rfl⟩
    have HF := Lib.hid (names_of (l := ins l nm) (w := w) (by rw [HI.out]; exact HO.out) HSZ.out hb1)
    clear HC HO
    generalize lowS l nm = lo at *
    go_wp2
    go_ret
    exact HF.out

theorem row_slice {w : World} {base : Nat} {e : TypeId} {m n : Nat} {v : Value} {xs : List Value} (h : w.ownsRow base e m v n xs) : ∃ a c, v = .slice a n c := by
  rcases h.2 with ⟨rfl, h0⟩ | ⟨g, cap, cur, rfl, _⟩
  · exact ⟨none, 0, by rw [h0]⟩
  · exact ⟨_, _, rfl⟩

set_option maxHeartbeats 8000000 in
set_option maxRecDepth 100000 in
theorem spec_l9Union (va vb : Value) (a : List ByteArray) (nm : ByteArray) (fpa fpb : List Nat) (w : World) (hl : a.length ≤ 1000000) (Ha : (sSlice sStr).R w [va] a fpa) (Hb : (sSlice sStr).R w [vb] [nm] fpb) :
    Calls Try.prog 47 #[va, vb] w (NamesOf (ins a nm) w) := by
  obtain ⟨a0, cap0, rfl, -, -, -, hsz⟩ := open_strs Ha
  obtain ⟨ab, capb, rfl, hcb, hmb, hcellb, hszb⟩ := open_strs Hb
  obtain ⟨bb, offb, rfl, hbb, -, hcb2⟩ := hcellb (by simp)
  have cb0 : w.cell? ⟨bb, offb, none⟩ = some (.string nm) := hcb2 0 (by simp)
  have hnm : nm.size ≤ maxLen := hszb 0 (by simp)
  have HSZ := Lib.hid (ins_ok (nm := nm) (mem_ok hsz) hnm)
  have HOK := Lib.hid (mem_ok hsz)
  have hlit : Hid ((w.alloc (.cells #[] 9)).ownsRow w.heap.size 9 1 (.slice (some ⟨w.heap.size, 0, none⟩) 0 0) ([] : List ByteArray).length (([] : List ByteArray).map Value.string)) :=
    World.ownsRow_lit (base := w.heap.size) (e := 9) (size := 1) w #[] 0 (Nat.le_refl _) (by simp) rfl
  have hba := alloc_below' w (.cells #[] 9)
  have HA := Lib.hid ((sSlice sStr).below Ha hba)
  have hbs := hba.size
  unfold maxLen at hmb
  clear Ha Hb hsz hszb hcellb hcb2
  go_enter Try.func47, Try.ntmps47
  go_upto_region 2 with (at_builtin; refine wp_append_strsR rfl (.tmp 8) (.tmp 9) rfl w.heap.size (.slice (some ⟨w.heap.size, 0, none⟩) 0 0) (.slice a0 a.length cap0) [] a _ rfl hlit.out rfl HA.out (by simp; omega) hbs ?_; intro v5 w1 hown hgrow
                         rw [List.nil_append] at hown
                         have hb1 : Below w.heap.size w w1 := hba.grown hgrow hbs (fun b hb => by simp [Value.ownBlock] at hb; omega)
                         obtain ⟨fp1, R1, O1, -⟩ := own_flat (ok := okStr) hown (fun i hi => HOK.out _ (List.getElem_mem hi))
                         have HR1 := Lib.hid R1
                         have HU1 := Lib.hid ((sSlice sStr).lt R1)
                         obtain ⟨a1, cap1, rfl, hc1, hm1, hcell1, -⟩ := open_strs R1
                         have HO := Lib.hid hown
                         clear hown hgrow R1 O1)
  unfold maxLen at hm1
  clear hlit HA hba hbs
  go_wp2
  go_loopw [5, 6] (fun o i wr => ∃ k : Nat, k ≤ 1 ∧ i = .int .i64 k ∧ ((k = 0 ∧ o = .slice a1 a.length cap1 ∧ Below w1.heap.size w1 wr) ∨ (k = 1 ∧ wr.ownsRow w.heap.size 9 1 o (ins a nm).length ((ins a nm).map Value.string) ∧ Below w.heap.size w wr))) (fun _ i _ => 1 - (intOf i).toNat)
  case atStart => exact ⟨0, by omega, rfl, .inl ⟨rfl, rfl, Below.refl _ _⟩⟩
  case round =>
    obtain ⟨k0, hk0, rfl, ⟨rfl, rfl, hbo⟩ | ⟨rfl, HE, hbo⟩⟩ := hrel
    rotate_left
    · have HF := Lib.hid (names_of HE HSZ.out hbo)
      obtain ⟨a9, c9, rfl⟩ := row_slice HE
      clear HE
      go_wp2
      go_ret
      exact HF.out
    · go_wp2
      go_loopw [7] (fun i wi => ∃ n : Nat, n ≤ a.length ∧ i = .int .i64 n ∧ Hid (∀ j, (hj : j < a.length) → j < n → sLess a[j] nm = true) ∧ Below w1.heap.size w1 wi) (fun i _ => a.length - (intOf i).toNat)
      case atStart => exact ⟨0, by omega, rfl, fun j _ h => by omega, hbo⟩
      case round =>
        clear hbo
        obtain ⟨n, hn, rfl, HLT, hbi⟩ := hrel
        have hb1r : Below w.heap.size w wr := hb1.trans (hbi.mono hb1.size)
        have cbr : wr.cell? ⟨bb, offb, none⟩ = some (.string nm) := (hb1r.cell (p := ⟨bb, offb, none⟩) hbb).trans cb0
        have hi1 : (0 : Int) ≤ (n : Int) := by omega
        by_cases hlt : n < a.length
        · obtain ⟨b1, off1, rfl, hbl1, -, he1⟩ := hcell1 (by omega)
          have c10 : wr.cell? ⟨b1, off1 + n, none⟩ = some (.string a[n]) := (hbi.cell (p := ⟨b1, off1 + n, none⟩) hbl1).trans (he1 n hlt)
          have h0 : decide ((n : Int) < (a.length : Int)) = true := decide_eq_true (by omega)
          have h1 : decide (n < a.length) = true := decide_eq_true hlt
          have hi2 : (n : Int) < (a.length : Int) := by omega
          clear he1 hcell1
          cases hs : sLess a[n] nm
          · have hs' : Op.bytesLess a[n].toList nm.toList = false := hs
            go_wp2_with fail
            go_quiet (fail)
            have hbq0 := belowN hbi nq
            have cbq : (wr.drewN nq).cell? ⟨bb, offb, none⟩ = some (.string nm) := cbr
            have c1q : (wr.drewN nq).cell? ⟨b1, off1 + n, none⟩ = some (.string a[n]) := c10
            clear c10 cbr hb1r hbi
            generalize wr.drewN nq = wq0 at *
            have e0 : ((n : Int) == (a.length : Int)) = false := by simp; omega
            have e1 : (n == a.length) = false := by simp; omega
            cases he : (a[n].toList == nm.toList)
            · have HI := Lib.hid (ins_at nm a n hn HLT.out (fun _ => ⟨hs, he⟩))
              go_wp2_with fail
              go_quiet (fail)
              have hbq1 := belowN hbq0 nq
              have cb : (wq0.drewN nq).cell? ⟨bb, offb, none⟩ = some (.string nm) := cbq
              clear hbq0 cbq c1q hs hs' he h0 h1 e0 e1
              generalize wq0.drewN nq = wq at *
              have hbq : Below w.heap.size w wq := hb1.trans (hbq1.mono hb1.size)
              have HRq := Lib.hid ((sSlice sStr).below HR1.out hbq1)
              have HUq : Hid (∀ b ∈ fp1, b < wq.heap.size) := fun b hb => by have := HU1.out b hb; have := hbq1.size; omega
              have hbb2 : bb < wq.heap.size := by have := hbq.size; omega
              go_wp2_with fail
              obtain ⟨fa, RA, hfa⟩ := slice_take n (by omega) HRq.out
              obtain ⟨fb, RB, hfb⟩ := slice_drop n (by omega) HRq.out
              rw [show n * sStr.m = n from Nat.mul_one n] at RB
              obtain ⟨M1, HM1⟩ : ∃ M1 : List ByteArray, Hid (M1 = a.take n) := ⟨_, rfl⟩
              have HM1l : Hid (M1.length = n) := by show _ = _; rw [HM1.out, List.length_take]; omega
              have hd : Below wq.heap.size wq wq.drew := belowN (Below.refl _ _) 1
              have HRAwd : Hid ((sSlice sStr).R wq.drew [.slice (some ⟨b1, off1, none⟩) n cap1] M1 fa) := by show (sSlice sStr).R _ _ _ _; rw [HM1.out]; exact (sSlice sStr).below RA hd
              obtain ⟨sv, HSV⟩ : ∃ sv : Value, Hid (sv = .slice (if cap1 = n then (some ⟨b1, off1, none⟩) else ((some ⟨b1, off1, none⟩) : Option Addr).map (·.add n)) (a.length - n) (cap1 - n)) := ⟨_, rfl⟩
              have HRBwd : Hid ((sSlice sStr).R wq.drew [sv] (a.drop n) fb) := by show (sSlice sStr).R _ _ _ _; rw [HSV.out]; exact (sSlice sStr).below RB hd
              have HFP : Hid ((∀ b ∈ fa, b < wq.drew.heap.size) ∧ (∀ b ∈ fb, b < wq.drew.heap.size)) := ⟨fun b hb => HUq.out b (hfa b hb), fun b hb => HUq.out b (hfb b hb)⟩
              have HBwd := Lib.hid (hbq.trans (hd.mono hbq.size))
              have hsd : w.heap.size ≤ wq.drew.heap.size := HBwd.out.size
              have HCB : Hid (wq.drew.cell? ⟨bb, offb, none⟩ = some (.string nm)) := cb
              have hbb3 : bb < wq.drew.heap.size := hbb2
              have HTL : Hid ((a.take n).length = n ∧ (a.drop n).length = a.length - n) := ⟨by rw [List.length_take]; omega, List.length_drop⟩
              clear RA RB hfa hfb hd HRq HUq
              refine wp_region_noPanic ?_
              refine wp_region_held_drew (S := fun w' => w'.cell? ⟨bb, offb, none⟩ = some (.string nm)) (by kernel_rfl) (by exact HCB.out) (fun hHeld => ?_)
              generalize wq.drew = wd at *
              have hp1 : (0 : Int) ≤ (n : Int) := by omega
              have hp2 : (n : Int) ≤ (a.length : Int) := by omega
              have hp3 : n ≤ a.length := by omega
              have hp4 : n ≤ cap1 := by omega
              have hp5 : (n : Int) ≤ (cap1 : Int) := by omega
              refine takeH2 1 50 (v := ?_) rfl rfl (by kernel_rfl) (by kernel_rfl) (by kernel_rfl) (fun _ _ _ h => h) (by rfl) (by assumption) ?_ ?_
              rotate_left
              · intro w hSw; go_simp; (first | done | with_reducible rfl | rfl)
              try simp only [Act.put, List.setIfInBounds_toArray, List.set_cons_zero, List.set_cons_succ]
              refine takeH2 2 51 (v := ?_) rfl rfl (by kernel_rfl) (by kernel_rfl) (by kernel_rfl) (fun _ _ _ h => h) (by rfl) (by assumption) ?_ ?_
              rotate_left
              · intro w hSw; go_simp; (first | done | with_reducible rfl | rfl)
              try simp only [Act.put, List.setIfInBounds_toArray, List.set_cons_zero, List.set_cons_succ]
              refine takeH2 3 52 (v := .slice (some ⟨b1, off1, none⟩) n cap1) rfl rfl (by kernel_rfl) (by kernel_rfl) (by kernel_rfl) (fun _ _ _ h => h) (by rfl) (by assumption) ?_ ?_
              · intro w hSw; go_simp; (first | done | with_reducible rfl | rfl)
              try simp only [Act.put, List.setIfInBounds_toArray, List.set_cons_zero, List.set_cons_succ]
              refine takeH2 5 54 (v := ?_) rfl rfl (by kernel_rfl) (by kernel_rfl) (by kernel_rfl) (fun _ _ _ h => h) (by rfl) (by assumption) ?_ ?_
              rotate_left
              · intro w hSw; go_simp; (first | done | with_reducible rfl | rfl)
              try simp only [Act.put, List.setIfInBounds_toArray, List.set_cons_zero, List.set_cons_succ]
              refine takeH2 6 55 (v := ?_) rfl rfl (by kernel_rfl) (by kernel_rfl) (by kernel_rfl) (fun _ _ _ h => h) (by rfl) (by assumption) ?_ ?_
              rotate_left
              · intro w hSw; go_simp; (first | done | with_reducible rfl | rfl)
              try simp only [Act.put, List.setIfInBounds_toArray, List.set_cons_zero, List.set_cons_succ]
              refine takeH2 7 56 (v := ?_) rfl rfl (by kernel_rfl) (by kernel_rfl) (by kernel_rfl) (fun _ _ _ h => h) (by rfl) (by assumption) ?_ ?_
              rotate_left
              · intro w hSw; go_simp; (first | done | with_reducible rfl | rfl)
              try simp only [Act.put, List.setIfInBounds_toArray, List.set_cons_zero, List.set_cons_succ]
              refine takeH2 8 57 (v := ?_) rfl rfl (by kernel_rfl) (by kernel_rfl) (by kernel_rfl) (fun _ _ _ h => h) (by rfl) (by assumption) ?_ ?_
              rotate_left
              · intro w hSw; go_simp; (first | done | with_reducible rfl | rfl)
              try simp only [Act.put, List.setIfInBounds_toArray, List.set_cons_zero, List.set_cons_succ]
              refine takeH2 11 60 (v := ?_) rfl rfl (by kernel_rfl) (by kernel_rfl) (by kernel_rfl) (fun _ _ _ h => h) (by rfl) (by assumption) ?_ ?_
              rotate_left
              · intro w hSw; go_simp; (first | done | with_reducible rfl | rfl)
              try simp only [Act.put, List.setIfInBounds_toArray, List.set_cons_zero, List.set_cons_succ]
              refine takeH2 12 61 (v := ?_) rfl rfl (by kernel_rfl) (by kernel_rfl) (by kernel_rfl) (fun _ _ _ h => h) (by rfl) (by assumption) ?_ ?_
              rotate_left
              · intro w hSw; go_simp; (first | done | with_reducible rfl | rfl)
              try simp only [Act.put, List.setIfInBounds_toArray, List.set_cons_zero, List.set_cons_succ]
              refine takeH2 13 62 (v := sv) rfl rfl (by kernel_rfl) (by kernel_rfl) (by kernel_rfl) (fun _ _ _ h => h) (by rfl) (by assumption) ?_ ?_
              · intro w hSw; rw [HSV.out]; go_simp; (first | done | with_reducible rfl | rfl)
              try simp only [Act.put, List.setIfInBounds_toArray, List.set_cons_zero, List.set_cons_succ]
              have HCBwd := HCB
              refine wpAnyH_ready (rs := [0, 9]) (by decide +kernel) (by simp) ?_
              refine AllReadyH.cons rfl (fun K hK => ?_) (AllReadyH.cons rfl (fun K hK => ?_) AllReadyH.nil)
              · have bl := alloc_below' wd (.cells #[] 9)
                have hyx0 : wd.heap.size + 1 ≤ (wd.alloc (.cells #[] 9)).heap.size := Nat.le_of_eq (Array.size_push _).symm
                have HGx0 : Hid ((wd.alloc (.cells #[] 9)).ownsRow wd.heap.size 9 1 (.slice (some ⟨wd.heap.size, 0, none⟩) 0 0) ([] : List ByteArray).length (([] : List ByteArray).map Value.string)) := World.ownsRow_lit (base := wd.heap.size) (e := 9) (size := 1) wd #[] 0 (by omega) (by simp) rfl
                go_simp
                have HCXx0 : Hid ((wd.alloc (.cells #[] 9)).cell? ⟨bb, offb, none⟩ = some (.string nm)) := (bl.cell (p := ⟨bb, offb, none⟩) (by show bb < _; omega)).trans HCB.out
                have HRAx0 := Lib.hid ((sSlice sStr).below HRAwd.out bl)
                have HRBx0 := Lib.hid ((sSlice sStr).below HRBwd.out bl)
                have HBx0 := Lib.hid (HBwd.out.trans (bl.mono HBwd.out.size))
                refine hK.out _ _ HCXx0.out (fun hHeld => ?_)
                clear hK K bl
                try simp only [Act.put, List.setIfInBounds_toArray, List.set_cons_zero, List.set_cons_succ]
                generalize (wd.alloc (.cells #[] 9)) = x0 at *
                refine wpAnyH_ready (rs := [4, 9]) (by decide +kernel) (by simp) ?_
                refine AllReadyH.cons rfl (fun K hK => ?_) (AllReadyH.cons rfl (fun K hK => ?_) AllReadyH.nil)
                · refine step_append_strsR 53 rfl rfl (.tmp 49) (.tmp 52) rfl wd.heap.size (.slice (some ⟨wd.heap.size, 0, none⟩) 0 0) (.slice (some ⟨b1, off1, none⟩) n cap1) [] M1 fa rfl HGx0.out rfl HRAx0.out (by rw [HM1l.out]; simp; omega) (by omega) ?_
                  intro vqx1 x1 hG hgr
                  have hbw : Below wd.heap.size x0 x1 := (Below.refl wd.heap.size x0).grown hgr (by omega) (fun b hb => (HGx0.out.lt b hb).1)
                  have hyx1 := hbw.size
                  have HCXx1 := Lib.hid ((hbw.cell (p := ⟨bb, offb, none⟩) (by show bb < _; omega)).trans HCXx0.out)
                  have HRBx1 := Lib.hid ((sSlice sStr).frame (w' := x1) (fun b hb => hbw.block b (HFP.out.2 b hb)) HRBx0.out)
                  have HBx1 := Lib.hid (HBx0.out.trans (hbw.mono (by omega)))
                  rw [List.nil_append] at hG
                  have HGx1 := Lib.hid hG
                  obtain ⟨aqx1, cqx1, rfl⟩ := row_slice HGx1.out
                  refine hK.out _ _ HCXx1.out (fun hHeld => ?_)
                  clear hK K hgr hG hbw
                  try simp only [Act.put, List.setIfInBounds_toArray, List.set_cons_zero, List.set_cons_succ]
                  refine wpAnyH_ready (rs := [9]) (by decide +kernel) (by simp) ?_
                  refine AllReadyH.cons rfl (fun K hK => ?_) AllReadyH.nil
                  have bl := alloc_below' x1 (.cells #[.string nm] 9)
                  have hyx2 : x1.heap.size + 1 ≤ (x1.alloc (.cells #[.string nm] 9)).heap.size := Nat.le_of_eq (Array.size_push _).symm
                  have HLx2 := Lib.hid (new_at x1 #[.string nm] 9)
                  have HGx2 := Lib.hid (row_below HGx1.out bl)
                  go_simp
                  have HCXx2 : Hid ((x1.alloc (.cells #[.string nm] 9)).cell? ⟨bb, offb, none⟩ = some (.string nm)) := (bl.cell (p := ⟨bb, offb, none⟩) (by show bb < _; omega)).trans HCXx1.out
                  have HRBx2 := Lib.hid ((sSlice sStr).below HRBx1.out bl)
                  have HBx2 := Lib.hid (HBx1.out.trans (bl.mono HBx1.out.size))
                  refine hK.out _ _ HCXx2.out (fun hHeld => ?_)
                  clear hK K bl
                  try simp only [Act.put, List.setIfInBounds_toArray, List.set_cons_zero, List.set_cons_succ]
                  generalize (x1.alloc (.cells #[.string nm] 9)) = x2 at *
                  refine wpAnyH_ready (rs := [10]) (by decide +kernel) (by simp) ?_
                  refine AllReadyH.cons rfl (fun K hK => ?_) AllReadyH.nil
                  refine step_append_strsR 59 rfl rfl (.tmp 53) (.tmp 58) rfl wd.heap.size (.slice aqx1 M1.length cqx1) (.slice (some ⟨x1.heap.size, 0, none⟩) 1 1) M1 [nm] _ rfl HGx2.out rfl (lit_read HLx2.out hnm) (by rw [HM1l.out]; simp; omega) (by omega) ?_
                  intro vqx3 x3 hG hgr
                  have hbw : Below wd.heap.size x2 x3 := (Below.refl wd.heap.size x2).grown hgr (by omega) (fun b hb => (HGx2.out.lt b hb).1)
                  have hyx3 := hbw.size
                  have HCXx3 := Lib.hid ((hbw.cell (p := ⟨bb, offb, none⟩) (by show bb < _; omega)).trans HCXx2.out)
                  have HRBx3 := Lib.hid ((sSlice sStr).frame (w' := x3) (fun b hb => hbw.block b (HFP.out.2 b hb)) HRBx2.out)
                  have HBx3 := Lib.hid (HBx2.out.trans (hbw.mono (by omega)))
                  have HGx3 := Lib.hid hG
                  obtain ⟨aqx3, cqx3, rfl⟩ := row_slice HGx3.out
                  refine hK.out _ _ HCXx3.out (fun hHeld => ?_)
                  clear hK K hgr hG hbw
                  try simp only [Act.put, List.setIfInBounds_toArray, List.set_cons_zero, List.set_cons_succ]
                  refine wpAnyH_ready (rs := [14]) (by decide +kernel) (by simp) ?_
                  refine AllReadyH.cons rfl (fun K hK => ?_) AllReadyH.nil
                  refine step_append_strsR 63 rfl rfl (.tmp 59) (.tmp 62) rfl wd.heap.size (.slice aqx3 (M1 ++ [nm]).length cqx3) sv (M1 ++ [nm]) (a.drop n) fb rfl HGx3.out rfl HRBx3.out (by rw [List.length_append, HM1l.out, HTL.out.2]; simp; omega) (by omega) ?_
                  intro vqx4 x4 hG hgr
                  have hbw : Below wd.heap.size x3 x4 := (Below.refl wd.heap.size x3).grown hgr (by omega) (fun b hb => (HGx3.out.lt b hb).1)
                  have hyx4 := hbw.size
                  have HCXx4 := Lib.hid ((hbw.cell (p := ⟨bb, offb, none⟩) (by show bb < _; omega)).trans HCXx3.out)
                  have HBx4 := Lib.hid (HBx3.out.trans (hbw.mono (by omega)))
                  have HGx4 := Lib.hid hG
                  refine hK.out _ _ HCXx4.out (fun hHeld => ?_)
                  clear hK K hgr hG hbw
                  try simp only [Act.put, List.setIfInBounds_toArray, List.set_cons_zero, List.set_cons_succ]
                  refine takeH2 15 5 (v := ?_) rfl rfl (by kernel_rfl) (by kernel_rfl) (by kernel_rfl) (fun _ _ _ h => h) (by rfl) (by assumption) ?_ ?_
                  rotate_left
                  · intro w hSw; go_simp; (first | done | with_reducible rfl | rfl)
                  try simp only [Act.put, List.setIfInBounds_toArray, List.set_cons_zero, List.set_cons_succ]
                  refine wpAnyH_done (by kernel_rfl) ?_ _
                  refine NoPanic.normal ?_
                  clear hHeld
                  have HFN : Hid (x4.ownsRow w.heap.size 9 1 vqx4 (ins a nm).length ((ins a nm).map Value.string)) := by
                    show World.ownsRow _ _ _ _ _ _ _
                    rw [HI.out]; have := ownsRow_lower HGx4.out hsd; rw [HM1.out] at this; simpa using this
                  go_wp2
                  go_roundw
                  case rel => exact ⟨1, by omega, by go_num, .inr ⟨rfl, HFN.out, HBx4.out⟩⟩
                  case measure => simp [intOf]
                · have bl := alloc_below' x0 (.cells #[.string nm] 9)
                  have hyx5 : x0.heap.size + 1 ≤ (x0.alloc (.cells #[.string nm] 9)).heap.size := Nat.le_of_eq (Array.size_push _).symm
                  have HLx5 := Lib.hid (new_at x0 #[.string nm] 9)
                  have HGx5 := Lib.hid (row_below HGx0.out bl)
                  go_simp
                  have HCXx5 : Hid ((x0.alloc (.cells #[.string nm] 9)).cell? ⟨bb, offb, none⟩ = some (.string nm)) := (bl.cell (p := ⟨bb, offb, none⟩) (by show bb < _; omega)).trans HCXx0.out
                  have HRAx5 := Lib.hid ((sSlice sStr).below HRAx0.out bl)
                  have HRBx5 := Lib.hid ((sSlice sStr).below HRBx0.out bl)
                  have HBx5 := Lib.hid (HBx0.out.trans (bl.mono HBx0.out.size))
                  refine hK.out _ _ HCXx5.out (fun hHeld => ?_)
                  clear hK K bl
                  try simp only [Act.put, List.setIfInBounds_toArray, List.set_cons_zero, List.set_cons_succ]
                  generalize (x0.alloc (.cells #[.string nm] 9)) = x5 at *
                  refine wpAnyH_ready (rs := [4]) (by decide +kernel) (by simp) ?_
                  refine AllReadyH.cons rfl (fun K hK => ?_) AllReadyH.nil
                  refine step_append_strsR 53 rfl rfl (.tmp 49) (.tmp 52) rfl wd.heap.size (.slice (some ⟨wd.heap.size, 0, none⟩) 0 0) (.slice (some ⟨b1, off1, none⟩) n cap1) [] M1 fa rfl HGx5.out rfl HRAx5.out (by rw [HM1l.out]; simp; omega) (by omega) ?_
                  intro vqx6 x6 hG hgr
                  have hbw : Below wd.heap.size x5 x6 := (Below.refl wd.heap.size x5).grown hgr (by omega) (fun b hb => (HGx5.out.lt b hb).1)
                  have hyx6 := hbw.size
                  have HCXx6 := Lib.hid ((hbw.cell (p := ⟨bb, offb, none⟩) (by show bb < _; omega)).trans HCXx5.out)
                  have HRBx6 := Lib.hid ((sSlice sStr).frame (w' := x6) (fun b hb => hbw.block b (HFP.out.2 b hb)) HRBx5.out)
                  have HLx6 := Lib.hid ((hgr.block (x0.heap.size) (by omega) (by simp [Value.ownBlock]; omega)).trans HLx5.out)
                  have HBx6 := Lib.hid (HBx5.out.trans (hbw.mono (by omega)))
                  rw [List.nil_append] at hG
                  have HGx6 := Lib.hid hG
                  obtain ⟨aqx6, cqx6, rfl⟩ := row_slice HGx6.out
                  refine hK.out _ _ HCXx6.out (fun hHeld => ?_)
                  clear hK K hgr hG hbw
                  try simp only [Act.put, List.setIfInBounds_toArray, List.set_cons_zero, List.set_cons_succ]
                  refine wpAnyH_ready (rs := [10]) (by decide +kernel) (by simp) ?_
                  refine AllReadyH.cons rfl (fun K hK => ?_) AllReadyH.nil
                  refine step_append_strsR 59 rfl rfl (.tmp 53) (.tmp 58) rfl wd.heap.size (.slice aqx6 M1.length cqx6) (.slice (some ⟨x0.heap.size, 0, none⟩) 1 1) M1 [nm] _ rfl HGx6.out rfl (lit_read HLx6.out hnm) (by rw [HM1l.out]; simp; omega) (by omega) ?_
                  intro vqx7 x7 hG hgr
                  have hbw : Below wd.heap.size x6 x7 := (Below.refl wd.heap.size x6).grown hgr (by omega) (fun b hb => (HGx6.out.lt b hb).1)
                  have hyx7 := hbw.size
                  have HCXx7 := Lib.hid ((hbw.cell (p := ⟨bb, offb, none⟩) (by show bb < _; omega)).trans HCXx6.out)
                  have HRBx7 := Lib.hid ((sSlice sStr).frame (w' := x7) (fun b hb => hbw.block b (HFP.out.2 b hb)) HRBx6.out)
                  have HBx7 := Lib.hid (HBx6.out.trans (hbw.mono (by omega)))
                  have HGx7 := Lib.hid hG
                  obtain ⟨aqx7, cqx7, rfl⟩ := row_slice HGx7.out
                  refine hK.out _ _ HCXx7.out (fun hHeld => ?_)
                  clear hK K hgr hG hbw
                  try simp only [Act.put, List.setIfInBounds_toArray, List.set_cons_zero, List.set_cons_succ]
                  refine wpAnyH_ready (rs := [14]) (by decide +kernel) (by simp) ?_
                  refine AllReadyH.cons rfl (fun K hK => ?_) AllReadyH.nil
                  refine step_append_strsR 63 rfl rfl (.tmp 59) (.tmp 62) rfl wd.heap.size (.slice aqx7 (M1 ++ [nm]).length cqx7) sv (M1 ++ [nm]) (a.drop n) fb rfl HGx7.out rfl HRBx7.out (by rw [List.length_append, HM1l.out, HTL.out.2]; simp; omega) (by omega) ?_
                  intro vqx8 x8 hG hgr
                  have hbw : Below wd.heap.size x7 x8 := (Below.refl wd.heap.size x7).grown hgr (by omega) (fun b hb => (HGx7.out.lt b hb).1)
                  have hyx8 := hbw.size
                  have HCXx8 := Lib.hid ((hbw.cell (p := ⟨bb, offb, none⟩) (by show bb < _; omega)).trans HCXx7.out)
                  have HBx8 := Lib.hid (HBx7.out.trans (hbw.mono (by omega)))
                  have HGx8 := Lib.hid hG
                  refine hK.out _ _ HCXx8.out (fun hHeld => ?_)
                  clear hK K hgr hG hbw
                  try simp only [Act.put, List.setIfInBounds_toArray, List.set_cons_zero, List.set_cons_succ]
                  refine takeH2 15 5 (v := ?_) rfl rfl (by kernel_rfl) (by kernel_rfl) (by kernel_rfl) (fun _ _ _ h => h) (by rfl) (by assumption) ?_ ?_
                  rotate_left
                  · intro w hSw; go_simp; (first | done | with_reducible rfl | rfl)
                  try simp only [Act.put, List.setIfInBounds_toArray, List.set_cons_zero, List.set_cons_succ]
                  refine wpAnyH_done (by kernel_rfl) ?_ _
                  refine NoPanic.normal ?_
                  clear hHeld
                  have HFN : Hid (x8.ownsRow w.heap.size 9 1 vqx8 (ins a nm).length ((ins a nm).map Value.string)) := by
                    show World.ownsRow _ _ _ _ _ _ _
                    rw [HI.out]; have := ownsRow_lower HGx8.out hsd; rw [HM1.out] at this; simpa using this
                  go_wp2
                  go_roundw
                  case rel => exact ⟨1, by omega, by go_num, .inr ⟨rfl, HFN.out, HBx8.out⟩⟩
                  case measure => simp [intOf]
              · have bl := alloc_below' wd (.cells #[.string nm] 9)
                have hyx9 : wd.heap.size + 1 ≤ (wd.alloc (.cells #[.string nm] 9)).heap.size := Nat.le_of_eq (Array.size_push _).symm
                have HLx9 := Lib.hid (new_at wd #[.string nm] 9)
                go_simp
                have HCXx9 : Hid ((wd.alloc (.cells #[.string nm] 9)).cell? ⟨bb, offb, none⟩ = some (.string nm)) := (bl.cell (p := ⟨bb, offb, none⟩) (by show bb < _; omega)).trans HCB.out
                have HRAx9 := Lib.hid ((sSlice sStr).below HRAwd.out bl)
                have HRBx9 := Lib.hid ((sSlice sStr).below HRBwd.out bl)
                have HBx9 := Lib.hid (HBwd.out.trans (bl.mono HBwd.out.size))
                refine hK.out _ _ HCXx9.out (fun hHeld => ?_)
                clear hK K bl
                try simp only [Act.put, List.setIfInBounds_toArray, List.set_cons_zero, List.set_cons_succ]
                generalize (wd.alloc (.cells #[.string nm] 9)) = x9 at *
                refine wpAnyH_ready (rs := [0]) (by decide +kernel) (by simp) ?_
                refine AllReadyH.cons rfl (fun K hK => ?_) AllReadyH.nil
                have bl := alloc_below' x9 (.cells #[] 9)
                have hyx10 : x9.heap.size + 1 ≤ (x9.alloc (.cells #[] 9)).heap.size := Nat.le_of_eq (Array.size_push _).symm
                have HGx10 : Hid ((x9.alloc (.cells #[] 9)).ownsRow wd.heap.size 9 1 (.slice (some ⟨x9.heap.size, 0, none⟩) 0 0) ([] : List ByteArray).length (([] : List ByteArray).map Value.string)) := World.ownsRow_lit (base := wd.heap.size) (e := 9) (size := 1) x9 #[] 0 (by omega) (by simp) rfl
                have HLx10 := Lib.hid ((bl.block _ (by omega)).trans HLx9.out)
                go_simp
                have HCXx10 : Hid ((x9.alloc (.cells #[] 9)).cell? ⟨bb, offb, none⟩ = some (.string nm)) := (bl.cell (p := ⟨bb, offb, none⟩) (by show bb < _; omega)).trans HCXx9.out
                have HRAx10 := Lib.hid ((sSlice sStr).below HRAx9.out bl)
                have HRBx10 := Lib.hid ((sSlice sStr).below HRBx9.out bl)
                have HBx10 := Lib.hid (HBx9.out.trans (bl.mono HBx9.out.size))
                refine hK.out _ _ HCXx10.out (fun hHeld => ?_)
                clear hK K bl
                try simp only [Act.put, List.setIfInBounds_toArray, List.set_cons_zero, List.set_cons_succ]
                generalize (x9.alloc (.cells #[] 9)) = x10 at *
                refine wpAnyH_ready (rs := [4]) (by decide +kernel) (by simp) ?_
                refine AllReadyH.cons rfl (fun K hK => ?_) AllReadyH.nil
                refine step_append_strsR 53 rfl rfl (.tmp 49) (.tmp 52) rfl wd.heap.size (.slice (some ⟨x9.heap.size, 0, none⟩) 0 0) (.slice (some ⟨b1, off1, none⟩) n cap1) [] M1 fa rfl HGx10.out rfl HRAx10.out (by rw [HM1l.out]; simp; omega) (by omega) ?_
                intro vqx11 x11 hG hgr
                have hbw : Below wd.heap.size x10 x11 := (Below.refl wd.heap.size x10).grown hgr (by omega) (fun b hb => (HGx10.out.lt b hb).1)
                have hyx11 := hbw.size
                have HCXx11 := Lib.hid ((hbw.cell (p := ⟨bb, offb, none⟩) (by show bb < _; omega)).trans HCXx10.out)
                have HRBx11 := Lib.hid ((sSlice sStr).frame (w' := x11) (fun b hb => hbw.block b (HFP.out.2 b hb)) HRBx10.out)
                have HLx11 := Lib.hid ((hgr.block (wd.heap.size) (by omega) (by simp [Value.ownBlock]; omega)).trans HLx10.out)
                have HBx11 := Lib.hid (HBx10.out.trans (hbw.mono (by omega)))
                rw [List.nil_append] at hG
                have HGx11 := Lib.hid hG
                obtain ⟨aqx11, cqx11, rfl⟩ := row_slice HGx11.out
                refine hK.out _ _ HCXx11.out (fun hHeld => ?_)
                clear hK K hgr hG hbw
                try simp only [Act.put, List.setIfInBounds_toArray, List.set_cons_zero, List.set_cons_succ]
                refine wpAnyH_ready (rs := [10]) (by decide +kernel) (by simp) ?_
                refine AllReadyH.cons rfl (fun K hK => ?_) AllReadyH.nil
                refine step_append_strsR 59 rfl rfl (.tmp 53) (.tmp 58) rfl wd.heap.size (.slice aqx11 M1.length cqx11) (.slice (some ⟨wd.heap.size, 0, none⟩) 1 1) M1 [nm] _ rfl HGx11.out rfl (lit_read HLx11.out hnm) (by rw [HM1l.out]; simp; omega) (by omega) ?_
                intro vqx12 x12 hG hgr
                have hbw : Below wd.heap.size x11 x12 := (Below.refl wd.heap.size x11).grown hgr (by omega) (fun b hb => (HGx11.out.lt b hb).1)
                have hyx12 := hbw.size
                have HCXx12 := Lib.hid ((hbw.cell (p := ⟨bb, offb, none⟩) (by show bb < _; omega)).trans HCXx11.out)
                have HRBx12 := Lib.hid ((sSlice sStr).frame (w' := x12) (fun b hb => hbw.block b (HFP.out.2 b hb)) HRBx11.out)
                have HBx12 := Lib.hid (HBx11.out.trans (hbw.mono (by omega)))
                have HGx12 := Lib.hid hG
                obtain ⟨aqx12, cqx12, rfl⟩ := row_slice HGx12.out
                refine hK.out _ _ HCXx12.out (fun hHeld => ?_)
                clear hK K hgr hG hbw
                try simp only [Act.put, List.setIfInBounds_toArray, List.set_cons_zero, List.set_cons_succ]
                refine wpAnyH_ready (rs := [14]) (by decide +kernel) (by simp) ?_
                refine AllReadyH.cons rfl (fun K hK => ?_) AllReadyH.nil
                refine step_append_strsR 63 rfl rfl (.tmp 59) (.tmp 62) rfl wd.heap.size (.slice aqx12 (M1 ++ [nm]).length cqx12) sv (M1 ++ [nm]) (a.drop n) fb rfl HGx12.out rfl HRBx12.out (by rw [List.length_append, HM1l.out, HTL.out.2]; simp; omega) (by omega) ?_
                intro vqx13 x13 hG hgr
                have hbw : Below wd.heap.size x12 x13 := (Below.refl wd.heap.size x12).grown hgr (by omega) (fun b hb => (HGx12.out.lt b hb).1)
                have hyx13 := hbw.size
                have HCXx13 := Lib.hid ((hbw.cell (p := ⟨bb, offb, none⟩) (by show bb < _; omega)).trans HCXx12.out)
                have HBx13 := Lib.hid (HBx12.out.trans (hbw.mono (by omega)))
                have HGx13 := Lib.hid hG
                refine hK.out _ _ HCXx13.out (fun hHeld => ?_)
                clear hK K hgr hG hbw
                try simp only [Act.put, List.setIfInBounds_toArray, List.set_cons_zero, List.set_cons_succ]
                refine takeH2 15 5 (v := ?_) rfl rfl (by kernel_rfl) (by kernel_rfl) (by kernel_rfl) (fun _ _ _ h => h) (by rfl) (by assumption) ?_ ?_
                rotate_left
                · intro w hSw; go_simp; (first | done | with_reducible rfl | rfl)
                try simp only [Act.put, List.setIfInBounds_toArray, List.set_cons_zero, List.set_cons_succ]
                refine wpAnyH_done (by kernel_rfl) ?_ _
                refine NoPanic.normal ?_
                clear hHeld
                have HFN : Hid (x13.ownsRow w.heap.size 9 1 vqx13 (ins a nm).length ((ins a nm).map Value.string)) := by
                  show World.ownsRow _ _ _ _ _ _ _
                  rw [HI.out]; have := ownsRow_lower HGx13.out hsd; rw [HM1.out] at this; simpa using this
                go_wp2
                go_roundw
                case rel => exact ⟨1, by omega, by go_num, .inr ⟨rfl, HFN.out, HBx13.out⟩⟩
                case measure => simp [intOf]
            · have HI := Lib.hid (ins_in nm a n hlt (fun j hj h => HLT.out j hj h) he)
              go_wp2_with fail
              go_quiet (fail)
              have hbq1 := belowN hbq0 nq
              go_wp2
              go_roundw
              case rel => exact ⟨1, by omega, by go_num, .inr ⟨rfl, by rw [HI.out]; exact row_below HO.out hbq1, hb1.trans (hbq1.mono hb1.size)⟩⟩
              case measure => simp [intOf]
          · have HLT2 : Hid (∀ j, (hj : j < a.length) → j < n + 1 → sLess a[j] nm = true) := fun j hj h => by
              by_cases e : j = n
              · subst e; exact hs
              · exact HLT.out j hj (by omega)
            have hs' : Op.bytesLess a[n].toList nm.toList = true := hs
            go_wp2_with fail
            go_quiet (fail)
            go_wp2
            go_roundw
            case rel => exact ⟨n + 1, by omega, by go_num, HLT2, belowN hbi _⟩
            case measure => simp [intOf]; omega
        · have HI := Lib.hid (ins_at nm a n hn HLT.out (fun h => absurd h hlt))
          have h0 : decide ((n : Int) < (a.length : Int)) = false := decide_eq_false (by omega)
          have h1 : decide (n < a.length) = false := decide_eq_false hlt
          have e0 : ((n : Int) == (a.length : Int)) = true := by simp; omega
          have e1 : (n == a.length) = true := by simp; omega
          clear hcell1
          go_wp2_with fail
          go_quiet (fail)
          have hbq0 := belowN hbi nq
          have cbq : (wr.drewN nq).cell? ⟨bb, offb, none⟩ = some (.string nm) := cbr
          clear cbr hb1r hbi
          generalize wr.drewN nq = wq0 at *
          go_wp2_with fail
          go_quiet (fail)
          have hbq1 := belowN hbq0 nq
          have cb : (wq0.drewN nq).cell? ⟨bb, offb, none⟩ = some (.string nm) := cbq
          clear hbq0 cbq h0 h1 e0 e1
          generalize wq0.drewN nq = wq at *
          have hbq : Below w.heap.size w wq := hb1.trans (hbq1.mono hb1.size)
          have HRq := Lib.hid ((sSlice sStr).below HR1.out hbq1)
          have HUq : Hid (∀ b ∈ fp1, b < wq.heap.size) := fun b hb => by have := HU1.out b hb; have := hbq1.size; omega
          have hbb2 : bb < wq.heap.size := by have := hbq.size; omega
          go_wp2_with fail
          obtain ⟨fa, RA, hfa⟩ := slice_take n (by omega) HRq.out
          obtain ⟨fb, RB, hfb⟩ := slice_drop n (by omega) HRq.out
          rw [show n * sStr.m = n from Nat.mul_one n] at RB
          obtain ⟨M1, HM1⟩ : ∃ M1 : List ByteArray, Hid (M1 = a.take n) := ⟨_, rfl⟩
          have HM1l : Hid (M1.length = n) := by show _ = _; rw [HM1.out, List.length_take]; omega
          have hd : Below wq.heap.size wq wq.drew := belowN (Below.refl _ _) 1
          have HRAwd : Hid ((sSlice sStr).R wq.drew [.slice a1 n cap1] M1 fa) := by show (sSlice sStr).R _ _ _ _; rw [HM1.out]; exact (sSlice sStr).below RA hd
          obtain ⟨sv, HSV⟩ : ∃ sv : Value, Hid (sv = .slice (if cap1 = n then a1 else (a1 : Option Addr).map (·.add n)) (a.length - n) (cap1 - n)) := ⟨_, rfl⟩
          have HRBwd : Hid ((sSlice sStr).R wq.drew [sv] (a.drop n) fb) := by show (sSlice sStr).R _ _ _ _; rw [HSV.out]; exact (sSlice sStr).below RB hd
          have HFP : Hid ((∀ b ∈ fa, b < wq.drew.heap.size) ∧ (∀ b ∈ fb, b < wq.drew.heap.size)) := ⟨fun b hb => HUq.out b (hfa b hb), fun b hb => HUq.out b (hfb b hb)⟩
          have HBwd := Lib.hid (hbq.trans (hd.mono hbq.size))
          have hsd : w.heap.size ≤ wq.drew.heap.size := HBwd.out.size
          have HCB : Hid (wq.drew.cell? ⟨bb, offb, none⟩ = some (.string nm)) := cb
          have hbb3 : bb < wq.drew.heap.size := hbb2
          have HTL : Hid ((a.take n).length = n ∧ (a.drop n).length = a.length - n) := ⟨by rw [List.length_take]; omega, List.length_drop⟩
          clear RA RB hfa hfb hd HRq HUq
          refine wp_region_noPanic ?_
          refine wp_region_held_drew (S := fun w' => w'.cell? ⟨bb, offb, none⟩ = some (.string nm)) (by kernel_rfl) (by exact HCB.out) (fun hHeld => ?_)
          generalize wq.drew = wd at *
          have hp1 : (0 : Int) ≤ (n : Int) := by omega
          have hp2 : (n : Int) ≤ (a.length : Int) := by omega
          have hp3 : n ≤ a.length := by omega
          have hp4 : n ≤ cap1 := by omega
          have hp5 : (n : Int) ≤ (cap1 : Int) := by omega
          refine takeH2 1 50 (v := ?_) rfl rfl (by kernel_rfl) (by kernel_rfl) (by kernel_rfl) (fun _ _ _ h => h) (by rfl) (by assumption) ?_ ?_
          rotate_left
          · intro w hSw; go_simp; (first | done | with_reducible rfl | rfl)
          try simp only [Act.put, List.setIfInBounds_toArray, List.set_cons_zero, List.set_cons_succ]
          refine takeH2 2 51 (v := ?_) rfl rfl (by kernel_rfl) (by kernel_rfl) (by kernel_rfl) (fun _ _ _ h => h) (by rfl) (by assumption) ?_ ?_
          rotate_left
          · intro w hSw; go_simp; (first | done | with_reducible rfl | rfl)
          try simp only [Act.put, List.setIfInBounds_toArray, List.set_cons_zero, List.set_cons_succ]
          refine takeH2 3 52 (v := .slice a1 n cap1) rfl rfl (by kernel_rfl) (by kernel_rfl) (by kernel_rfl) (fun _ _ _ h => h) (by rfl) (by assumption) ?_ ?_
          · intro w hSw; go_simp; (first | done | with_reducible rfl | rfl)
          try simp only [Act.put, List.setIfInBounds_toArray, List.set_cons_zero, List.set_cons_succ]
          refine takeH2 5 54 (v := ?_) rfl rfl (by kernel_rfl) (by kernel_rfl) (by kernel_rfl) (fun _ _ _ h => h) (by rfl) (by assumption) ?_ ?_
          rotate_left
          · intro w hSw; go_simp; (first | done | with_reducible rfl | rfl)
          try simp only [Act.put, List.setIfInBounds_toArray, List.set_cons_zero, List.set_cons_succ]
          refine takeH2 6 55 (v := ?_) rfl rfl (by kernel_rfl) (by kernel_rfl) (by kernel_rfl) (fun _ _ _ h => h) (by rfl) (by assumption) ?_ ?_
          rotate_left
          · intro w hSw; go_simp; (first | done | with_reducible rfl | rfl)
          try simp only [Act.put, List.setIfInBounds_toArray, List.set_cons_zero, List.set_cons_succ]
          refine takeH2 7 56 (v := ?_) rfl rfl (by kernel_rfl) (by kernel_rfl) (by kernel_rfl) (fun _ _ _ h => h) (by rfl) (by assumption) ?_ ?_
          rotate_left
          · intro w hSw; go_simp; (first | done | with_reducible rfl | rfl)
          try simp only [Act.put, List.setIfInBounds_toArray, List.set_cons_zero, List.set_cons_succ]
          refine takeH2 8 57 (v := ?_) rfl rfl (by kernel_rfl) (by kernel_rfl) (by kernel_rfl) (fun _ _ _ h => h) (by rfl) (by assumption) ?_ ?_
          rotate_left
          · intro w hSw; go_simp; (first | done | with_reducible rfl | rfl)
          try simp only [Act.put, List.setIfInBounds_toArray, List.set_cons_zero, List.set_cons_succ]
          refine takeH2 11 60 (v := ?_) rfl rfl (by kernel_rfl) (by kernel_rfl) (by kernel_rfl) (fun _ _ _ h => h) (by rfl) (by assumption) ?_ ?_
          rotate_left
          · intro w hSw; go_simp; (first | done | with_reducible rfl | rfl)
          try simp only [Act.put, List.setIfInBounds_toArray, List.set_cons_zero, List.set_cons_succ]
          refine takeH2 12 61 (v := ?_) rfl rfl (by kernel_rfl) (by kernel_rfl) (by kernel_rfl) (fun _ _ _ h => h) (by rfl) (by assumption) ?_ ?_
          rotate_left
          · intro w hSw; go_simp; (first | done | with_reducible rfl | rfl)
          try simp only [Act.put, List.setIfInBounds_toArray, List.set_cons_zero, List.set_cons_succ]
          refine takeH2 13 62 (v := sv) rfl rfl (by kernel_rfl) (by kernel_rfl) (by kernel_rfl) (fun _ _ _ h => h) (by rfl) (by assumption) ?_ ?_
          · intro w hSw; rw [HSV.out]; go_simp; (first | done | with_reducible rfl | rfl)
          try simp only [Act.put, List.setIfInBounds_toArray, List.set_cons_zero, List.set_cons_succ]
          have HCBwd := HCB
          refine wpAnyH_ready (rs := [0, 9]) (by decide +kernel) (by simp) ?_
          refine AllReadyH.cons rfl (fun K hK => ?_) (AllReadyH.cons rfl (fun K hK => ?_) AllReadyH.nil)
          · have bl := alloc_below' wd (.cells #[] 9)
            have hyx0 : wd.heap.size + 1 ≤ (wd.alloc (.cells #[] 9)).heap.size := Nat.le_of_eq (Array.size_push _).symm
            have HGx0 : Hid ((wd.alloc (.cells #[] 9)).ownsRow wd.heap.size 9 1 (.slice (some ⟨wd.heap.size, 0, none⟩) 0 0) ([] : List ByteArray).length (([] : List ByteArray).map Value.string)) := World.ownsRow_lit (base := wd.heap.size) (e := 9) (size := 1) wd #[] 0 (by omega) (by simp) rfl
            go_simp
            have HCXx0 : Hid ((wd.alloc (.cells #[] 9)).cell? ⟨bb, offb, none⟩ = some (.string nm)) := (bl.cell (p := ⟨bb, offb, none⟩) (by show bb < _; omega)).trans HCB.out
            have HRAx0 := Lib.hid ((sSlice sStr).below HRAwd.out bl)
            have HRBx0 := Lib.hid ((sSlice sStr).below HRBwd.out bl)
            have HBx0 := Lib.hid (HBwd.out.trans (bl.mono HBwd.out.size))
            refine hK.out _ _ HCXx0.out (fun hHeld => ?_)
            clear hK K bl
            try simp only [Act.put, List.setIfInBounds_toArray, List.set_cons_zero, List.set_cons_succ]
            generalize (wd.alloc (.cells #[] 9)) = x0 at *
            refine wpAnyH_ready (rs := [4, 9]) (by decide +kernel) (by simp) ?_
            refine AllReadyH.cons rfl (fun K hK => ?_) (AllReadyH.cons rfl (fun K hK => ?_) AllReadyH.nil)
            · refine step_append_strsR 53 rfl rfl (.tmp 49) (.tmp 52) rfl wd.heap.size (.slice (some ⟨wd.heap.size, 0, none⟩) 0 0) (.slice a1 n cap1) [] M1 fa rfl HGx0.out rfl HRAx0.out (by rw [HM1l.out]; simp; omega) (by omega) ?_
              intro vqx1 x1 hG hgr
              have hbw : Below wd.heap.size x0 x1 := (Below.refl wd.heap.size x0).grown hgr (by omega) (fun b hb => (HGx0.out.lt b hb).1)
              have hyx1 := hbw.size
              have HCXx1 := Lib.hid ((hbw.cell (p := ⟨bb, offb, none⟩) (by show bb < _; omega)).trans HCXx0.out)
              have HRBx1 := Lib.hid ((sSlice sStr).frame (w' := x1) (fun b hb => hbw.block b (HFP.out.2 b hb)) HRBx0.out)
              have HBx1 := Lib.hid (HBx0.out.trans (hbw.mono (by omega)))
              rw [List.nil_append] at hG
              have HGx1 := Lib.hid hG
              obtain ⟨aqx1, cqx1, rfl⟩ := row_slice HGx1.out
              refine hK.out _ _ HCXx1.out (fun hHeld => ?_)
              clear hK K hgr hG hbw
              try simp only [Act.put, List.setIfInBounds_toArray, List.set_cons_zero, List.set_cons_succ]
              refine wpAnyH_ready (rs := [9]) (by decide +kernel) (by simp) ?_
              refine AllReadyH.cons rfl (fun K hK => ?_) AllReadyH.nil
              have bl := alloc_below' x1 (.cells #[.string nm] 9)
              have hyx2 : x1.heap.size + 1 ≤ (x1.alloc (.cells #[.string nm] 9)).heap.size := Nat.le_of_eq (Array.size_push _).symm
              have HLx2 := Lib.hid (new_at x1 #[.string nm] 9)
              have HGx2 := Lib.hid (row_below HGx1.out bl)
              go_simp
              have HCXx2 : Hid ((x1.alloc (.cells #[.string nm] 9)).cell? ⟨bb, offb, none⟩ = some (.string nm)) := (bl.cell (p := ⟨bb, offb, none⟩) (by show bb < _; omega)).trans HCXx1.out
              have HRBx2 := Lib.hid ((sSlice sStr).below HRBx1.out bl)
              have HBx2 := Lib.hid (HBx1.out.trans (bl.mono HBx1.out.size))
              refine hK.out _ _ HCXx2.out (fun hHeld => ?_)
              clear hK K bl
              try simp only [Act.put, List.setIfInBounds_toArray, List.set_cons_zero, List.set_cons_succ]
              generalize (x1.alloc (.cells #[.string nm] 9)) = x2 at *
              refine wpAnyH_ready (rs := [10]) (by decide +kernel) (by simp) ?_
              refine AllReadyH.cons rfl (fun K hK => ?_) AllReadyH.nil
              refine step_append_strsR 59 rfl rfl (.tmp 53) (.tmp 58) rfl wd.heap.size (.slice aqx1 M1.length cqx1) (.slice (some ⟨x1.heap.size, 0, none⟩) 1 1) M1 [nm] _ rfl HGx2.out rfl (lit_read HLx2.out hnm) (by rw [HM1l.out]; simp; omega) (by omega) ?_
              intro vqx3 x3 hG hgr
              have hbw : Below wd.heap.size x2 x3 := (Below.refl wd.heap.size x2).grown hgr (by omega) (fun b hb => (HGx2.out.lt b hb).1)
              have hyx3 := hbw.size
              have HCXx3 := Lib.hid ((hbw.cell (p := ⟨bb, offb, none⟩) (by show bb < _; omega)).trans HCXx2.out)
              have HRBx3 := Lib.hid ((sSlice sStr).frame (w' := x3) (fun b hb => hbw.block b (HFP.out.2 b hb)) HRBx2.out)
              have HBx3 := Lib.hid (HBx2.out.trans (hbw.mono (by omega)))
              have HGx3 := Lib.hid hG
              obtain ⟨aqx3, cqx3, rfl⟩ := row_slice HGx3.out
              refine hK.out _ _ HCXx3.out (fun hHeld => ?_)
              clear hK K hgr hG hbw
              try simp only [Act.put, List.setIfInBounds_toArray, List.set_cons_zero, List.set_cons_succ]
              refine wpAnyH_ready (rs := [14]) (by decide +kernel) (by simp) ?_
              refine AllReadyH.cons rfl (fun K hK => ?_) AllReadyH.nil
              refine step_append_strsR 63 rfl rfl (.tmp 59) (.tmp 62) rfl wd.heap.size (.slice aqx3 (M1 ++ [nm]).length cqx3) sv (M1 ++ [nm]) (a.drop n) fb rfl HGx3.out rfl HRBx3.out (by rw [List.length_append, HM1l.out, HTL.out.2]; simp; omega) (by omega) ?_
              intro vqx4 x4 hG hgr
              have hbw : Below wd.heap.size x3 x4 := (Below.refl wd.heap.size x3).grown hgr (by omega) (fun b hb => (HGx3.out.lt b hb).1)
              have hyx4 := hbw.size
              have HCXx4 := Lib.hid ((hbw.cell (p := ⟨bb, offb, none⟩) (by show bb < _; omega)).trans HCXx3.out)
              have HBx4 := Lib.hid (HBx3.out.trans (hbw.mono (by omega)))
              have HGx4 := Lib.hid hG
              refine hK.out _ _ HCXx4.out (fun hHeld => ?_)
              clear hK K hgr hG hbw
              try simp only [Act.put, List.setIfInBounds_toArray, List.set_cons_zero, List.set_cons_succ]
              refine takeH2 15 5 (v := ?_) rfl rfl (by kernel_rfl) (by kernel_rfl) (by kernel_rfl) (fun _ _ _ h => h) (by rfl) (by assumption) ?_ ?_
              rotate_left
              · intro w hSw; go_simp; (first | done | with_reducible rfl | rfl)
              try simp only [Act.put, List.setIfInBounds_toArray, List.set_cons_zero, List.set_cons_succ]
              refine wpAnyH_done (by kernel_rfl) ?_ _
              refine NoPanic.normal ?_
              clear hHeld
              have HFN : Hid (x4.ownsRow w.heap.size 9 1 vqx4 (ins a nm).length ((ins a nm).map Value.string)) := by
                show World.ownsRow _ _ _ _ _ _ _
                rw [HI.out]; have := ownsRow_lower HGx4.out hsd; rw [HM1.out] at this; simpa using this
              go_wp2
              go_roundw
              case rel => exact ⟨1, by omega, by go_num, .inr ⟨rfl, HFN.out, HBx4.out⟩⟩
              case measure => simp [intOf]
            · have bl := alloc_below' x0 (.cells #[.string nm] 9)
              have hyx5 : x0.heap.size + 1 ≤ (x0.alloc (.cells #[.string nm] 9)).heap.size := Nat.le_of_eq (Array.size_push _).symm
              have HLx5 := Lib.hid (new_at x0 #[.string nm] 9)
              have HGx5 := Lib.hid (row_below HGx0.out bl)
              go_simp
              have HCXx5 : Hid ((x0.alloc (.cells #[.string nm] 9)).cell? ⟨bb, offb, none⟩ = some (.string nm)) := (bl.cell (p := ⟨bb, offb, none⟩) (by show bb < _; omega)).trans HCXx0.out
              have HRAx5 := Lib.hid ((sSlice sStr).below HRAx0.out bl)
              have HRBx5 := Lib.hid ((sSlice sStr).below HRBx0.out bl)
              have HBx5 := Lib.hid (HBx0.out.trans (bl.mono HBx0.out.size))
              refine hK.out _ _ HCXx5.out (fun hHeld => ?_)
              clear hK K bl
              try simp only [Act.put, List.setIfInBounds_toArray, List.set_cons_zero, List.set_cons_succ]
              generalize (x0.alloc (.cells #[.string nm] 9)) = x5 at *
              refine wpAnyH_ready (rs := [4]) (by decide +kernel) (by simp) ?_
              refine AllReadyH.cons rfl (fun K hK => ?_) AllReadyH.nil
              refine step_append_strsR 53 rfl rfl (.tmp 49) (.tmp 52) rfl wd.heap.size (.slice (some ⟨wd.heap.size, 0, none⟩) 0 0) (.slice a1 n cap1) [] M1 fa rfl HGx5.out rfl HRAx5.out (by rw [HM1l.out]; simp; omega) (by omega) ?_
              intro vqx6 x6 hG hgr
              have hbw : Below wd.heap.size x5 x6 := (Below.refl wd.heap.size x5).grown hgr (by omega) (fun b hb => (HGx5.out.lt b hb).1)
              have hyx6 := hbw.size
              have HCXx6 := Lib.hid ((hbw.cell (p := ⟨bb, offb, none⟩) (by show bb < _; omega)).trans HCXx5.out)
              have HRBx6 := Lib.hid ((sSlice sStr).frame (w' := x6) (fun b hb => hbw.block b (HFP.out.2 b hb)) HRBx5.out)
              have HLx6 := Lib.hid ((hgr.block (x0.heap.size) (by omega) (by simp [Value.ownBlock]; omega)).trans HLx5.out)
              have HBx6 := Lib.hid (HBx5.out.trans (hbw.mono (by omega)))
              rw [List.nil_append] at hG
              have HGx6 := Lib.hid hG
              obtain ⟨aqx6, cqx6, rfl⟩ := row_slice HGx6.out
              refine hK.out _ _ HCXx6.out (fun hHeld => ?_)
              clear hK K hgr hG hbw
              try simp only [Act.put, List.setIfInBounds_toArray, List.set_cons_zero, List.set_cons_succ]
              refine wpAnyH_ready (rs := [10]) (by decide +kernel) (by simp) ?_
              refine AllReadyH.cons rfl (fun K hK => ?_) AllReadyH.nil
              refine step_append_strsR 59 rfl rfl (.tmp 53) (.tmp 58) rfl wd.heap.size (.slice aqx6 M1.length cqx6) (.slice (some ⟨x0.heap.size, 0, none⟩) 1 1) M1 [nm] _ rfl HGx6.out rfl (lit_read HLx6.out hnm) (by rw [HM1l.out]; simp; omega) (by omega) ?_
              intro vqx7 x7 hG hgr
              have hbw : Below wd.heap.size x6 x7 := (Below.refl wd.heap.size x6).grown hgr (by omega) (fun b hb => (HGx6.out.lt b hb).1)
              have hyx7 := hbw.size
              have HCXx7 := Lib.hid ((hbw.cell (p := ⟨bb, offb, none⟩) (by show bb < _; omega)).trans HCXx6.out)
              have HRBx7 := Lib.hid ((sSlice sStr).frame (w' := x7) (fun b hb => hbw.block b (HFP.out.2 b hb)) HRBx6.out)
              have HBx7 := Lib.hid (HBx6.out.trans (hbw.mono (by omega)))
              have HGx7 := Lib.hid hG
              obtain ⟨aqx7, cqx7, rfl⟩ := row_slice HGx7.out
              refine hK.out _ _ HCXx7.out (fun hHeld => ?_)
              clear hK K hgr hG hbw
              try simp only [Act.put, List.setIfInBounds_toArray, List.set_cons_zero, List.set_cons_succ]
              refine wpAnyH_ready (rs := [14]) (by decide +kernel) (by simp) ?_
              refine AllReadyH.cons rfl (fun K hK => ?_) AllReadyH.nil
              refine step_append_strsR 63 rfl rfl (.tmp 59) (.tmp 62) rfl wd.heap.size (.slice aqx7 (M1 ++ [nm]).length cqx7) sv (M1 ++ [nm]) (a.drop n) fb rfl HGx7.out rfl HRBx7.out (by rw [List.length_append, HM1l.out, HTL.out.2]; simp; omega) (by omega) ?_
              intro vqx8 x8 hG hgr
              have hbw : Below wd.heap.size x7 x8 := (Below.refl wd.heap.size x7).grown hgr (by omega) (fun b hb => (HGx7.out.lt b hb).1)
              have hyx8 := hbw.size
              have HCXx8 := Lib.hid ((hbw.cell (p := ⟨bb, offb, none⟩) (by show bb < _; omega)).trans HCXx7.out)
              have HBx8 := Lib.hid (HBx7.out.trans (hbw.mono (by omega)))
              have HGx8 := Lib.hid hG
              refine hK.out _ _ HCXx8.out (fun hHeld => ?_)
              clear hK K hgr hG hbw
              try simp only [Act.put, List.setIfInBounds_toArray, List.set_cons_zero, List.set_cons_succ]
              refine takeH2 15 5 (v := ?_) rfl rfl (by kernel_rfl) (by kernel_rfl) (by kernel_rfl) (fun _ _ _ h => h) (by rfl) (by assumption) ?_ ?_
              rotate_left
              · intro w hSw; go_simp; (first | done | with_reducible rfl | rfl)
              try simp only [Act.put, List.setIfInBounds_toArray, List.set_cons_zero, List.set_cons_succ]
              refine wpAnyH_done (by kernel_rfl) ?_ _
              refine NoPanic.normal ?_
              clear hHeld
              have HFN : Hid (x8.ownsRow w.heap.size 9 1 vqx8 (ins a nm).length ((ins a nm).map Value.string)) := by
                show World.ownsRow _ _ _ _ _ _ _
                rw [HI.out]; have := ownsRow_lower HGx8.out hsd; rw [HM1.out] at this; simpa using this
              go_wp2
              go_roundw
              case rel => exact ⟨1, by omega, by go_num, .inr ⟨rfl, HFN.out, HBx8.out⟩⟩
              case measure => simp [intOf]
          · have bl := alloc_below' wd (.cells #[.string nm] 9)
            have hyx9 : wd.heap.size + 1 ≤ (wd.alloc (.cells #[.string nm] 9)).heap.size := Nat.le_of_eq (Array.size_push _).symm
            have HLx9 := Lib.hid (new_at wd #[.string nm] 9)
            go_simp
            have HCXx9 : Hid ((wd.alloc (.cells #[.string nm] 9)).cell? ⟨bb, offb, none⟩ = some (.string nm)) := (bl.cell (p := ⟨bb, offb, none⟩) (by show bb < _; omega)).trans HCB.out
            have HRAx9 := Lib.hid ((sSlice sStr).below HRAwd.out bl)
            have HRBx9 := Lib.hid ((sSlice sStr).below HRBwd.out bl)
            have HBx9 := Lib.hid (HBwd.out.trans (bl.mono HBwd.out.size))
            refine hK.out _ _ HCXx9.out (fun hHeld => ?_)
            clear hK K bl
            try simp only [Act.put, List.setIfInBounds_toArray, List.set_cons_zero, List.set_cons_succ]
            generalize (wd.alloc (.cells #[.string nm] 9)) = x9 at *
            refine wpAnyH_ready (rs := [0]) (by decide +kernel) (by simp) ?_
            refine AllReadyH.cons rfl (fun K hK => ?_) AllReadyH.nil
            have bl := alloc_below' x9 (.cells #[] 9)
            have hyx10 : x9.heap.size + 1 ≤ (x9.alloc (.cells #[] 9)).heap.size := Nat.le_of_eq (Array.size_push _).symm
            have HGx10 : Hid ((x9.alloc (.cells #[] 9)).ownsRow wd.heap.size 9 1 (.slice (some ⟨x9.heap.size, 0, none⟩) 0 0) ([] : List ByteArray).length (([] : List ByteArray).map Value.string)) := World.ownsRow_lit (base := wd.heap.size) (e := 9) (size := 1) x9 #[] 0 (by omega) (by simp) rfl
            have HLx10 := Lib.hid ((bl.block _ (by omega)).trans HLx9.out)
            go_simp
            have HCXx10 : Hid ((x9.alloc (.cells #[] 9)).cell? ⟨bb, offb, none⟩ = some (.string nm)) := (bl.cell (p := ⟨bb, offb, none⟩) (by show bb < _; omega)).trans HCXx9.out
            have HRAx10 := Lib.hid ((sSlice sStr).below HRAx9.out bl)
            have HRBx10 := Lib.hid ((sSlice sStr).below HRBx9.out bl)
            have HBx10 := Lib.hid (HBx9.out.trans (bl.mono HBx9.out.size))
            refine hK.out _ _ HCXx10.out (fun hHeld => ?_)
            clear hK K bl
            try simp only [Act.put, List.setIfInBounds_toArray, List.set_cons_zero, List.set_cons_succ]
            generalize (x9.alloc (.cells #[] 9)) = x10 at *
            refine wpAnyH_ready (rs := [4]) (by decide +kernel) (by simp) ?_
            refine AllReadyH.cons rfl (fun K hK => ?_) AllReadyH.nil
            refine step_append_strsR 53 rfl rfl (.tmp 49) (.tmp 52) rfl wd.heap.size (.slice (some ⟨x9.heap.size, 0, none⟩) 0 0) (.slice a1 n cap1) [] M1 fa rfl HGx10.out rfl HRAx10.out (by rw [HM1l.out]; simp; omega) (by omega) ?_
            intro vqx11 x11 hG hgr
            have hbw : Below wd.heap.size x10 x11 := (Below.refl wd.heap.size x10).grown hgr (by omega) (fun b hb => (HGx10.out.lt b hb).1)
            have hyx11 := hbw.size
            have HCXx11 := Lib.hid ((hbw.cell (p := ⟨bb, offb, none⟩) (by show bb < _; omega)).trans HCXx10.out)
            have HRBx11 := Lib.hid ((sSlice sStr).frame (w' := x11) (fun b hb => hbw.block b (HFP.out.2 b hb)) HRBx10.out)
            have HLx11 := Lib.hid ((hgr.block (wd.heap.size) (by omega) (by simp [Value.ownBlock]; omega)).trans HLx10.out)
            have HBx11 := Lib.hid (HBx10.out.trans (hbw.mono (by omega)))
            rw [List.nil_append] at hG
            have HGx11 := Lib.hid hG
            obtain ⟨aqx11, cqx11, rfl⟩ := row_slice HGx11.out
            refine hK.out _ _ HCXx11.out (fun hHeld => ?_)
            clear hK K hgr hG hbw
            try simp only [Act.put, List.setIfInBounds_toArray, List.set_cons_zero, List.set_cons_succ]
            refine wpAnyH_ready (rs := [10]) (by decide +kernel) (by simp) ?_
            refine AllReadyH.cons rfl (fun K hK => ?_) AllReadyH.nil
            refine step_append_strsR 59 rfl rfl (.tmp 53) (.tmp 58) rfl wd.heap.size (.slice aqx11 M1.length cqx11) (.slice (some ⟨wd.heap.size, 0, none⟩) 1 1) M1 [nm] _ rfl HGx11.out rfl (lit_read HLx11.out hnm) (by rw [HM1l.out]; simp; omega) (by omega) ?_
            intro vqx12 x12 hG hgr
            have hbw : Below wd.heap.size x11 x12 := (Below.refl wd.heap.size x11).grown hgr (by omega) (fun b hb => (HGx11.out.lt b hb).1)
            have hyx12 := hbw.size
            have HCXx12 := Lib.hid ((hbw.cell (p := ⟨bb, offb, none⟩) (by show bb < _; omega)).trans HCXx11.out)
            have HRBx12 := Lib.hid ((sSlice sStr).frame (w' := x12) (fun b hb => hbw.block b (HFP.out.2 b hb)) HRBx11.out)
            have HBx12 := Lib.hid (HBx11.out.trans (hbw.mono (by omega)))
            have HGx12 := Lib.hid hG
            obtain ⟨aqx12, cqx12, rfl⟩ := row_slice HGx12.out
            refine hK.out _ _ HCXx12.out (fun hHeld => ?_)
            clear hK K hgr hG hbw
            try simp only [Act.put, List.setIfInBounds_toArray, List.set_cons_zero, List.set_cons_succ]
            refine wpAnyH_ready (rs := [14]) (by decide +kernel) (by simp) ?_
            refine AllReadyH.cons rfl (fun K hK => ?_) AllReadyH.nil
            refine step_append_strsR 63 rfl rfl (.tmp 59) (.tmp 62) rfl wd.heap.size (.slice aqx12 (M1 ++ [nm]).length cqx12) sv (M1 ++ [nm]) (a.drop n) fb rfl HGx12.out rfl HRBx12.out (by rw [List.length_append, HM1l.out, HTL.out.2]; simp; omega) (by omega) ?_
            intro vqx13 x13 hG hgr
            have hbw : Below wd.heap.size x12 x13 := (Below.refl wd.heap.size x12).grown hgr (by omega) (fun b hb => (HGx12.out.lt b hb).1)
            have hyx13 := hbw.size
            have HCXx13 := Lib.hid ((hbw.cell (p := ⟨bb, offb, none⟩) (by show bb < _; omega)).trans HCXx12.out)
            have HBx13 := Lib.hid (HBx12.out.trans (hbw.mono (by omega)))
            have HGx13 := Lib.hid hG
            refine hK.out _ _ HCXx13.out (fun hHeld => ?_)
            clear hK K hgr hG hbw
            try simp only [Act.put, List.setIfInBounds_toArray, List.set_cons_zero, List.set_cons_succ]
            refine takeH2 15 5 (v := ?_) rfl rfl (by kernel_rfl) (by kernel_rfl) (by kernel_rfl) (fun _ _ _ h => h) (by rfl) (by assumption) ?_ ?_
            rotate_left
            · intro w hSw; go_simp; (first | done | with_reducible rfl | rfl)
            try simp only [Act.put, List.setIfInBounds_toArray, List.set_cons_zero, List.set_cons_succ]
            refine wpAnyH_done (by kernel_rfl) ?_ _
            refine NoPanic.normal ?_
            clear hHeld
            have HFN : Hid (x13.ownsRow w.heap.size 9 1 vqx13 (ins a nm).length ((ins a nm).map Value.string)) := by
              show World.ownsRow _ _ _ _ _ _ _
              rw [HI.out]; have := ownsRow_lower HGx13.out hsd; rw [HM1.out] at this; simpa using this
            go_wp2
            go_roundw
            case rel => exact ⟨1, by omega, by go_num, .inr ⟨rfl, HFN.out, HBx13.out⟩⟩
            case measure => simp [intOf]


end Go.Proofs.Ytbkmapaieillmaa

/- HideName of both. (Made by gen_pst5.py.) -/
namespace Go.Proofs.Ytbkmapaieillmaa
open Go.RowKit

theorem of_ins {x n : ByteArray} {l : List ByteArray} (h : x ∈ ins l n) : x = n ∨ x ∈ l := by
  induction l with
  | nil => rw [ins] at h; exact .inl (List.mem_singleton.1 h)
  | cons y r ih =>
    rw [ins] at h
    split at h
    · rcases List.mem_cons.1 h with rfl | h
      · exact .inr (by simp)
      · exact (ih h).imp id fun h => List.mem_cons_of_mem _ h
    · split at h
      · exact .inr h
      · exact List.mem_cons.1 h
theorem less_flip {x n : ByteArray} (h1 : sLess x n = false) (h2 : (x.toList == n.toList) = false) : sLess n x = true := by
  rcases sLess_ways (a := x) (b := n) with ⟨h, _⟩ | ⟨_, h⟩ | ⟨_, _, h⟩
  · rw [h1] at h; exact absurd h (by simp)
  · exact h
  · have e := bytes_same h
    rw [e] at h2
    rw [bytes_beq rfl] at h2
    exact absurd h2 (by simp)
theorem ins_up {n : ByteArray} : ∀ {l : List ByteArray}, Up l → Up (ins l n)
  | [], _ => List.pairwise_singleton _ _
  | x :: r, h => by
    obtain ⟨h1, h2⟩ := List.pairwise_cons.1 h
    rw [ins]
    split
    · rename_i hx
      refine List.pairwise_cons.2 ⟨fun y hy => ?_, ins_up h2⟩
      rcases of_ins hy with rfl | hy
      · exact hx
      · exact h1 y hy
    · rename_i hx
      split
      · exact h
      · rename_i he
        have hnx : sLess n x = true := less_flip (by simpa using hx) (by simpa using he)
        refine List.pairwise_cons.2 ⟨fun y hy => ?_, h⟩
        rcases List.mem_cons.1 hy with rfl | hy
        · exact hnx
        · exact sLess_trans hnx (h1 y hy)
theorem hid1_ok {t : Tok} {n : ByteArray} (h : tokOk t = true) (hn : oneTok n 1 = true) (hl : (ins t.hidden n).length ≤ 60) : tokOk (hid1 n t) = true := by
  obtain ⟨_, h2, h3⟩ := hid_parts (tok_hidOk h)
  unfold tokOk at h ⊢
  rw [Bool.and_eq_true] at h ⊢
  refine ⟨h.1, asc_hid hl (fun x hx => ?_) (ins_up h3)⟩
  rcases of_ins hx with rfl | hx
  · exact hn
  · exact h2 x hx
theorem hid1_long {t : Tok} {n : ByteArray} (hl : 60 < (ins t.hidden n).length) : tokOk (hid1 n t) = false := by
  unfold tokOk
  rw [show hidOk (hid1 n t).hidden = false from hidOk_long hl, Bool.and_false]
theorem hide_all {l : List Tok} {n : ByteArray} (h : toksOk l = true) (hn : oneTok n 1 = true) (hl : ∀ t ∈ l, (ins t.hidden n).length ≤ 60) : toksOk (l.map (hid1 n)) = true := by
  unfold toksOk at h ⊢
  rw [Bool.and_eq_true, decide_eq_true_eq, List.all_eq_true] at h ⊢
  refine ⟨by rw [List.length_map]; exact h.1, fun u hu => ?_⟩
  obtain ⟨t, ht, rfl⟩ := List.mem_map.1 hu
  exact hid1_ok (h.2 t ht) hn (hl t ht)
theorem hide_long {l : List Tok} {n : ByteArray} {k : Nat} (hk : k < l.length) (hl : 60 < (ins l[k].hidden n).length) : toksOk (l.map (hid1 n)) = false := by
  unfold toksOk
  rw [Bool.and_eq_false_iff]
  exact .inr (List.all_eq_false.2 ⟨hid1 n l[k], List.mem_map.2 ⟨_, List.getElem_mem hk, rfl⟩, by rw [hid1_long hl]; simp⟩)
theorem hide_nil (n : ByteArray) : hideRes [] n = [] := by unfold hideRes; split <;> first | rfl | (split <;> rfl)

/-- What HideName of the model hands back; and of the program: memory of its own. -/
def RetHid (l : List Tok) (n : ByteArray) (w : World) (e : Ending) (w' : World) : Prop :=
  ∃ (v : Value) (fp : List Nat), e = .returned v ∧ (sSlice sTok).R w' [v] (hideRes l n) fp ∧ (∀ b ∈ fp, w.heap.size ≤ b) ∧ Below w.heap.size w w'
def MineHid (l : List Tok) (n : ByteArray) (w : World) (e : Ending) (w' : World) : Prop :=
  ∃ (v : Value) (fp : List Nat), e = .returned v ∧ (sSlice sTok).R w' [v] (hideRes l n) fp ∧ Own w' w.heap.size fp ∧ Below w.heap.size w w'
theorem map_take {l : List Tok} {n : ByteArray} {k : Nat} (hk : k < l.length) : (l.take (k + 1)).map (hid1 n) = (l.take k).map (hid1 n) ++ [hid1 n l[k]] := by
  rw [List.take_succ_eq_append_getElem hk, List.map_append]; rfl

theorem RowE.apT {α : Type} {S : Shape α} {base : Nat} {e : TypeId} {v : Value} {L : List (Elem α)} {w : World} (h : RowE S base e v L w) {b : Nat} (hb : ∃ cur t fr, w.heap[b]? = some (.cells cur t fr) ∧ t ≠ e) : v.ownBlock ≠ some b := by
  intro hv
  obtain ⟨cur, t, fr, h1, h2⟩ := hb
  rcases h.row.2 with ⟨rfl, _⟩ | ⟨g, cap, cur', rfl, _, hg, _⟩
  · simp [Value.ownBlock] at hv
  · simp only [Value.ownBlock, Option.some.injEq] at hv
    subst hv
    rw [h1] at hg
    simp only [Option.some.injEq, Obj.cells.injEq] at hg
    exact h2 hg.2.1
theorem own_grow5 {w w' : World} {lo : Nat} {fp : List Nat} {v : Value} (h : Own w lo fp) (hg : w.grownBy w' v.ownBlock) (hap : ∀ b ∈ fp, v.ownBlock ≠ some b) : Own w' lo fp :=
  ⟨h.1, fun b hb => by
    obtain ⟨h1, cur, e, h2⟩ := h.2 b hb
    exact ⟨h1, cur, e, (hg.block b (Array.getElem?_eq_some_iff.1 h2).1 (fun e => hap b hb e.symm)).trans h2⟩⟩
theorem flat_app1 {α : Type} (L : List (Elem α)) (x : Elem α) : (L ++ [x]).flatMap (·.fp) = L.flatMap (·.fp) ++ x.fp := by simp

set_option maxHeartbeats 8000000 in
set_option maxRecDepth 100000 in
theorem spec_HideName (v : Value) (l : List Tok) (nm : ByteArray) (fp : List Nat) (w : World) (hl : l.length ≤ 1048576) (hx : ∀ k, (hk : k < l.length) → l[k].hidden.length ≤ 2000000) (hnm : nm.size ≤ maxLen) (H : (sSlice sTok).R w [v] l fp) :
    Calls Try.prog 15 #[v, .string nm] w (RetHid l nm w) := by
  have HCP := Lib.hid (spec_l1OwnTokenList_s v l fp w hl hx H)
  clear H hx
  go_enter Try.func15, Try.ntmps15
  go_wp2_with fail
  refine HCP.out.mono ?_
  rintro e w1 ⟨v1, fp1, rfl, HL, -, -, hb1⟩
  clear HCP
  have HL1 := Lib.hid HL
  obtain ⟨a, cap, rfl, hc, hm, hrow⟩ := open_rows HL
  unfold maxLen at hm
  clear HL
  have HV : Hid (∀ W, Below w1.heap.size w1 W → Calls Try.prog 45 #[.slice a l.length cap] W (Says (toksOk l) W)) := fun W hW => spec_TokensValid _ l fp1 W ((sSlice sTok).below HL1.out hW)
  have HN : Hid (∀ W, Calls Try.prog 46 #[.string nm] W (Says (oneTok nm 1) W)) := fun W => spec_l5Name nm W hnm
  have hlit : Hid (RowE sTok w1.heap.size 25 (.slice (some ⟨w1.heap.size, 0, none⟩) 0 0) [] (w1.alloc (.cells #[] 25))) := RowE.lit [] (by simp) (by simp) (by simp) (by simp) (Nat.le_refl _) (by simp)
  have hba := alloc_below' w1 (.cells #[] 25)
  go_wp2
  go_loopw [5, 6] (fun o i wr => ∃ (k : Nat) (L : List (Elem Tok)), k ≤ l.length ∧ i = .int .i64 k ∧ Hid (RowE sTok w1.heap.size 25 o L wr) ∧ Hid (L.map (·.d) = (l.take k).map (hid1 nm)) ∧ Hid (k = 0 ∨ (toksOk l = true ∧ oneTok nm 1 = true)) ∧ Below w1.heap.size w1 wr) (fun _ i _ => l.length - (intOf i).toNat)
  case atStart => exact ⟨0, [], by omega, rfl, hlit, rfl, .inl rfl, hba⟩
  case round =>
    clear hlit hba
    obtain ⟨k, L, hk, rfl, HE, HD, HG, hb⟩ := hrel
    obtain ⟨ar, capr, rfl, -⟩ := HE.out.val
    by_cases hlt : k < l.length
    · cases hv : toksOk l
      · have HK0 : Hid (k = 0) := by rcases HG.out with h | h; exact h; rw [hv] at h; exact absurd h.1 (by simp)
        have HD0 : Hid (L.map (·.d) = []) := by show _ = _; rw [HD.out, HK0.out]; rfl
        have HYES : Hid (toksOk (L.map (·.d)) = true → hideRes l nm = L.map (·.d)) := fun _ => by rw [HD0.out, hide_bad hv]
        have HNO : Hid (toksOk (L.map (·.d)) = false → hideRes l nm = []) := fun _ => hide_bad hv
        have HVC := Lib.hid (HV.out _ hb)
        rw [hv] at HVC
        have hbq := hb1.trans (hb.mono hb1.size)
        obtain ⟨fpr, hr, hin, -⟩ := slice_of_row HE.out.row fun x hx => ⟨HE.out.len x hx, HE.out.el x hx⟩
        have HLO : Hid (∀ b ∈ fpr, w.heap.size ≤ b) := fun b hb' => by
          have h0 := hb1.size
          rcases hin b hb' with h | h
          · have := HE.out.mine b h; omega
          · obtain ⟨x, hx, hb2⟩ := List.mem_flatMap.1 h
            have := HE.out.lo x hx b hb2; omega
        clear hin
        clear HD HD0 HK0 HG HE hv
        go_wp2_with fail
        refine HVC.out.mono ?_
        rintro e w2 ⟨rfl, hb2⟩
        replace hr := (sSlice sTok).below hr hb2
        have hbW := hbq.trans (hb2.mono hbq.size)
        have HC := Lib.hid (spec_TokensValid _ _ fpr w2 hr)
        have HR := Lib.hid hr
        clear hr
        generalize L.map (·.d) = D at *
        cases hd : toksOk D
        · rw [hd] at HC
          have HF := Lib.hid (HNO.out hd)
          clear hd
          go_wp2_with (go_at_call 45; refine HC.out.mono ?_; rintro e wz ⟨rfl, hbz⟩)
          go_ret
          exact ⟨_, [], rfl, by rw [HF.out]; exact slice_empty _ _ _ _ (by simp), by simp, (hbW.trans (hbz.mono hbW.size)).alloc (by have := hbW.size; have := hbz.size; omega) _⟩
        · rw [hd] at HC
          have HF := Lib.hid (HYES.out hd)
          clear hd
          go_wp2_with (go_at_call 45; refine HC.out.mono ?_; rintro e wz ⟨rfl, hbz⟩)
          go_ret
          exact ⟨_, fpr, rfl, by rw [HF.out]; exact (sSlice sTok).below HR.out hbz, HLO.out, hbW.trans (hbz.mono hbW.size)⟩
      · cases hn : oneTok nm 1
        · have HK0 : Hid (k = 0) := by rcases HG.out with h | h; exact h; rw [hn] at h; exact absurd h.2 (by simp)
          have HD0 : Hid (L.map (·.d) = []) := by show _ = _; rw [HD.out, HK0.out]; rfl
          have HYES : Hid (toksOk (L.map (·.d)) = true → hideRes l nm = L.map (·.d)) := fun _ => by rw [HD0.out, hide_name hn]
          have HNO : Hid (toksOk (L.map (·.d)) = false → hideRes l nm = []) := fun _ => hide_name hn
          have HVC := Lib.hid (HV.out _ hb)
          rw [hv] at HVC
          rw [hn] at HN
          have hbq := hb1.trans (hb.mono hb1.size)
          obtain ⟨fpr, hr, hin, -⟩ := slice_of_row HE.out.row fun x hx => ⟨HE.out.len x hx, HE.out.el x hx⟩
          have HLO : Hid (∀ b ∈ fpr, w.heap.size ≤ b) := fun b hb' => by
            have h0 := hb1.size
            rcases hin b hb' with h | h
            · have := HE.out.mine b h; omega
            · obtain ⟨x, hx, hb2⟩ := List.mem_flatMap.1 h
              have := HE.out.lo x hx b hb2; omega
          clear hin
          clear HD HD0 HK0 HG HE hv hn
          go_wp2_with fail
          refine HVC.out.mono ?_
          rintro e w2 ⟨rfl, hb2⟩
          replace hr := (sSlice sTok).below hr hb2
          have hbq2 := hbq.trans (hb2.mono hbq.size)
          go_wp2_with (go_at_call 46; refine (HN.out _).mono ?_; rintro e w3 ⟨rfl, hb3⟩)
          replace hr := (sSlice sTok).below hr hb3
          have hbW := hbq2.trans (hb3.mono hbq2.size)
          have HC := Lib.hid (spec_TokensValid _ _ fpr w3 hr)
          have HR := Lib.hid hr
          clear hr
          generalize L.map (·.d) = D at *
          cases hd : toksOk D
          · rw [hd] at HC
            have HF := Lib.hid (HNO.out hd)
            clear hd
            go_wp2_with (go_at_call 45; refine HC.out.mono ?_; rintro e wz ⟨rfl, hbz⟩)
            go_ret
            exact ⟨_, [], rfl, by rw [HF.out]; exact slice_empty _ _ _ _ (by simp), by simp, (hbW.trans (hbz.mono hbW.size)).alloc (by have := hbW.size; have := hbz.size; omega) _⟩
          · rw [hd] at HC
            have HF := Lib.hid (HYES.out hd)
            clear hd
            go_wp2_with (go_at_call 45; refine HC.out.mono ?_; rintro e wz ⟨rfl, hbz⟩)
            go_ret
            exact ⟨_, fpr, rfl, by rw [HF.out]; exact (sSlice sTok).below HR.out hbz, HLO.out, hbW.trans (hbz.mono hbW.size)⟩
        · have HTO := Lib.hid (toksOk_facts hv).2
          have HGV : Hid (toksOk l = true ∧ oneTok nm 1 = true) := ⟨hv, hn⟩
          have HVC := Lib.hid (HV.out _ hb)
          rw [hv] at HVC
          rw [hn] at HN
          clear hv hn HG
          go_wp2_with fail
          refine HVC.out.mono ?_
          rintro e w2 ⟨rfl, hb2⟩
          have hbq2 := hb.trans (hb2.mono hb.size)
          go_wp2_with fail
          refine (HN.out _).mono ?_
          rintro e w3 ⟨rfl, hb3⟩
          replace HE := Lib.hid (HE.out.below (hb2.trans (hb3.mono hb2.size)))
          replace hb := hbq2.trans (hb3.mono hbq2.size)
          clear hb2 hb3 hbq2 HVC HV HN
          generalize w3 = wr at *
          obtain ⟨b1, off1, fps1, rfl, hb1, -, he1⟩ := hrow (by omega)
          obtain ⟨es1, hE1, hR1⟩ := he1 k hlt
          clear hrow he1
          have hR2 := sTok.below hR1 hb
          obtain ⟨hv1, rfl, okk, oks, KH⟩ := hR1
          obtain ⟨ah, ch, rfl, -⟩ := open_strs KH
          clear KH
          have hE2 := hE1.frame (hb.block b1 hb1)
          have c10 : wr.cell? ⟨b1, off1 + k * 4, none⟩ = some _ := elem_cell0 hE2 (by decide) rfl
          have c11 : wr.cell? ⟨b1, off1 + k * 4 + 1, none⟩ = some _ := elem_cell (j := 1) hE2 (by decide) rfl
          have c12 : wr.cell? ⟨b1, off1 + k * 4 + 2, none⟩ = some _ := elem_cell (j := 2) hE2 (by decide) rfl
          have c13 : wr.cell? ⟨b1, off1 + k * 4 + 3, none⟩ = some _ := elem_cell (j := 3) hE2 (by decide) rfl
          clear hE1 hE2
          have hHL := (hid_at (tok_hidOk (HTO.out k hlt))).1
          have b2a := alloc_below' wr (.cells #[.int .i64 l[k].kind, .string l[k].text, .bool l[k].spaced, .slice ah l[k].hidden.length ch] 25)
          have b2b := alloc_below' (wr.alloc (.cells #[.int .i64 l[k].kind, .string l[k].text, .bool l[k].spaced, .slice ah l[k].hidden.length ch] 25)) (.cells #[.string nm] 9)
          have b2 : Below wr.heap.size wr ((wr.alloc (.cells #[.int .i64 l[k].kind, .string l[k].text, .bool l[k].spaced, .slice ah l[k].hidden.length ch] 25)).alloc (.cells #[.string nm] 9)) := b2a.trans (b2b.mono b2a.size)
          have HX2 := Lib.hid (alloc2_blk wr #[.int .i64 l[k].kind, .string l[k].text, .bool l[k].spaced, .slice ah l[k].hidden.length ch] #[.string nm] 25 9)
          have hs2 : ((wr.alloc (.cells #[.int .i64 l[k].kind, .string l[k].text, .bool l[k].spaced, .slice ah l[k].hidden.length ch] 25)).alloc (.cells #[.string nm] 9)).heap.size = wr.heap.size + 2 := by show ((wr.heap.push _).push _).size = _; simp
          have HU := Lib.hid (spec_l9Union (.slice ah l[k].hidden.length ch) (.slice (some ⟨wr.heap.size + 1, 0, none⟩) 1 1) l[k].hidden nm _ _ _ (by omega) (tok_hid (sTok.below hR2 b2)) (lit_read HX2.out.2 hnm))
          have HB0 := Lib.hid HX2.out.1
          clear b2a b2b hR2
          go_wp2_with fail
          refine HU.out.mono ?_
          rintro e w3 ⟨ao, c, fpn, rfl, RN, ON, tyN, b3⟩
          clear HU c10 c11 c12 c13
          rw [hs2] at b3 ON
          have hb3 : Below wr.heap.size wr w3 := b2.trans (b3.mono (by omega))
          have hw3 : wr.heap.size + 2 ≤ w3.heap.size := by have := b3.size; rw [hs2] at this; exact this
          have HX3 := Lib.hid ((b3.block wr.heap.size (by omega)).trans HB0.out)
          have hloN : ∀ b ∈ fpn, wr.heap.size + 2 ≤ b := fun b hb => (ON.2 b hb).1
          have hnb : wr.heap.size ∉ fpn := fun hx => by have := hloN _ hx; omega
          have x0 := cell_of_row _ wr.heap.size 0 _ _ _ HX3.out
          have xz0 : w3.frozen? ⟨wr.heap.size, 0, none⟩ = false := frozen_of_row _ _ 0 _ _ HX3.out
          have x1 := cell_of_row _ wr.heap.size 1 _ _ _ HX3.out
          have xz1 : w3.frozen? ⟨wr.heap.size, 1, none⟩ = false := frozen_of_row _ _ 1 _ _ HX3.out
          have x2 := cell_of_row _ wr.heap.size 2 _ _ _ HX3.out
          have xz2 : w3.frozen? ⟨wr.heap.size, 2, none⟩ = false := frozen_of_row _ _ 2 _ _ HX3.out
          have x3 := cell_of_row _ wr.heap.size 3 _ _ _ HX3.out
          have xz3 : w3.frozen? ⟨wr.heap.size, 3, none⟩ = false := frozen_of_row _ _ 3 _ _ HX3.out
          obtain ⟨N, HN⟩ : ∃ N : Nat, Hid (N = (ins l[k].hidden nm).length) := ⟨(ins l[k].hidden nm).length, Lib.hid rfl⟩
          rw [show (ins l[k].hidden nm).length = N from HN.out.symm] at RN ⊢
          have hb4 : Below wr.heap.size wr (w3.setCell ⟨wr.heap.size, 3, none⟩ (.slice ao N c)) := hb3.setCell (p := ⟨wr.heap.size, 3, none⟩) (Nat.le_refl _) _
          have HX4 := Lib.hid (blk_set HX3.out 3 (.slice ao N c))
          have HRN := Lib.hid ((sSlice sStr).setB RN hnb 3 (.slice ao N c))
          have HON := Lib.hid (ON.setCell ⟨wr.heap.size, 3, none⟩ (.slice ao N c))
          have HTY : Hid (∀ b ∈ fpn, ∃ cur t fr, (w3.setCell ⟨wr.heap.size, 3, none⟩ (.slice ao N c)).heap[b]? = some (.cells cur t fr) ∧ t = 9) := fun b hb => by
            obtain ⟨cur, t, fr, q1, q2⟩ := tyN b hb
            exact ⟨cur, t, fr, blk_other q1 (fun e => hnb (by rw [← e]; exact hb)) _ _, q2⟩
          go_upto_region 8 with fail
          clear x0 x1 x2 x3 xz0 xz1 xz2 xz3 RN ON tyN HX3 HB0 hb3 b2 hs2
          generalize w3.setCell ⟨wr.heap.size, 3, none⟩ (.slice ao N c) = w4 at *
          have HE4 := Lib.hid (HE.out.below hb4)
          have x0 := cell_of_row _ wr.heap.size 0 _ _ _ HX4.out
          have x1 := cell_of_row _ wr.heap.size 1 _ _ _ HX4.out
          have x2 := cell_of_row _ wr.heap.size 2 _ _ _ HX4.out
          have x3 := cell_of_row _ wr.heap.size 3 _ _ _ HX4.out
          have HR4 : Hid (sTok.R w4 [.int .i64 l[k].kind, .string l[k].text, .bool l[k].spaced, .slice ao N c] ⟨l[k].kind, l[k].text, l[k].spaced, ins l[k].hidden nm⟩ fpn) := ⟨_, rfl, okk, oks, HRN.out⟩
          have HLO4 : Hid (∀ b ∈ fpn, w1.heap.size ≤ b) := fun b hb' => by have := hloN b hb'; have := hb.size; omega
          have HTY4 : Hid (∀ b ∈ fpn, ∃ cur t fr, w4.heap[b]? = some (.cells cur t fr) ∧ t ≠ 25) := fun b hb' => by obtain ⟨cur, t, fr, q1, q2⟩ := HTY.out b hb'; exact ⟨cur, t, fr, q1, by rw [q2]; decide⟩
          have HLl : Hid (L.length = k) := by have := congrArg List.length HD.out; simp at this; show _ = _; omega
          go_wp2_with (at_builtin; refine wp_append_tokE rfl (.tmp 35) (.tmp 37) rfl w1.heap.size (.slice ar L.length capr) L rfl HE4.out l[k].kind l[k].text l[k].spaced ao N c (ins l[k].hidden nm) fpn rfl HR4.out HLO4.out HTY4.out (by have := HLl.out; omega) (by have := hb.size; have := hb4.size; omega) ?_; intro v5 w5 hE5 hg5)
          have hb5 : Below w1.heap.size w1 w5 := (hb.trans (hb4.mono hb.size)).grown hg5 (by have := hb.size; have := hb4.size; omega) (fun b hb => (HE4.out.row.lt b hb).1)
          have HE5 := Lib.hid hE5
          have HD5 : Hid ((L ++ [(⟨[.int .i64 l[k].kind, .string l[k].text, .bool l[k].spaced, .slice ao N c], ⟨l[k].kind, l[k].text, l[k].spaced, ins l[k].hidden nm⟩, fpn⟩ : Elem Tok)]).map (·.d) = (l.take (k + 1)).map (hid1 nm)) := by
            show _ = _
            rw [List.map_append, HD.out, map_take hlt]; rfl
          go_roundw
          case rel => exact ⟨k + 1, _, by omega, by go_num, HE5, HD5, .inr (by first | exact HGV.out | exact ⟨trivial, trivial⟩ | simp), hb5⟩
          case measure => simp [intOf]; omega
    · have HD0 : Hid (L.map (·.d) = l.map (hid1 nm)) := by show _ = _; rw [HD.out, List.take_of_length_le (by omega)]
      have HYES : Hid (toksOk (L.map (·.d)) = true → hideRes l nm = L.map (·.d)) := fun h => by
        rcases HG.out with h0 | h0
        · have hl0 : l = [] := List.length_eq_zero_iff.1 (by omega)
          rw [HD0.out, hl0, hide_nil]; rfl
        · rw [HD0.out] at h ⊢; exact hide_yes h0.1 h0.2 h
      have HNO : Hid (toksOk (L.map (·.d)) = false → hideRes l nm = []) := fun h => by rw [HD0.out] at h; exact hide_no h
      have hbW := hb1.trans (hb.mono hb1.size)
      obtain ⟨fpr, hr, hin, -⟩ := slice_of_row HE.out.row fun x hx => ⟨HE.out.len x hx, HE.out.el x hx⟩
      have HLO : Hid (∀ b ∈ fpr, w.heap.size ≤ b) := fun b hb' => by
        have h0 := hb1.size
        rcases hin b hb' with h | h
        · have := HE.out.mine b h; omega
        · obtain ⟨x, hx, hb2⟩ := List.mem_flatMap.1 h
          have := HE.out.lo x hx b hb2; omega
      clear hin
      clear HD HD0 HG HE
      go_wp2_with fail
      have HC := Lib.hid (spec_TokensValid _ _ fpr _ hr)
      have HR := Lib.hid hr
      clear hr
      generalize L.map (·.d) = D at *
      cases hd : toksOk D
      · rw [hd] at HC
        have HF := Lib.hid (HNO.out hd)
        clear hd
        go_wp2_with (go_at_call 45; refine HC.out.mono ?_; rintro e wz ⟨rfl, hbz⟩)
        go_ret
        exact ⟨_, [], rfl, by rw [HF.out]; exact slice_empty _ _ _ _ (by simp), by simp, (hbW.trans (hbz.mono hbW.size)).alloc (by have := hbW.size; have := hbz.size; omega) _⟩
      · rw [hd] at HC
        have HF := Lib.hid (HYES.out hd)
        clear hd
        go_wp2_with (go_at_call 45; refine HC.out.mono ?_; rintro e wz ⟨rfl, hbz⟩)
        go_ret
        exact ⟨_, fpr, rfl, by rw [HF.out]; exact (sSlice sTok).below HR.out hbz, HLO.out, hbW.trans (hbz.mono hbW.size)⟩

set_option maxHeartbeats 8000000 in
set_option maxRecDepth 100000 in
theorem impl_HideName (v : Value) (l : List Tok) (nm : ByteArray) (fp : List Nat) (w : World) (hnm : nm.size ≤ maxLen) (H : (sSlice sTok).R w [v] l fp) :
    Calls Try.prog 14 #[v, .string nm] w (MineHid l nm w) := by
  have HV := Lib.hid (impl_TokensValid v l fp w H)
  have HN : Hid (∀ W, Calls Try.prog 39 #[.string nm, .int .i64 1] W (Says (oneTok nm 1) W)) := fun W => impl_isOneToken nm 1 W hnm
  obtain ⟨a, cap, rfl, hc, hm, hrow⟩ := open_rows H
  unfold maxLen at hm
  clear H
  cases hv : toksOk l
  · have HF := Lib.hid (hide_bad (n := nm) hv)
    rw [hv] at HV
    clear hv
    go_enter Try.func14, Try.ntmps14
    go_wp2_with (go_at_call 16; refine HV.out.mono ?_; rintro e w2 ⟨rfl, hb2⟩)
    go_ret
    exact ⟨_, [], rfl, by rw [HF.out]; exact slice_empty _ _ _ _ (by simp), Own.nil _ _, hb2⟩
  cases hn : oneTok nm 1
  · have HF := Lib.hid (hide_name (l := l) hn)
    rw [hv] at HV
    rw [hn] at HN
    clear hv hn
    go_enter Try.func14, Try.ntmps14
    go_wp2_with fail
    refine HV.out.mono ?_
    rintro e w2 ⟨rfl, hb2⟩
    go_wp2_with fail
    refine (HN.out _).mono ?_
    rintro e w3 ⟨rfl, hb3⟩
    go_wp2
    go_ret
    exact ⟨_, [], rfl, by rw [HF.out]; exact slice_empty _ _ _ _ (by simp), Own.nil _ _, hb2.trans (hb3.mono hb2.size)⟩
  have HTO := Lib.hid (toksOk_facts hv).2
  have HGV : Hid (toksOk l = true ∧ oneTok nm 1 = true) := ⟨hv, hn⟩
  have hl60 : l.length ≤ 60 := (toksOk_facts hv).1
  rw [hv] at HV
  rw [hn] at HN
  clear hv hn
  go_enter Try.func14, Try.ntmps14
  go_wp2_with fail
  refine HV.out.mono ?_
  rintro e w2 ⟨rfl, hb2⟩
  go_wp2_with fail
  refine (HN.out _).mono ?_
  rintro e w3 ⟨rfl, hb3⟩
  have hbq := hb2.trans (hb3.mono hb2.size)
  clear HV HN hb2 hb3
  go_wp2
  go_loopw [5, 18] (fun o i wr => ∃ (k : Nat) (L : List (Elem Tok)), k ≤ l.length ∧ i = .int .i64 k ∧ Hid (RowE sTok w.heap.size 25 o L wr) ∧ Hid (L.map (·.d) = (l.take k).map (hid1 nm)) ∧ Hid (∀ j, (hj : j < l.length) → j < k → (ins l[j].hidden nm).length ≤ 60) ∧ Hid (Own wr w.heap.size (L.flatMap (·.fp))) ∧ Below w.heap.size w wr) (fun _ i _ => l.length - (intOf i).toNat)
  case atStart => exact ⟨0, [], by omega, rfl, RowE.nil _ _ _ _, rfl, fun j _ h => by omega, Own.nil _ _, hbq⟩
  case round =>
    clear hbq
    obtain ⟨k, L, hk, rfl, HE, HD, HS, HOL, hb⟩ := hrel
    obtain ⟨ar, capr, rfl, -⟩ := HE.out.val
    by_cases hlt : k < l.length
    · skip
      obtain ⟨b1, off1, fps1, rfl, hb1, -, he1⟩ := hrow (by omega)
      obtain ⟨es1, hE1, hR1⟩ := he1 k hlt
      clear hrow he1
      have hR2 := sTok.below hR1 hb
      obtain ⟨hv1, rfl, okk, oks, KH⟩ := hR1
      obtain ⟨ah, ch, rfl, -⟩ := open_strs KH
      clear KH
      have hE2 := hE1.frame (hb.block b1 hb1)
      have c10 : wr.cell? ⟨b1, off1 + k * 4, none⟩ = some _ := elem_cell0 hE2 (by decide) rfl
      have c11 : wr.cell? ⟨b1, off1 + k * 4 + 1, none⟩ = some _ := elem_cell (j := 1) hE2 (by decide) rfl
      have c12 : wr.cell? ⟨b1, off1 + k * 4 + 2, none⟩ = some _ := elem_cell (j := 2) hE2 (by decide) rfl
      have c13 : wr.cell? ⟨b1, off1 + k * 4 + 3, none⟩ = some _ := elem_cell (j := 3) hE2 (by decide) rfl
      clear hE1 hE2
      have hHL := (hid_at (tok_hidOk (HTO.out k hlt))).1
      have b2 := alloc_below' wr (.cells #[.int .i64 l[k].kind, .string l[k].text, .bool l[k].spaced, .slice ah l[k].hidden.length ch] 25)
      have hs2 : (wr.alloc (.cells #[.int .i64 l[k].kind, .string l[k].text, .bool l[k].spaced, .slice ah l[k].hidden.length ch] 25)).heap.size = wr.heap.size + 1 := Array.size_push _
      have HU := Lib.hid (impl_withName (.slice ah l[k].hidden.length ch) l[k].hidden nm _ (wr.alloc (.cells #[.int .i64 l[k].kind, .string l[k].text, .bool l[k].spaced, .slice ah l[k].hidden.length ch] 25)) (hid_parts (tok_hidOk (HTO.out k hlt))).2.2 (by omega) hnm (tok_hid (sTok.below hR2 b2)))
      have HB0 := Lib.hid (new_at wr #[.int .i64 l[k].kind, .string l[k].text, .bool l[k].spaced, .slice ah l[k].hidden.length ch] 25)
      clear hR2
      go_wp2_with fail
      refine HU.out.mono ?_
      rintro e w3 ⟨ao, c, fpn, rfl, RN, ON, tyN, b3⟩
      clear HU c10 c11 c12 c13
      rw [hs2] at b3 ON
      have hb3 : Below wr.heap.size wr w3 := b2.trans (b3.mono (by omega))
      have hw3 : wr.heap.size + 1 ≤ w3.heap.size := by have := b3.size; rw [hs2] at this; exact this
      have HX3 := Lib.hid ((b3.block wr.heap.size (by omega)).trans HB0.out)
      have hloN : ∀ b ∈ fpn, wr.heap.size + 1 ≤ b := fun b hb => (ON.2 b hb).1
      have hnb : wr.heap.size ∉ fpn := fun hx => by have := hloN _ hx; omega
      have x0 := cell_of_row _ wr.heap.size 0 _ _ _ HX3.out
      have xz0 : w3.frozen? ⟨wr.heap.size, 0, none⟩ = false := frozen_of_row _ _ 0 _ _ HX3.out
      have x1 := cell_of_row _ wr.heap.size 1 _ _ _ HX3.out
      have xz1 : w3.frozen? ⟨wr.heap.size, 1, none⟩ = false := frozen_of_row _ _ 1 _ _ HX3.out
      have x2 := cell_of_row _ wr.heap.size 2 _ _ _ HX3.out
      have xz2 : w3.frozen? ⟨wr.heap.size, 2, none⟩ = false := frozen_of_row _ _ 2 _ _ HX3.out
      have x3 := cell_of_row _ wr.heap.size 3 _ _ _ HX3.out
      have xz3 : w3.frozen? ⟨wr.heap.size, 3, none⟩ = false := frozen_of_row _ _ 3 _ _ HX3.out
      obtain ⟨N, HN⟩ : ∃ N : Nat, Hid (N = (ins l[k].hidden nm).length) := ⟨(ins l[k].hidden nm).length, Lib.hid rfl⟩
      rw [show (ins l[k].hidden nm).length = N from HN.out.symm] at RN ⊢
      have hb4 : Below wr.heap.size wr (w3.setCell ⟨wr.heap.size, 3, none⟩ (.slice ao N c)) := hb3.setCell (p := ⟨wr.heap.size, 3, none⟩) (Nat.le_refl _) _
      have HX4 := Lib.hid (blk_set HX3.out 3 (.slice ao N c))
      have HRN := Lib.hid ((sSlice sStr).setB RN hnb 3 (.slice ao N c))
      have HON := Lib.hid (ON.setCell ⟨wr.heap.size, 3, none⟩ (.slice ao N c))
      have HTY : Hid (∀ b ∈ fpn, ∃ cur t fr, (w3.setCell ⟨wr.heap.size, 3, none⟩ (.slice ao N c)).heap[b]? = some (.cells cur t fr) ∧ t = 9) := fun b hb => by
        obtain ⟨cur, t, fr, q1, q2⟩ := tyN b hb
        exact ⟨cur, t, fr, blk_other q1 (fun e => hnb (by rw [← e]; exact hb)) _ _, q2⟩
      go_upto_region 8 with fail
      clear x0 x1 x2 x3 xz0 xz1 xz2 xz3 RN ON tyN HX3 HB0 hb3 b2 hs2
      generalize w3.setCell ⟨wr.heap.size, 3, none⟩ (.slice ao N c) = w4 at *
      have HE4 := Lib.hid (HE.out.below hb4)
      have HOL4 := Lib.hid (HOL.out.grow hb4)
      have x0 := cell_of_row _ wr.heap.size 0 _ _ _ HX4.out
      have x1 := cell_of_row _ wr.heap.size 1 _ _ _ HX4.out
      have x2 := cell_of_row _ wr.heap.size 2 _ _ _ HX4.out
      have x3 := cell_of_row _ wr.heap.size 3 _ _ _ HX4.out
      by_cases h60 : 60 < N
      · have HF := Lib.hid (hide_no (hide_long hlt (by rw [← HN.out]; exact h60) : toksOk (l.map (hid1 nm)) = false))
        go_wp2
        go_ret
        exact ⟨_, [], rfl, by rw [HF.out]; exact slice_empty _ _ _ _ (by simp), Own.nil _ _, hb.trans (hb4.mono hb.size)⟩
      · have HS5 : Hid (∀ j, (hj : j < l.length) → j < k + 1 → (ins l[j].hidden nm).length ≤ 60) := fun j hj h => by
          by_cases e : j = k
          · subst e; rw [← HN.out]; omega
          · exact HS.out j hj (by omega)
        have HR4 : Hid (sTok.R w4 [.int .i64 l[k].kind, .string l[k].text, .bool l[k].spaced, .slice ao N c] ⟨l[k].kind, l[k].text, l[k].spaced, ins l[k].hidden nm⟩ fpn) := ⟨_, rfl, okk, oks, HRN.out⟩
        have HLO4 : Hid (∀ b ∈ fpn, w.heap.size ≤ b) := fun b hb' => by have := hloN b hb'; have := hb.size; omega
        have HTY4 : Hid (∀ b ∈ fpn, ∃ cur t fr, w4.heap[b]? = some (.cells cur t fr) ∧ t ≠ 25) := fun b hb' => by obtain ⟨cur, t, fr, q1, q2⟩ := HTY.out b hb'; exact ⟨cur, t, fr, q1, by rw [q2]; decide⟩
        have HLl : Hid (L.length = k) := by have := congrArg List.length HD.out; simp at this; show _ = _; omega
        go_wp2_with (at_builtin; refine wp_append_tokE rfl (.tmp 31) (.tmp 33) rfl w.heap.size (.slice ar L.length capr) L rfl HE4.out l[k].kind l[k].text l[k].spaced ao N c (ins l[k].hidden nm) fpn rfl HR4.out HLO4.out HTY4.out (by have := HLl.out; omega) (by have := hb.size; have := hb4.size; omega) ?_; intro v5 w5 hE5 hg5)
        have hb5 : Below w.heap.size w w5 := (hb.trans (hb4.mono hb.size)).grown hg5 (by have := hb.size; have := hb4.size; omega) (fun b hb => (HE4.out.row.lt b hb).1)
        have HE5 := Lib.hid hE5
        have HD5 : Hid ((L ++ [(⟨[.int .i64 l[k].kind, .string l[k].text, .bool l[k].spaced, .slice ao N c], ⟨l[k].kind, l[k].text, l[k].spaced, ins l[k].hidden nm⟩, fpn⟩ : Elem Tok)]).map (·.d) = (l.take (k + 1)).map (hid1 nm)) := by
          show _ = _
          rw [List.map_append, HD.out, map_take hlt]; rfl
        have HO5 : Hid (Own w5 w.heap.size ((L ++ [(⟨[.int .i64 l[k].kind, .string l[k].text, .bool l[k].spaced, .slice ao N c], ⟨l[k].kind, l[k].text, l[k].spaced, ins l[k].hidden nm⟩, fpn⟩ : Elem Tok)]).flatMap (·.fp))) := by
          show Own _ _ _
          rw [flat_app1]
          refine Own.app (own_grow5 HOL4.out hg5 fun b hb' => ?_) (own_grow5 (HON.out.lower (by have := hb.size; omega)) hg5 fun b hb' => RowE.apT HE4.out (HTY4.out b hb')) fun b h1 h2 => ?_
          · obtain ⟨x, hx, hb''⟩ := List.mem_flatMap.1 hb'
            exact HE4.out.ap hx hb''
          · have h3 := HOL.out.lt b h1; have h4 := hloN b h2; omega
        go_roundw
        case rel => exact ⟨k + 1, _, by omega, by go_num, HE5, HD5, HS5, HO5, hb5⟩
        case measure => simp [intOf]; omega
    · have HF : Hid (hideRes l nm = L.map (·.d)) := by
        have hd : L.map (·.d) = l.map (hid1 nm) := by rw [HD.out, List.take_of_length_le (by omega)]
        show _ = _
        rw [hd]
        refine hide_yes HGV.out.1 HGV.out.2 (hide_all HGV.out.1 HGV.out.2 fun t ht => ?_)
        obtain ⟨j, hj, rfl⟩ := List.getElem_of_mem ht
        exact HS.out j hj (by omega)
      obtain ⟨fpr, hr, -, hown⟩ := slice_of_row HE.out.row fun x hx => ⟨HE.out.len x hx, HE.out.el x hx⟩
      have hO := hown HOL.out fun g hg hx => by
        obtain ⟨x, hx1, hx2⟩ := List.mem_flatMap.1 hx
        exact HE.out.ap hx1 hx2 hg
      have HR := Lib.hid (And.intro hr hO)
      clear hr hown hO HE HD HS HOL
      go_wp2
      go_ret
      exact ⟨_, fpr, rfl, by rw [HF.out]; exact HR.out.1, HR.out.2, hb⟩


end Go.Proofs.Ytbkmapaieillmaa

/- HideName under a weight. -/
namespace Go.Proofs.Ytbkmapaieillmaa
open Go.RowKit

theorem cntTokenS_small : ∀ {l : List Tok}, (∀ t ∈ l, t.hidden.length ≤ 60) → cntTokenS l ≤ 63 * l.length
  | [], _ => Nat.le_refl _
  | t :: r, h => by
    have h1 := h t (by simp)
    have h2 := cntTokenS_small (l := r) fun u hu => h u (by simp [hu])
    have e : cntTokenS (t :: r) = (3 + t.hidden.length) + cntTokenS r := rfl
    rw [e, List.length_cons]
    omega
theorem HideName_cnt (l : List Tok) (n : ByteArray) : cntTokenS (hideRes l n) ≤ 10000 := by
  by_cases h : hideRes l n = []
  · rw [h]; exact Nat.zero_le _
  · obtain ⟨_, _, h3, _⟩ := hide_fact h
    obtain ⟨h4, h5⟩ := toksOk_facts h3
    have := cntTokenS_small (l := hideRes l n) fun t ht => by
      obtain ⟨k, hk, rfl⟩ := List.getElem_of_mem ht
      exact (hid_at (tok_hidOk (h5 k hk))).1
    omega
theorem spec_HideName_w (v : Value) (l : List Tok) (f : List Nat) (n : ByteArray) (w : World) (hw : wtTokenS l ≤ 1048576) (H : (sSlice sTok).R w [v] l f) (hn : okStr n) :
    Calls Try.prog 15 #[v, .string n] w (RetHid l n w) := spec_HideName v l n f w (wtTokenS_len hw) (wtTokenS_hid hw) hn H
theorem impl_HideName_w (v : Value) (l : List Tok) (f : List Nat) (n : ByteArray) (w : World) (hw : wtTokenS l ≤ 1048576) (H : (sSlice sTok).R w [v] l f) (hn : okStr n) :
    Calls Try.prog 14 #[v, .string n] w (MineHid l n w) := impl_HideName v l n f w hn H

end Go.Proofs.Ytbkmapaieillmaa
