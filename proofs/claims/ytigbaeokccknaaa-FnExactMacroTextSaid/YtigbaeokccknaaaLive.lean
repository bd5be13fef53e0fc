/- Objects of a law while it runs: what they read as, and between which blocks they lie. -/
import Derived.Test.YtigbaeokccknaaaMark2
namespace Go.Proofs.Ytigbaeokccknaaa
open Go.RowKit

/-- An object that is only read. -/
structure Seen {α : Type} (S : Shape α) (w : World) (cs : List Value) (d : α) (fp : List Nat) (hi : Nat) : Prop where
  r : S.R w cs d fp
  hi : Under hi fp
/-- An object of the law's own. -/
structure Live {α : Type} (S : Shape α) (w : World) (cs : List Value) (d : α) (fp : List Nat) (lo hi : Nat) : Prop where
  r : S.R w cs d fp
  o : Own w lo fp
  hi : Under hi fp

section
variable {α : Type} {S : Shape α} {w w' : World} {cs : List Value} {d : α} {fp fp' : List Nat} {lo hi lo' : Nat}
theorem Seen.of (h : S.R w cs d fp) : Seen S w cs d fp w.heap.size := ⟨h, S.lt h⟩
theorem Seen.below (h : Seen S w cs d fp hi) (hb : Below w.heap.size w w') : Seen S w' cs d fp hi := ⟨S.below h.r hb, h.hi⟩
theorem Live.of (h : S.R w cs d fp) (o : Own w lo fp) : Live S w cs d fp lo w.heap.size := ⟨h, o, o.lt⟩
theorem Live.below (h : Live S w cs d fp lo hi) (hb : Below w.heap.size w w') : Live S w' cs d fp lo hi := ⟨S.below h.r hb, h.o.grow hb, h.hi⟩
theorem Live.seen (h : Live S w cs d fp lo hi) : Seen S w cs d fp hi := ⟨h.r, h.hi⟩
/-- .. while a later one is written. -/
theorem Seen.kept (h : Seen S w cs d fp hi) (hk : Kept fp' w w') (ho : Own w lo' fp') (hle : hi ≤ lo') : Seen S w' cs d fp hi :=
  ⟨S.kept h.r (fun b hb hx => by have h1 := h.hi b hb; have h2 := (ho.2 b hx).1; omega) hk, h.hi⟩
theorem Live.kept (h : Live S w cs d fp lo hi) (hk : Kept fp' w w') (ho : Own w lo' fp') (hle : hi ≤ lo') : Live S w' cs d fp lo hi :=
  have hd : ∀ b ∈ fp, b ∉ fp' := fun b hb hx => by have h1 := h.hi b hb; have h2 := (ho.2 b hx).1; omega
  ⟨S.kept h.r hd hk, h.o.kept hd hk, h.hi⟩
/-- .. while an earlier one is written. -/
theorem Live.kept' (h : Live S w cs d fp lo hi) (hk : Kept fp' w w') (hu : Under lo fp') : Live S w' cs d fp lo hi :=
  have hd : ∀ b ∈ fp, b ∉ fp' := fun b hb hx => by have h1 := (h.o.2 b hb).1; have h2 := hu b hx; omega
  ⟨S.kept h.r hd hk, h.o.kept hd hk, h.hi⟩
/-- .. while its fellow out of the same call is written. -/
theorem Live.keptD (h : Live S w cs d fp lo hi) (hk : Kept fp' w w') (hd : ∀ b ∈ fp, b ∉ fp') : Live S w' cs d fp lo hi :=
  ⟨S.kept h.r hd hk, h.o.kept hd hk, h.hi⟩
theorem Kept.below' (hk : Kept fp' w w') (ho : Own w lo' fp') {B : Nat} (hB : B ≤ lo') (hs : B ≤ w.heap.size) : Below B w w' :=
  hk.below (fun b hb => Nat.le_trans hB (ho.2 b hb).1) hs
end

def Apart (fp fp' : List Nat) : Prop := ∀ b ∈ fp, b ∉ fp'
theorem Apart.symm {fp fp' : List Nat} (h : Apart fp fp') : Apart fp' fp := fun b h1 h2 => h b h2 h1
theorem Own.split {w : World} {lo : Nat} {fp1 fp2 : List Nat} (h : Own w lo (fp1 ++ fp2)) : Own w lo fp1 ∧ Own w lo fp2 ∧ Apart fp1 fp2 := by
  obtain ⟨h1, h2⟩ := h
  obtain ⟨a, b, c⟩ := List.nodup_append.1 h1
  exact ⟨⟨a, fun x hx => h2 x (by simp [hx])⟩, ⟨b, fun x hx => h2 x (by simp [hx])⟩, fun x hx hy => c x hx x hy rfl⟩
theorem Apart.split {fp fp1 fp2 : List Nat} (h : Apart fp (fp1 ++ fp2)) : Apart fp fp1 ∧ Apart fp fp2 :=
  ⟨fun b hb hx => h b hb (by simp [hx]), fun b hb hx => h b hb (by simp [hx])⟩
theorem Apart.splitL {fp fp1 fp2 : List Nat} (h : Apart (fp1 ++ fp2) fp) : Apart fp1 fp ∧ Apart fp2 fp :=
  ⟨fun b hb hx => h b (by simp [hb]) hx, fun b hb hx => h b (by simp [hb]) hx⟩

theorem eqStringS_same (v1 v2 : Value) (l : List ByteArray) (fp1 fp2 : List Nat) (w : World) (H1 : (sSlice sStr).R w [v1] l fp1) (H2 : (sSlice sStr).R w [v2] l fp2) :
    Calls Try.prog 59 #[v1, v2] w fun e w' => e = .returned (.bool true) ∧ Below w.heap.size w w' :=
  (eqStringS v1 v2 l l fp1 fp2 w H1 H2).mono fun e w' ⟨h1, n, h2⟩ => ⟨by rw [h1]; simp, by rw [h2]; exact belowN (Below.refl _ _) n⟩
end Go.Proofs.Ytigbaeokccknaaa
