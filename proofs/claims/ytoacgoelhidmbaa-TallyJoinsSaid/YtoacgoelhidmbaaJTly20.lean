/-
  Joined: MemS.
-/
import Derived.Test.YtoacgoelhidmbaaJTly16
import Derived.Test.YtoacgoelhidmbaaJTly18
import Derived.Test.YtoacgoelhidmbaaJTly01
/-
  What stands as long as all blocks from a bound on stand.
-/
namespace Go.Proofs.Ytoacgoelhidmbaa
open Go.RowKit
set_option linter.unusedVariables false
set_option linter.unusedSimpArgs false

/-- all blocks from B on are as they were -/
def Abv (B : Nat) (w w' : World) : Prop := w.heap.size ≤ w'.heap.size ∧ ∀ k, B ≤ k → k < w.heap.size → w'.heap[k]? = w.heap[k]?
theorem Abv.refl (B : Nat) (w : World) : Abv B w w := ⟨Nat.le_refl _, fun _ _ _ => rfl⟩
theorem Abv.trans {B : Nat} {a b c : World} (h : Abv B a b) (k : Abv B b c) : Abv B a c := ⟨Nat.le_trans h.1 k.1, fun i h1 h2 => (k.2 i h1 (Nat.lt_of_lt_of_le h2 h.1)).trans (h.2 i h1 h2)⟩
theorem Abv.of_below {B : Nat} {w w' : World} (h : Below w.heap.size w w') : Abv B w w' := ⟨h.size, fun k _ hk => h.block k hk⟩
theorem Abv.mono {B B' : Nat} {w w' : World} (h : Abv B w w') (hb : B ≤ B') : Abv B' w w' := ⟨h.1, fun k h1 h2 => h.2 k (Nat.le_trans hb h1) h2⟩
theorem Abv.row {B b : Nat} {w w' : World} {e : TypeId} {size n : Nat} {v : Value} {xs : List Value} (h : Abv B w w') (hr : w.ownsRow b e size v n xs) (hb : B ≤ b) : w'.ownsRow b e size v n xs := own_keptS hr fun k h1 h2 => h.2 k (Nat.le_trans hb h1) h2
def MatN (w : World) (B : Nat) (A : Option Addr) (n c : Nat) (ll : List (List Int)) : Prop := (0 < n → Newer B A) ∧ ∀ w', Abv B w w' → Mat w' A n c ll
def EnsN (w : World) (B : Nat) (A : Option Addr) (n c : Nat) (l : List (Int × List UInt8 × Int)) : Prop := (0 < n → Newer B A) ∧ ∀ w', Abv B w w' → Ens w' A n c l
def TrsN (w : World) (B : Nat) (A : Option Addr) (n c : Nat) (l : List (Int × Int × Int)) : Prop := (0 < n → Newer B A) ∧ ∀ w', Abv B w w' → Trs w' A n c l
def IntsN (w : World) (B : Nat) (A : Option Addr) (n c : Nat) (l : List Int) : Prop := (0 < n → Newer B A) ∧ ∀ w', Abv B w w' → Ints w' A n c l
section
variable {w w' : World} {B B' : Nat} {A : Option Addr} {n c : Nat}
theorem MatN.at_ {l : List (List Int)} (h : MatN w B A n c l) : Mat w A n c l := h.2 w (Abv.refl _ _)
theorem MatN.later {l : List (List Int)} (h : MatN w B A n c l) (ha : Abv B w w') : MatN w' B A n c l := ⟨h.1, fun _ hb => h.2 _ (ha.trans hb)⟩
theorem MatN.mono {l : List (List Int)} (h : MatN w B A n c l) (hb : B' ≤ B) : MatN w B' A n c l := ⟨fun h0 => (h.1 h0).mono hb, fun _ ha => h.2 _ (ha.mono hb)⟩
theorem MatN.nil (w : World) (B : Nat) : MatN w B none 0 0 [] := ⟨fun h => absurd h (Nat.lt_irrefl _), fun _ _ => Mat.nil _⟩
theorem EnsN.at_ {l : List (Int × List UInt8 × Int)} (h : EnsN w B A n c l) : Ens w A n c l := h.2 w (Abv.refl _ _)
theorem EnsN.later {l : List (Int × List UInt8 × Int)} (h : EnsN w B A n c l) (ha : Abv B w w') : EnsN w' B A n c l := ⟨h.1, fun _ hb => h.2 _ (ha.trans hb)⟩
theorem EnsN.mono {l : List (Int × List UInt8 × Int)} (h : EnsN w B A n c l) (hb : B' ≤ B) : EnsN w B' A n c l := ⟨fun h0 => (h.1 h0).mono hb, fun _ ha => h.2 _ (ha.mono hb)⟩
theorem EnsN.nil (w : World) (B : Nat) : EnsN w B none 0 0 [] := ⟨fun h => absurd h (Nat.lt_irrefl _), fun _ _ => Ens.nil _⟩
theorem TrsN.at_ {l : List (Int × Int × Int)} (h : TrsN w B A n c l) : Trs w A n c l := h.2 w (Abv.refl _ _)
theorem TrsN.later {l : List (Int × Int × Int)} (h : TrsN w B A n c l) (ha : Abv B w w') : TrsN w' B A n c l := ⟨h.1, fun _ hb => h.2 _ (ha.trans hb)⟩
theorem TrsN.mono {l : List (Int × Int × Int)} (h : TrsN w B A n c l) (hb : B' ≤ B) : TrsN w B' A n c l := ⟨fun h0 => (h.1 h0).mono hb, fun _ ha => h.2 _ (ha.mono hb)⟩
theorem IntsN.at_ {l : List Int} (h : IntsN w B A n c l) : Ints w A n c l := h.2 w (Abv.refl _ _)
theorem IntsN.later {l : List Int} (h : IntsN w B A n c l) (ha : Abv B w w') : IntsN w' B A n c l := ⟨h.1, fun _ hb => h.2 _ (ha.trans hb)⟩
/-- of a row of one's own -/
theorem OwnM.matN {V : Value} {L : List RowM} (h : OwnM w B V n L) : ∃ A c, V = .slice A n c ∧ MatN w B A n c (L.map (·.2.2)) := by
  obtain ⟨A, c, e, _⟩ := h.mat
  subst e
  refine ⟨A, c, rfl, fun _ => Newer.of_own h.row, fun w' ha => ?_⟩
  have h' : OwnM w' B (.slice A n c) n L := ⟨ha.row h.row (Nat.le_refl _), fun k hk => ha.row (h.each k hk) (Nat.le_refl _), h.two⟩
  obtain ⟨A2, c2, e2, hM⟩ := h'.mat
  cases e2
  exact hM
theorem EnsN.of_own {v : Value} {e : TypeId} {l : List (Int × List UInt8 × Int)} (h : w.ownsRow B e 3 v n (entC l)) : ∃ A c, v = .slice A n c ∧ EnsN w B A n c l := by
  obtain ⟨A, c, e1, _⟩ := Ens.of_own h
  subst e1
  refine ⟨A, c, rfl, fun _ => Newer.of_own h, fun w' ha => ?_⟩
  obtain ⟨A2, c2, e2, hM⟩ := Ens.of_own (ha.row h (Nat.le_refl _))
  cases e2
  exact hM
theorem TrsN.of_own {v : Value} {e : TypeId} {l : List (Int × Int × Int)} (h : w.ownsRow B e 3 v n (triC l)) : ∃ A c, v = .slice A n c ∧ TrsN w B A n c l := by
  obtain ⟨A, c, e1, _⟩ := Trs.of_own h
  subst e1
  refine ⟨A, c, rfl, fun _ => Newer.of_own h, fun w' ha => ?_⟩
  obtain ⟨A2, c2, e2, hM⟩ := Trs.of_own (ha.row h (Nat.le_refl _))
  cases e2
  exact hM
theorem IntsN.of_own {v : Value} {e : TypeId} {l : List Int} (h : w.ownsRow B e 1 v n (i64s l)) : ∃ A c, v = .slice A n c ∧ IntsN w B A n c l := by
  obtain ⟨A, c, e1, _⟩ := Ints.of_own h
  subst e1
  refine ⟨A, c, rfl, fun _ => Newer.of_own h, fun w' ha => ?_⟩
  obtain ⟨A2, c2, e2, hM⟩ := Ints.of_own (ha.row h (Nat.le_refl _))
  cases e2
  exact hM
end
end Go.Proofs.Ytoacgoelhidmbaa
