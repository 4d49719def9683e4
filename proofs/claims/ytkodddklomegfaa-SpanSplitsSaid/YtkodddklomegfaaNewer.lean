/-
  A slice whose block lies above a bound: nothing below the bound reaches it.
-/
import Derived.Test.YtkodddklomegfaaMemF
namespace Go.Proofs.Ytkodddklomegfaa
open Go.RowKit
set_option linter.unusedVariables false
set_option linter.unusedSimpArgs false

def Newer (B : Nat) (A : Option Addr) : Prop := ∀ ad, A = some ad → B ≤ ad.block
theorem Newer.mono {B B' : Nat} {A : Option Addr} (h : Newer B A) (hb : B' ≤ B) : Newer B' A := fun ad e => Nat.le_trans hb (h ad e)
theorem Newer.nil (B : Nat) : Newer B none := fun ad e => by cases e
theorem Newer.of_own {w : World} {base : Nat} {e : TypeId} {size n m c : Nat} {A : Option Addr} {xs : List Value} (h : w.ownsRow base e size (.slice A m c) n xs) : Newer base A := by
  intro ad e
  subst e
  rcases h.2 with ⟨hv, _⟩ | ⟨g, cap, cur, hv, hg, _⟩
  · cases hv
  · injection hv with h1
    injection h1 with h1
    rw [h1]; exact hg
theorem Row.newer {w w' : World} {A : Option Addr} {l : List Value} {B : Nat} (h : Row w A l) (hA : Newer B A) (hk : ∀ k, B ≤ k → w'.heap[k]? = w.heap[k]?) : Row w' A l := fun k v e => by
  obtain ⟨ad, ea, hc⟩ := h k v e
  refine ⟨ad, ea, ?_⟩
  have hb : (ad.add k).block = ad.block := addr_add_block ad k
  exact (World.cell?_of_block (w := w) (hk _ (by rw [hb]; exact hA ad ea))).trans hc
theorem Ints.newer {w w' : World} {A : Option Addr} {n c : Nat} {l : List Int} {B : Nat} (h : Ints w A n c l) (hA : Newer B A) (hk : ∀ k, B ≤ k → w'.heap[k]? = w.heap[k]?) : Ints w' A n c l := ⟨h.len, h.cap, h.most, h.row.newer hA hk⟩

end Go.Proofs.Ytkodddklomegfaa
