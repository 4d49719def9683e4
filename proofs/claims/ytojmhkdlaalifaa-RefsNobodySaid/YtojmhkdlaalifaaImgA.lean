/-
  Layer 3's image in memory; New.
-/
import Derived.Test.YtojmhkdlaalifaaChecked
import Derived.Test.YtojmhkdlaalifaaMemD
import Derived.Test.YtojmhkdlaalifaaMemE
import Derived.Test.YtojmhkdlaalifaaInfo
import Derived.Deep.DeepMust
import Derived.Outline
import Derived.Lib.Builder
namespace Go.Proofs.Ytojmhkdlaalifaa
open Go.RowKit
set_option linter.unusedVariables false
set_option linter.unusedSimpArgs false

/-- as w, but for block g -/
structure Kept (g : Nat) (w w' : World) : Prop where
  os : w'.os = w.os
  tape : w'.tape = w.tape
  output : w'.output = w.output
  size : w'.heap.size = w.heap.size
  block : ∀ k, k ≠ g → w'.heap[k]? = w.heap[k]?

theorem Kept.below {g B : Nat} {w w' : World} (h : Kept g w w') (hB : B ≤ g) : Below B w w' := ⟨h.os, h.tape, h.output, by rw [h.size]; exact Nat.le_refl _, fun k hk => h.block k (by omega)⟩
theorem Kept.refl (g : Nat) (w : World) : Kept g w w := ⟨rfl, rfl, rfl, rfl, fun _ _ => rfl⟩
theorem Kept.trans {g : Nat} {a b c : World} (h : Kept g a b) (k : Kept g b c) : Kept g a c := ⟨k.os.trans h.os, k.tape.trans h.tape, k.output.trans h.output, k.size.trans h.size, fun i hi => (k.block i hi).trans (h.block i hi)⟩

/-- an address, if any, lies from block B on -/
def Fresh (B : Nat) (A : Option Addr) : Prop := ∀ ad, A = some ad → B ≤ ad.block
theorem Fresh.mono {B B' : Nat} {A : Option Addr} (h : Fresh B A) (hb : B' ≤ B) : Fresh B' A := fun ad e => Nat.le_trans hb (h ad e)
theorem Fresh.of_own {w : World} {base : Nat} {e : TypeId} {size n m c : Nat} {A : Option Addr} {xs : List Value} (h : w.ownsRow base e size (.slice A m c) n xs) : Fresh base A := by
  intro ad e
  subst e
  rcases h.2 with ⟨hv, _⟩ | ⟨g, cap, cur, hv, hg, _⟩
  · cases hv
  · injection hv with h1
    injection h1 with h1
    rw [h1]; exact hg
theorem Bytes8.kept {w w' : World} {A : Option Addr} {n c g B : Nat} {l : List UInt8} (h : Bytes8 w A n c l) (hk : Kept g w w') (hf : Fresh B A) (hg : g < B) : Bytes8 w' A n c l :=
  ⟨h.len, h.cap, h.most, fun k v hv => by
    obtain ⟨ad, e, hc⟩ := h.row k v hv
    refine ⟨ad, e, ?_⟩
    have hb : (ad.add k).block = ad.block := addr_add_block ad k
    have := hf ad e
    exact (World.cell?_of_block (w := w) (hk.block _ (by rw [hb]; omega))).trans hc⟩

end Go.Proofs.Ytojmhkdlaalifaa
