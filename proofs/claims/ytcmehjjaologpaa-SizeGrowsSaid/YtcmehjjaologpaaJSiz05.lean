/-
  Joined: Info.
-/
import Derived.Test.YtcmehjjaologpaaRows
import Derived.Laws.BytesArg
import Derived.Deep.OwnRows
import Derived.Test.YtcmehjjaologpaaJSiz01
/-
  The rows of the program's table of types that our texts ask; bytes as a string.
-/
namespace Go.Proofs.Ytcmehjjaologpaa
open Go.RowKit
set_option linter.unusedVariables false
set_option linter.unusedSimpArgs false

theorem info_i64 : (Try.prog.info? 3).map (fun i => (i.zero, i.size, i.bytes)) = some (some (.int .i64 0), 1, 8) := by kernel_rfl

/-- bytes in a block of their own, from block B on, that may be written -/
structure Own8 (w : World) (B g : Nat) (l : List UInt8) : Prop where
  low : B ≤ g
  blk : w.heap[g]? = some (.cells (u8s l).toArray 5 (0, 0))

theorem Own8.lt {w : World} {B g : Nat} {l : List UInt8} (h : Own8 w B g l) : g < w.heap.size := block_lt h.blk
theorem Own8.below {w w' : World} {B C g : Nat} {l : List UInt8} (h : Own8 w B g l) (hb : Below C w w') (hg : g < C) : Own8 w' B g l := ⟨h.low, (hb.block g hg).trans h.blk⟩
theorem Own8.later {w w' : World} {B g : Nat} {l : List UInt8} (h : Own8 w B g l) (hb : Below w.heap.size w w') : Own8 w' B g l := h.below hb h.lt
theorem Own8.bytes {w : World} {B g n : Nat} {l : List UInt8} (h : Own8 w B g l) (hn : l.length = n) (hl : n ≤ 9223372036854775807) : Bytes8 w (some ⟨g, 0, none⟩) n n l := ⟨hn, Nat.le_refl _, hl, Row.of_block h.blk⟩

end Go.Proofs.Ytcmehjjaologpaa
