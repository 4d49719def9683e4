/-
  An image and the reference's image, in one world.
-/
import Derived.Test.YtadoclbalcecpaaImgG
namespace Go.Proofs.Ytadoclbalcecpaa
open Go.RowKit
set_option linter.unusedVariables false
set_option linter.unusedSimpArgs false

/-- an image and the reference's image, in a later world -/
structure Two (w0 : World) (p g p2 : Nat) (v : Value) (L : List UInt8) (LL : List (List UInt8)) (W : World) : Prop where
  bel : Below w0.heap.size w0 W
  img : Img W w0.heap.size p g L
  ref : RImg W w0.heap.size p2 v LL

theorem Two.later {w0 W W' : World} {p g p2 : Nat} {v : Value} {L : List UInt8} {LL : List (List UInt8)} (h : Two w0 p g p2 v L LL W) (hb : Below W.heap.size W W') : Two w0 p g p2 v L LL W' :=
  ⟨h.bel.trans (hb.mono h.bel.size), h.img.later hb, h.ref.later hb⟩

theorem Two.bytes {w0 W : World} {p g p2 : Nat} {v : Value} {L : List UInt8} {LL : List (List UInt8)} (h : Two w0 p g p2 v L LL W) :
    Calls Try.prog 17 #[.pointer (some ⟨p, 0, none⟩)] W fun e w' => ∃ A, e = .returned (.slice A L.length L.length) ∧ Bytes8 w' A L.length L.length L ∧ Below W.heap.size W w' ∧ Two w0 p g p2 v L LL w' :=
  (Bytes_img W h.img).mono fun e w' ⟨A, h1, h2, h3⟩ => ⟨A, h1, h2, h3, h.later h3⟩

theorem Two.refBytes {w0 W : World} {p g p2 : Nat} {v : Value} {L : List UInt8} {LL : List (List UInt8)} (h : Two w0 p g p2 v L LL W) (hL : LL.flatten = L) :
    Calls Try.prog 18 #[.pointer (some ⟨p2, 0, none⟩)] W fun e w' => ∃ A c, e = .returned (.slice A L.length c) ∧ Bytes8 w' A L.length c L ∧ Below W.heap.size W w' ∧ Two w0 p g p2 v L LL w' := by
  have := refBytes_any W h.ref (by rw [hL]; exact h.img.most)
  rw [hL] at this
  exact this.mono fun e w' ⟨A, c, h1, h2, h3⟩ => ⟨A, c, h1, h2, h3, h.later h3⟩

end Go.Proofs.Ytadoclbalcecpaa
