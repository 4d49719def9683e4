/-
  The walk of NodeReads.
-/
import Derived.Test.YthajfnnngaffjaaNodP
import Derived.Test.YthajfnnngaffjaaNodL
import Derived.Test.YthajfnnngaffjaaMemI
namespace Go.Proofs.Ythajfnnngaffjaa
open Go.RowKit
set_option linter.unusedVariables false
set_option linter.unusedSimpArgs false

theorem refRead_any7 (w : World) (A : Option Addr) (n c : Nat) (l : List UInt8) (hB : Bytes8 w A n c l) : Calls Try.prog 20 #[.slice A n c] w fun e w' => RdPost w l e w' := by
  cases hf : formN l with
  | false => exact refRead_bad w A n c l hB hf
  | true => exact refRead_good w A n c l hB hf

abbrev rsNode (tree : Int) (leaf : Bool) (s1 s2 : Value) : Obj := .cells #[.int .i64 tree, .bool leaf, s1, s2] 25

section
variable {w : World} {A : Option Addr} {q c : Nat} {l : List UInt8}
theorem rs_read (hB : Bytes8 w A q c l) : Calls Try.prog 19 #[.slice A q c] w fun e w' => ∃ A5 n5 c5 A6 n6 c6, e = .returned (.tuple #[nodV (readN l) A5 n5 c5 A6 n6 c6, .int .i64 (readNE l)]) ∧ NodIn w' (readN l) A5 n5 c5 A6 n6 c6 ∧ Below w.heap.size w w' := Read_any7 w A q c l hB

theorem rs_ref (hB : Bytes8 w A q c l) (W : World) (p : Nat) (s1 s2 : Value) {A5 : Option Addr} {n5 c5 : Nat} {A6 : Option Addr} {n6 c6 : Nat} (hW : Below w.heap.size w W) (hp : NodAt W p (readN l).tree (readN l).leaf s1 s2) (h5 : NodIn W (readN l) A5 n5 c5 A6 n6 c6) :
    Calls Try.prog 20 #[.slice A q c] W fun e w' => ∃ B5 m5 d5 B6 m6 d6, e = .returned (.tuple #[nodV (readN l) B5 m5 d5 B6 m6 d6, .int .i64 (readNE l)]) ∧ NodIn w' (readN l) B5 m5 d5 B6 m6 d6 ∧ NodIn w' (readN l) A5 n5 c5 A6 n6 c6 ∧ NodAt w' p (readN l).tree (readN l).leaf s1 s2 ∧ Below w.heap.size w w' := by
  refine (refRead_any7 W A q c l (hB.below hW)).mono ?_
  rintro e w' ⟨B5, m5, d5, B6, m6, d6, h1, h2, h3⟩
  exact ⟨B5, m5, d5, B6, m6, d6, h1, h2, h5.below h3, hp.later h3, hW.trans (h3.mono hW.size)⟩

theorem rs_same (W : World) (nd : Nod) {A5 : Option Addr} {n5 c5 : Nat} {A6 : Option Addr} {n6 c6 : Nat} {B5 : Option Addr} {m5 d5 : Nat} {B6 : Option Addr} {m6 d6 : Nat} (hW : Below w.heap.size w W) (h5 : NodIn W nd A5 n5 c5 A6 n6 c6) (h6 : NodIn W nd B5 m5 d5 B6 m6 d6) :
    Calls Try.prog 14 #[nodV nd A5 n5 c5 A6 n6 c6, nodV nd B5 m5 d5 B6 m6 d6] W fun e w' => e = .returned (.bool true) ∧ Below w.heap.size w w' :=
  (refSame_any7 W nd nd A5 n5 c5 A6 n6 c6 B5 m5 d5 B6 m6 d6 h5 h6 true (sameN_refl nd)).mono fun e w' ⟨h1, h2⟩ => ⟨h1, hW.trans (h2.mono hW.size)⟩

theorem rs_lives (W : World) (hW : Below w.heap.size w W) : Calls Try.prog 8 #[] W fun e w' => e = .returned (.bool true) ∧ Below w.heap.size w w' :=
  (lives7_any W).mono fun e w' ⟨h1, h2⟩ => ⟨h1, hW.trans (h2.mono hW.size)⟩
end

set_option maxRecDepth 100000 in
set_option maxHeartbeats 3200000 in
theorem nodereads_walk (A : Option Addr) (n c : Nat) (l0 : List UInt8) (w : World) (h : Bytes8 w A n c l0) :
    Calls Try.prog 4 #[.slice A n c] w fun e w' => e = .returned (.bool true) ∧ Below w.heap.size w w' := by
  obtain ⟨q, l, hB, hq, hcase⟩ := cut_bytes 600 h
  have hcm := h.most
  have hcn := h.cap
  have RD := Lib.hid (rs_read hB)
  have RR : Hid (∀ W p s1 s2 A5 n5 c5 A6 n6 c6, Below w.heap.size w W → NodAt W p (readN l).tree (readN l).leaf s1 s2 → NodIn W (readN l) A5 n5 c5 A6 n6 c6 → _) := fun W p s1 s2 A5 n5 c5 A6 n6 c6 h1 h2 h3 => rs_ref hB W p s1 s2 h1 h2 h3
  have SM : Hid (∀ W A5 n5 c5 A6 n6 c6 B5 m5 d5 B6 m6 d6, Below w.heap.size w W → NodIn W (readN l) A5 n5 c5 A6 n6 c6 → NodIn W (readN l) B5 m5 d5 B6 m6 d6 → _) := fun W A5 n5 c5 A6 n6 c6 B5 m5 d5 B6 m6 d6 h1 h2 h3 => rs_same W (readN l) h1 h2 h3
  have LV := Lib.hid (fun W hW => rs_lives (w := w) W hW)
  generalize readNE l = x at *
  generalize readN l = m at *
  obtain ⟨tree, leaf, ks, vs⟩ := m
  simp only [nodV] at *
  clear h hB
  rcases hcase with ⟨g1, g2, rfl⟩ | ⟨g1, rfl⟩
  all_goals go_enter Try.func4, Try.ntmps4
  all_goals go_wp2_with (first
    | (go_at_call 19; (with_reducible refine (RD.out).mono ?_); rintro e w1 ⟨A5, n5, c5, A6, n6, c6, rfl, hI5, hb1⟩; have hA5 := NodAt.new w1 tree leaf (.slice A5 n5 c5) (.slice A6 n6 c6); have hI5' := hI5.below ((Below.refl _ _).alloc (Nat.le_refl _) (rsNode tree leaf (.slice A5 n5 c5) (.slice A6 n6 c6))); have hb1' := hb1.alloc hb1.size (rsNode tree leaf (.slice A5 n5 c5) (.slice A6 n6 c6)))
    | (go_at_call 20; (with_reducible refine (RR.out _ _ _ _ _ _ _ _ _ _ hb1' hA5 hI5').mono ?_); rintro e w2 ⟨B5, m5, d5, B6, m6, d6, rfl, hI6, hI7, hA7, hb2⟩; have hal : Below w2.heap.size w2 (w2.alloc (rsNode tree leaf (.slice B5 m5 d5) (.slice B6 m6 d6))) := (Below.refl _ _).alloc (Nat.le_refl _) _; have hI6' := hI6.below hal; have hI7' := hI7.below hal; have hA7' := hA7.later hal; have hb2' := hb2.alloc hb2.size (rsNode tree leaf (.slice B5 m5 d5) (.slice B6 m6 d6)); have j0 := hA7'.c0; have j1 := hA7'.c1; have j2 := hA7'.c2; have j3 := hA7'.c3; clear hal)
    | (go_at_call 14; (with_reducible refine (SM.out _ _ _ _ _ _ _ _ _ _ _ _ _ hb2' hI7' hI6').mono ?_); rintro e w3 ⟨rfl, hb3⟩)
    | (go_at_call 8; (with_reducible refine (LV.out _ hb3).mono ?_); rintro e w4 ⟨rfl, hb4⟩))
  all_goals go_ret
  all_goals exact ⟨rfl, hb4⟩

end Go.Proofs.Ythajfnnngaffjaa
