/-
  The walk of NodePuts.
-/
import Derived.Test.YtebcbaejpebpfaaNodT
import Derived.Test.YtebcbaejpebpfaaNodJ
import Derived.Test.YtebcbaejpebpfaaNodL
namespace Go.Proofs.Ytebcbaejpebpfaa
open Go.RowKit
set_option linter.unusedVariables false
set_option linter.unusedSimpArgs false

theorem refPut_any7 (w : World) (nd : Nod) (A : Option Addr) (n c : Nat) (A2 : Option Addr) (n2 c2 : Nat) (h : NodIn w nd A n c A2 n2 c2) :
    Calls Try.prog 10 #[nodV nd A n c A2 n2 c2] w fun e w' => ∃ A' m c', e = .returned (.tuple #[.slice A' m c', .int .i64 (putNE nd)]) ∧ Bytes8 w' A' m c' (putNB nd) ∧ Below w.heap.size w w' := by
  cases hr : rightN nd with
  | false =>
    refine (refPut_bad7 w nd A n c A2 n2 c2 h hr).mono ?_
    rintro e w' ⟨rfl, hb⟩
    exact ⟨none, 0, 0, by rw [putNE, if_neg (by simp [hr])], by rw [putNB, if_neg (by simp [hr])]; exact Bytes8.nil _, hb⟩
  | true =>
    obtain ⟨tree, leaf, ks, vs⟩ := nd
    have fin : (Calls Try.prog 10 #[nodV ⟨tree, leaf, ks, vs⟩ A n c A2 n2 c2] w fun e w' => ∃ A' c', e = .returned (.tuple #[.slice A' 244 c', .int .i64 0]) ∧ Bytes8 w' A' 244 c' (encNod ⟨tree, leaf, ks, vs⟩) ∧ Below w.heap.size w w') := by
      cases leaf with
      | true => exact refPut_true w tree ks vs A n c A2 n2 c2 h hr
      | false => exact refPut_false w tree ks vs A n c A2 n2 c2 h hr
    refine fin.mono ?_
    rintro e w' ⟨A', c', rfl, hB, hb⟩
    exact ⟨A', 244, c', by rw [putNE, if_pos hr], by rw [putNB, if_pos hr]; exact hB, hb⟩

theorem Two7.low {w : World} {a b : Nod} {A : Option Addr} {n c : Nat} {A2 : Option Addr} {n2 c2 : Nat} {B : Option Addr} {m d : Nat} {B2 : Option Addr} {m2 d2 : Nat} {W : World} (h : Two7 w W w.heap.size a b (.slice A n c) (.slice A2 n2 c2) (.slice B m d) (.slice B2 m2 d2)) : Below w.heap.size w W := h.bel
theorem Two7.drew {w : World} {a b : Nod} {A : Option Addr} {n c : Nat} {A2 : Option Addr} {n2 c2 : Nat} {B : Option Addr} {m d : Nat} {B2 : Option Addr} {m2 d2 : Nat} {W : World} (h : Two7 w W w.heap.size a b (.slice A n c) (.slice A2 n2 c2) (.slice B m d) (.slice B2 m2 d2)) : Two7 w W.drew w.heap.size a b (.slice A n c) (.slice A2 n2 c2) (.slice B m d) (.slice B2 m2 d2) := ⟨h.fst, h.snd, h.bel.drew⟩

/-- both boxes, and the bytes that both Puts have told -/
structure PutW (w W : World) (a b : Nod) (s1 s2 s3 s4 : Value) (A5 : Option Addr) (m5 c5 : Nat) (A6 : Option Addr) (m6 c6 : Nat) (l : List UInt8) : Prop where
  two : Two7 w W w.heap.size a b s1 s2 s3 s4
  fst : Bytes8 W A5 m5 c5 l
  snd : Bytes8 W A6 m6 c6 l
theorem PutW.later {w W W' : World} {a b : Nod} {s1 s2 s3 s4 : Value} {A5 : Option Addr} {m5 c5 : Nat} {A6 : Option Addr} {m6 c6 : Nat} {l : List UInt8} (h : PutW w W a b s1 s2 s3 s4 A5 m5 c5 A6 m6 c6 l) (hb : Below W.heap.size W W') : PutW w W' a b s1 s2 s3 s4 A5 m5 c5 A6 m6 c6 l :=
  ⟨h.two.later hb, h.fst.below hb, h.snd.below hb⟩
theorem PutW.cells {w : World} {a b : Nod} {A : Option Addr} {n c : Nat} {A2 : Option Addr} {n2 c2 : Nat} {B : Option Addr} {m d : Nat} {B2 : Option Addr} {m2 d2 : Nat} {A5 : Option Addr} {m5 c5 : Nat} {A6 : Option Addr} {m6 c6 : Nat} {l : List UInt8} {W : World} (h : PutW w W a b (.slice A n c) (.slice A2 n2 c2) (.slice B m d) (.slice B2 m2 d2) A5 m5 c5 A6 m6 c6 l) : (convert 28 9 (.slice A5 m5 c5)).run Try.prog W = .ok (.string ⟨l.toArray⟩) W ∧ (convert 28 9 (.slice A6 m6 c6)).run Try.prog W = .ok (.string ⟨l.toArray⟩) W ∧ W.cell? ⟨w.heap.size, 0, none⟩ = some (.int .i64 a.tree) ∧ W.cell? ⟨w.heap.size, 1, none⟩ = some (.bool a.leaf) ∧ W.cell? ⟨w.heap.size, 2, none⟩ = some (.slice A n c) ∧ W.cell? ⟨w.heap.size, 3, none⟩ = some (.slice A2 n2 c2) ∧ W.cell? ⟨w.heap.size + 1, 0, none⟩ = some (.int .i64 b.tree) ∧ W.cell? ⟨w.heap.size + 1, 1, none⟩ = some (.bool b.leaf) ∧ W.cell? ⟨w.heap.size + 1, 2, none⟩ = some (.slice B m d) ∧ W.cell? ⟨w.heap.size + 1, 3, none⟩ = some (.slice B2 m2 d2) :=
  ⟨run_str h.fst, run_str h.snd, h.two.fst.c0, h.two.fst.c1, h.two.fst.c2, h.two.fst.c3, h.two.snd.c0, h.two.snd.c1, h.two.snd.c2, h.two.snd.c3⟩

section
variable {w : World} {a b : Nod} {A : Option Addr} {n c : Nat} {A2 : Option Addr} {n2 c2 : Nat} {B : Option Addr} {m d : Nat} {B2 : Option Addr} {m2 d2 : Nat} {A5 : Option Addr} {m5 c5 : Nat} {A6 : Option Addr} {m6 c6 : Nat} {l : List UInt8}
theorem pt_RI (ha : NodIn w a A n c A2 n2 c2) (r1 : Bool) (hr : rightN a = r1) (W : World) (hW : PutW w W a b (.slice A n c) (.slice A2 n2 c2) (.slice B m d) (.slice B2 m2 d2) A5 m5 c5 A6 m6 c6 l) : Calls Try.prog 11 #[nodV a A n c A2 n2 c2] W fun e w' => e = .returned (.bool r1) ∧ PutW w w' a b (.slice A n c) (.slice A2 n2 c2) (.slice B m d) (.slice B2 m2 d2) A5 m5 c5 A6 m6 c6 l := (Right_any W a A n c A2 n2 c2 (ha.below hW.two.low) r1 hr).mono fun e w' ⟨h1, h2⟩ => ⟨h1, hW.later h2⟩
theorem pt_RR (ha : NodIn w a A n c A2 n2 c2) (r1 : Bool) (hr : rightN a = r1) (W : World) (hW : PutW w W a b (.slice A n c) (.slice A2 n2 c2) (.slice B m d) (.slice B2 m2 d2) A5 m5 c5 A6 m6 c6 l) : Calls Try.prog 12 #[nodV a A n c A2 n2 c2] W fun e w' => e = .returned (.bool r1) ∧ PutW w w' a b (.slice A n c) (.slice A2 n2 c2) (.slice B m d) (.slice B2 m2 d2) A5 m5 c5 A6 m6 c6 l := (refRight_any W a A n c A2 n2 c2 (ha.below hW.two.low) r1 hr).mono fun e w' ⟨h1, h2⟩ => ⟨h1, hW.later h2⟩
theorem pt_SA (ha : NodIn w a A n c A2 n2 c2) (hb : NodIn w b B m d B2 m2 d2) (r2 : Bool) (hr : sameN a b = r2) (W : World) (hW : PutW w W a b (.slice A n c) (.slice A2 n2 c2) (.slice B m d) (.slice B2 m2 d2) A5 m5 c5 A6 m6 c6 l) : Calls Try.prog 13 #[nodV a A n c A2 n2 c2, nodV b B m d B2 m2 d2] W fun e w' => e = .returned (.bool r2) ∧ PutW w w' a b (.slice A n c) (.slice A2 n2 c2) (.slice B m d) (.slice B2 m2 d2) A5 m5 c5 A6 m6 c6 l := (Same_any7 W a b A n c A2 n2 c2 B m d B2 m2 d2 (ha.below hW.two.low) (hb.below hW.two.low) r2 hr).mono fun e w' ⟨h1, h2⟩ => ⟨h1, hW.later h2⟩
theorem pt_SR (ha : NodIn w a A n c A2 n2 c2) (hb : NodIn w b B m d B2 m2 d2) (r2 : Bool) (hr : sameN a b = r2) (W : World) (hW : PutW w W a b (.slice A n c) (.slice A2 n2 c2) (.slice B m d) (.slice B2 m2 d2) A5 m5 c5 A6 m6 c6 l) : Calls Try.prog 14 #[nodV a A n c A2 n2 c2, nodV b B m d B2 m2 d2] W fun e w' => e = .returned (.bool r2) ∧ PutW w w' a b (.slice A n c) (.slice A2 n2 c2) (.slice B m d) (.slice B2 m2 d2) A5 m5 c5 A6 m6 c6 l := (refSame_any7 W a b A n c A2 n2 c2 B m d B2 m2 d2 (ha.below hW.two.low) (hb.below hW.two.low) r2 hr).mono fun e w' ⟨h1, h2⟩ => ⟨h1, hW.later h2⟩
theorem pt_WI  (tree : Int) (leaf : Bool) (wd : Nat) (hr : widN tree leaf = wd) (ht : i64b tree) (W : World) (hW : PutW w W a b (.slice A n c) (.slice A2 n2 c2) (.slice B m d) (.slice B2 m2 d2) A5 m5 c5 A6 m6 c6 l) : Calls Try.prog 15 #[.int .i64 tree, .bool leaf] W fun e w' => e = .returned (.int .i64 (wd : Int)) ∧ PutW w w' a b (.slice A n c) (.slice A2 n2 c2) (.slice B m d) (.slice B2 m2 d2) A5 m5 c5 A6 m6 c6 l := (Width_any tree leaf W wd hr).mono fun e w' ⟨h1, h2⟩ => ⟨h1, h2 ▸ hW⟩
theorem pt_WR  (tree : Int) (leaf : Bool) (wd : Nat) (hr : widN tree leaf = wd) (ht : i64b tree) (W : World) (hW : PutW w W a b (.slice A n c) (.slice A2 n2 c2) (.slice B m d) (.slice B2 m2 d2) A5 m5 c5 A6 m6 c6 l) : Calls Try.prog 16 #[.int .i64 tree, .bool leaf] W fun e w' => e = .returned (.int .i64 (wd : Int)) ∧ PutW w w' a b (.slice A n c) (.slice A2 n2 c2) (.slice B m d) (.slice B2 m2 d2) A5 m5 c5 A6 m6 c6 l := (refWidth_any tree leaf W wd hr ht).mono fun e w' ⟨h1, h2⟩ => ⟨h1, hW.later h2⟩
theorem pt_MI  (tree : Int) (leaf : Bool) (mx : Nat) (hr : capN (widN tree leaf) = mx) (ht : i64b tree) (W : World) (hW : PutW w W a b (.slice A n c) (.slice A2 n2 c2) (.slice B m d) (.slice B2 m2 d2) A5 m5 c5 A6 m6 c6 l) : Calls Try.prog 17 #[.int .i64 tree, .bool leaf] W fun e w' => e = .returned (.int .i64 (mx : Int)) ∧ PutW w w' a b (.slice A n c) (.slice A2 n2 c2) (.slice B m d) (.slice B2 m2 d2) A5 m5 c5 A6 m6 c6 l := (Max_any tree leaf W mx hr).mono fun e w' ⟨h1, h2⟩ => ⟨h1, h2 ▸ hW⟩
theorem pt_MR  (tree : Int) (leaf : Bool) (mx : Nat) (hr : capN (widN tree leaf) = mx) (ht : i64b tree) (W : World) (hW : PutW w W a b (.slice A n c) (.slice A2 n2 c2) (.slice B m d) (.slice B2 m2 d2) A5 m5 c5 A6 m6 c6 l) : Calls Try.prog 18 #[.int .i64 tree, .bool leaf] W fun e w' => e = .returned (.int .i64 (mx : Int)) ∧ PutW w w' a b (.slice A n c) (.slice A2 n2 c2) (.slice B m d) (.slice B2 m2 d2) A5 m5 c5 A6 m6 c6 l := (refMax_any tree leaf W mx hr ht).mono fun e w' ⟨h1, h2⟩ => ⟨h1, hW.later h2⟩
theorem pt_LV   (W : World) (hW : PutW w W a b (.slice A n c) (.slice A2 n2 c2) (.slice B m d) (.slice B2 m2 d2) A5 m5 c5 A6 m6 c6 l) : Calls Try.prog 8 #[] W fun e w' => e = .returned (.bool true) ∧ PutW w w' a b (.slice A n c) (.slice A2 n2 c2) (.slice B m d) (.slice B2 m2 d2) A5 m5 c5 A6 m6 c6 l := (lives7_any W).mono fun e w' ⟨h1, h2⟩ => ⟨h1, hW.later h2⟩
theorem pt_shA (ha : NodIn w a A n c A2 n2 c2) (r : Bool) (hr : shortN a = r) (W : World) (hW : Two7 w W w.heap.size a b (.slice A n c) (.slice A2 n2 c2) (.slice B m d) (.slice B2 m2 d2)) : Calls Try.prog 7 #[nodV a A n c A2 n2 c2] W fun e w' => e = .returned (.bool r) ∧ Two7 w w' w.heap.size a b (.slice A n c) (.slice A2 n2 c2) (.slice B m d) (.slice B2 m2 d2) := (short_any W a A n c A2 n2 c2 (ha.below hW.low) r hr).mono fun e w' ⟨h1, h2⟩ => ⟨h1, hW.later h2⟩
theorem pt_shB (hb : NodIn w b B m d B2 m2 d2) (r : Bool) (hr : shortN b = r) (W : World) (hW : Two7 w W w.heap.size a b (.slice A n c) (.slice A2 n2 c2) (.slice B m d) (.slice B2 m2 d2)) : Calls Try.prog 7 #[nodV b B m d B2 m2 d2] W fun e w' => e = .returned (.bool r) ∧ Two7 w w' w.heap.size a b (.slice A n c) (.slice A2 n2 c2) (.slice B m d) (.slice B2 m2 d2) := (short_any W b B m d B2 m2 d2 (hb.below hW.low) r hr).mono fun e w' ⟨h1, h2⟩ => ⟨h1, hW.later h2⟩
theorem pt_lv (W : World) (hW : Two7 w W w.heap.size a b (.slice A n c) (.slice A2 n2 c2) (.slice B m d) (.slice B2 m2 d2)) : Calls Try.prog 8 #[] W fun e w' => e = .returned (.bool true) ∧ Two7 w w' w.heap.size a b (.slice A n c) (.slice A2 n2 c2) (.slice B m d) (.slice B2 m2 d2) := (lives7_any W).mono fun e w' ⟨h1, h2⟩ => ⟨h1, hW.later h2⟩
theorem pt_put (ha : NodIn w a A n c A2 n2 c2) (W : World) (hW : Two7 w W w.heap.size a b (.slice A n c) (.slice A2 n2 c2) (.slice B m d) (.slice B2 m2 d2)) : Calls Try.prog 9 #[nodV a A n c A2 n2 c2] W fun e w' => ∃ A5 m5 c5, e = .returned (.tuple #[.slice A5 m5 c5, .int .i64 (putNE a)]) ∧ Two7 w w' w.heap.size a b (.slice A n c) (.slice A2 n2 c2) (.slice B m d) (.slice B2 m2 d2) ∧ Bytes8 w' A5 m5 c5 (putNB a) := (Put_any7 W a A n c A2 n2 c2 (ha.below hW.low)).mono fun e w' ⟨A5, m5, c5, h1, h2, h3⟩ => ⟨A5, m5, c5, h1, hW.later h3, h2⟩
theorem pt_rput (ha : NodIn w a A n c A2 n2 c2) (W : World) (hW : Two7 w W w.heap.size a b (.slice A n c) (.slice A2 n2 c2) (.slice B m d) (.slice B2 m2 d2)) (hB : Bytes8 W A5 m5 c5 l) : Calls Try.prog 10 #[nodV a A n c A2 n2 c2] W fun e w' => ∃ A6 m6 c6, e = .returned (.tuple #[.slice A6 m6 c6, .int .i64 (putNE a)]) ∧ Two7 w w' w.heap.size a b (.slice A n c) (.slice A2 n2 c2) (.slice B m d) (.slice B2 m2 d2) ∧ Bytes8 w' A5 m5 c5 l ∧ Bytes8 w' A6 m6 c6 (putNB a) := (refPut_any7 W a A n c A2 n2 c2 (ha.below hW.low)).mono fun e w' ⟨A6, m6, c6, h1, h2, h3⟩ => ⟨A6, m6, c6, h1, hW.later h3, hB.below h3, h2⟩
end

/-- what the law's last line calls -/
def PutC (w : World) (a b : Nod) (A : Option Addr) (n c : Nat) (A2 : Option Addr) (n2 c2 : Nat) (B : Option Addr) (m d : Nat) (B2 : Option Addr) (m2 d2 : Nat) (A5 : Option Addr) (m5 c5 : Nat) (A6 : Option Addr) (m6 c6 : Nat) (l : List UInt8) (tree : Int) (leaf : Bool) (r1 r2 : Bool) (wd mx : Nat) : Prop :=
  (∀ W, PutW w W a b (.slice A n c) (.slice A2 n2 c2) (.slice B m d) (.slice B2 m2 d2) A5 m5 c5 A6 m6 c6 l → Calls Try.prog 11 #[nodV a A n c A2 n2 c2] W fun e w' => e = .returned (.bool r1) ∧ PutW w w' a b (.slice A n c) (.slice A2 n2 c2) (.slice B m d) (.slice B2 m2 d2) A5 m5 c5 A6 m6 c6 l) ∧
  (∀ W, PutW w W a b (.slice A n c) (.slice A2 n2 c2) (.slice B m d) (.slice B2 m2 d2) A5 m5 c5 A6 m6 c6 l → Calls Try.prog 12 #[nodV a A n c A2 n2 c2] W fun e w' => e = .returned (.bool r1) ∧ PutW w w' a b (.slice A n c) (.slice A2 n2 c2) (.slice B m d) (.slice B2 m2 d2) A5 m5 c5 A6 m6 c6 l) ∧
  (∀ W, PutW w W a b (.slice A n c) (.slice A2 n2 c2) (.slice B m d) (.slice B2 m2 d2) A5 m5 c5 A6 m6 c6 l → Calls Try.prog 13 #[nodV a A n c A2 n2 c2, nodV b B m d B2 m2 d2] W fun e w' => e = .returned (.bool r2) ∧ PutW w w' a b (.slice A n c) (.slice A2 n2 c2) (.slice B m d) (.slice B2 m2 d2) A5 m5 c5 A6 m6 c6 l) ∧
  (∀ W, PutW w W a b (.slice A n c) (.slice A2 n2 c2) (.slice B m d) (.slice B2 m2 d2) A5 m5 c5 A6 m6 c6 l → Calls Try.prog 14 #[nodV a A n c A2 n2 c2, nodV b B m d B2 m2 d2] W fun e w' => e = .returned (.bool r2) ∧ PutW w w' a b (.slice A n c) (.slice A2 n2 c2) (.slice B m d) (.slice B2 m2 d2) A5 m5 c5 A6 m6 c6 l) ∧
  (∀ W, PutW w W a b (.slice A n c) (.slice A2 n2 c2) (.slice B m d) (.slice B2 m2 d2) A5 m5 c5 A6 m6 c6 l → Calls Try.prog 15 #[.int .i64 tree, .bool leaf] W fun e w' => e = .returned (.int .i64 (wd : Int)) ∧ PutW w w' a b (.slice A n c) (.slice A2 n2 c2) (.slice B m d) (.slice B2 m2 d2) A5 m5 c5 A6 m6 c6 l) ∧
  (∀ W, PutW w W a b (.slice A n c) (.slice A2 n2 c2) (.slice B m d) (.slice B2 m2 d2) A5 m5 c5 A6 m6 c6 l → Calls Try.prog 16 #[.int .i64 tree, .bool leaf] W fun e w' => e = .returned (.int .i64 (wd : Int)) ∧ PutW w w' a b (.slice A n c) (.slice A2 n2 c2) (.slice B m d) (.slice B2 m2 d2) A5 m5 c5 A6 m6 c6 l) ∧
  (∀ W, PutW w W a b (.slice A n c) (.slice A2 n2 c2) (.slice B m d) (.slice B2 m2 d2) A5 m5 c5 A6 m6 c6 l → Calls Try.prog 17 #[.int .i64 tree, .bool leaf] W fun e w' => e = .returned (.int .i64 (mx : Int)) ∧ PutW w w' a b (.slice A n c) (.slice A2 n2 c2) (.slice B m d) (.slice B2 m2 d2) A5 m5 c5 A6 m6 c6 l) ∧
  (∀ W, PutW w W a b (.slice A n c) (.slice A2 n2 c2) (.slice B m d) (.slice B2 m2 d2) A5 m5 c5 A6 m6 c6 l → Calls Try.prog 18 #[.int .i64 tree, .bool leaf] W fun e w' => e = .returned (.int .i64 (mx : Int)) ∧ PutW w w' a b (.slice A n c) (.slice A2 n2 c2) (.slice B m d) (.slice B2 m2 d2) A5 m5 c5 A6 m6 c6 l) ∧
  (∀ W, PutW w W a b (.slice A n c) (.slice A2 n2 c2) (.slice B m d) (.slice B2 m2 d2) A5 m5 c5 A6 m6 c6 l → Calls Try.prog 8 #[] W fun e w' => e = .returned (.bool true) ∧ PutW w w' a b (.slice A n c) (.slice A2 n2 c2) (.slice B m d) (.slice B2 m2 d2) A5 m5 c5 A6 m6 c6 l)

set_option maxHeartbeats 800000 in
theorem puts_longA (w : World) (a b : Nod) (A : Option Addr) (n c : Nat) (A2 : Option Addr) (n2 c2 : Nat) (B : Option Addr) (m d : Nat) (B2 : Option Addr) (m2 d2 : Nat) (tree : Int) (leaf : Bool) (ha : NodIn w a A n c A2 n2 c2) (hb : NodIn w b B m d B2 m2 d2) (ht : i64b tree) (hs : shortN a = false) :
    Calls Try.prog 3 #[nodV a A n c A2 n2 c2, nodV b B m d B2 m2 d2, .int .i64 tree, .bool leaf] w fun e w' => e = .returned (.bool true) ∧ Below w.heap.size w w' := by
  have T0 := Lib.hid (two_nodes w a b (.slice A n c) (.slice A2 n2 c2) (.slice B m d) (.slice B2 m2 d2))
  have SH := Lib.hid (pt_shA (b := b) (B := B) (m := m) (d := d) (B2 := B2) (m2 := m2) (d2 := d2) ha false hs)
  have LV := Lib.hid (pt_lv (w := w) (a := a) (b := b) (A := A) (n := n) (c := c) (A2 := A2) (n2 := n2) (c2 := c2) (B := B) (m := m) (d := d) (B2 := B2) (m2 := m2) (d2 := d2))
  simp only [nodV] at SH ⊢
  clear ha hb hs
  go_enter Try.func3, Try.ntmps3
  go_wp2_with (first
    | (go_at_call 7; (with_reducible refine (SH.out _ T0.out).mono ?_); rintro e w1 ⟨rfl, hN1⟩)
    | (go_at_call 8; (with_reducible refine (LV.out _ hN1).mono ?_); rintro e w2 ⟨rfl, hN2⟩))
  go_ret
  exact ⟨rfl, hN2.bel⟩

set_option maxHeartbeats 800000 in
theorem puts_longB (w : World) (a b : Nod) (A : Option Addr) (n c : Nat) (A2 : Option Addr) (n2 c2 : Nat) (B : Option Addr) (m d : Nat) (B2 : Option Addr) (m2 d2 : Nat) (tree : Int) (leaf : Bool) (ha : NodIn w a A n c A2 n2 c2) (hb : NodIn w b B m d B2 m2 d2) (ht : i64b tree) (hs : shortN a = true) (hs2 : shortN b = false) :
    Calls Try.prog 3 #[nodV a A n c A2 n2 c2, nodV b B m d B2 m2 d2, .int .i64 tree, .bool leaf] w fun e w' => e = .returned (.bool true) ∧ Below w.heap.size w w' := by
  have T0 := Lib.hid (two_nodes w a b (.slice A n c) (.slice A2 n2 c2) (.slice B m d) (.slice B2 m2 d2))
  have SH := Lib.hid (pt_shA (b := b) (B := B) (m := m) (d := d) (B2 := B2) (m2 := m2) (d2 := d2) ha true hs)
  have SB := Lib.hid (pt_shB (a := a) (A := A) (n := n) (c := c) (A2 := A2) (n2 := n2) (c2 := c2) hb false hs2)
  have LV := Lib.hid (pt_lv (w := w) (a := a) (b := b) (A := A) (n := n) (c := c) (A2 := A2) (n2 := n2) (c2 := c2) (B := B) (m := m) (d := d) (B2 := B2) (m2 := m2) (d2 := d2))
  simp only [nodV] at SH SB ⊢
  clear ha hb hs hs2
  go_enter Try.func3, Try.ntmps3
  go_wp2_with (first
    | (go_at_call 7; (with_reducible refine (SH.out _ T0.out).mono ?_); rintro e w1 ⟨rfl, hN1⟩; have a0 := hN1.snd.c0; have a1 := hN1.snd.c1; have a2 := hN1.snd.c2; have a3 := hN1.snd.c3)
    | (go_at_call 7; (with_reducible refine (SB.out _ hN1).mono ?_); rintro e w2 ⟨rfl, hN2⟩)
    | (go_at_call 8; (with_reducible refine (LV.out _ hN2).mono ?_); rintro e w3 ⟨rfl, hN3⟩))
  go_ret
  exact ⟨rfl, hN3.bel⟩

set_option maxRecDepth 100000 in
set_option maxHeartbeats 6400000 in
theorem puts_both (w : World) (a b : Nod) (A : Option Addr) (n c : Nat) (A2 : Option Addr) (n2 c2 : Nat) (B : Option Addr) (m d : Nat) (B2 : Option Addr) (m2 d2 : Nat) (tree : Int) (leaf : Bool) (ha : NodIn w a A n c A2 n2 c2) (hb : NodIn w b B m d B2 m2 d2) (ht : i64b tree) (hs : shortN a = true) (hs2 : shortN b = true) :
    Calls Try.prog 3 #[nodV a A n c A2 n2 c2, nodV b B m d B2 m2 d2, .int .i64 tree, .bool leaf] w fun e w' => e = .returned (.bool true) ∧ Below w.heap.size w w' := by
  have T0 := Lib.hid (two_nodes w a b (.slice A n c) (.slice A2 n2 c2) (.slice B m d) (.slice B2 m2 d2))
  have SH := Lib.hid (pt_shA (b := b) (B := B) (m := m) (d := d) (B2 := B2) (m2 := m2) (d2 := d2) ha true hs)
  have SB := Lib.hid (pt_shB (a := a) (A := A) (n := n) (c := c) (A2 := A2) (n2 := n2) (c2 := c2) hb true hs2)
  have PU := Lib.hid (pt_put (b := b) (B := B) (m := m) (d := d) (B2 := B2) (m2 := m2) (d2 := d2) ha)
  have RP := Lib.hid (fun A5 m5 c5 l => pt_rput (b := b) (B := B) (m := m) (d := d) (B2 := B2) (m2 := m2) (d2 := d2) (A5 := A5) (m5 := m5) (c5 := c5) (l := l) ha)
  obtain ⟨r1, hr1⟩ : ∃ r1, rightN a = r1 := ⟨_, rfl⟩
  obtain ⟨r2, hr2⟩ : ∃ r2, sameN a b = r2 := ⟨_, rfl⟩
  obtain ⟨wd, hwd⟩ : ∃ wd, widN tree leaf = wd := ⟨_, rfl⟩
  obtain ⟨mx, hmx⟩ : ∃ mx, capN (widN tree leaf) = mx := ⟨_, rfl⟩
  have LC : Hid (∀ A5 m5 c5 A6 m6 c6 l, PutC w a b A n c A2 n2 c2 B m d B2 m2 d2 A5 m5 c5 A6 m6 c6 l tree leaf r1 r2 wd mx) := fun A5 m5 c5 A6 m6 c6 l =>
    ⟨pt_RI ha r1 hr1, pt_RR ha r1 hr1, pt_SA ha hb r2 hr2, pt_SR ha hb r2 hr2, pt_WI tree leaf wd hwd ht, pt_WR tree leaf wd hwd ht, pt_MI tree leaf mx hmx ht, pt_MR tree leaf mx hmx ht, pt_LV ⟩
  generalize putNE a = pe at *
  generalize putNB a = l at *
  obtain ⟨ta, la, ka, va⟩ := a
  obtain ⟨tb, lb, kb, vb⟩ := b
  simp only [nodV] at SH SB PU RP ⊢
  clear hs hs2 hr1 hr2 hwd hmx ha hb
  go_enter Try.func3, Try.ntmps3
  go_wp2_with (first
    | (go_at_call 7; (with_reducible refine (SH.out _ T0.out).mono ?_); rintro e w1 ⟨rfl, hN1⟩; have a0 := hN1.snd.c0; have a1 := hN1.snd.c1; have a2 := hN1.snd.c2; have a3 := hN1.snd.c3)
    | (go_at_call 7; (with_reducible refine (SB.out _ hN1).mono ?_); rintro e w2 ⟨rfl, hN2⟩; have b0 := hN2.fst.c0; have b1 := hN2.fst.c1; have b2 := hN2.fst.c2; have b3 := hN2.fst.c3)
    | (go_at_call 9; (with_reducible refine (PU.out _ hN2).mono ?_); rintro e w3 ⟨A5, m5, c5, rfl, hN3, hB5⟩; have HB5 := Lib.hid hB5; clear hB5; have e0 := hN3.fst.c0; have e1 := hN3.fst.c1; have e2 := hN3.fst.c2; have e3 := hN3.fst.c3)
    | (go_at_call 10; (with_reducible refine (RP.out _ _ _ _ _ hN3 HB5.out).mono ?_); rintro e w4 ⟨A6, m6, c6, rfl, hN4, hB6, hB7⟩; have HP := Lib.hid (show PutW w w4.drew _ _ (.slice A n c) (.slice A2 n2 c2) (.slice B m d) (.slice B2 m2 d2) A5 m5 c5 A6 m6 c6 l from (PutW.mk hN4 hB6 hB7).later ((Below.refl _ _).drew)); clear hB6 hB7))
  have C := LC.out A5 m5 c5 A6 m6 c6 l
  simp only [PutC, nodV] at C
  obtain ⟨RI0, RR0, SA0, SR0, WI0, WR0, MI0, MR0, LV0⟩ := C
  have RI := Lib.hid RI0
  have RR := Lib.hid RR0
  have SA := Lib.hid SA0
  have SR := Lib.hid SR0
  have WI := Lib.hid WI0
  have WR := Lib.hid WR0
  have MI := Lib.hid MI0
  have MR := Lib.hid MR0
  have LV := Lib.hid LV0
  have hP := HP.out
  have hs := hP.cells
  clear LC RI0 RR0 SA0 SR0 WI0 WR0 MI0 MR0 LV0
  clear a0 a1 a2 a3 b0 b1 b2 b3 e0 e1 e2 e3 hN1 hN2 hN3 hN4 T0 SH SB PU RP HB5
  dsimp only at hs
  go_region_held3 (fun W => (convert 28 9 (.slice A5 m5 c5)).run Try.prog W = .ok (.string ⟨l.toArray⟩) W ∧ (convert 28 9 (.slice A6 m6 c6)).run Try.prog W = .ok (.string ⟨l.toArray⟩) W ∧ W.cell? ⟨w.heap.size, 0, none⟩ = some (.int .i64 ta) ∧ W.cell? ⟨w.heap.size, 1, none⟩ = some (.bool la) ∧ W.cell? ⟨w.heap.size, 2, none⟩ = some (.slice A n c) ∧ W.cell? ⟨w.heap.size, 3, none⟩ = some (.slice A2 n2 c2) ∧ W.cell? ⟨w.heap.size + 1, 0, none⟩ = some (.int .i64 tb) ∧ W.cell? ⟨w.heap.size + 1, 1, none⟩ = some (.bool lb) ∧ W.cell? ⟨w.heap.size + 1, 2, none⟩ = some (.slice B m d) ∧ W.cell? ⟨w.heap.size + 1, 3, none⟩ = some (.slice B2 m2 d2))
    (first | assumption)
    (first
      | (go_at_call 11; (with_reducible refine (RI.out _ (by assumption)).mono ?_); rintro e x0 ⟨rfl, hP0⟩; have hs0 := hP0.cells)
      | (go_at_call 12; (with_reducible refine (RR.out _ (by assumption)).mono ?_); rintro e x1 ⟨rfl, hP1⟩; have hs1 := hP1.cells)
      | (go_at_call 13; (with_reducible refine (SA.out _ (by assumption)).mono ?_); rintro e x2 ⟨rfl, hP2⟩; have hs2 := hP2.cells)
      | (go_at_call 14; (with_reducible refine (SR.out _ (by assumption)).mono ?_); rintro e x3 ⟨rfl, hP3⟩; have hs3 := hP3.cells)
      | (go_at_call 15; (with_reducible refine (WI.out _ (by assumption)).mono ?_); rintro e x4 ⟨rfl, hP4⟩; have hs4 := hP4.cells)
      | (go_at_call 16; (with_reducible refine (WR.out _ (by assumption)).mono ?_); rintro e x5 ⟨rfl, hP5⟩; have hs5 := hP5.cells)
      | (go_at_call 17; (with_reducible refine (MI.out _ (by assumption)).mono ?_); rintro e x6 ⟨rfl, hP6⟩; have hs6 := hP6.cells)
      | (go_at_call 18; (with_reducible refine (MR.out _ (by assumption)).mono ?_); rintro e x7 ⟨rfl, hP7⟩; have hs7 := hP7.cells)
      | (go_at_call 8; (with_reducible refine (LV.out _ (by assumption)).mono ?_); rintro e x8 ⟨rfl, hP8⟩; have hs8 := hP8.cells))
  go_wp2
  go_ret
  exact ⟨rfl, hP8.two.bel⟩

theorem puts_walk (tn : Int) (lf : Bool) (A : Option Addr) (n c : Nat) (ks : List Int) (A2 : Option Addr) (n2 c2 : Nat) (vs : List (List UInt8)) (tm : Int) (lm : Bool) (B : Option Addr) (m d : Nat) (ks2 : List Int) (B2 : Option Addr) (m2 d2 : Nat) (vs2 : List (List UInt8)) (tree : Int) (leaf : Bool) (w : World)
    (t1 : -9223372036854775808 ≤ tn ∧ tn ≤ 9223372036854775807) (h1 : Ints w A n c ks) (h2 : ∀ y ∈ ks, -9223372036854775808 ≤ y ∧ y ≤ 9223372036854775807) (h3 : Strs w A2 n2 c2 vs) (h4 : ∀ v ∈ vs, v.length ≤ 9223372036854775807)
    (t2 : -9223372036854775808 ≤ tm ∧ tm ≤ 9223372036854775807) (k1 : Ints w B m d ks2) (k2 : ∀ y ∈ ks2, -9223372036854775808 ≤ y ∧ y ≤ 9223372036854775807) (k3 : Strs w B2 m2 d2 vs2) (k4 : ∀ v ∈ vs2, v.length ≤ 9223372036854775807)
    (ht : -9223372036854775808 ≤ tree ∧ tree ≤ 9223372036854775807) :
    Calls Try.prog 3 #[.agg #[.int .i64 tn, .bool lf, .slice A n c, .slice A2 n2 c2], .agg #[.int .i64 tm, .bool lm, .slice B m d, .slice B2 m2 d2], .int .i64 tree, .bool leaf] w fun e w' => e = .returned (.bool true) ∧ Below w.heap.size w w' := by
  have hI : NodIn w ⟨tn, lf, ks, vs⟩ A n c A2 n2 c2 := ⟨h1, h3, t1, h2, h4⟩
  have hJ : NodIn w ⟨tm, lm, ks2, vs2⟩ B m d B2 m2 d2 := ⟨k1, k3, t2, k2, k4⟩
  change Calls Try.prog 3 #[nodV ⟨tn, lf, ks, vs⟩ A n c A2 n2 c2, nodV ⟨tm, lm, ks2, vs2⟩ B m d B2 m2 d2, .int .i64 tree, .bool leaf] w fun e w' => e = .returned (.bool true) ∧ Below w.heap.size w w'
  cases hs : shortN ⟨tn, lf, ks, vs⟩ with
  | false => exact puts_longA w _ _ A n c A2 n2 c2 B m d B2 m2 d2 tree leaf hI hJ ht hs
  | true =>
    cases hs2 : shortN ⟨tm, lm, ks2, vs2⟩ with
    | false => exact puts_longB w _ _ A n c A2 n2 c2 B m d B2 m2 d2 tree leaf hI hJ ht hs hs2
    | true => exact puts_both w _ _ A n c A2 n2 c2 B m d B2 m2 d2 tree leaf hI hJ ht hs hs2

end Go.Proofs.Ytebcbaejpebpfaa
