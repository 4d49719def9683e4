/-
  Layer 7's Same.
-/
import Derived.Test.YtebcbaejpebpfaaNodE
namespace Go.Proofs.Ytebcbaejpebpfaa
open Go.RowKit
set_option linter.unusedVariables false
set_option linter.unusedSimpArgs false

/-- are all fields equal? -/
def sameN (a b : Nod) : Bool := decide (a.tree = b.tree) && (decide (a.leaf = b.leaf) && (decide (a.keys = b.keys) && decide (a.vals = b.vals)))
theorem sameN_iff {a b : Nod} : sameN a b = true ↔ a = b := by
  obtain ⟨t, l, k, v⟩ := a
  obtain ⟨t2, l2, k2, v2⟩ := b
  simp [sameN]
theorem sameN_refl (a : Nod) : sameN a a = true := sameN_iff.2 rfl

/-- two nodes in blocks p and p + 1, and all below p as it was -/
structure Two7 (w0 w : World) (p : Nat) (a b : Nod) (sa1 sa2 sb1 sb2 : Value) : Prop where
  fst : NodAt w p a.tree a.leaf sa1 sa2
  snd : NodAt w (p + 1) b.tree b.leaf sb1 sb2
  bel : Below p w0 w
theorem Two7.later {w0 w w' : World} {p : Nat} {a b : Nod} {sa1 sa2 sb1 sb2 : Value} (h : Two7 w0 w p a b sa1 sa2 sb1 sb2) (hb : Below w.heap.size w w') : Two7 w0 w' p a b sa1 sa2 sb1 sb2 :=
  ⟨h.fst.later hb, h.snd.later hb, h.bel.trans (hb.mono (Nat.le_of_lt (block_lt h.fst)))⟩
theorem two_nodes (w : World) (a b : Nod) (sa1 sa2 sb1 sb2 : Value) : Two7 w ((w.alloc (.cells #[.int .i64 a.tree, .bool a.leaf, sa1, sa2] 25)).alloc (.cells #[.int .i64 b.tree, .bool b.leaf, sb1, sb2] 25)) w.heap.size a b sa1 sa2 sb1 sb2 := by
  have h1 := NodAt.new w a.tree a.leaf sa1 sa2
  have h2 := NodAt.new (w.alloc (.cells #[.int .i64 a.tree, .bool a.leaf, sa1, sa2] 25)) b.tree b.leaf sb1 sb2
  have hs : (w.alloc (.cells #[.int .i64 a.tree, .bool a.leaf, sa1, sa2] 25)).heap.size = w.heap.size + 1 := by simp
  rw [hs] at h2
  have b1 : Below w.heap.size w (w.alloc (.cells #[.int .i64 a.tree, .bool a.leaf, sa1, sa2] 25)) := (Below.refl _ _).alloc (Nat.le_refl _) _
  have b2 : Below (w.alloc (.cells #[.int .i64 a.tree, .bool a.leaf, sa1, sa2] 25)).heap.size (w.alloc (.cells #[.int .i64 a.tree, .bool a.leaf, sa1, sa2] 25)) ((w.alloc (.cells #[.int .i64 a.tree, .bool a.leaf, sa1, sa2] 25)).alloc (.cells #[.int .i64 b.tree, .bool b.leaf, sb1, sb2] 25)) := (Below.refl _ _).alloc (Nat.le_refl _) _
  exact ⟨h1.later b2, h2, b1.trans (b2.mono (by omega))⟩

set_option maxRecDepth 100000 in
set_option maxHeartbeats 1600000 in
theorem Same_any7 (w : World) (a b : Nod) (A : Option Addr) (n c : Nat) (A2 : Option Addr) (n2 c2 : Nat) (B : Option Addr) (m d : Nat) (B2 : Option Addr) (m2 d2 : Nat) (ha : NodIn w a A n c A2 n2 c2) (hb : NodIn w b B m d B2 m2 d2) (r : Bool) (hr : sameN a b = r) :
    Calls Try.prog 13 #[nodV a A n c A2 n2 c2, nodV b B m d B2 m2 d2] w fun e w' => e = .returned (.bool r) ∧ Below w.heap.size w w' := by
  have T0 := two_nodes w a b (.slice A n c) (.slice A2 n2 c2) (.slice B m d) (.slice B2 m2 d2)
  have k0 := T0.fst.c0
  have k1 := T0.fst.c1
  have k2 := T0.fst.c2
  have k3 := T0.fst.c3
  have l0 := T0.snd.c0
  have l1 := T0.snd.c1
  have l2 := T0.snd.c2
  have l3 := T0.snd.c3
  have HT := Lib.hid T0
  have EI : Hid (∀ W r, Two7 w W w.heap.size a b (.slice A n c) (.slice A2 n2 c2) (.slice B m d) (.slice B2 m2 d2) → decide (a.keys = b.keys) = r → Calls Try.prog 26 #[.slice A n c, .slice B m d] W fun e w' => e = .returned (.bool r) ∧ Two7 w w' w.heap.size a b (.slice A n c) (.slice A2 n2 c2) (.slice B m d) (.slice B2 m2 d2)) := fun W r hW hx =>
    (EqI_any A n c a.keys B m d b.keys W (ha.keys.below hW.bel) (hb.keys.below hW.bel) r hx).mono fun e w' ⟨h1, h2⟩ => ⟨h1, hW.later h2⟩
  have ES : Hid (∀ W r, Two7 w W w.heap.size a b (.slice A n c) (.slice A2 n2 c2) (.slice B m d) (.slice B2 m2 d2) → decide (a.vals = b.vals) = r → Calls Try.prog 27 #[.slice A2 n2 c2, .slice B2 m2 d2] W fun e w' => e = .returned (.bool r) ∧ Two7 w w' w.heap.size a b (.slice A n c) (.slice A2 n2 c2) (.slice B m d) (.slice B2 m2 d2)) := fun W r hW hx =>
    (EqS_any A2 n2 c2 a.vals B2 m2 d2 b.vals W (ha.vals.below hW.bel) (hb.vals.below hW.bel) r hx).mono fun e w' ⟨h1, h2⟩ => ⟨h1, hW.later h2⟩
  clear T0 ha hb
  obtain ⟨tree, leaf, ks, vs⟩ := a
  obtain ⟨tree2, leaf2, ks2, vs2⟩ := b
  simp only [sameN] at hr
  dsimp only at *
  simp only [nodV]
  by_cases h1 : tree = tree2
  · subst h1
    by_cases h2 : leaf = leaf2
    · subst h2
      cases h3 : decide (ks = ks2) with
      | false =>
        obtain rfl : false = r := by rw [← hr, h3]; simp
        have E := Lib.hid (fun W hW => EI.out W false hW h3)
        clear hr EI ES h3
        go_enter Try.func13, Try.ntmps13
        go_wp2_with (go_at_call 26; (with_reducible refine (E.out _ HT.out).mono ?_); rintro e w1 ⟨rfl, hT1⟩)
        go_ret
        exact ⟨rfl, hT1.bel⟩
      | true =>
        have E := Lib.hid (fun W hW => EI.out W true hW h3)
        obtain ⟨r2, hr2⟩ : ∃ r2, decide (vs = vs2) = r2 := ⟨_, rfl⟩
        obtain rfl : r2 = r := by rw [← hr, h3, hr2]; simp
        have F := Lib.hid (fun W hW => ES.out W r2 hW hr2)
        clear hr EI ES h3 hr2
        go_enter Try.func13, Try.ntmps13
        go_wp2_with (first
          | (go_at_call 26; (with_reducible refine (E.out _ HT.out).mono ?_); rintro e w1 ⟨rfl, hT1⟩; have q3 := hT1.fst.c3; have p3 := hT1.snd.c3)
          | (go_at_call 27; (with_reducible refine (F.out _ hT1).mono ?_); rintro e w2 ⟨rfl, hT2⟩))
        go_ret
        exact ⟨rfl, hT2.bel⟩
    · obtain rfl : false = r := by rw [← hr]; simp [h2]
      have hne : (leaf == leaf2) = false := by cases leaf <;> cases leaf2 <;> first | rfl | exact absurd rfl h2
      clear hr EI ES
      go_enter Try.func13, Try.ntmps13
      go_wp2
      go_ret
      exact ⟨rfl, HT.out.bel⟩
  · obtain rfl : false = r := by rw [← hr]; simp [h1]
    have hne : (tree == tree2) = false := by rw [beq_eq_false_iff_ne]; exact h1
    clear hr EI ES
    go_enter Try.func13, Try.ntmps13
    go_wp2
    go_ret
    exact ⟨rfl, HT.out.bel⟩

end Go.Proofs.Ytebcbaejpebpfaa
