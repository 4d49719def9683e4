/-
  The walk of NodeBack.
-/
import Derived.Test.YtebcbaejpebpfaaNodJ
import Derived.Test.YtebcbaejpebpfaaMemI
namespace Go.Proofs.Ytebcbaejpebpfaa
open Go.RowKit
set_option linter.unusedVariables false
set_option linter.unusedSimpArgs false

/-- the law's node in block p, all below as it was -/
structure BkN (w0 w : World) (tree : Int) (leaf : Bool) (s1 s2 : Value) : Prop where
  node : NodAt w w0.heap.size tree leaf s1 s2
  bel : Below w0.heap.size w0 w
theorem BkN.later {w0 w w' : World} {tree : Int} {leaf : Bool} {s1 s2 : Value} (h : BkN w0 w tree leaf s1 s2) (hb : Below w.heap.size w w') : BkN w0 w' tree leaf s1 s2 := ⟨h.node.later hb, h.bel.trans (hb.mono h.bel.size)⟩
theorem BkN.new (w : World) (tree : Int) (leaf : Bool) (s1 s2 : Value) : BkN w (w.alloc (.cells #[.int .i64 tree, .bool leaf, s1, s2] 25)) tree leaf s1 s2 := ⟨NodAt.new _ _ _ _ _, (Below.refl _ _).alloc (Nat.le_refl _) _⟩
theorem BkN.past {w0 w : World} {tree : Int} {leaf : Bool} {s1 s2 : Value} (h : BkN w0 w tree leaf s1 s2) (o : Obj) : BkN w0 (w.alloc o) tree leaf s1 s2 := h.later ((Below.refl _ _).alloc (Nat.le_refl _) _)

abbrev bkNode (tree : Int) (leaf : Bool) (s1 s2 : Value) : Obj := .cells #[.int .i64 tree, .bool leaf, s1, s2] 25

section
variable {w : World} {nd : Nod} {A : Option Addr} {n c : Nat} {A2 : Option Addr} {n2 c2 : Nat} {A3 : Option Addr} {q c3 : Nat} {l : List UInt8}

/-- Read of the law's bytes -/
theorem bk_read (hB : Bytes8 w A3 q c3 l) (W : World) (hW : BkN w W nd.tree nd.leaf (.slice A n c) (.slice A2 n2 c2)) :
    Calls Try.prog 19 #[.slice A3 q c3] W fun e w' => ∃ A5 n5 c5 A6 n6 c6, e = .returned (.tuple #[nodV (readN l) A5 n5 c5 A6 n6 c6, .int .i64 (readNE l)]) ∧ NodIn w' (readN l) A5 n5 c5 A6 n6 c6 ∧ BkN w w' nd.tree nd.leaf (.slice A n c) (.slice A2 n2 c2) := by
  refine (Read_any7 W A3 q c3 l (hB.below hW.bel)).mono ?_
  rintro e w' ⟨A5, n5, c5, A6, n6, c6, h1, h2, h3⟩
  exact ⟨A5, n5, c5, A6, n6, c6, h1, h2, hW.later h3⟩

theorem bk_lives (W : World) (hW : BkN w W nd.tree nd.leaf (.slice A n c) (.slice A2 n2 c2)) : Calls Try.prog 8 #[] W fun e w' => e = .returned (.bool true) ∧ BkN w w' nd.tree nd.leaf (.slice A n c) (.slice A2 n2 c2) :=
  (lives7_any W).mono fun e w' ⟨h1, h2⟩ => ⟨h1, hW.later h2⟩

theorem bk_short (hI : NodIn w nd A n c A2 n2 c2) (r : Bool) (hr : shortN nd = r) (W : World) (hW : BkN w W nd.tree nd.leaf (.slice A n c) (.slice A2 n2 c2)) : Calls Try.prog 7 #[nodV nd A n c A2 n2 c2] W fun e w' => e = .returned (.bool r) ∧ BkN w w' nd.tree nd.leaf (.slice A n c) (.slice A2 n2 c2) :=
  (short_any W nd A n c A2 n2 c2 (hI.below hW.bel) r hr).mono fun e w' ⟨h1, h2⟩ => ⟨h1, hW.later h2⟩

theorem bk_right (hI : NodIn w nd A n c A2 n2 c2) (r : Bool) (hr : rightN nd = r) (W : World) (hW : BkN w W nd.tree nd.leaf (.slice A n c) (.slice A2 n2 c2)) : Calls Try.prog 11 #[nodV nd A n c A2 n2 c2] W fun e w' => e = .returned (.bool r) ∧ BkN w w' nd.tree nd.leaf (.slice A n c) (.slice A2 n2 c2) :=
  (Right_any W nd A n c A2 n2 c2 (hI.below hW.bel) r hr).mono fun e w' ⟨h1, h2⟩ => ⟨h1, hW.later h2⟩

theorem bk_right_keep (hI : NodIn w nd A n c A2 n2 c2) (hr : rightN nd = true) (W : World) (g : Nat) (hW : BkN w W nd.tree nd.leaf (.slice A n c) (.slice A2 n2 c2)) (hg : Bytes8 W (some ⟨g, 0, none⟩) 244 244 (encNod nd)) : Calls Try.prog 11 #[nodV nd A n c A2 n2 c2] W fun e w' => e = .returned (.bool true) ∧ Bytes8 w' (some ⟨g, 0, none⟩) 244 244 (encNod nd) ∧ BkN w w' nd.tree nd.leaf (.slice A n c) (.slice A2 n2 c2) :=
  (Right_any W nd A n c A2 n2 c2 (hI.below hW.bel) true hr).mono fun e w' ⟨h1, h2⟩ => ⟨h1, hg.below h2, hW.later h2⟩

theorem bk_put_bad (hI : NodIn w nd A n c A2 n2 c2) (hr : rightN nd = false) (W : World) (hW : BkN w W nd.tree nd.leaf (.slice A n c) (.slice A2 n2 c2)) : Calls Try.prog 9 #[nodV nd A n c A2 n2 c2] W fun e w' => e = .returned (.tuple #[.slice none 0 0, .int .i64 1]) ∧ BkN w w' nd.tree nd.leaf (.slice A n c) (.slice A2 n2 c2) :=
  (NPut_bad W nd A n c A2 n2 c2 (hI.below hW.bel) hr).mono fun e w' ⟨h1, h2⟩ => ⟨h1, hW.later h2⟩

theorem bk_put_good (hI : NodIn w nd A n c A2 n2 c2) (hr : rightN nd = true) (W : World) (hW : BkN w W nd.tree nd.leaf (.slice A n c) (.slice A2 n2 c2)) : Calls Try.prog 9 #[nodV nd A n c A2 n2 c2] W fun e w' => ∃ g, e = .returned (.tuple #[.slice (some ⟨g, 0, none⟩) 244 244, .int .i64 0]) ∧ Bytes8 w' (some ⟨g, 0, none⟩) 244 244 (encNod nd) ∧ BkN w w' nd.tree nd.leaf (.slice A n c) (.slice A2 n2 c2) :=
  (NPut_good W nd A n c A2 n2 c2 (hI.below hW.bel) hr).mono fun e w' ⟨g, h1, h2, h3⟩ => ⟨g, h1, h2.bytes (encNod_length hr) (by omega), hW.later h3⟩

/-- Read of what was put -/
theorem bk_read_back (hr : rightN nd = true) (W : World) (g : Nat) (hB : Bytes8 W (some ⟨g, 0, none⟩) 244 244 (encNod nd)) (hW : BkN w W nd.tree nd.leaf (.slice A n c) (.slice A2 n2 c2)) :
    Calls Try.prog 19 #[.slice (some ⟨g, 0, none⟩) 244 244] W fun e w' => ∃ A5 n5 c5 A6 n6 c6, e = .returned (.tuple #[nodV nd A5 n5 c5 A6 n6 c6, .int .i64 0]) ∧ NodIn w' nd A5 n5 c5 A6 n6 c6 ∧ BkN w w' nd.tree nd.leaf (.slice A n c) (.slice A2 n2 c2) := by
  refine (Read_any7 W _ 244 244 (encNod nd) hB).mono ?_
  rintro e w' ⟨A5, n5, c5, A6, n6, c6, h1, h2, h3⟩
  obtain ⟨e1, e2⟩ := nod_read hr
  have e3 : readN (encNod nd) = nd := by rw [readN, if_pos e1, e2]
  rw [e1, e3] at h1
  rw [e3] at h2
  exact ⟨A5, n5, c5, A6, n6, c6, h1, h2, hW.later h3⟩

/-- Same of a node that was read and the law's -/
theorem bk_same (hI : NodIn w nd A n c A2 n2 c2) (W : World) {A5 : Option Addr} {n5 c5 : Nat} {A6 : Option Addr} {n6 c6 : Nat} (h5 : NodIn W nd A5 n5 c5 A6 n6 c6) (hW : BkN w W nd.tree nd.leaf (.slice A n c) (.slice A2 n2 c2)) :
    Calls Try.prog 13 #[nodV nd A5 n5 c5 A6 n6 c6, nodV nd A n c A2 n2 c2] W fun e w' => e = .returned (.bool true) ∧ BkN w w' nd.tree nd.leaf (.slice A n c) (.slice A2 n2 c2) :=
  (Same_any7 W nd nd A5 n5 c5 A6 n6 c6 A n c A2 n2 c2 h5 (hI.below hW.bel) true (sameN_refl nd)).mono fun e w' ⟨h1, h2⟩ => ⟨h1, hW.later h2⟩

theorem bk_same_zero (W : World) {A5 : Option Addr} {n5 c5 : Nat} {A6 : Option Addr} {n6 c6 : Nat} (h5 : NodIn W Nod.zero A5 n5 c5 A6 n6 c6) (hW : BkN w W nd.tree nd.leaf (.slice A n c) (.slice A2 n2 c2)) :
    Calls Try.prog 13 #[nodV Nod.zero A5 n5 c5 A6 n6 c6, zeroNode] W fun e w' => e = .returned (.bool true) ∧ BkN w w' nd.tree nd.leaf (.slice A n c) (.slice A2 n2 c2) :=
  (Same_any7 W Nod.zero Nod.zero A5 n5 c5 A6 n6 c6 none 0 0 none 0 0 h5 (NodIn.zero W) true (sameN_refl _)).mono fun e w' ⟨h1, h2⟩ => ⟨h1, hW.later h2⟩

/-- Put and Right of what was read -/
theorem bk_put_read (h0 : readNE l = 0) (hq : l.length = q) (W : World) {A5 : Option Addr} {n5 c5 : Nat} {A6 : Option Addr} {n6 c6 : Nat} (h5 : NodIn W (nodR l) A5 n5 c5 A6 n6 c6) (p : Nat) (hp : NodAt W p (nodR l).tree (nodR l).leaf (.slice A5 n5 c5) (.slice A6 n6 c6)) (hW : BkN w W nd.tree nd.leaf (.slice A n c) (.slice A2 n2 c2)) :
    Calls Try.prog 9 #[nodV (nodR l) A5 n5 c5 A6 n6 c6] W fun e w' => ∃ A7 c7, e = .returned (.tuple #[.slice A7 q c7, .int .i64 0]) ∧ Bytes8 w' A7 q c7 l ∧ NodIn w' (nodR l) A5 n5 c5 A6 n6 c6 ∧ NodAt w' p (nodR l).tree (nodR l).leaf (.slice A5 n5 c5) (.slice A6 n6 c6) ∧ BkN w w' nd.tree nd.leaf (.slice A n c) (.slice A2 n2 c2) := by
  refine (Put_any7 W (nodR l) A5 n5 c5 A6 n6 c6 h5).mono ?_
  rintro e w' ⟨A7, m, c7, h1, h2, h3⟩
  have hr := readN_right h0
  rw [putNE, if_pos hr] at h1
  rw [putNB, if_pos hr, encNod_back h0] at h2
  obtain rfl : q = m := hq.symm.trans h2.len
  exact ⟨A7, c7, h1, h2, h5.below h3, hp.later h3, hW.later h3⟩

theorem bk_right_read (h0 : readNE l = 0) (W : World) {A5 : Option Addr} {n5 c5 : Nat} {A6 : Option Addr} {n6 c6 : Nat} (h5 : NodIn W (nodR l) A5 n5 c5 A6 n6 c6) (hW : BkN w W nd.tree nd.leaf (.slice A n c) (.slice A2 n2 c2)) :
    Calls Try.prog 11 #[nodV (nodR l) A5 n5 c5 A6 n6 c6] W fun e w' => e = .returned (.bool true) ∧ BkN w w' nd.tree nd.leaf (.slice A n c) (.slice A2 n2 c2) :=
  (Right_any W (nodR l) A5 n5 c5 A6 n6 c6 h5 true (readN_right h0)).mono fun e w' ⟨h1, h2⟩ => ⟨h1, hW.later h2⟩
end

set_option maxRecDepth 100000 in
set_option maxHeartbeats 1600000 in
theorem back_long {w : World} {nd : Nod} {A : Option Addr} {n c : Nat} {A2 : Option Addr} {n2 c2 : Nat} (A3 : Option Addr) (n3 c3 : Nat) (hI : NodIn w nd A n c A2 n2 c2) (hs : shortN nd = false) :
    Calls Try.prog 5 #[nodV nd A n c A2 n2 c2, .slice A3 n3 c3] w fun e w' => e = .returned (.bool true) ∧ Below w.heap.size w w' := by
  have N0 := Lib.hid (BkN.new w nd.tree nd.leaf (.slice A n c) (.slice A2 n2 c2))
  have SH := Lib.hid (bk_short hI false hs)
  have LV := Lib.hid (fun W hW => bk_lives (w := w) (nd := nd) (A := A) (n := n) (c := c) (A2 := A2) (n2 := n2) (c2 := c2) W hW)
  simp only [nodV] at SH ⊢
  clear hI hs
  go_enter Try.func5, Try.ntmps5
  go_wp2_with (first
    | (go_at_call 7; (with_reducible refine (SH.out _ N0.out).mono ?_); rintro e w1 ⟨rfl, hN1⟩)
    | (go_at_call 8; (with_reducible refine (LV.out _ hN1).mono ?_); rintro e w2 ⟨rfl, hN2⟩))
  go_ret
  exact ⟨rfl, hN2.bel⟩

set_option maxRecDepth 100000 in
set_option maxHeartbeats 3200000 in
theorem back_shortB {w : World} {nd : Nod} {A : Option Addr} {n c : Nat} {A2 : Option Addr} {n2 c2 : Nat} (A3 : Option Addr) (n3 c3 : Nat) (l0 : List UInt8) (hI : NodIn w nd A n c A2 n2 c2) (hs : shortN nd = true) (h : Bytes8 w A3 n3 c3 l0) (hr : rightN nd = false) :
    Calls Try.prog 5 #[nodV nd A n c A2 n2 c2, .slice A3 n3 c3] w fun e w' => e = .returned (.bool true) ∧ Below w.heap.size w w' := by
  obtain ⟨q, l, hB, hq, hcase⟩ := cut_bytes 600 h
  have N0 := Lib.hid (BkN.new w nd.tree nd.leaf (.slice A n c) (.slice A2 n2 c2))
  have SH := Lib.hid (bk_short hI true hs)
  have LV := Lib.hid (fun W hW => bk_lives (w := w) (nd := nd) (A := A) (n := n) (c := c) (A2 := A2) (n2 := n2) (c2 := c2) W hW)
  have RD := Lib.hid (bk_read (nd := nd) (A := A) (n := n) (c := c) (A2 := A2) (n2 := n2) (c2 := c2) hB)
  have RT := Lib.hid (bk_right hI false hr)
  have PB := Lib.hid (bk_put_bad hI hr)
  have HB := Lib.hid hB
  have hqn := hB.len
  have hcm := h.most
  have hcn := h.cap
  by_cases h0 : readNE l = 0
  · have e1 : readN l = nodR l := by rw [readN, if_pos h0]
    have PR : Hid (∀ W A5 n5 c5 A6 n6 c6 p, NodIn W (nodR l) A5 n5 c5 A6 n6 c6 → NodAt W p (nodR l).tree (nodR l).leaf (.slice A5 n5 c5) (.slice A6 n6 c6) → BkN w W nd.tree nd.leaf (.slice A n c) (.slice A2 n2 c2) → _) := fun W A5 n5 c5 A6 n6 c6 p h5 hp hW => bk_put_read (w := w) (nd := nd) (A := A) (n := n) (c := c) (A2 := A2) (n2 := n2) (c2 := c2) h0 hqn W h5 p hp hW
    have RR : Hid (∀ W A5 n5 c5 A6 n6 c6, NodIn W (nodR l) A5 n5 c5 A6 n6 c6 → BkN w W nd.tree nd.leaf (.slice A n c) (.slice A2 n2 c2) → _) := fun W A5 n5 c5 A6 n6 c6 h5 hW => bk_right_read (w := w) (nd := nd) (A := A) (n := n) (c := c) (A2 := A2) (n2 := n2) (c2 := c2) h0 W h5 hW
    simp only [e1, h0] at RD
    obtain ⟨tree, leaf, ks, vs⟩ := nd
    generalize nodR l = m at *
    obtain ⟨tree2, leaf2, ks2, vs2⟩ := m
    simp only [nodV] at *
    clear hI hs h hr hB e1 h0
    rcases hcase with ⟨g1, g2, rfl⟩ | ⟨g1, rfl⟩
    all_goals go_enter Try.func5, Try.ntmps5
    all_goals go_wp2_with (first
      | (go_at_call 7; (with_reducible refine (SH.out _ N0.out).mono ?_); rintro e w1 ⟨rfl, hN1⟩; have k0 := hN1.node.c0; have k1 := hN1.node.c1; have k2 := hN1.node.c2; have k3 := hN1.node.c3)
      | (go_at_call 9; (with_reducible refine (PB.out _ hN1).mono ?_); rintro e w2 ⟨rfl, hN2⟩; have k0b := hN2.node.c0; have k1b := hN2.node.c1; have k2b := hN2.node.c2; have k3b := hN2.node.c3)
      | (go_at_call 11; (with_reducible refine (RT.out _ hN2).mono ?_); rintro e w3 ⟨rfl, hN3⟩)
      | (go_at_call 19; (with_reducible refine (RD.out _ hN3).mono ?_); rintro e w5 ⟨A5, n5, c5, A6, n6, c6, rfl, hI5, hN5⟩; have hA5 := NodAt.new w5 tree2 leaf2 (.slice A5 n5 c5) (.slice A6 n6 c6); have hI5' := hI5.below ((Below.refl _ _).alloc (Nat.le_refl _) (bkNode tree2 leaf2 (.slice A5 n5 c5) (.slice A6 n6 c6))); have hN5' := hN5.past (bkNode tree2 leaf2 (.slice A5 n5 c5) (.slice A6 n6 c6)); have j0 := hA5.c0; have j1 := hA5.c1; have j2 := hA5.c2; have j3 := hA5.c3)
      | (go_at_call 9; (with_reducible refine (PR.out _ _ _ _ _ _ _ _ hI5' hA5 hN5').mono ?_); rintro e w6 ⟨A7, c7, rfl, hB7, hI6, hA6, hN6⟩; have cv6 := run_str hB7; have cv7 := run_str (HB.out.below hN6.bel); have i0 := hA6.c0; have i1 := hA6.c1; have i2 := hA6.c2; have i3 := hA6.c3)
      | (go_at_call 11; (with_reducible refine (RR.out _ _ _ _ _ _ _ hI6 hN6).mono ?_); rintro e w7 ⟨rfl, hN7⟩)
      | (go_at_call 8; (with_reducible refine (LV.out _ hN7).mono ?_); rintro e w8 ⟨rfl, hN8⟩))
    all_goals go_ret
    all_goals exact ⟨rfl, hN8.bel⟩
  · have e1 : readN l = Nod.zero := by rw [readN, if_neg h0]
    have SZ : Hid (∀ W A5 n5 c5 A6 n6 c6, NodIn W Nod.zero A5 n5 c5 A6 n6 c6 → BkN w W nd.tree nd.leaf (.slice A n c) (.slice A2 n2 c2) → _) := fun W A5 n5 c5 A6 n6 c6 h5 hW => bk_same_zero (w := w) (nd := nd) (A := A) (n := n) (c := c) (A2 := A2) (n2 := n2) (c2 := c2) W h5 hW
    have hne : (readNE l != 0) = true := by rw [bne_iff_ne]; exact h0
    have hne2 : (readNE l == 0) = false := by rw [beq_eq_false_iff_ne]; exact h0
    simp only [e1] at RD
    generalize readNE l = x at *
    obtain ⟨tree, leaf, ks, vs⟩ := nd
    simp only [nodV, Nod.zero] at *
    clear hI hs h hr hB e1
    rcases hcase with ⟨g1, g2, rfl⟩ | ⟨g1, rfl⟩
    all_goals go_enter Try.func5, Try.ntmps5
    all_goals go_wp2_with (first
      | (go_at_call 7; (with_reducible refine (SH.out _ N0.out).mono ?_); rintro e w1 ⟨rfl, hN1⟩; have k0 := hN1.node.c0; have k1 := hN1.node.c1; have k2 := hN1.node.c2; have k3 := hN1.node.c3)
      | (go_at_call 9; (with_reducible refine (PB.out _ hN1).mono ?_); rintro e w2 ⟨rfl, hN2⟩; have k0b := hN2.node.c0; have k1b := hN2.node.c1; have k2b := hN2.node.c2; have k3b := hN2.node.c3)
      | (go_at_call 11; (with_reducible refine (RT.out _ hN2).mono ?_); rintro e w3 ⟨rfl, hN3⟩)
      | (go_at_call 19; (with_reducible refine (RD.out _ hN3).mono ?_); rintro e w5 ⟨A5, n5, c5, A6, n6, c6, rfl, hI5, hN5⟩; have hI5' := hI5.below ((Below.refl _ _).alloc (Nat.le_refl _) (bkNode 0 false (.slice A5 n5 c5) (.slice A6 n6 c6))); have hN5' := hN5.past (bkNode 0 false (.slice A5 n5 c5) (.slice A6 n6 c6)))
      | (go_at_call 13; (with_reducible refine (SZ.out _ _ _ _ _ _ _ hI5' hN5').mono ?_); rintro e w7 ⟨rfl, hN7⟩)
      | (go_at_call 8; (with_reducible refine (LV.out _ hN7).mono ?_); rintro e w8 ⟨rfl, hN8⟩))
    all_goals go_ret
    all_goals exact ⟨rfl, hN8.bel⟩

set_option maxRecDepth 100000 in
set_option maxHeartbeats 3200000 in
theorem back_shortG {w : World} {nd : Nod} {A : Option Addr} {n c : Nat} {A2 : Option Addr} {n2 c2 : Nat} (A3 : Option Addr) (n3 c3 : Nat) (l0 : List UInt8) (hI : NodIn w nd A n c A2 n2 c2) (hs : shortN nd = true) (h : Bytes8 w A3 n3 c3 l0) (hr : rightN nd = true) :
    Calls Try.prog 5 #[nodV nd A n c A2 n2 c2, .slice A3 n3 c3] w fun e w' => e = .returned (.bool true) ∧ Below w.heap.size w w' := by
  obtain ⟨q, l, hB, hq, hcase⟩ := cut_bytes 600 h
  have N0 := Lib.hid (BkN.new w nd.tree nd.leaf (.slice A n c) (.slice A2 n2 c2))
  have SH := Lib.hid (bk_short hI true hs)
  have LV := Lib.hid (fun W hW => bk_lives (w := w) (nd := nd) (A := A) (n := n) (c := c) (A2 := A2) (n2 := n2) (c2 := c2) W hW)
  have RD := Lib.hid (bk_read (nd := nd) (A := A) (n := n) (c := c) (A2 := A2) (n2 := n2) (c2 := c2) hB)
  have RT : Hid (∀ W g, BkN w W nd.tree nd.leaf (.slice A n c) (.slice A2 n2 c2) → Bytes8 W (some ⟨g, 0, none⟩) 244 244 (encNod nd) → _) := fun W g hW hg => bk_right_keep hI hr W g hW hg
  have PG := Lib.hid (bk_put_good hI hr)
  have RB : Hid (∀ W g, Bytes8 W (some ⟨g, 0, none⟩) 244 244 (encNod nd) → BkN w W nd.tree nd.leaf (.slice A n c) (.slice A2 n2 c2) → _) := fun W g hB hW => bk_read_back hr W g hB hW
  have SM : Hid (∀ W A5 n5 c5 A6 n6 c6, NodIn W nd A5 n5 c5 A6 n6 c6 → BkN w W nd.tree nd.leaf (.slice A n c) (.slice A2 n2 c2) → _) := fun W A5 n5 c5 A6 n6 c6 h5 hW => bk_same hI W h5 hW
  have HB := Lib.hid hB
  have hqn := hB.len
  have hcm := h.most
  have hcn := h.cap
  by_cases h0 : readNE l = 0
  · have e1 : readN l = nodR l := by rw [readN, if_pos h0]
    have PR : Hid (∀ W A5 n5 c5 A6 n6 c6 p, NodIn W (nodR l) A5 n5 c5 A6 n6 c6 → NodAt W p (nodR l).tree (nodR l).leaf (.slice A5 n5 c5) (.slice A6 n6 c6) → BkN w W nd.tree nd.leaf (.slice A n c) (.slice A2 n2 c2) → _) := fun W A5 n5 c5 A6 n6 c6 p h5 hp hW => bk_put_read (w := w) (nd := nd) (A := A) (n := n) (c := c) (A2 := A2) (n2 := n2) (c2 := c2) h0 hqn W h5 p hp hW
    have RR : Hid (∀ W A5 n5 c5 A6 n6 c6, NodIn W (nodR l) A5 n5 c5 A6 n6 c6 → BkN w W nd.tree nd.leaf (.slice A n c) (.slice A2 n2 c2) → _) := fun W A5 n5 c5 A6 n6 c6 h5 hW => bk_right_read (w := w) (nd := nd) (A := A) (n := n) (c := c) (A2 := A2) (n2 := n2) (c2 := c2) h0 W h5 hW
    simp only [e1, h0] at RD
    obtain ⟨tree, leaf, ks, vs⟩ := nd
    generalize nodR l = m at *
    obtain ⟨tree2, leaf2, ks2, vs2⟩ := m
    simp only [nodV] at *
    clear hI hs h hr hB e1 h0
    rcases hcase with ⟨g1, g2, rfl⟩ | ⟨g1, rfl⟩
    all_goals go_enter Try.func5, Try.ntmps5
    all_goals go_wp2_with (first
      | (go_at_call 7; (with_reducible refine (SH.out _ N0.out).mono ?_); rintro e w1 ⟨rfl, hN1⟩; have k0 := hN1.node.c0; have k1 := hN1.node.c1; have k2 := hN1.node.c2; have k3 := hN1.node.c3)
      | (go_at_call 9; (with_reducible refine (PG.out _ hN1).mono ?_); rintro e w2 ⟨g, rfl, hBg, hN2⟩; have HBg := Lib.hid hBg; clear hBg; have k0b := hN2.node.c0; have k1b := hN2.node.c1; have k2b := hN2.node.c2; have k3b := hN2.node.c3)
      | (go_at_call 11; (with_reducible refine (RT.out _ _ hN2 HBg.out).mono ?_); rintro e w3 ⟨rfl, hBg3, hN3⟩; have HBg3 := Lib.hid hBg3; clear hBg3)
      | (go_at_call 19; (with_reducible refine (RB.out _ _ HBg3.out hN3).mono ?_); rintro e w4 ⟨B5, m5, d5, B6, m6, d6, rfl, hI4, hN4⟩; have hI4' := hI4.below ((Below.refl _ _).alloc (Nat.le_refl _) (bkNode tree leaf (.slice B5 m5 d5) (.slice B6 m6 d6))); have hN4' := hN4.past (bkNode tree leaf (.slice B5 m5 d5) (.slice B6 m6 d6)); have k0d := hN4'.node.c0; have k1d := hN4'.node.c1; have k2d := hN4'.node.c2; have k3d := hN4'.node.c3)
      | (go_at_call 13; (with_reducible refine (SM.out _ _ _ _ _ _ _ hI4' hN4').mono ?_); rintro e w4b ⟨rfl, hN4b⟩)
      | (go_at_call 19; (with_reducible refine (RD.out _ hN4b).mono ?_); rintro e w5 ⟨A5, n5, c5, A6, n6, c6, rfl, hI5, hN5⟩; have hA5 := NodAt.new w5 tree2 leaf2 (.slice A5 n5 c5) (.slice A6 n6 c6); have hI5' := hI5.below ((Below.refl _ _).alloc (Nat.le_refl _) (bkNode tree2 leaf2 (.slice A5 n5 c5) (.slice A6 n6 c6))); have hN5' := hN5.past (bkNode tree2 leaf2 (.slice A5 n5 c5) (.slice A6 n6 c6)); have j0 := hA5.c0; have j1 := hA5.c1; have j2 := hA5.c2; have j3 := hA5.c3)
      | (go_at_call 9; (with_reducible refine (PR.out _ _ _ _ _ _ _ _ hI5' hA5 hN5').mono ?_); rintro e w6 ⟨A7, c7, rfl, hB7, hI6, hA6, hN6⟩; have cv6 := run_str hB7; have cv7 := run_str (HB.out.below hN6.bel); have i0 := hA6.c0; have i1 := hA6.c1; have i2 := hA6.c2; have i3 := hA6.c3)
      | (go_at_call 11; (with_reducible refine (RR.out _ _ _ _ _ _ _ hI6 hN6).mono ?_); rintro e w7 ⟨rfl, hN7⟩)
      | (go_at_call 8; (with_reducible refine (LV.out _ hN7).mono ?_); rintro e w8 ⟨rfl, hN8⟩))
    all_goals go_ret
    all_goals exact ⟨rfl, hN8.bel⟩
  · have e1 : readN l = Nod.zero := by rw [readN, if_neg h0]
    have SZ : Hid (∀ W A5 n5 c5 A6 n6 c6, NodIn W Nod.zero A5 n5 c5 A6 n6 c6 → BkN w W nd.tree nd.leaf (.slice A n c) (.slice A2 n2 c2) → _) := fun W A5 n5 c5 A6 n6 c6 h5 hW => bk_same_zero (w := w) (nd := nd) (A := A) (n := n) (c := c) (A2 := A2) (n2 := n2) (c2 := c2) W h5 hW
    have hne : (readNE l != 0) = true := by rw [bne_iff_ne]; exact h0
    have hne2 : (readNE l == 0) = false := by rw [beq_eq_false_iff_ne]; exact h0
    simp only [e1] at RD
    generalize readNE l = x at *
    obtain ⟨tree, leaf, ks, vs⟩ := nd
    simp only [nodV, Nod.zero] at *
    clear hI hs h hr hB e1
    rcases hcase with ⟨g1, g2, rfl⟩ | ⟨g1, rfl⟩
    all_goals go_enter Try.func5, Try.ntmps5
    all_goals go_wp2_with (first
      | (go_at_call 7; (with_reducible refine (SH.out _ N0.out).mono ?_); rintro e w1 ⟨rfl, hN1⟩; have k0 := hN1.node.c0; have k1 := hN1.node.c1; have k2 := hN1.node.c2; have k3 := hN1.node.c3)
      | (go_at_call 9; (with_reducible refine (PG.out _ hN1).mono ?_); rintro e w2 ⟨g, rfl, hBg, hN2⟩; have HBg := Lib.hid hBg; clear hBg; have k0b := hN2.node.c0; have k1b := hN2.node.c1; have k2b := hN2.node.c2; have k3b := hN2.node.c3)
      | (go_at_call 11; (with_reducible refine (RT.out _ _ hN2 HBg.out).mono ?_); rintro e w3 ⟨rfl, hBg3, hN3⟩; have HBg3 := Lib.hid hBg3; clear hBg3)
      | (go_at_call 19; (with_reducible refine (RB.out _ _ HBg3.out hN3).mono ?_); rintro e w4 ⟨B5, m5, d5, B6, m6, d6, rfl, hI4, hN4⟩; have hI4' := hI4.below ((Below.refl _ _).alloc (Nat.le_refl _) (bkNode tree leaf (.slice B5 m5 d5) (.slice B6 m6 d6))); have hN4' := hN4.past (bkNode tree leaf (.slice B5 m5 d5) (.slice B6 m6 d6)); have k0d := hN4'.node.c0; have k1d := hN4'.node.c1; have k2d := hN4'.node.c2; have k3d := hN4'.node.c3)
      | (go_at_call 13; (with_reducible refine (SM.out _ _ _ _ _ _ _ hI4' hN4').mono ?_); rintro e w4b ⟨rfl, hN4b⟩)
      | (go_at_call 19; (with_reducible refine (RD.out _ hN4b).mono ?_); rintro e w5 ⟨A5, n5, c5, A6, n6, c6, rfl, hI5, hN5⟩; have hI5' := hI5.below ((Below.refl _ _).alloc (Nat.le_refl _) (bkNode 0 false (.slice A5 n5 c5) (.slice A6 n6 c6))); have hN5' := hN5.past (bkNode 0 false (.slice A5 n5 c5) (.slice A6 n6 c6)))
      | (go_at_call 13; (with_reducible refine (SZ.out _ _ _ _ _ _ _ hI5' hN5').mono ?_); rintro e w7 ⟨rfl, hN7⟩)
      | (go_at_call 8; (with_reducible refine (LV.out _ hN7).mono ?_); rintro e w8 ⟨rfl, hN8⟩))
    all_goals go_ret
    all_goals exact ⟨rfl, hN8.bel⟩

theorem nodeback_walk (tree : Int) (leaf : Bool) (A : Option Addr) (n c : Nat) (ks : List Int) (A2 : Option Addr) (n2 c2 : Nat) (vs : List (List UInt8)) (A3 : Option Addr) (n3 c3 : Nat) (l0 : List UInt8) (w : World) (ht : -9223372036854775808 ≤ tree ∧ tree ≤ 9223372036854775807) (h1 : Ints w A n c ks) (hk : ∀ y ∈ ks, -9223372036854775808 ≤ y ∧ y ≤ 9223372036854775807) (h2 : Strs w A2 n2 c2 vs) (hv : ∀ l ∈ vs, l.length ≤ 9223372036854775807) (h : Bytes8 w A3 n3 c3 l0) :
    Calls Try.prog 5 #[.agg #[.int .i64 tree, .bool leaf, .slice A n c, .slice A2 n2 c2], .slice A3 n3 c3] w fun e w' => e = .returned (.bool true) ∧ Below w.heap.size w w' := by
  have hI : NodIn w ⟨tree, leaf, ks, vs⟩ A n c A2 n2 c2 := ⟨h1, h2, ht, hk, hv⟩
  change Calls Try.prog 5 #[nodV ⟨tree, leaf, ks, vs⟩ A n c A2 n2 c2, .slice A3 n3 c3] w fun e w' => e = .returned (.bool true) ∧ Below w.heap.size w w'
  cases hs : shortN ⟨tree, leaf, ks, vs⟩ with
  | false => exact back_long A3 n3 c3 hI hs
  | true =>
    cases hr : rightN ⟨tree, leaf, ks, vs⟩ with
    | false => exact back_shortB A3 n3 c3 l0 hI hs h hr
    | true => exact back_shortG A3 n3 c3 l0 hI hs h hr

end Go.Proofs.Ytebcbaejpebpfaa
