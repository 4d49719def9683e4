/-
  Layer 7: the reference's Put.
-/
import Derived.Test.YtebcbaejpebpfaaNodR
import Derived.Test.YtebcbaejpebpfaaNodD
import Derived.Test.YtebcbaejpebpfaaMemK
namespace Go.Proofs.Ytebcbaejpebpfaa
open Go.RowKit
set_option linter.unusedVariables false
set_option linter.unusedSimpArgs false

set_option maxRecDepth 100000 in
set_option maxHeartbeats 3200000 in
theorem refRight_noC (w : World) (nd : Nod) (A : Option Addr) (n c : Nat) (A2 : Option Addr) (n2 c2 : Nat) (h : NodIn w nd A n c A2 n2 c2) (hn : widN nd.tree nd.leaf ≠ 0) (hm : nd.keys.length ≤ capN (widN nd.tree nd.leaf)) (hv : nd.vals.length ≠ nd.keys.length) :
    Calls Try.prog 12 #[nodV nd A n c A2 n2 c2] w fun e w' => e = .returned (.bool false) ∧ Below w.heap.size w w' := by
  have N0 := Lib.hid (BkN.new w nd.tree nd.leaf (.slice A n c) (.slice A2 n2 c2))
  have WD : Hid (∀ wd, widN nd.tree nd.leaf = wd → ∀ W, BkN w W nd.tree nd.leaf (.slice A n c) (.slice A2 n2 c2) → _) := fun wd hw W hW => bk_refw h.tb wd hw W hW
  have MX : Hid (∀ mx, capN (widN nd.tree nd.leaf) = mx → ∀ W, BkN w W nd.tree nd.leaf (.slice A n c) (.slice A2 n2 c2) → _) := fun mx hm W hW => bk_refm h.tb mx hm W hW
  have hkn := h.keys.le
  have hvn : n2 ≤ 9223372036854775807 := Nat.le_trans h.vals.cap h.vals.most
  have hkl := h.keys.len
  have hvl := h.vals.len
  clear h
  obtain ⟨tree, leaf, ks, vs⟩ := nd
  dsimp only at *
  simp only [nodV]
  have f0 := (N0.out.later ((Below.refl _ _).drew)).facts
  have f1 := N0.out.facts
  obtain ⟨wd, hwd⟩ : ∃ wd, widN tree leaf = wd := ⟨_, rfl⟩
  obtain ⟨mx, hmx⟩ : ∃ mx, capN (widN tree leaf) = mx := ⟨_, rfl⟩
  have W0 := Lib.hid (WD.out wd hwd)
  have M0 := Lib.hid (MX.out mx hmx)
  rw [hmx, hkl] at hm
  rw [hwd] at hn
  have hne : ((wd : Int) == 0) = false := by rw [beq_eq_false_iff_ne]; omega
  have hd : decide ((mx : Int) < (n : Int)) = false := decide_eq_false (by omega)
  have hd2 : decide (mx < n) = false := decide_eq_false (by omega)
  have hne2 : ((n2 : Int) != (n : Int)) = true := by rw [bne_iff_ne]; rw [hkl, hvl] at hv; omega
  clear hn hv WD MX hwd hmx hkl hvl hm
  go_enter Try.func12, Try.ntmps12
  go_wp2
  go_region_held3 (fun W => W.cell? ⟨w.heap.size, 0, none⟩ = some (.int .i64 tree) ∧ W.cell? ⟨w.heap.size, 1, none⟩ = some (.bool leaf) ∧ W.cell? ⟨w.heap.size, 2, none⟩ = some (.slice A n c) ∧ W.cell? ⟨w.heap.size, 3, none⟩ = some (.slice A2 n2 c2))
    (assumption)
    (first
      | (go_at_call 16; (with_reducible refine (W0.out _ (N0.out.later ((Below.refl _ _).drew))).mono ?_); rintro e w5 ⟨rfl, hN5⟩; have hf5 := hN5.facts)
      | (go_at_call 18; (with_reducible refine (M0.out _ hN5).mono ?_); rintro e w6 ⟨rfl, hN6⟩; have hf6 := hN6.facts))
  go_wp2
  go_ret
  exact ⟨rfl, hN6.bel⟩

set_option maxRecDepth 100000 in
set_option maxHeartbeats 3200000 in
theorem refRight_zero (w : World) (nd : Nod) (A : Option Addr) (n c : Nat) (A2 : Option Addr) (n2 c2 : Nat) (h : NodIn w nd A n c A2 n2 c2) (hn : widN nd.tree nd.leaf ≠ 0) (hm : nd.keys.length ≤ capN (widN nd.tree nd.leaf)) (hv : nd.vals.length = nd.keys.length) (h0 : n = 0) :
    Calls Try.prog 12 #[nodV nd A n c A2 n2 c2] w fun e w' => e = .returned (.bool nd.leaf) ∧ Below w.heap.size w w' := by
  have N0 := Lib.hid (BkN.new w nd.tree nd.leaf (.slice A n c) (.slice A2 n2 c2))
  have WD : Hid (∀ wd, widN nd.tree nd.leaf = wd → ∀ W, BkN w W nd.tree nd.leaf (.slice A n c) (.slice A2 n2 c2) → _) := fun wd hw W hW => bk_refw h.tb wd hw W hW
  have MX : Hid (∀ mx, capN (widN nd.tree nd.leaf) = mx → ∀ W, BkN w W nd.tree nd.leaf (.slice A n c) (.slice A2 n2 c2) → _) := fun mx hm W hW => bk_refm h.tb mx hm W hW
  have hkn := h.keys.le
  have hvn : n2 ≤ 9223372036854775807 := Nat.le_trans h.vals.cap h.vals.most
  have hkl := h.keys.len
  have hvl := h.vals.len
  obtain rfl : 0 = n := h0.symm
  obtain rfl : 0 = n2 := by omega
  clear h
  obtain ⟨tree, leaf, ks, vs⟩ := nd
  dsimp only at *
  simp only [nodV]
  have f0 := (N0.out.later ((Below.refl _ _).drew)).facts
  have f1 := N0.out.facts
  obtain ⟨wd, hwd⟩ : ∃ wd, widN tree leaf = wd := ⟨_, rfl⟩
  obtain ⟨mx, hmx⟩ : ∃ mx, capN (widN tree leaf) = mx := ⟨_, rfl⟩
  have W0 := Lib.hid (WD.out wd hwd)
  have M0 := Lib.hid (MX.out mx hmx)
  rw [hmx, hkl] at hm
  rw [hwd] at hn
  have hne : ((wd : Int) == 0) = false := by rw [beq_eq_false_iff_ne]; omega
  have hd : decide ((mx : Int) < (0 : Int)) = false := decide_eq_false (by omega)
  have hd2 : decide (mx < 0) = false := decide_eq_false (by omega)
  have hne2 : ((0 : Int) != 0) = false := by simp
  clear hn hv WD MX hwd hmx hkl hvl hm h0
  go_enter Try.func12, Try.ntmps12
  go_wp2
  go_region_held3 (fun W => W.cell? ⟨w.heap.size, 0, none⟩ = some (.int .i64 tree) ∧ W.cell? ⟨w.heap.size, 1, none⟩ = some (.bool leaf) ∧ W.cell? ⟨w.heap.size, 2, none⟩ = some (.slice A 0 c) ∧ W.cell? ⟨w.heap.size, 3, none⟩ = some (.slice A2 0 c2))
    (assumption)
    (first
      | (go_at_call 16; (with_reducible refine (W0.out _ (N0.out.later ((Below.refl _ _).drew))).mono ?_); rintro e w5 ⟨rfl, hN5⟩; have hf5 := hN5.facts)
      | (go_at_call 18; (with_reducible refine (M0.out _ hN5).mono ?_); rintro e w6 ⟨rfl, hN6⟩; have hf6 := hN6.facts))
  obtain ⟨g0, g1, g2, g3⟩ := hf6
  clear f0 f1 hf5 hN5 hd hd2 hne hne2 M0 W0
  have HB := Lib.hid hN6.bel
  clear hN6
  go_wp2
  refine wp_loop_rounds 1 ?_
  rw [rounds_succ]
  cases leaf with
  | false =>
    go_wp2
    go_ret
    exact ⟨rfl, HB.out⟩
  | true =>
    go_wp2
    go_ret
    exact ⟨rfl, HB.out⟩

/-- the reference's Right -/
theorem refRight_any (w : World) (nd : Nod) (A : Option Addr) (n c : Nat) (A2 : Option Addr) (n2 c2 : Nat) (h : NodIn w nd A n c A2 n2 c2) (r : Bool) (hr : rightN nd = r) :
    Calls Try.prog 12 #[nodV nd A n c A2 n2 c2] w fun e w' => e = .returned (.bool r) ∧ Below w.heap.size w w' := by
  by_cases h1 : widN nd.tree nd.leaf = 0
  · obtain rfl : false = r := by rw [← hr]; exact (rightN_no (Or.inl h1)).symm
    exact refRight_noA w nd A n c A2 n2 c2 h h1
  · by_cases h2 : nd.keys.length ≤ capN (widN nd.tree nd.leaf)
    · by_cases h3 : nd.vals.length = nd.keys.length
      · have hl := rightN_loop h1 h2 h3
        have hkl := h.keys.len
        by_cases h0 : 0 < n
        · rw [decide_eq_true (show 0 < nd.keys.length by omega), Bool.or_true, Bool.and_true] at hl
          exact refRight_loop w nd A n c A2 n2 c2 h h1 h2 h3 h0 r (hl.symm.trans hr)
        · have hz : nd.keys.length = 0 := by omega
          have ho : okN nd nd.keys.length = true := by
            rw [hz]
            simp [okN, upFrom]
          rw [ho, decide_eq_false (show ¬ 0 < nd.keys.length by omega), Bool.or_false, Bool.true_and] at hl
          obtain rfl : nd.leaf = r := hl.symm.trans hr
          exact refRight_zero w nd A n c A2 n2 c2 h h1 h2 h3 (by omega)
      · obtain rfl : false = r := by rw [← hr]; exact (rightN_no (Or.inr (Or.inr h3))).symm
        exact refRight_noC w nd A n c A2 n2 c2 h h1 h2 h3
    · obtain rfl : false = r := by rw [← hr]; exact (rightN_no (Or.inr (Or.inl (by omega)))).symm
      exact refRight_noB w nd A n c A2 n2 c2 h h1 (by omega)

set_option maxHeartbeats 400000 in
theorem refPut_bad7 (w : World) (nd : Nod) (A : Option Addr) (n c : Nat) (A2 : Option Addr) (n2 c2 : Nat) (h : NodIn w nd A n c A2 n2 c2) (hr : rightN nd = false) :
    Calls Try.prog 10 #[nodV nd A n c A2 n2 c2] w fun e w' => e = .returned (.tuple #[.slice none 0 0, .int .i64 1]) ∧ Below w.heap.size w w' := by
  have hb0 : Below w.heap.size w (w.alloc (.cells #[.int .i64 nd.tree, .bool nd.leaf, .slice A n c, .slice A2 n2 c2] 25)) := (Below.refl _ _).alloc (Nat.le_refl _) _
  have R : Hid (Calls Try.prog 12 #[nodV nd A n c A2 n2 c2] (w.alloc (.cells #[.int .i64 nd.tree, .bool nd.leaf, .slice A n c, .slice A2 n2 c2] 25)) fun e w' => e = .returned (.bool false) ∧ Below w.heap.size w w') :=
    (refRight_any _ nd A n c A2 n2 c2 (h.below hb0) false hr).mono fun e w' ⟨h1, h2⟩ => ⟨h1, hb0.trans (h2.mono hb0.size)⟩
  obtain ⟨tree, leaf, ks, vs⟩ := nd
  simp only [nodV] at R ⊢
  clear h hr hb0
  go_enter Try.func10, Try.ntmps10
  go_wp2_with (go_at_call 12; (with_reducible refine (R.out).mono ?_); rintro e w1 ⟨rfl, hb1⟩)
  go_ret2
  exact ⟨rfl, hb1⟩

/-- the bytes ahead of the keys, the first one given -/
def hdP (x : UInt8) (tree n wd mx : Nat) : List UInt8 := [x, UInt8.ofNat tree, UInt8.ofNat n, 0, UInt8.ofNat wd, 0, UInt8.ofNat mx, 0, 0, 0, 0, 0]
theorem hdP_nodH {nd : Nod} (h1 : nd.keys.length ≤ 18) (h2 : widN nd.tree nd.leaf ≤ 24) (h3 : capN (widN nd.tree nd.leaf) ≤ 18) :
    nodH nd = hdP (if nd.leaf = true then 1 else 0) nd.tree.toNat nd.keys.length (widN nd.tree nd.leaf) (capN (widN nd.tree nd.leaf)) := by
  have e1 : nd.keys.length / 256 = 0 := by omega
  have e2 : widN nd.tree nd.leaf / 256 = 0 := by omega
  have e3 : capN (widN nd.tree nd.leaf) / 256 = 0 := by omega
  simp [nodH, hdP, encN, e1, e2, e3]
theorem hdP_cells {tree n wd mx : Nat} (x : Nat) (hx : x < 256) (h0 : tree < 256) (h1 : n < 256) (h2 : wd < 256) (h3 : mx < 256) :
    u8s (hdP (UInt8.ofNat x) tree n wd mx) = [.int .u8 (x : Int), .int .u8 (tree : Int), .int .u8 (n : Int), .int .u8 0, .int .u8 (wd : Int), .int .u8 0, .int .u8 (mx : Int), .int .u8 0, .int .u8 0, .int .u8 0, .int .u8 0, .int .u8 0] := by
  have e : ∀ y, y < 256 → (UInt8.ofNat y).toNat = y := fun y hy => by rw [UInt8.toNat_ofNat']; omega
  simp [u8s, hdP, e x hx, e tree h0, e n h1, e wd h2, e mx h3]

/-- the bytes after i rounds of the first loop -/
def keyP (hd : List UInt8) (ks : List Int) (i : Nat) : List UInt8 := hd ++ (nodK (ks.take i) ++ List.replicate (8 * (i - ks.length)) 0)
theorem keyP_len {hd : List UInt8} (h : hd.length = 12) (ks : List Int) (i : Nat) : (keyP hd ks i).length = 12 + 8 * i := by
  rw [keyP, List.length_append, List.length_append, nodK_len, List.length_replicate, h, List.length_take]
  omega
theorem keyP_key {hd : List UInt8} {ks : List Int} {i : Nat} (h : i < ks.length) : keyP hd ks (i + 1) = keyP hd ks i ++ encN 8 ks[i].toNat := by
  have e1 : i + 1 - ks.length = 0 := by omega
  have e2 : i - ks.length = 0 := by omega
  rw [keyP, keyP, e1, e2, List.take_succ_eq_append_getElem h]
  simp only [nodK, List.map_append, List.map_cons, List.map_nil, List.flatten_append, List.flatten_cons, List.flatten_nil, List.append_nil, List.append_assoc, Nat.mul_zero, List.replicate_zero]
theorem keyP_zero {hd : List UInt8} {ks : List Int} {i : Nat} (h : ks.length ≤ i) : keyP hd ks (i + 1) = keyP hd ks i ++ List.replicate 8 0 := by
  have e1 : 8 * (i + 1 - ks.length) = 8 * (i - ks.length) + 8 := by omega
  rw [keyP, keyP, e1, List.take_of_length_le (by omega), List.take_of_length_le (by omega), ← List.replicate_append_replicate]
  simp only [List.append_assoc]
/-- the bytes after j values, and zeros -/
def valP (hd : List UInt8) (ks : List Int) (mx : Nat) (vs : List (List UInt8)) (j : Nat) : List UInt8 := keyP hd ks mx ++ (vs.take j).flatten
theorem valP_step {hd : List UInt8} {ks : List Int} {mx : Nat} {vs : List (List UInt8)} {j : Nat} (h : j < vs.length) : valP hd ks mx vs (j + 1) = valP hd ks mx vs j ++ vs[j] := by
  rw [valP, valP, List.take_succ_eq_append_getElem h]
  simp only [List.flatten_append, List.flatten_cons, List.flatten_nil, List.append_nil, List.append_assoc]

end Go.Proofs.Ytebcbaejpebpfaa
