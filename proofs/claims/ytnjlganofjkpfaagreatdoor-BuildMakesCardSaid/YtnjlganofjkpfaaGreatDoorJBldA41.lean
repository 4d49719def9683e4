/-
  Joined: NodS, NodT.
-/
import Derived.Test.YtnjlganofjkpfaaGreatDoorJBldA39
import Derived.Test.YtnjlganofjkpfaaGreatDoorJBldA37
import Derived.Test.YtnjlganofjkpfaaGreatDoorJBldA05
/-
  Layer 7: the reference's Put.
-/
namespace Go.Proofs.YtnjlganofjkpfaaGreatDoor
open Go.RowKit
set_option linter.unusedVariables false
set_option linter.unusedSimpArgs false

set_option maxRecDepth 100000 in
set_option maxHeartbeats 3200000 in
theorem refRight_noC (w : World) (nd : Nod) (A : Option Addr) (n c : Nat) (A2 : Option Addr) (n2 c2 : Nat) (h : NodIn w nd A n c A2 n2 c2) (hn : widN nd.tree nd.leaf ≠ 0) (hm : nd.keys.length ≤ capN (widN nd.tree nd.leaf)) (hv : nd.vals.length ≠ nd.keys.length) :
    Calls Tryz.prog 63 #[nodV nd A n c A2 n2 c2] w fun e w' => e = .returned (.bool false) ∧ Below w.heap.size w w' := by
  have N0 := Lib.hid (BkN.new w nd.tree nd.leaf (.slice A n c) (.slice A2 n2 c2))
  have WD : Hid (∀ wd, widN nd.tree nd.leaf = wd → ∀ W, BkN w W nd.tree nd.leaf (.slice A n c) (.slice A2 n2 c2) → _) := fun wd hw W hW => bk_refw h.tb wd hw W hW
  have MX : Hid (∀ mx, capN (widN nd.tree nd.leaf) = mx → ∀ W, BkN w W nd.tree nd.leaf (.slice A n c) (.slice A2 n2 c2) → _) := fun mx hm W hW => bk_refm h.tb mx hm W hW
  have hkn := h.keys.le
  have hvn : n2 ≤ 9223372036854775807 := Nat.le_trans h.vals.cap h.vals.most
  have hkl := h.keys.len
  have hvl := h.vals.len
  clear h
  obtain ⟨tree, leaf, ks, vs⟩ := nd
  dsimp only at *
  simp only [nodV]
  have f0 := (N0.out.later ((Below.refl _ _).drew)).facts
  have f1 := N0.out.facts
  obtain ⟨wd, hwd⟩ : ∃ wd, widN tree leaf = wd := ⟨_, rfl⟩
  obtain ⟨mx, hmx⟩ : ∃ mx, capN (widN tree leaf) = mx := ⟨_, rfl⟩
  have W0 := Lib.hid (WD.out wd hwd)
  have M0 := Lib.hid (MX.out mx hmx)
  rw [hmx, hkl] at hm
  rw [hwd] at hn
  have hne : ((wd : Int) == 0) = false := by rw [beq_eq_false_iff_ne]; omega
  have hd : decide ((mx : Int) < (n : Int)) = false := decide_eq_false (by omega)
  have hd2 : decide (mx < n) = false := decide_eq_false (by omega)
  have hne2 : ((n2 : Int) != (n : Int)) = true := by rw [bne_iff_ne]; rw [hkl, hvl] at hv; omega
  clear hn hv WD MX hwd hmx hkl hvl hm
  go_enter Tryz.func63, Tryz.ntmps63
  go_wp2
  go_region_held3 (fun W => W.cell? ⟨w.heap.size, 0, none⟩ = some (.int .i64 tree) ∧ W.cell? ⟨w.heap.size, 1, none⟩ = some (.bool leaf) ∧ W.cell? ⟨w.heap.size, 2, none⟩ = some (.slice A n c) ∧ W.cell? ⟨w.heap.size, 3, none⟩ = some (.slice A2 n2 c2))
    (assumption)
    (first
      | (go_at_call 61; (with_reducible refine (W0.out _ (N0.out.later ((Below.refl _ _).drew))).mono ?_); rintro e w5 ⟨rfl, hN5⟩; have hf5 := hN5.facts)
      | (go_at_call 35; (with_reducible refine (M0.out _ hN5).mono ?_); rintro e w6 ⟨rfl, hN6⟩; have hf6 := hN6.facts))
  go_wp2
  go_ret
  exact ⟨rfl, hN6.bel⟩

set_option maxRecDepth 100000 in
set_option maxHeartbeats 3200000 in
theorem refRight_zero (w : World) (nd : Nod) (A : Option Addr) (n c : Nat) (A2 : Option Addr) (n2 c2 : Nat) (h : NodIn w nd A n c A2 n2 c2) (hn : widN nd.tree nd.leaf ≠ 0) (hm : nd.keys.length ≤ capN (widN nd.tree nd.leaf)) (hv : nd.vals.length = nd.keys.length) (h0 : n = 0) :
    Calls Tryz.prog 63 #[nodV nd A n c A2 n2 c2] w fun e w' => e = .returned (.bool nd.leaf) ∧ Below w.heap.size w w' := by
  have N0 := Lib.hid (BkN.new w nd.tree nd.leaf (.slice A n c) (.slice A2 n2 c2))
  have WD : Hid (∀ wd, widN nd.tree nd.leaf = wd → ∀ W, BkN w W nd.tree nd.leaf (.slice A n c) (.slice A2 n2 c2) → _) := fun wd hw W hW => bk_refw h.tb wd hw W hW
  have MX : Hid (∀ mx, capN (widN nd.tree nd.leaf) = mx → ∀ W, BkN w W nd.tree nd.leaf (.slice A n c) (.slice A2 n2 c2) → _) := fun mx hm W hW => bk_refm h.tb mx hm W hW
  have hkn := h.keys.le
  have hvn : n2 ≤ 9223372036854775807 := Nat.le_trans h.vals.cap h.vals.most
  have hkl := h.keys.len
  have hvl := h.vals.len
  obtain rfl : 0 = n := h0.symm
  obtain rfl : 0 = n2 := by omega
  clear h
  obtain ⟨tree, leaf, ks, vs⟩ := nd
  dsimp only at *
  simp only [nodV]
  have f0 := (N0.out.later ((Below.refl _ _).drew)).facts
  have f1 := N0.out.facts
  obtain ⟨wd, hwd⟩ : ∃ wd, widN tree leaf = wd := ⟨_, rfl⟩
  obtain ⟨mx, hmx⟩ : ∃ mx, capN (widN tree leaf) = mx := ⟨_, rfl⟩
  have W0 := Lib.hid (WD.out wd hwd)
  have M0 := Lib.hid (MX.out mx hmx)
  rw [hmx, hkl] at hm
  rw [hwd] at hn
  have hne : ((wd : Int) == 0) = false := by rw [beq_eq_false_iff_ne]; omega
  have hd : decide ((mx : Int) < (0 : Int)) = false := decide_eq_false (by omega)
  have hd2 : decide (mx < 0) = false := decide_eq_false (by omega)
  have hne2 : ((0 : Int) != 0) = false := by simp
  clear hn hv WD MX hwd hmx hkl hvl hm h0
  go_enter Tryz.func63, Tryz.ntmps63
  go_wp2
  go_region_held3 (fun W => W.cell? ⟨w.heap.size, 0, none⟩ = some (.int .i64 tree) ∧ W.cell? ⟨w.heap.size, 1, none⟩ = some (.bool leaf) ∧ W.cell? ⟨w.heap.size, 2, none⟩ = some (.slice A 0 c) ∧ W.cell? ⟨w.heap.size, 3, none⟩ = some (.slice A2 0 c2))
    (assumption)
    (first
      | (go_at_call 61; (with_reducible refine (W0.out _ (N0.out.later ((Below.refl _ _).drew))).mono ?_); rintro e w5 ⟨rfl, hN5⟩; have hf5 := hN5.facts)
      | (go_at_call 35; (with_reducible refine (M0.out _ hN5).mono ?_); rintro e w6 ⟨rfl, hN6⟩; have hf6 := hN6.facts))
  obtain ⟨g0, g1, g2, g3⟩ := hf6
  clear f0 f1 hf5 hN5 hd hd2 hne hne2 M0 W0
  have HB := Lib.hid hN6.bel
  clear hN6
  go_wp2
  refine wp_loop_rounds 1 ?_
  rw [rounds_succ]
  cases leaf with
  | false =>
    go_wp2
    go_ret
    exact ⟨rfl, HB.out⟩
  | true =>
    go_wp2
    go_ret
    exact ⟨rfl, HB.out⟩

/-- the reference's Right -/
theorem refRight_any (w : World) (nd : Nod) (A : Option Addr) (n c : Nat) (A2 : Option Addr) (n2 c2 : Nat) (h : NodIn w nd A n c A2 n2 c2) (r : Bool) (hr : rightN nd = r) :
    Calls Tryz.prog 63 #[nodV nd A n c A2 n2 c2] w fun e w' => e = .returned (.bool r) ∧ Below w.heap.size w w' := by
  by_cases h1 : widN nd.tree nd.leaf = 0
  · obtain rfl : false = r := by rw [← hr]; exact (rightN_no (Or.inl h1)).symm
    exact refRight_noA w nd A n c A2 n2 c2 h h1
  · by_cases h2 : nd.keys.length ≤ capN (widN nd.tree nd.leaf)
    · by_cases h3 : nd.vals.length = nd.keys.length
      · have hl := rightN_loop h1 h2 h3
        have hkl := h.keys.len
        by_cases h0 : 0 < n
        · rw [decide_eq_true (show 0 < nd.keys.length by omega), Bool.or_true, Bool.and_true] at hl
          exact refRight_loop w nd A n c A2 n2 c2 h h1 h2 h3 h0 r (hl.symm.trans hr)
        · have hz : nd.keys.length = 0 := by omega
          have ho : okN nd nd.keys.length = true := by
            rw [hz]
            simp [okN, upFrom]
          rw [ho, decide_eq_false (show ¬ 0 < nd.keys.length by omega), Bool.or_false, Bool.true_and] at hl
          obtain rfl : nd.leaf = r := hl.symm.trans hr
          exact refRight_zero w nd A n c A2 n2 c2 h h1 h2 h3 (by omega)
      · obtain rfl : false = r := by rw [← hr]; exact (rightN_no (Or.inr (Or.inr h3))).symm
        exact refRight_noC w nd A n c A2 n2 c2 h h1 h2 h3
    · obtain rfl : false = r := by rw [← hr]; exact (rightN_no (Or.inr (Or.inl (by omega)))).symm
      exact refRight_noB w nd A n c A2 n2 c2 h h1 (by omega)

/-- the bytes ahead of the keys, the first one given -/
def hdP (x : UInt8) (tree n wd mx : Nat) : List UInt8 := [x, UInt8.ofNat tree, UInt8.ofNat n, 0, UInt8.ofNat wd, 0, UInt8.ofNat mx, 0, 0, 0, 0, 0]
theorem hdP_nodH {nd : Nod} (h1 : nd.keys.length ≤ 18) (h2 : widN nd.tree nd.leaf ≤ 24) (h3 : capN (widN nd.tree nd.leaf) ≤ 18) :
    nodH nd = hdP (if nd.leaf = true then 1 else 0) nd.tree.toNat nd.keys.length (widN nd.tree nd.leaf) (capN (widN nd.tree nd.leaf)) := by
  have e1 : nd.keys.length / 256 = 0 := by omega
  have e2 : widN nd.tree nd.leaf / 256 = 0 := by omega
  have e3 : capN (widN nd.tree nd.leaf) / 256 = 0 := by omega
  simp [nodH, hdP, encN, e1, e2, e3]
theorem hdP_cells {tree n wd mx : Nat} (x : Nat) (hx : x < 256) (h0 : tree < 256) (h1 : n < 256) (h2 : wd < 256) (h3 : mx < 256) :
    u8s (hdP (UInt8.ofNat x) tree n wd mx) = [.int .u8 (x : Int), .int .u8 (tree : Int), .int .u8 (n : Int), .int .u8 0, .int .u8 (wd : Int), .int .u8 0, .int .u8 (mx : Int), .int .u8 0, .int .u8 0, .int .u8 0, .int .u8 0, .int .u8 0] := by
  have e : ∀ y, y < 256 → (UInt8.ofNat y).toNat = y := fun y hy => by rw [UInt8.toNat_ofNat']; omega
  simp [u8s, hdP, e x hx, e tree h0, e n h1, e wd h2, e mx h3]

/-- the bytes after i rounds of the first loop -/
def keyP (hd : List UInt8) (ks : List Int) (i : Nat) : List UInt8 := hd ++ (nodK (ks.take i) ++ List.replicate (8 * (i - ks.length)) 0)
theorem keyP_key {hd : List UInt8} {ks : List Int} {i : Nat} (h : i < ks.length) : keyP hd ks (i + 1) = keyP hd ks i ++ encN 8 ks[i].toNat := by
  have e1 : i + 1 - ks.length = 0 := by omega
  have e2 : i - ks.length = 0 := by omega
  rw [keyP, keyP, e1, e2, List.take_succ_eq_append_getElem h]
  simp only [nodK, List.map_append, List.map_cons, List.map_nil, List.flatten_append, List.flatten_cons, List.flatten_nil, List.append_nil, List.append_assoc, Nat.mul_zero, List.replicate_zero]
theorem keyP_zero {hd : List UInt8} {ks : List Int} {i : Nat} (h : ks.length ≤ i) : keyP hd ks (i + 1) = keyP hd ks i ++ List.replicate 8 0 := by
  have e1 : 8 * (i + 1 - ks.length) = 8 * (i - ks.length) + 8 := by omega
  rw [keyP, keyP, e1, List.take_of_length_le (by omega), List.take_of_length_le (by omega), ← List.replicate_append_replicate]
  simp only [List.append_assoc]
/-- the bytes after j values, and zeros -/
def valP (hd : List UInt8) (ks : List Int) (mx : Nat) (vs : List (List UInt8)) (j : Nat) : List UInt8 := keyP hd ks mx ++ (vs.take j).flatten
theorem valP_step {hd : List UInt8} {ks : List Int} {mx : Nat} {vs : List (List UInt8)} {j : Nat} (h : j < vs.length) : valP hd ks mx vs (j + 1) = valP hd ks mx vs j ++ vs[j] := by
  rw [valP, valP, List.take_succ_eq_append_getElem h]
  simp only [List.flatten_append, List.flatten_cons, List.flatten_nil, List.append_nil, List.append_assoc]

end Go.Proofs.YtnjlganofjkpfaaGreatDoor

/-
  Layer 7: the reference's Put, of nodes that may be.
-/
namespace Go.Proofs.YtnjlganofjkpfaaGreatDoor
open Go.RowKit
set_option linter.unusedVariables false
set_option linter.unusedSimpArgs false

/-- the length of a slice -/
def lenV : Value → Nat
  | .slice _ n _ => n
  | _ => 0

/-- an encoding by its parts -/
def HEncP (enc hd : List UInt8) (ks : List Int) (vs : List (List UInt8)) (n wd mx : Nat) : Prop := enc = hd ++ (nodK ks ++ (List.replicate (8 * (mx - n)) 0 ++ (vs.flatten ++ List.replicate (232 - 8 * mx - wd * n) 0)))
theorem encP_eq {enc hd : List UInt8} {ks : List Int} {vs : List (List UInt8)} {n wd mx p : Nat} (h : HEncP enc hd ks vs n wd mx) (hk : ks.length = n) (hp : p = 12 + 8 * mx + wd * n) (hm : n ≤ mx) : enc = keyP hd ks mx ++ vs.flatten ++ List.replicate (244 - p) 0 := by
  have e1 : 244 - p = 232 - 8 * mx - wd * n := by omega
  rw [h, e1, keyP, List.take_of_length_le (by omega), hk]
  simp only [List.append_assoc]

set_option maxRecDepth 100000 in
set_option maxHeartbeats 6400000 in
theorem refPut_true (w : World) (tree : Int) (ks : List Int) (vs : List (List UInt8)) (A : Option Addr) (n c : Nat) (A2 : Option Addr) (n2 c2 : Nat) (h : NodIn w ⟨tree, true, ks, vs⟩ A n c A2 n2 c2) (hr : rightN ⟨tree, true, ks, vs⟩ = true) :
    Calls Tryz.prog 36 #[nodV ⟨tree, true, ks, vs⟩ A n c A2 n2 c2] w fun e w' => ∃ A' c', e = .returned (.tuple #[.slice A' 244 c', .int .i64 0]) ∧ Bytes8 w' A' 244 c' (encNod ⟨tree, true, ks, vs⟩) ∧ Below w.heap.size w w' := by
  have N0 := Lib.hid (BkN.new w tree true (.slice A n c) (.slice A2 n2 c2))
  have hb0 : Below w.heap.size w (w.alloc (.cells #[.int .i64 tree, .bool true, .slice A n c, .slice A2 n2 c2] 76)) := (Below.refl _ _).alloc (Nat.le_refl _) _
  have R : Hid (Calls Tryz.prog 63 #[.agg #[.int .i64 tree, .bool true, .slice A n c, .slice A2 n2 c2]] (w.alloc (.cells #[.int .i64 tree, .bool true, .slice A n c, .slice A2 n2 c2] 76)) fun e w' => e = .returned (.bool true) ∧ BkN w w' tree true (.slice A n c) (.slice A2 n2 c2)) :=
    (refRight_any _ ⟨tree, true, ks, vs⟩ A n c A2 n2 c2 (h.below hb0) true hr).mono fun e w' ⟨h1, h2⟩ => ⟨h1, N0.out.later h2⟩
  have WD : Hid (∀ wd, widN tree true = wd → ∀ W, BkN w W tree true (.slice A n c) (.slice A2 n2 c2) → _) := fun wd hw W hW => bk_refw h.tb wd hw W hW
  have MX : Hid (∀ mx, capN (widN tree true) = mx → ∀ W, BkN w W tree true (.slice A n c) (.slice A2 n2 c2) → _) := fun mx hm W hW => bk_refm h.tb mx hm W hW
  obtain ⟨g1, g2, g3, g4, g5, _⟩ := rightN_iff.1 hr
  obtain ⟨hf1, hf2, hf3, hf4⟩ := right_fit hr
  obtain ⟨ht1, ht2⟩ := widN_tree g1
  have hkb := upFrom_bounds g5
  have hnH := hdP_nodH (nd := ⟨tree, true, ks, vs⟩) (Nat.le_trans hf2 hf3) hf4 hf3
  dsimp only at *
  have hkl : ks.length = n := h.keys.len
  have hvl : vs.length = n2 := h.vals.len
  have kcap := h.keys.cap
  have kmost := h.keys.most
  have vcap := h.vals.cap
  have vmost := h.vals.most
  have HIN := Lib.hid h
  obtain rfl : n = n2 := by omega
  have hEnc : encNod ⟨tree, true, ks, vs⟩ = nodH ⟨tree, true, ks, vs⟩ ++ (nodK ks ++ (List.replicate (8 * (capN (widN tree true) - ks.length)) 0 ++ (vs.flatten ++ List.replicate (232 - 8 * capN (widN tree true) - widN tree true * ks.length) 0))) := rfl
  obtain ⟨wd, hwd⟩ : ∃ wd, widN tree true = wd := ⟨_, rfl⟩
  obtain ⟨mx, hmx⟩ : ∃ mx, capN (widN tree true) = mx := ⟨_, rfl⟩
  have W0 := Lib.hid (WD.out wd hwd)
  have M0 := Lib.hid (MX.out mx hmx)
  obtain ⟨tn, rfl⟩ := Int.eq_ofNat_of_zero_le (show 0 ≤ tree by omega)
  rw [hwd] at hmx
  rw [hwd, hmx] at hnH hEnc hf1
  rw [hwd, hmx] at hf2 hf3
  rw [hwd] at g4 g1 hf4
  rw [hnH] at hEnc
  simp only [Int.toNat_natCast, hkl] at hEnc hf1 hf2
  have HV := Lib.hid g4
  have HKB := Lib.hid hkb
  have HEnc := Lib.hid hEnc
  have htn : tn ≤ 5 := by omega
  have hn18 : n ≤ 18 := by omega
  have hpos : 0 < wd := by omega
  have HKL := Lib.hid hkl
  have HVL := Lib.hid hvl
  have hcl := hdP_cells (tree := tn) (n := n) (wd := wd) (mx := mx) 1 (by omega) (by omega) (by omega) (by omega) (by omega)
  have HCL := Lib.hid hcl
  clear h hr WD MX g1 g2 g3 g4 g5 hkb ht1 ht2 hwd hmx hnH hb0 hcl hEnc
  simp only [nodV]
  go_enter Tryz.func36, Tryz.ntmps36
  go_wp2_with (first
    | (go_at_call 63; (with_reducible refine (R.out).mono ?_); rintro e w1 ⟨rfl, hN1⟩; obtain ⟨a0, a1, a2, a3⟩ := hN1.facts)
    | (go_at_call 61; (with_reducible refine (W0.out _ hN1).mono ?_); rintro e w2 ⟨rfl, hN2⟩; obtain ⟨b0, b1, b2, b3⟩ := hN2.facts)
    | (go_at_call 35; (with_reducible refine (M0.out _ hN2).mono ?_); rintro e w3 ⟨rfl, hN3⟩; obtain ⟨c0, c1, c2, c3⟩ := hN3.facts; have d1 : ∀ ob, (w3.alloc ob).cell? ⟨w.heap.size, 1, none⟩ = some (.bool true) := fun ob => (hN3.past ob).facts.2.1))
  have hO0 : Hid ((w3.alloc (.cells #[.int .u8 1, .int .u8 (tn : Int), .int .u8 (n : Int), .int .u8 0, .int .u8 (wd : Int), .int .u8 0, .int .u8 (mx : Int), .int .u8 0, .int .u8 0, .int .u8 0, .int .u8 0, .int .u8 0] 5)).ownsRow w3.heap.size 5 1 (.slice (some ⟨w3.heap.size, 0, none⟩) 12 12) (12 + 8 * 0) (u8s (keyP (hdP (UInt8.ofNat 1) tn n wd mx) ks 0))) := by
    have e : u8s (keyP (hdP (UInt8.ofNat 1) tn n wd mx) ks 0) = [.int .u8 (1 : Nat), .int .u8 (tn : Int), .int .u8 (n : Int), .int .u8 0, .int .u8 (wd : Int), .int .u8 0, .int .u8 (mx : Int), .int .u8 0, .int .u8 0, .int .u8 0, .int .u8 0, .int .u8 0] := by
      have e2 : keyP (hdP (UInt8.ofNat 1) tn n wd mx) ks 0 = hdP (UInt8.ofNat 1) tn n wd mx := by simp [keyP, nodK]
      rw [e2]
      exact HCL.out
    rw [e]
    exact World.ownsRow_lit (base := w3.heap.size) (e := 5) (size := 1) w3 #[.int .u8 1, .int .u8 (tn : Int), .int .u8 (n : Int), .int .u8 0, .int .u8 (wd : Int), .int .u8 0, .int .u8 (mx : Int), .int .u8 0, .int .u8 0, .int .u8 0, .int .u8 0, .int .u8 0] 12 (Nat.le_refl _) (by simp [maxLen]) rfl
  have hE0 : Hid (HEncP (encNod ⟨(tn : Int), true, ks, vs⟩) (hdP (UInt8.ofNat 1) tn n wd mx) ks vs n wd mx) := HEnc.out
  have HN3 := Lib.hid hN3
  have hlt3 : w.heap.size < w3.heap.size := block_lt hN3.node
  have hb3 : Hid (Below w3.heap.size w3 (w3.alloc (.cells #[.int .u8 1, .int .u8 (tn : Int), .int .u8 (n : Int), .int .u8 0, .int .u8 (wd : Int), .int .u8 0, .int .u8 (mx : Int), .int .u8 0, .int .u8 0, .int .u8 0, .int .u8 0, .int .u8 0] 5))) := (Below.refl _ _).alloc (Nat.le_refl _) _
  have HLen : Hid ((hdP (UInt8.ofNat 1) tn n wd mx).length = 12) := rfl
  generalize hdP (UInt8.ofNat 1) tn n wd mx = hd at *
  clear hN1 hN2 hN3 a0 a1 a2 a3 b0 b1 b2 b3 c0 c1 c2 c3 d1 HEnc HCL R W0 M0
  go_loopw [6, 7] (fun v i wr => ∃ k : Nat, k ≤ mx ∧ i = .int .i64 k ∧ Hid (wr.ownsRow w3.heap.size 5 1 v (12 + 8 * k) (u8s (keyP hd ks k))) ∧ Hid (Below w3.heap.size w3 wr)) (fun _ i _ => mx - (intOf i).toNat)
  case atStart => exact ⟨0, by omega, rfl, hO0, hb3⟩
  case round =>
    clear hO0 hb3
    obtain ⟨k, hk, rfl, hown, hbel⟩ := hrel
    have hBN := HN3.out.later hbel.out
    obtain ⟨c0, c1, c2, c3⟩ := hBN.facts
    have hsz : w3.heap.size ≤ wr.heap.size := hbel.out.size
    by_cases hlt : k < mx
    · by_cases hkn : k < n
      · obtain ⟨b, off, rfl, hb, hcell⟩ := HIN.out.keys.row.lit (by rw [i64s_length]; have := HKL.out; show 0 < ks.length; omega)
        have hkk : k < ks.length := by have := HKL.out; omega
        have hcc : wr.cell? ⟨b, off + k, none⟩ = some (.int .i64 ks[k]) := (hBN.bel.cell (p := ⟨b, off + k, none⟩) hb).trans (hcell k _ (i64s_at ks k hkk))
        have hkb := HKB.out _ (List.getElem_mem hkk)
        have hst := Lib.hid (keyP_key (hd := hd) hkk)
        obtain ⟨kn, hkn2⟩ := Int.eq_ofNat_of_zero_le (show 0 ≤ ks[k] by omega)
        rw [hkn2] at hcc hst hkb
        rw [Int.toNat_natCast] at hst
        have BY : Hid (∀ W, Calls Tryz.prog 38 #[.int .i64 (kn : Int), .int .i64 8] W fun e w' => ∃ v', e = .returned v' ∧ w'.ownsRow W.heap.size 5 1 v' 8 (u8s (encN 8 kn)) ∧ Below W.heap.size W w') := fun W => Bytes_any kn 8 W (by have := hkb.2; simp only [maxK] at this; omega) (by omega)
        clear hcell hkb hkn2
        go_wp2_with (first
          | (go_at_call 38; (with_reducible refine (BY.out _).mono ?_); rintro e w5 ⟨v5, rfl, ho5, hb5⟩; obtain ⟨A5, c5, rfl, hB5⟩ := Bytes8.of_own ho5; have hown5 := own_below hown hb5; have HB5 := Lib.hid hB5; have hbel5 : Hid (Below w3.heap.size w3 w5) := hbel.out.trans (hb5.mono hsz); have hsz5 := Nat.le_trans hsz hb5.size; clear hB5 ho5)
          | (at_builtin; refine wpList_append_row w5 rfl (.tmp 48) (.tmp 54) _ rfl w3.heap.size 5 _ 1 Tryz.underlying29 info_u8 rfl u6 _ _ rfl hown5 hsz5 A5 (u8s (encN 8 kn)) 8 c5 rfl (by rw [u8s_length, encN_length]) HB5.out.row (u8s_one _) (by omega) (by omega) ?_; intro v6 w6 ho6 hs6 hb6))
        go_roundw
        case rel =>
          refine ⟨k + 1, by omega, by go_num, ?_, hbel5.out.trans hb6⟩
          have := ho6.out
          rw [← u8s_append, ← hst.out] at this
          exact this
        case measure => simp [intOf]; omega
      · have hst := Lib.hid (keyP_zero (hd := hd) (ks := ks) (i := k) (by have := HKL.out; omega))
        go_wp2_with (at_builtin; refine wpList_append_zeros wr rfl (.tmp 56) (.const (.int .i64 8)) _ _ rfl w3.heap.size 5 .i64 Tryz.underlying29 Tryz.underlying3 info_u8 u6 _ _ rfl hown hsz (by omega) 8 (by omega) rfl (by omega) ?_; intro v6 w6 ho6 hs6 hb6)
        go_roundw
        case rel =>
          refine ⟨k + 1, by omega, by go_num, ?_, hbel.out.trans hb6⟩
          have := ho6.out
          rw [← u8s_append, ← hst.out] at this
          exact this
        case measure => simp [intOf]; omega
    · obtain rfl : mx = k := by omega
      have hown0 : Hid (wr.ownsRow w3.heap.size 5 1 u6 (12 + 8 * mx) (u8s (valP hd ks mx vs 0))) := by
        have e : valP hd ks mx vs 0 = keyP hd ks mx := by simp [valP]
        rw [e]; exact hown
      clear hown c0 c1 c2 c3 hBN
      go_wp2
      go_loopw [6, 8] (fun v i wr => ∃ j : Nat, j ≤ n ∧ i = .int .i64 j ∧ (∃ p : Nat, p ≤ 244 ∧ 12 ≤ p ∧ Hid (p = 12 + 8 * mx + wd * j) ∧ Hid (wr.ownsRow w3.heap.size 5 1 v p (u8s (valP hd ks mx vs j)))) ∧ Hid (Below w3.heap.size w3 wr)) (fun _ i _ => n - (intOf i).toNat)
      case atStart => exact ⟨0, by omega, rfl, ⟨12 + 8 * mx, by omega, by omega, by rw [Nat.mul_zero]; rfl, hown0⟩, hbel⟩
      case round =>
        clear hown0 hbel hsz
        obtain ⟨j, hj, rfl, ⟨p, hp, hp12, hP, hown⟩, hbel⟩ := hrel
        have hBN := HN3.out.later hbel.out
        obtain ⟨c0, c1, c2, c3⟩ := hBN.facts
        have hsz : w3.heap.size ≤ wr.heap.size := hbel.out.size
        by_cases hlt : j < n
        · obtain ⟨b, off, rfl, hb, hcell⟩ := strs_cell HIN.out.vals (by omega)
          have hjv : j < vs.length := by have := HVL.out; omega
          obtain ⟨s, hse, hsz2, hcs⟩ := hcell j hjv
          have hcc : wr.cell? ⟨b, off + j, none⟩ = some (.string s) := (hBN.bel.cell (p := ⟨b, off + j, none⟩) hb).trans hcs
          have hvj := HV.out _ (List.getElem_mem hjv)
          have hsl : Hid (s.data.toList = vs[j]) := by rw [hse]; rfl
          have hst := Lib.hid (valP_step (hd := hd) (ks := ks) (mx := mx) hjv)
          have hm : wd * (j + 1) ≤ wd * n := Nat.mul_le_mul_left _ (by omega)
          rw [Nat.mul_add, Nat.mul_one] at hm
          have hpw : p + wd ≤ 244 := by have := hP.out; omega
          have hP1 : Hid (p + wd = 12 + 8 * mx + wd * (j + 1)) := by have := hP.out; rw [Nat.mul_add, Nat.mul_one]; unfold Hid; omega
          have HVJ := Lib.hid hvj
          clear hcell hcs hse hm hsz2 hvj
          generalize vs[j] = vj at *
          go_wp2_with (at_builtin; refine wpList_append_str wr rfl (.tmp 65) (.tmp 70) _ _ rfl w3.heap.size 5 Tryz.underlying29 Tryz.underlying9 info_u8 u6 _ _ rfl hown hsz s vj wd rfl hsl.out HVJ.out (by omega) ?_; intro v6 w6 ho6 hs6 hb6)
          go_roundw
          case rel =>
            refine ⟨j + 1, by omega, by go_num, ⟨p + wd, hpw, by omega, hP1, ?_⟩, hbel.out.trans hb6⟩
            have := ho6.out
            rw [← u8s_append, ← hst.out] at this
            exact this
          case measure => simp [intOf]; omega
        · obtain rfl : n = j := by omega
          have hfl : valP hd ks mx vs n = keyP hd ks mx ++ vs.flatten := by
            rw [valP, List.take_of_length_le (by have := HVL.out; omega)]
          rw [hfl] at hown
          have hEq : Hid (encNod ⟨(tn : Int), true, ks, vs⟩ = keyP hd ks mx ++ vs.flatten ++ List.replicate (244 - p) 0) := encP_eq hE0.out HKL.out hP.out hf2
          clear hfl
          generalize keyP hd ks mx ++ vs.flatten = all at *
          have HBN := Lib.hid hBN
          go_wp2
          clear hBN c0 c1 c2 c3
          go_loopw [6] (fun v wr => ∃ (q c9 : Nat) (A9 : Option Addr), p ≤ q ∧ q ≤ 244 ∧ v = .slice A9 q c9 ∧ Hid (wr.ownsRow w3.heap.size 5 1 v q (u8s (all ++ List.replicate (q - p) 0))) ∧ Hid (Below w3.heap.size w3 wr)) (fun v _ => 244 - lenV v)
          case atStart =>
            obtain ⟨A9, c9, hv, _, _⟩ := ownsRow_form hown.out
            refine ⟨p, c9, A9, Nat.le_refl _, hp, hv, ?_, hbel⟩
            rw [Nat.sub_self]
            simpa using hown
          case round =>
            clear hown hbel hsz HBN
            obtain ⟨q, c9, A9, hpq, hq, rfl, hown, hbel⟩ := hrel
            have hsz : w3.heap.size ≤ wr.heap.size := hbel.out.size
            by_cases hlt : q < 244
            · go_wp2_with (at_builtin; refine wpList_append_new wr rfl (.tmp 75) (.tmp 76) _ rfl w3.heap.size 5 _ _ 1 Tryz.underlying29 info_u8 rfl (.slice A9 q c9) _ _ rfl hown hsz [_] 1 1 rfl rfl (by simp [Value.oneCell']) (by omega) (by omega) ?_; intro v6 w6 ho6 hs6 hb6)
              obtain ⟨A6, c6, rfl, _, _⟩ := ownsRow_form ho6.out
              go_roundw
              case rel =>
                refine ⟨q + 1, c6, A6, by omega, by omega, rfl, ?_, hbel.out.trans hb6⟩
                have := ho6.out
                have e : q + 1 - p = (q - p) + 1 := by omega
                rw [e, List.replicate_succ', ← List.append_assoc, u8s_append]
                exact this
              case measure => simp [lenV]; omega
            · obtain rfl : q = 244 := by omega
              go_wp2
              go_ret2
              refine ⟨A9, c9, rfl, ?_, (HN3.out.later hbel.out).bel⟩
              have := hown.out
              rw [← hEq.out] at this
              obtain ⟨A', c', hv, hB⟩ := Bytes8.of_own this
              injection hv with e1 e2 e3
              subst e1; subst e3
              exact hB


set_option maxRecDepth 100000 in
set_option maxHeartbeats 6400000 in
theorem refPut_false (w : World) (tree : Int) (ks : List Int) (vs : List (List UInt8)) (A : Option Addr) (n c : Nat) (A2 : Option Addr) (n2 c2 : Nat) (h : NodIn w ⟨tree, false, ks, vs⟩ A n c A2 n2 c2) (hr : rightN ⟨tree, false, ks, vs⟩ = true) :
    Calls Tryz.prog 36 #[nodV ⟨tree, false, ks, vs⟩ A n c A2 n2 c2] w fun e w' => ∃ A' c', e = .returned (.tuple #[.slice A' 244 c', .int .i64 0]) ∧ Bytes8 w' A' 244 c' (encNod ⟨tree, false, ks, vs⟩) ∧ Below w.heap.size w w' := by
  have N0 := Lib.hid (BkN.new w tree false (.slice A n c) (.slice A2 n2 c2))
  have hb0 : Below w.heap.size w (w.alloc (.cells #[.int .i64 tree, .bool false, .slice A n c, .slice A2 n2 c2] 76)) := (Below.refl _ _).alloc (Nat.le_refl _) _
  have R : Hid (Calls Tryz.prog 63 #[.agg #[.int .i64 tree, .bool false, .slice A n c, .slice A2 n2 c2]] (w.alloc (.cells #[.int .i64 tree, .bool false, .slice A n c, .slice A2 n2 c2] 76)) fun e w' => e = .returned (.bool true) ∧ BkN w w' tree false (.slice A n c) (.slice A2 n2 c2)) :=
    (refRight_any _ ⟨tree, false, ks, vs⟩ A n c A2 n2 c2 (h.below hb0) true hr).mono fun e w' ⟨h1, h2⟩ => ⟨h1, N0.out.later h2⟩
  have WD : Hid (∀ wd, widN tree false = wd → ∀ W, BkN w W tree false (.slice A n c) (.slice A2 n2 c2) → _) := fun wd hw W hW => bk_refw h.tb wd hw W hW
  have MX : Hid (∀ mx, capN (widN tree false) = mx → ∀ W, BkN w W tree false (.slice A n c) (.slice A2 n2 c2) → _) := fun mx hm W hW => bk_refm h.tb mx hm W hW
  obtain ⟨g1, g2, g3, g4, g5, _⟩ := rightN_iff.1 hr
  obtain ⟨hf1, hf2, hf3, hf4⟩ := right_fit hr
  obtain ⟨ht1, ht2⟩ := widN_tree g1
  have hkb := upFrom_bounds g5
  have hnH := hdP_nodH (nd := ⟨tree, false, ks, vs⟩) (Nat.le_trans hf2 hf3) hf4 hf3
  dsimp only at *
  have hkl : ks.length = n := h.keys.len
  have hvl : vs.length = n2 := h.vals.len
  have kcap := h.keys.cap
  have kmost := h.keys.most
  have vcap := h.vals.cap
  have vmost := h.vals.most
  have HIN := Lib.hid h
  obtain rfl : n = n2 := by omega
  have hEnc : encNod ⟨tree, false, ks, vs⟩ = nodH ⟨tree, false, ks, vs⟩ ++ (nodK ks ++ (List.replicate (8 * (capN (widN tree false) - ks.length)) 0 ++ (vs.flatten ++ List.replicate (232 - 8 * capN (widN tree false) - widN tree false * ks.length) 0))) := rfl
  obtain ⟨wd, hwd⟩ : ∃ wd, widN tree false = wd := ⟨_, rfl⟩
  obtain ⟨mx, hmx⟩ : ∃ mx, capN (widN tree false) = mx := ⟨_, rfl⟩
  have W0 := Lib.hid (WD.out wd hwd)
  have M0 := Lib.hid (MX.out mx hmx)
  obtain ⟨tn, rfl⟩ := Int.eq_ofNat_of_zero_le (show 0 ≤ tree by omega)
  rw [hwd] at hmx
  rw [hwd, hmx] at hnH hEnc hf1
  rw [hwd, hmx] at hf2 hf3
  rw [hwd] at g4 g1 hf4
  rw [hnH] at hEnc
  simp only [Int.toNat_natCast, hkl] at hEnc hf1 hf2
  have HV := Lib.hid g4
  have HKB := Lib.hid hkb
  have HEnc := Lib.hid hEnc
  have htn : tn ≤ 5 := by omega
  have hn18 : n ≤ 18 := by omega
  have hpos : 0 < wd := by omega
  have HKL := Lib.hid hkl
  have HVL := Lib.hid hvl
  have hcl := hdP_cells (tree := tn) (n := n) (wd := wd) (mx := mx) 0 (by omega) (by omega) (by omega) (by omega) (by omega)
  have HCL := Lib.hid hcl
  clear h hr WD MX g1 g2 g3 g4 g5 hkb ht1 ht2 hwd hmx hnH hb0 hcl hEnc
  simp only [nodV]
  go_enter Tryz.func36, Tryz.ntmps36
  go_wp2_with (first
    | (go_at_call 63; (with_reducible refine (R.out).mono ?_); rintro e w1 ⟨rfl, hN1⟩; obtain ⟨a0, a1, a2, a3⟩ := hN1.facts)
    | (go_at_call 61; (with_reducible refine (W0.out _ hN1).mono ?_); rintro e w2 ⟨rfl, hN2⟩; obtain ⟨b0, b1, b2, b3⟩ := hN2.facts)
    | (go_at_call 35; (with_reducible refine (M0.out _ hN2).mono ?_); rintro e w3 ⟨rfl, hN3⟩; obtain ⟨c0, c1, c2, c3⟩ := hN3.facts; have d1 : ∀ ob, (w3.alloc ob).cell? ⟨w.heap.size, 1, none⟩ = some (.bool false) := fun ob => (hN3.past ob).facts.2.1))
  have hO0 : Hid ((w3.alloc (.cells #[.int .u8 0, .int .u8 (tn : Int), .int .u8 (n : Int), .int .u8 0, .int .u8 (wd : Int), .int .u8 0, .int .u8 (mx : Int), .int .u8 0, .int .u8 0, .int .u8 0, .int .u8 0, .int .u8 0] 5)).ownsRow w3.heap.size 5 1 (.slice (some ⟨w3.heap.size, 0, none⟩) 12 12) (12 + 8 * 0) (u8s (keyP (hdP (UInt8.ofNat 0) tn n wd mx) ks 0))) := by
    have e : u8s (keyP (hdP (UInt8.ofNat 0) tn n wd mx) ks 0) = [.int .u8 (0 : Nat), .int .u8 (tn : Int), .int .u8 (n : Int), .int .u8 0, .int .u8 (wd : Int), .int .u8 0, .int .u8 (mx : Int), .int .u8 0, .int .u8 0, .int .u8 0, .int .u8 0, .int .u8 0] := by
      have e2 : keyP (hdP (UInt8.ofNat 0) tn n wd mx) ks 0 = hdP (UInt8.ofNat 0) tn n wd mx := by simp [keyP, nodK]
      rw [e2]
      exact HCL.out
    rw [e]
    exact World.ownsRow_lit (base := w3.heap.size) (e := 5) (size := 1) w3 #[.int .u8 0, .int .u8 (tn : Int), .int .u8 (n : Int), .int .u8 0, .int .u8 (wd : Int), .int .u8 0, .int .u8 (mx : Int), .int .u8 0, .int .u8 0, .int .u8 0, .int .u8 0, .int .u8 0] 12 (Nat.le_refl _) (by simp [maxLen]) rfl
  have hE0 : Hid (HEncP (encNod ⟨(tn : Int), false, ks, vs⟩) (hdP (UInt8.ofNat 0) tn n wd mx) ks vs n wd mx) := HEnc.out
  have HN3 := Lib.hid hN3
  have hlt3 : w.heap.size < w3.heap.size := block_lt hN3.node
  have hb3 : Hid (Below w3.heap.size w3 (w3.alloc (.cells #[.int .u8 0, .int .u8 (tn : Int), .int .u8 (n : Int), .int .u8 0, .int .u8 (wd : Int), .int .u8 0, .int .u8 (mx : Int), .int .u8 0, .int .u8 0, .int .u8 0, .int .u8 0, .int .u8 0] 5))) := (Below.refl _ _).alloc (Nat.le_refl _) _
  have HLen : Hid ((hdP (UInt8.ofNat 0) tn n wd mx).length = 12) := rfl
  generalize hdP (UInt8.ofNat 0) tn n wd mx = hd at *
  clear hN1 hN2 hN3 a0 a1 a2 a3 b0 b1 b2 b3 c0 c1 c2 c3 d1 HEnc HCL R W0 M0
  go_loopw [6, 7] (fun v i wr => ∃ k : Nat, k ≤ mx ∧ i = .int .i64 k ∧ Hid (wr.ownsRow w3.heap.size 5 1 v (12 + 8 * k) (u8s (keyP hd ks k))) ∧ Hid (Below w3.heap.size w3 wr)) (fun _ i _ => mx - (intOf i).toNat)
  case atStart => exact ⟨0, by omega, rfl, hO0, hb3⟩
  case round =>
    clear hO0 hb3
    obtain ⟨k, hk, rfl, hown, hbel⟩ := hrel
    have hBN := HN3.out.later hbel.out
    obtain ⟨c0, c1, c2, c3⟩ := hBN.facts
    have hsz : w3.heap.size ≤ wr.heap.size := hbel.out.size
    by_cases hlt : k < mx
    · by_cases hkn : k < n
      · obtain ⟨b, off, rfl, hb, hcell⟩ := HIN.out.keys.row.lit (by rw [i64s_length]; have := HKL.out; show 0 < ks.length; omega)
        have hkk : k < ks.length := by have := HKL.out; omega
        have hcc : wr.cell? ⟨b, off + k, none⟩ = some (.int .i64 ks[k]) := (hBN.bel.cell (p := ⟨b, off + k, none⟩) hb).trans (hcell k _ (i64s_at ks k hkk))
        have hkb := HKB.out _ (List.getElem_mem hkk)
        have hst := Lib.hid (keyP_key (hd := hd) hkk)
        obtain ⟨kn, hkn2⟩ := Int.eq_ofNat_of_zero_le (show 0 ≤ ks[k] by omega)
        rw [hkn2] at hcc hst hkb
        rw [Int.toNat_natCast] at hst
        have BY : Hid (∀ W, Calls Tryz.prog 38 #[.int .i64 (kn : Int), .int .i64 8] W fun e w' => ∃ v', e = .returned v' ∧ w'.ownsRow W.heap.size 5 1 v' 8 (u8s (encN 8 kn)) ∧ Below W.heap.size W w') := fun W => Bytes_any kn 8 W (by have := hkb.2; simp only [maxK] at this; omega) (by omega)
        clear hcell hkb hkn2
        go_wp2_with (first
          | (go_at_call 38; (with_reducible refine (BY.out _).mono ?_); rintro e w5 ⟨v5, rfl, ho5, hb5⟩; obtain ⟨A5, c5, rfl, hB5⟩ := Bytes8.of_own ho5; have hown5 := own_below hown hb5; have HB5 := Lib.hid hB5; have hbel5 : Hid (Below w3.heap.size w3 w5) := hbel.out.trans (hb5.mono hsz); have hsz5 := Nat.le_trans hsz hb5.size; clear hB5 ho5)
          | (at_builtin; refine wpList_append_row w5 rfl (.tmp 48) (.tmp 54) _ rfl w3.heap.size 5 _ 1 Tryz.underlying29 info_u8 rfl u6 _ _ rfl hown5 hsz5 A5 (u8s (encN 8 kn)) 8 c5 rfl (by rw [u8s_length, encN_length]) HB5.out.row (u8s_one _) (by omega) (by omega) ?_; intro v6 w6 ho6 hs6 hb6))
        go_roundw
        case rel =>
          refine ⟨k + 1, by omega, by go_num, ?_, hbel5.out.trans hb6⟩
          have := ho6.out
          rw [← u8s_append, ← hst.out] at this
          exact this
        case measure => simp [intOf]; omega
      · have hst := Lib.hid (keyP_zero (hd := hd) (ks := ks) (i := k) (by have := HKL.out; omega))
        go_wp2_with (at_builtin; refine wpList_append_zeros wr rfl (.tmp 56) (.const (.int .i64 8)) _ _ rfl w3.heap.size 5 .i64 Tryz.underlying29 Tryz.underlying3 info_u8 u6 _ _ rfl hown hsz (by omega) 8 (by omega) rfl (by omega) ?_; intro v6 w6 ho6 hs6 hb6)
        go_roundw
        case rel =>
          refine ⟨k + 1, by omega, by go_num, ?_, hbel.out.trans hb6⟩
          have := ho6.out
          rw [← u8s_append, ← hst.out] at this
          exact this
        case measure => simp [intOf]; omega
    · obtain rfl : mx = k := by omega
      have hown0 : Hid (wr.ownsRow w3.heap.size 5 1 u6 (12 + 8 * mx) (u8s (valP hd ks mx vs 0))) := by
        have e : valP hd ks mx vs 0 = keyP hd ks mx := by simp [valP]
        rw [e]; exact hown
      clear hown c0 c1 c2 c3 hBN
      go_wp2
      go_loopw [6, 8] (fun v i wr => ∃ j : Nat, j ≤ n ∧ i = .int .i64 j ∧ (∃ p : Nat, p ≤ 244 ∧ 12 ≤ p ∧ Hid (p = 12 + 8 * mx + wd * j) ∧ Hid (wr.ownsRow w3.heap.size 5 1 v p (u8s (valP hd ks mx vs j)))) ∧ Hid (Below w3.heap.size w3 wr)) (fun _ i _ => n - (intOf i).toNat)
      case atStart => exact ⟨0, by omega, rfl, ⟨12 + 8 * mx, by omega, by omega, by rw [Nat.mul_zero]; rfl, hown0⟩, hbel⟩
      case round =>
        clear hown0 hbel hsz
        obtain ⟨j, hj, rfl, ⟨p, hp, hp12, hP, hown⟩, hbel⟩ := hrel
        have hBN := HN3.out.later hbel.out
        obtain ⟨c0, c1, c2, c3⟩ := hBN.facts
        have hsz : w3.heap.size ≤ wr.heap.size := hbel.out.size
        by_cases hlt : j < n
        · obtain ⟨b, off, rfl, hb, hcell⟩ := strs_cell HIN.out.vals (by omega)
          have hjv : j < vs.length := by have := HVL.out; omega
          obtain ⟨s, hse, hsz2, hcs⟩ := hcell j hjv
          have hcc : wr.cell? ⟨b, off + j, none⟩ = some (.string s) := (hBN.bel.cell (p := ⟨b, off + j, none⟩) hb).trans hcs
          have hvj := HV.out _ (List.getElem_mem hjv)
          have hsl : Hid (s.data.toList = vs[j]) := by rw [hse]; rfl
          have hst := Lib.hid (valP_step (hd := hd) (ks := ks) (mx := mx) hjv)
          have hm : wd * (j + 1) ≤ wd * n := Nat.mul_le_mul_left _ (by omega)
          rw [Nat.mul_add, Nat.mul_one] at hm
          have hpw : p + wd ≤ 244 := by have := hP.out; omega
          have hP1 : Hid (p + wd = 12 + 8 * mx + wd * (j + 1)) := by have := hP.out; rw [Nat.mul_add, Nat.mul_one]; unfold Hid; omega
          have HVJ := Lib.hid hvj
          clear hcell hcs hse hm hsz2 hvj
          generalize vs[j] = vj at *
          go_wp2_with (at_builtin; refine wpList_append_str wr rfl (.tmp 65) (.tmp 70) _ _ rfl w3.heap.size 5 Tryz.underlying29 Tryz.underlying9 info_u8 u6 _ _ rfl hown hsz s vj wd rfl hsl.out HVJ.out (by omega) ?_; intro v6 w6 ho6 hs6 hb6)
          go_roundw
          case rel =>
            refine ⟨j + 1, by omega, by go_num, ⟨p + wd, hpw, by omega, hP1, ?_⟩, hbel.out.trans hb6⟩
            have := ho6.out
            rw [← u8s_append, ← hst.out] at this
            exact this
          case measure => simp [intOf]; omega
        · obtain rfl : n = j := by omega
          have hfl : valP hd ks mx vs n = keyP hd ks mx ++ vs.flatten := by
            rw [valP, List.take_of_length_le (by have := HVL.out; omega)]
          rw [hfl] at hown
          have hEq : Hid (encNod ⟨(tn : Int), false, ks, vs⟩ = keyP hd ks mx ++ vs.flatten ++ List.replicate (244 - p) 0) := encP_eq hE0.out HKL.out hP.out hf2
          clear hfl
          generalize keyP hd ks mx ++ vs.flatten = all at *
          have HBN := Lib.hid hBN
          go_wp2
          clear hBN c0 c1 c2 c3
          go_loopw [6] (fun v wr => ∃ (q c9 : Nat) (A9 : Option Addr), p ≤ q ∧ q ≤ 244 ∧ v = .slice A9 q c9 ∧ Hid (wr.ownsRow w3.heap.size 5 1 v q (u8s (all ++ List.replicate (q - p) 0))) ∧ Hid (Below w3.heap.size w3 wr)) (fun v _ => 244 - lenV v)
          case atStart =>
            obtain ⟨A9, c9, hv, _, _⟩ := ownsRow_form hown.out
            refine ⟨p, c9, A9, Nat.le_refl _, hp, hv, ?_, hbel⟩
            rw [Nat.sub_self]
            simpa using hown
          case round =>
            clear hown hbel hsz HBN
            obtain ⟨q, c9, A9, hpq, hq, rfl, hown, hbel⟩ := hrel
            have hsz : w3.heap.size ≤ wr.heap.size := hbel.out.size
            by_cases hlt : q < 244
            · go_wp2_with (at_builtin; refine wpList_append_new wr rfl (.tmp 75) (.tmp 76) _ rfl w3.heap.size 5 _ _ 1 Tryz.underlying29 info_u8 rfl (.slice A9 q c9) _ _ rfl hown hsz [_] 1 1 rfl rfl (by simp [Value.oneCell']) (by omega) (by omega) ?_; intro v6 w6 ho6 hs6 hb6)
              obtain ⟨A6, c6, rfl, _, _⟩ := ownsRow_form ho6.out
              go_roundw
              case rel =>
                refine ⟨q + 1, c6, A6, by omega, by omega, rfl, ?_, hbel.out.trans hb6⟩
                have := ho6.out
                have e : q + 1 - p = (q - p) + 1 := by omega
                rw [e, List.replicate_succ', ← List.append_assoc, u8s_append]
                exact this
              case measure => simp [lenV]; omega
            · obtain rfl : q = 244 := by omega
              go_wp2
              go_ret2
              refine ⟨A9, c9, rfl, ?_, (HN3.out.later hbel.out).bel⟩
              have := hown.out
              rw [← hEq.out] at this
              obtain ⟨A', c', hv, hB⟩ := Bytes8.of_own this
              injection hv with e1 e2 e3
              subst e1; subst e3
              exact hB


end Go.Proofs.YtnjlganofjkpfaaGreatDoor
