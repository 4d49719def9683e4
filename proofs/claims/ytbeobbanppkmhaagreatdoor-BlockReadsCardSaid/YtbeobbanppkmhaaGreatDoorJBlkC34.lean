/-
  Joined: SupK.
-/
import Derived.BigRegion
import Derived.Deep.RegionHeld3
import Derived.Test.YtbeobbanppkmhaaGreatDoorJBlkC25
import Derived.Test.YtbeobbanppkmhaaGreatDoorJBlkC33
/-
  Layer 6's reference: Read.
-/
namespace Go.Proofs.YtbeobbanppkmhaaGreatDoor
open Go.RowKit
set_option linter.unusedVariables false
set_option linter.unusedSimpArgs false

theorem zero_new (w : World) : SupAt (w.alloc (.cells #[.int .i64 0, .int .i64 0, .int .i64 0, .int .i64 0, .int .i64 0, .int .i64 0, .int .i64 0, .int .i64 0, .int .i64 0, .int .i64 0, .int .i64 0] 29)) w.heap.size (fun _ => 0) := heap_alloc_new w _

set_option maxRecDepth 100000 in
set_option maxHeartbeats 800000 in
theorem refRead_len (A : Option Addr) (n c : Nat) (l : List UInt8) (w : World) (h : Bytes8 w A n c l) (hn : n ≠ 244) :
    Calls Tryz.prog 39 #[.slice A n c] w fun e w' => e = .returned (.tuple #[supV (fun _ => 0), .int .i64 7]) ∧ Below w.heap.size w w' := by
  have hz2 := zero_new w
  have hb0 : Below w.heap.size w (w.alloc (.cells #[.int .i64 0, .int .i64 0, .int .i64 0, .int .i64 0, .int .i64 0, .int .i64 0, .int .i64 0, .int .i64 0, .int .i64 0, .int .i64 0, .int .i64 0] 29)) := (Below.refl _ _).alloc (Nat.le_refl _) _
  have hn3 : n ≤ 243 ∨ 245 ≤ n := by omega
  clear h hn
  rcases hn3 with hn2 | hn2
  all_goals go_enter Tryz.func39, Tryz.ntmps39
  all_goals go_wp2
  all_goals exact bodyPost_ret (results_sup Tryz.results39 _ _ w.heap.size (fun _ => 0) rfl hz2) rfl ⟨rfl, hb0⟩

set_option maxRecDepth 100000 in
set_option maxHeartbeats 800000 in
theorem refRead_magic (A : Option Addr) (c : Nat) (l : List UInt8) (w : World) (h : Bytes8 w A 244 c l) (hm : l.take 8 ≠ magic) :
    Calls Tryz.prog 39 #[.slice A 244 c] w fun e w' => e = .returned (.tuple #[supV (fun _ => 0), .int .i64 7]) ∧ Below w.heap.size w w' := by
  have hz2 := zero_new w
  have hb0 : Below w.heap.size w (w.alloc (.cells #[.int .i64 0, .int .i64 0, .int .i64 0, .int .i64 0, .int .i64 0, .int .i64 0, .int .i64 0, .int .i64 0, .int .i64 0, .int .i64 0, .int .i64 0] 29)) := (Below.refl _ _).alloc (Nat.le_refl _) _
  have hcap := h.cap
  have hB8 : Bytes8 w A 8 c (l.take 8) := by
    refine ⟨by rw [List.length_take, h.len]; rfl, by omega, h.most, ?_⟩
    have := h.row.take 8
    rwa [u8s_take] at this
  have cv := run_str (hB8.below hb0)
  have hm2 : (l.take 8 == [83, 67, 65, 78, 84, 76, 73, 78]) = false := by simpa [magic] using hm
  clear h hm hB8
  generalize l.take 8 = l8 at *
  go_enter Tryz.func39, Tryz.ntmps39
  go_wp2
  exact bodyPost_ret (results_sup Tryz.results39 _ _ w.heap.size (fun _ => 0) rfl hz2) rfl ⟨rfl, hb0⟩


/-- what the reference's last test finds: the integers behind the beginning -/
structure RdSt (w W : World) (b off c : Nat) (l : List UInt8) (b1 o1 : Nat) (v : Nat → Int) : Prop where
  bel : Below w.heap.size w W
  res : SupAt W w.heap.size (fun _ => 0)
  inn : Bytes8 W (some ⟨b, off, none⟩) 244 c l
  num : ∀ k, k < 12 → W.cell? ⟨b1, o1 + k, none⟩ = some (.int .i64 (v k))

theorem RdSt.later {w W W' : World} {b off c : Nat} {l : List UInt8} {b1 o1 : Nat} {v : Nat → Int} (h : RdSt w W b off c l b1 o1 v) (hb : Below W.heap.size W W') : RdSt w W' b off c l b1 o1 v :=
  ⟨h.bel.trans (hb.mono h.bel.size), (hb.block _ (block_lt h.res)).trans h.res, h.inn.below hb, fun k hk => (hb.cell (cell_lt (h.num k hk))).trans (h.num k hk)⟩

set_option maxRecDepth 100000 in
set_option maxHeartbeats 3200000 in
theorem refRead_rest (b off c : Nat) (l : List UInt8) (w : World) (h : Bytes8 w (some ⟨b, off, none⟩) 244 c l) (hm : l.take 8 = magic) :
    Calls Tryz.prog 39 #[.slice (some ⟨b, off, none⟩) 244 c] w fun e w' => e = .returned (.tuple #[supV (readS l), .int .i64 (readE l)]) ∧ Below w.heap.size w w' := by
  have hl := h.len
  have hcap := h.cap
  have hmost := h.most
  have hz2 := zero_new w
  have hb0 : Below w.heap.size w (w.alloc (.cells #[.int .i64 0, .int .i64 0, .int .i64 0, .int .i64 0, .int .i64 0, .int .i64 0, .int .i64 0, .int .i64 0, .int .i64 0, .int .i64 0, .int .i64 0] 29)) := (Below.refl _ _).alloc (Nat.le_refl _) _
  have hB8 : Bytes8 w (some ⟨b, off, none⟩) 8 c [83, 67, 65, 78, 84, 76, 73, 78] := by
    refine ⟨rfl, by omega, by omega, ?_⟩
    have := h.row.take 8
    rw [u8s_take, hm] at this
    exact this
  have cv := run_str (hB8.below hb0)
  have U : Hid (Calls Tryz.prog 88 #[.slice (some ⟨b, off + 8, none⟩) 236 (c - 8), .slice (some ⟨w.heap.size + 1, 0, none⟩) 12 12]
      ((w.alloc (.cells #[.int .i64 0, .int .i64 0, .int .i64 0, .int .i64 0, .int .i64 0, .int .i64 0, .int .i64 0, .int .i64 0, .int .i64 0, .int .i64 0, .int .i64 0] 29)).alloc (.cells #[.int .i64 4, .int .i64 4, .int .i64 4, .int .i64 4, .int .i64 4, .int .i64 4, .int .i64 4, .int .i64 4, .int .i64 4, .int .i64 4, .int .i64 4, .int .i64 4] 3)) fun e w' => ∃ b1 o1 c1, e = .returned (.tuple #[.slice (some ⟨b1, o1, none⟩) 12 c1, .int .i64 0]) ∧ 12 ≤ c1 ∧ RdSt w w' b off c l b1 o1 (verF l)) := by
    obtain ⟨t1, t2, tb⟩ := two_new w (.cells #[.int .i64 0, .int .i64 0, .int .i64 0, .int .i64 0, .int .i64 0, .int .i64 0, .int .i64 0, .int .i64 0, .int .i64 0, .int .i64 0, .int .i64 0] 29) (.cells #[.int .i64 4, .int .i64 4, .int .i64 4, .int .i64 4, .int .i64 4, .int .i64 4, .int .i64 4, .int .i64 4, .int .i64 4, .int .i64 4, .int .i64 4, .int .i64 4] 3)
    have hD : Bytes8 w (some ⟨b, off + 8, none⟩) 236 (c - 8) (l.drop 8) := by
      refine ⟨by rw [List.length_drop, hl], by omega, by omega, ?_⟩
      have := h.row.drop 8
      rw [u8s_drop] at this
      simpa [Addr.add_lit] using this
    have hI : Ints ((w.alloc (.cells #[.int .i64 0, .int .i64 0, .int .i64 0, .int .i64 0, .int .i64 0, .int .i64 0, .int .i64 0, .int .i64 0, .int .i64 0, .int .i64 0, .int .i64 0] 29)).alloc (.cells #[.int .i64 4, .int .i64 4, .int .i64 4, .int .i64 4, .int .i64 4, .int .i64 4, .int .i64 4, .int .i64 4, .int .i64 4, .int .i64 4, .int .i64 4, .int .i64 4] 3)) (some ⟨w.heap.size + 1, 0, none⟩) 12 12 (List.replicate 12 4) := ⟨rfl, by omega, by omega, Row.of_block t2⟩
    obtain ⟨hu1, hu2⟩ := unp_twelve hl
    refine (refUnpack_any _ _ _ _ _ _ _ _ _ (hD.below tb) hI (by intro x hx; rw [List.mem_replicate] at hx; rw [hx.2]; simp [i64b']) (by omega) (by omega)).mono ?_
    rintro e w' ⟨A1, m1, c1, rfl, hR, hb1⟩
    rw [hu2] at hR
    rw [hu1]
    obtain rfl : 12 = m1 := hR.len
    obtain ⟨b1, o1, rfl, _, hcell⟩ := hR.row.lit (by rw [i64s_length]; simp)
    refine ⟨b1, o1, c1, rfl, hR.cap, tb.trans (hb1.mono tb.size), (hb1.block _ (by simp; omega)).trans t1, (h.below tb).below hb1, fun k hk => ?_⟩
    refine hcell k _ ?_
    have hk2 : k < ((List.range 12).map (verF l)).length := by simpa using hk
    rw [i64s_at _ k hk2]
    simp
  have Z : Hid (∀ W b1 o1 (v : Nat → Int), RdSt w W b off c l b1 o1 v → Calls Tryz.prog 89 #[.slice (some ⟨b, off + 56, none⟩) 188 (c - 56)] W fun e w' => e = .returned (.bool (zeroB (l.drop 56))) ∧ W = w') := fun W b1 o1 v hW => by
    have hD : Bytes8 W (some ⟨b, off + 56, none⟩) 188 (c - 56) (l.drop 56) := by
      refine ⟨by rw [List.length_drop, hl], by omega, by omega, ?_⟩
      have := hW.inn.row.drop 56
      rw [u8s_drop] at this
      simpa [Addr.add_lit] using this
    exact refZero_any _ _ _ _ W hD _ rfl
  have R : Hid (∀ W, Calls Tryz.prog 90 #[supV (readF l)] W fun e w' => e = .returned (.bool (allB (readF l) 11)) ∧ Below W.heap.size W w') := fun W => refSRight_any W _
  have e : supV (readF l) = supV (fun k => verF l (k + 1)) := by rw [supV, supV, supC_congr fun k _ => readF_verF l k]
  have ES : supV (readS l) = if readE l = 0 then supV (fun k => verF l (k + 1)) else supV (fun _ => 0) := by
    rw [readS]; split
    · exact e
    · rfl
  have E : Hid (readE l = if verF l 0 = 1 ∧ zeroB (l.drop 56) = true ∧ allB (readF l) 11 = true then 0 else 7) := by
    show readE l = _
    split
    · rename_i hh; exact readE_good hl hm hh.1 hh.2.1 hh.2.2
    · rename_i hh
      refine readE_bad (.inr ?_)
      by_cases g1 : verF l 0 = 1
      · right
        by_cases g2 : zeroB (l.drop 56) = true
        · right
          cases g3 : allB (readF l) 11
          · rfl
          · exact absurd ⟨g1, g2, g3⟩ hh
        · left; simpa using g2
      · exact .inl g1
  have HES := Lib.hid ES
  rw [e] at R
  generalize zeroB (l.drop 56) = zb at *
  generalize allB (readF l) 11 = rb at *
  generalize hv : verF l = v at *
  rw [ES, E.out]
  clear h hl hm hB8 e ES E HES hv
  simp only [supV, supC] at R
  go_enter Tryz.func39, Tryz.ntmps39
  go_wp2_with (go_at_call 88; (with_reducible refine (U.out).mono ?_); rintro e w2 ⟨b1, o1, c1, rfl, hc1, hS⟩)
  have NS : Hid (∀ W, RdSt w W b off c l b1 o1 v → (W.cell? ⟨b1, o1 + 1, none⟩ = some (.int .i64 (v 1)) ∧ W.cell? ⟨b1, o1 + 2, none⟩ = some (.int .i64 (v 2)) ∧ W.cell? ⟨b1, o1 + 3, none⟩ = some (.int .i64 (v 3)) ∧ W.cell? ⟨b1, o1 + 4, none⟩ = some (.int .i64 (v 4)) ∧ W.cell? ⟨b1, o1 + 5, none⟩ = some (.int .i64 (v 5)) ∧ W.cell? ⟨b1, o1 + 6, none⟩ = some (.int .i64 (v 6)) ∧ W.cell? ⟨b1, o1 + 7, none⟩ = some (.int .i64 (v 7)) ∧ W.cell? ⟨b1, o1 + 8, none⟩ = some (.int .i64 (v 8)) ∧ W.cell? ⟨b1, o1 + 9, none⟩ = some (.int .i64 (v 9)) ∧ W.cell? ⟨b1, o1 + 10, none⟩ = some (.int .i64 (v 10)) ∧ W.cell? ⟨b1, o1 + 11, none⟩ = some (.int .i64 (v 11)))) := fun W h => ⟨h.num 1 (by omega), h.num 2 (by omega), h.num 3 (by omega), h.num 4 (by omega), h.num 5 (by omega), h.num 6 (by omega), h.num 7 (by omega), h.num 8 (by omega), h.num 9 (by omega), h.num 10 (by omega), h.num 11 (by omega)⟩
  have hS1 := hS.later ((Below.refl _ _).drew)
  have hS2 := hS.later (((Below.refl _ _).alloc (Nat.le_refl _) (.cells #[.int .i64 0, .int .i64 0, .int .i64 0, .int .i64 0, .int .i64 0, .int .i64 0, .int .i64 0, .int .i64 0, .int .i64 0, .int .i64 0, .int .i64 0] 29)).drew)
  have hS3 := hS.later (((Below.refl _ _).alloc (Nat.le_refl _) (.cells #[.int .i64 (v 1), .int .i64 (v 2), .int .i64 (v 3), .int .i64 (v 4), .int .i64 (v 5), .int .i64 (v 6), .int .i64 (v 7), .int .i64 (v 8), .int .i64 (v 9), .int .i64 (v 10), .int .i64 (v 11)] 29)).drew)
  have ns1 := NS.out _ hS1
  have ns2 := NS.out _ hS2
  have ns3 := NS.out _ hS3
  go_region_held3 (fun W => W.cell? ⟨b1, o1 + 1, none⟩ = some (.int .i64 (v 1)) ∧ W.cell? ⟨b1, o1 + 2, none⟩ = some (.int .i64 (v 2)) ∧ W.cell? ⟨b1, o1 + 3, none⟩ = some (.int .i64 (v 3)) ∧ W.cell? ⟨b1, o1 + 4, none⟩ = some (.int .i64 (v 4)) ∧ W.cell? ⟨b1, o1 + 5, none⟩ = some (.int .i64 (v 5)) ∧ W.cell? ⟨b1, o1 + 6, none⟩ = some (.int .i64 (v 6)) ∧ W.cell? ⟨b1, o1 + 7, none⟩ = some (.int .i64 (v 7)) ∧ W.cell? ⟨b1, o1 + 8, none⟩ = some (.int .i64 (v 8)) ∧ W.cell? ⟨b1, o1 + 9, none⟩ = some (.int .i64 (v 9)) ∧ W.cell? ⟨b1, o1 + 10, none⟩ = some (.int .i64 (v 10)) ∧ W.cell? ⟨b1, o1 + 11, none⟩ = some (.int .i64 (v 11))) (first | exact ns1 | exact ns2 | exact ns3) ((fail))
  have hp3 : SupAt (w2.alloc (.cells #[.int .i64 (v 1), .int .i64 (v 2), .int .i64 (v 3), .int .i64 (v 4), .int .i64 (v 5), .int .i64 (v 6), .int .i64 (v 7), .int .i64 (v 8), .int .i64 (v 9), .int .i64 (v 10), .int .i64 (v 11)] 29)).drew w2.heap.size (fun k => v (k + 1)) := heap_alloc_new w2 _
  have n0 := hS3.num 0 (by omega)
  have hz3 := hS3.res
  clear ns1 ns2 ns3 hS1 hS2 NS hS U cv
  generalize (w2.alloc (.cells #[.int .i64 (v 1), .int .i64 (v 2), .int .i64 (v 3), .int .i64 (v 4), .int .i64 (v 5), .int .i64 (v 6), .int .i64 (v 7), .int .i64 (v 8), .int .i64 (v 9), .int .i64 (v 10), .int .i64 (v 11)] 29)).drew = w3 at *
  generalize w2.heap.size = p at *
  simp only [Nat.add_zero, Nat.zero_add, Nat.reduceAdd] at R n0
  have HBel := Lib.hid hS3.bel
  have z0 := SupAt.cell (f := fun _ => 0) hz3 (k := 0) (by omega)
  have y0 := Lib.frozen_of_heap hz3 0
  have z1 := SupAt.cell (f := fun _ => 0) hz3 (k := 1) (by omega)
  have y1 := Lib.frozen_of_heap hz3 1
  have z2 := SupAt.cell (f := fun _ => 0) hz3 (k := 2) (by omega)
  have y2 := Lib.frozen_of_heap hz3 2
  have z3 := SupAt.cell (f := fun _ => 0) hz3 (k := 3) (by omega)
  have y3 := Lib.frozen_of_heap hz3 3
  have z4 := SupAt.cell (f := fun _ => 0) hz3 (k := 4) (by omega)
  have y4 := Lib.frozen_of_heap hz3 4
  have z5 := SupAt.cell (f := fun _ => 0) hz3 (k := 5) (by omega)
  have y5 := Lib.frozen_of_heap hz3 5
  have z6 := SupAt.cell (f := fun _ => 0) hz3 (k := 6) (by omega)
  have y6 := Lib.frozen_of_heap hz3 6
  have z7 := SupAt.cell (f := fun _ => 0) hz3 (k := 7) (by omega)
  have y7 := Lib.frozen_of_heap hz3 7
  have z8 := SupAt.cell (f := fun _ => 0) hz3 (k := 8) (by omega)
  have y8 := Lib.frozen_of_heap hz3 8
  have z9 := SupAt.cell (f := fun _ => 0) hz3 (k := 9) (by omega)
  have y9 := Lib.frozen_of_heap hz3 9
  have z10 := SupAt.cell (f := fun _ => 0) hz3 (k := 10) (by omega)
  have y10 := Lib.frozen_of_heap hz3 10
  have s0 := SupAt.cell (f := fun k => v (k + 1)) hp3 (k := 0) (by omega)
  have s1 := SupAt.cell (f := fun k => v (k + 1)) hp3 (k := 1) (by omega)
  have s2 := SupAt.cell (f := fun k => v (k + 1)) hp3 (k := 2) (by omega)
  have s3 := SupAt.cell (f := fun k => v (k + 1)) hp3 (k := 3) (by omega)
  have s4 := SupAt.cell (f := fun k => v (k + 1)) hp3 (k := 4) (by omega)
  have s5 := SupAt.cell (f := fun k => v (k + 1)) hp3 (k := 5) (by omega)
  have s6 := SupAt.cell (f := fun k => v (k + 1)) hp3 (k := 6) (by omega)
  have s7 := SupAt.cell (f := fun k => v (k + 1)) hp3 (k := 7) (by omega)
  have s8 := SupAt.cell (f := fun k => v (k + 1)) hp3 (k := 8) (by omega)
  have s9 := SupAt.cell (f := fun k => v (k + 1)) hp3 (k := 9) (by omega)
  have s10 := SupAt.cell (f := fun k => v (k + 1)) hp3 (k := 10) (by omega)
  by_cases h0 : v 0 = 1
  · rw [h0] at n0
    cases zb with
    | false =>
      go_wp2_with (go_at_call 89; refine (Z.out _ b1 o1 v hS3).mono ?_; rintro e w' ⟨rfl, rfl⟩)
      all_goals exact bodyPost_ret (results_sup Tryz.results39 _ _ w.heap.size (fun _ => 0) rfl (SupAt.store hz3 (fun _ => 0))) rfl ⟨by first | rfl | (rw [if_neg (show ¬ (v 0 = 1 ∧ false = true ∧ rb = true) by simp), if_neg (show ¬ ((7 : Int) = 0) by decide)]; rfl) | simp [h0] | (have h9 := H0.out; simp [h9]), below_store HBel.out (Nat.le_refl _) _ _ _ _ _ _ _ _ _ _ _⟩
    | true =>
      cases rb with
      | false =>
        go_wp2_with (first
          | (go_at_call 89; refine (Z.out _ b1 o1 v hS3).mono ?_; rintro e w' ⟨rfl, rfl⟩)
          | (go_at_call 90; (with_reducible refine (R.out _).mono ?_); rintro e w4 ⟨rfl, hb4⟩; have hz4 := (hb4.block _ (block_lt hz3)).trans hz3; have hp4 := (hb4.block _ (block_lt hp3)).trans hp3; clear z0 y0 s0 z1 y1 s1 z2 y2 s2 z3 y3 s3 z4 y4 s4 z5 y5 s5 z6 y6 s6 z7 y7 s7 z8 y8 s8 z9 y9 s9 z10 y10 s10; have z0 := SupAt.cell (f := fun _ => 0) hz4 (k := 0) (by omega); have y0 := Lib.frozen_of_heap hz4 0; have z1 := SupAt.cell (f := fun _ => 0) hz4 (k := 1) (by omega); have y1 := Lib.frozen_of_heap hz4 1; have z2 := SupAt.cell (f := fun _ => 0) hz4 (k := 2) (by omega); have y2 := Lib.frozen_of_heap hz4 2; have z3 := SupAt.cell (f := fun _ => 0) hz4 (k := 3) (by omega); have y3 := Lib.frozen_of_heap hz4 3; have z4 := SupAt.cell (f := fun _ => 0) hz4 (k := 4) (by omega); have y4 := Lib.frozen_of_heap hz4 4; have z5 := SupAt.cell (f := fun _ => 0) hz4 (k := 5) (by omega); have y5 := Lib.frozen_of_heap hz4 5; have z6 := SupAt.cell (f := fun _ => 0) hz4 (k := 6) (by omega); have y6 := Lib.frozen_of_heap hz4 6; have z7 := SupAt.cell (f := fun _ => 0) hz4 (k := 7) (by omega); have y7 := Lib.frozen_of_heap hz4 7; have z8 := SupAt.cell (f := fun _ => 0) hz4 (k := 8) (by omega); have y8 := Lib.frozen_of_heap hz4 8; have z9 := SupAt.cell (f := fun _ => 0) hz4 (k := 9) (by omega); have y9 := Lib.frozen_of_heap hz4 9; have z10 := SupAt.cell (f := fun _ => 0) hz4 (k := 10) (by omega); have y10 := Lib.frozen_of_heap hz4 10; have s0 := SupAt.cell (f := fun k => v (k + 1)) hp4 (k := 0) (by omega); have s1 := SupAt.cell (f := fun k => v (k + 1)) hp4 (k := 1) (by omega); have s2 := SupAt.cell (f := fun k => v (k + 1)) hp4 (k := 2) (by omega); have s3 := SupAt.cell (f := fun k => v (k + 1)) hp4 (k := 3) (by omega); have s4 := SupAt.cell (f := fun k => v (k + 1)) hp4 (k := 4) (by omega); have s5 := SupAt.cell (f := fun k => v (k + 1)) hp4 (k := 5) (by omega); have s6 := SupAt.cell (f := fun k => v (k + 1)) hp4 (k := 6) (by omega); have s7 := SupAt.cell (f := fun k => v (k + 1)) hp4 (k := 7) (by omega); have s8 := SupAt.cell (f := fun k => v (k + 1)) hp4 (k := 8) (by omega); have s9 := SupAt.cell (f := fun k => v (k + 1)) hp4 (k := 9) (by omega); have s10 := SupAt.cell (f := fun k => v (k + 1)) hp4 (k := 10) (by omega)))
        all_goals exact bodyPost_ret (results_sup Tryz.results39 _ _ w.heap.size (fun _ => 0) rfl (SupAt.store hz4 (fun _ => 0))) rfl ⟨by first | rfl | (rw [if_neg (show ¬ (v 0 = 1 ∧ true = true ∧ false = true) by simp), if_neg (show ¬ ((7 : Int) = 0) by decide)]; rfl) | simp [h0] | (have h9 := H0.out; simp [h9]), below_store (HBel.out.trans (hb4.mono HBel.out.size)) (Nat.le_refl _) _ _ _ _ _ _ _ _ _ _ _⟩
      | true =>
        go_wp2_with (first
          | (go_at_call 89; refine (Z.out _ b1 o1 v hS3).mono ?_; rintro e w' ⟨rfl, rfl⟩)
          | (go_at_call 90; (with_reducible refine (R.out _).mono ?_); rintro e w4 ⟨rfl, hb4⟩; have hz4 := (hb4.block _ (block_lt hz3)).trans hz3; have hp4 := (hb4.block _ (block_lt hp3)).trans hp3; clear z0 y0 s0 z1 y1 s1 z2 y2 s2 z3 y3 s3 z4 y4 s4 z5 y5 s5 z6 y6 s6 z7 y7 s7 z8 y8 s8 z9 y9 s9 z10 y10 s10; have z0 := SupAt.cell (f := fun _ => 0) hz4 (k := 0) (by omega); have y0 := Lib.frozen_of_heap hz4 0; have z1 := SupAt.cell (f := fun _ => 0) hz4 (k := 1) (by omega); have y1 := Lib.frozen_of_heap hz4 1; have z2 := SupAt.cell (f := fun _ => 0) hz4 (k := 2) (by omega); have y2 := Lib.frozen_of_heap hz4 2; have z3 := SupAt.cell (f := fun _ => 0) hz4 (k := 3) (by omega); have y3 := Lib.frozen_of_heap hz4 3; have z4 := SupAt.cell (f := fun _ => 0) hz4 (k := 4) (by omega); have y4 := Lib.frozen_of_heap hz4 4; have z5 := SupAt.cell (f := fun _ => 0) hz4 (k := 5) (by omega); have y5 := Lib.frozen_of_heap hz4 5; have z6 := SupAt.cell (f := fun _ => 0) hz4 (k := 6) (by omega); have y6 := Lib.frozen_of_heap hz4 6; have z7 := SupAt.cell (f := fun _ => 0) hz4 (k := 7) (by omega); have y7 := Lib.frozen_of_heap hz4 7; have z8 := SupAt.cell (f := fun _ => 0) hz4 (k := 8) (by omega); have y8 := Lib.frozen_of_heap hz4 8; have z9 := SupAt.cell (f := fun _ => 0) hz4 (k := 9) (by omega); have y9 := Lib.frozen_of_heap hz4 9; have z10 := SupAt.cell (f := fun _ => 0) hz4 (k := 10) (by omega); have y10 := Lib.frozen_of_heap hz4 10; have s0 := SupAt.cell (f := fun k => v (k + 1)) hp4 (k := 0) (by omega); have s1 := SupAt.cell (f := fun k => v (k + 1)) hp4 (k := 1) (by omega); have s2 := SupAt.cell (f := fun k => v (k + 1)) hp4 (k := 2) (by omega); have s3 := SupAt.cell (f := fun k => v (k + 1)) hp4 (k := 3) (by omega); have s4 := SupAt.cell (f := fun k => v (k + 1)) hp4 (k := 4) (by omega); have s5 := SupAt.cell (f := fun k => v (k + 1)) hp4 (k := 5) (by omega); have s6 := SupAt.cell (f := fun k => v (k + 1)) hp4 (k := 6) (by omega); have s7 := SupAt.cell (f := fun k => v (k + 1)) hp4 (k := 7) (by omega); have s8 := SupAt.cell (f := fun k => v (k + 1)) hp4 (k := 8) (by omega); have s9 := SupAt.cell (f := fun k => v (k + 1)) hp4 (k := 9) (by omega); have s10 := SupAt.cell (f := fun k => v (k + 1)) hp4 (k := 10) (by omega)))
        all_goals exact bodyPost_ret (results_sup Tryz.results39 _ _ w.heap.size (fun k => v (k + 1)) rfl (SupAt.store hz4 (fun k => v (k + 1)))) rfl ⟨by first | rfl | (rw [if_pos (show v 0 = 1 ∧ true = true ∧ true = true from ⟨h0, rfl, rfl⟩), if_pos (show ((0 : Int) = 0) from rfl)]; rfl) | simp [h0] | (have h9 := H0.out; simp [h9]), below_store (HBel.out.trans (hb4.mono HBel.out.size)) (Nat.le_refl _) _ _ _ _ _ _ _ _ _ _ _⟩
  · have H0 := Lib.hid h0
    have h1 : v 0 ≤ 0 ∨ 2 ≤ v 0 := by omega
    clear h0
    rcases h1 with h1 | h1
    all_goals go_wp2
    all_goals exact bodyPost_ret (results_sup Tryz.results39 _ _ w.heap.size (fun _ => 0) rfl (SupAt.store hz3 (fun _ => 0))) rfl ⟨by first | rfl | (rw [if_neg (show ¬ (v 0 = 1 ∧ zb = true ∧ rb = true) from fun h => H0.out h.1), if_neg (show ¬ ((7 : Int) = 0) by decide)]; rfl) | simp [h0] | (have h9 := H0.out; simp [h9]), below_store HBel.out (Nat.le_refl _) _ _ _ _ _ _ _ _ _ _ _⟩

theorem refRead_any (A : Option Addr) (n c : Nat) (l : List UInt8) (w : World) (h : Bytes8 w A n c l) :
    Calls Tryz.prog 39 #[.slice A n c] w fun e w' => e = .returned (.tuple #[supV (readS l), .int .i64 (readE l)]) ∧ Below w.heap.size w w' := by
  by_cases hn : n = 244
  · subst hn
    obtain ⟨b, off, rfl, _⟩ := h.row.lit (by rw [u8s_length, h.len]; omega)
    by_cases hm : l.take 8 = magic
    · exact refRead_rest b off c l w h hm
    · have e7 := readE_bad (.inl hm)
      rw [readS_wrong e7, e7]
      exact refRead_magic _ c l w h hm
  · have e7 := readE_short (l := l) (by rw [h.len]; exact hn)
    rw [readS_wrong e7, e7]
    exact refRead_len A n c l w h hn

end Go.Proofs.YtbeobbanppkmhaaGreatDoor
