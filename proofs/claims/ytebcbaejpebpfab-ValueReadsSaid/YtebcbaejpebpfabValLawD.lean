/-
  The walk of ValueReads.
-/
import Derived.Test.YtebcbaejpebpfabValS
namespace Go.Proofs.Ytebcbaejpebpfab
open Go.RowKit
set_option linter.unusedVariables false
set_option linter.unusedSimpArgs false

theorem seqB {w W W' : World} (h : Below w.heap.size w W) (k : Below W.heap.size W W') : Below w.heap.size w W' := h.trans (k.mono h.size)
theorem DetAt.later {W : World} {g : Nat} {a b c d : Int} (h : DetAt W g a b c d) : (∀ ob, (W.alloc ob).cell? ⟨g, 0, none⟩ = some (.int .i64 a)) ∧ (∀ ob, (W.alloc ob).cell? ⟨g, 1, none⟩ = some (.int .i64 b)) ∧ (∀ ob, (W.alloc ob).cell? ⟨g, 2, none⟩ = some (.int .i64 c)) ∧ (∀ ob, (W.alloc ob).cell? ⟨g, 3, none⟩ = some (.int .i64 d)) := by
  have h1 : ∀ ob, DetAt (W.alloc ob) g a b c d := fun ob => (((Below.refl W.heap.size W).alloc (Nat.le_refl _) ob).block _ (block_lt h)).trans h
  exact ⟨fun ob => (h1 ob).facts.1, fun ob => (h1 ob).facts.2.1, fun ob => (h1 ob).facts.2.2.1, fun ob => (h1 ob).facts.2.2.2⟩
theorem SltAt.on {W W' : World} {g : Nat} {a b c : Int} (h : SltAt W g a b c) (hb : Below W.heap.size W W') : SltAt W' g a b c := (hb.block _ (block_lt h)).trans h
theorem SltAt.over {W W' : World} {g : Nat} {a b c : Int} {ob : Obj} (h : SltAt W g a b c) (hb : Below (W.alloc ob).heap.size (W.alloc ob) W') : SltAt W' g a b c :=
  SltAt.on (SltAt.on h ((Below.refl _ _).alloc (Nat.le_refl _) ob)) hb

/-- what ValueReads calls, on one text -/
structure ReadC (y : ByteArray) (v1 v0 e1 d0 d1 d2 d3 e2 s0 s1 s2 e3 r0 e4 c0 e5 : Int) : Prop where
  k0 : ∀ W, Calls Try.prog 18 #[.string y] W fun e w' => e = .returned (.tuple #[.int .i64 v1, .int .i64 v0, .int .i64 e1]) ∧ Below W.heap.size W w'
  k1 : ∀ W, Calls Try.prog 19 #[.string y] W fun e w' => e = .returned (.tuple #[.int .i64 v1, .int .i64 v0, .int .i64 e1]) ∧ Below W.heap.size W w'
  k2 : ∀ W, Calls Try.prog 20 #[.string y] W fun e w' => e = .returned (.tuple #[.agg #[.int .i64 d0, .int .i64 d1, .int .i64 d2, .int .i64 d3], .int .i64 e2]) ∧ Below W.heap.size W w'
  k3 : ∀ W, Calls Try.prog 21 #[.string y] W fun e w' => e = .returned (.tuple #[.agg #[.int .i64 d0, .int .i64 d1, .int .i64 d2, .int .i64 d3], .int .i64 e2]) ∧ Below W.heap.size W w'
  k4 : ∀ W, Calls Try.prog 22 #[.string y] W fun e w' => e = .returned (.tuple #[.agg #[.int .i64 s0, .int .i64 s1, .int .i64 s2], .int .i64 e3]) ∧ Below W.heap.size W w'
  k5 : ∀ W, Calls Try.prog 23 #[.string y] W fun e w' => e = .returned (.tuple #[.agg #[.int .i64 s0, .int .i64 s1, .int .i64 s2], .int .i64 e3]) ∧ Below W.heap.size W w'
  k6 : ∀ W, Calls Try.prog 24 #[.string y] W fun e w' => e = .returned (.tuple #[.int .i64 r0, .int .i64 e4]) ∧ Below W.heap.size W w'
  k7 : ∀ W, Calls Try.prog 25 #[.string y] W fun e w' => e = .returned (.tuple #[.int .i64 r0, .int .i64 e4]) ∧ Below W.heap.size W w'
  k8 : ∀ W, Calls Try.prog 26 #[.string y] W fun e w' => e = .returned (.tuple #[.int .i64 c0, .int .i64 e5]) ∧ Below W.heap.size W w'
  k9 : ∀ W, Calls Try.prog 27 #[.string y] W fun e w' => e = .returned (.tuple #[.int .i64 c0, .int .i64 e5]) ∧ Below W.heap.size W w'

theorem read_calls (y : ByteArray) (hy : y.size ≤ 100) : ∃ v1 v0 e1 d0 d1 d2 d3 e2 s0 s1 s2 e3 r0 e4 c0 e5 : Int, ReadC y v1 v0 e1 d0 d1 d2 d3 e2 s0 s1 s2 e3 r0 e4 c0 e5 := by
  have hl : (bs y).length ≤ 1000 := by rw [bs_len]; omega
  refine ⟨rdV (bs y) mapS 1, rdV (bs y) mapS 0, rdE (bs y) mapS, rdV (bs y) detS 0, rdV (bs y) detS 1, rdV (bs y) detS 2, rdV (bs y) detS 3, rdE (bs y) detS, rdV (bs y) slotS 0, rdV (bs y) slotS 1, rdV (bs y) slotS 2, rdE (bs y) slotS, rdV (bs y) rootS 0, rdE (bs y) rootS, rdV (bs y) countS 0, rdE (bs y) countS, ?_, ?_, ?_, ?_, ?_, ?_, ?_, ?_, ?_, ?_⟩
  · intro W
    have := ReadMap_any W (bs y) hl
    rwa [mk_bs] at this
  · intro W
    have := refReadMap_any8 W (bs y) hl
    rwa [mk_bs] at this
  · intro W
    have := ReadDetail_any W (bs y) hl
    rwa [mk_bs] at this
  · intro W
    have := refReadDetail_any8 W (bs y) hl
    rwa [mk_bs] at this
  · intro W
    have := ReadSlot_any W (bs y) hl
    rwa [mk_bs] at this
  · intro W
    have := refReadSlot_any8 W (bs y) hl
    rwa [mk_bs] at this
  · intro W
    have := ReadRoot_any W (bs y) hl
    rwa [mk_bs] at this
  · intro W
    have := refReadRoot_any8 W (bs y) hl
    rwa [mk_bs] at this
  · intro W
    have := ReadCount_any W (bs y) hl
    rwa [mk_bs] at this
  · intro W
    have := refReadCount_any8 W (bs y) hl
    rwa [mk_bs] at this

set_option maxRecDepth 100000 in
set_option maxHeartbeats 3200000 in
theorem reads_long (x : ByteArray) (w : World) (hx : (100 : Int) < x.size) : Calls Try.prog 4 #[.string x] w fun e w' => e = .returned (.bool true) ∧ Below w.heap.size w w' := by
  have hy : (x.extract 0 100).size ≤ 100 := by simp [ByteArray.size_extract]; omega
  obtain ⟨v1, v0, e1, d0, d1, d2, d3, e2, s0, s1, s2, e3, r0, e4, c0, e5, hC⟩ := read_calls _ hy
  clear hy
  have C := Lib.hid hC
  clear hC
  go_enter Try.func4, Try.ntmps4
  go_wp2_with (first
    | (go_at_call 18; (with_reducible refine (C.out.k0 _).mono ?_); rintro e w1 ⟨rfl, hb1⟩; have hB1 := hb1)
    | (go_at_call 19; (with_reducible refine (C.out.k1 _).mono ?_); rintro e w2 ⟨rfl, hb2⟩; have hB2 := seqB hB1 hb2)
    | (go_at_call 20; (with_reducible refine (C.out.k2 _).mono ?_); rintro e w3 ⟨rfl, hb3⟩; have hB3 := seqB hB2 hb3)
    | (go_at_call 21; (with_reducible refine (C.out.k3 _).mono ?_); rintro e w4 ⟨rfl, hb4⟩; have hB4 := seqB (hB3.alloc hB3.size (.cells #[.int .i64 d0, .int .i64 d1, .int .i64 d2, .int .i64 d3] 23)) hb4; have hg4 : DetAt w4 w3.heap.size d0 d1 d2 d3 := (hb4.block _ (block_lt (heap_alloc_new w3 (.cells #[.int .i64 d0, .int .i64 d1, .int .i64 d2, .int .i64 d3] 23)))).trans (heap_alloc_new w3 (.cells #[.int .i64 d0, .int .i64 d1, .int .i64 d2, .int .i64 d3] 23)); obtain ⟨g0, g1, g2, g3⟩ := hg4.later)
    | (go_at_call 22; (with_reducible refine (C.out.k4 _).mono ?_); rintro e w5 ⟨rfl, hb5⟩; have hB5 := seqB (hB4.alloc hB4.size (.cells #[.int .i64 d0, .int .i64 d1, .int .i64 d2, .int .i64 d3] 23)) hb5)
    | (go_at_call 23; (with_reducible refine (C.out.k5 _).mono ?_); rintro e w6 ⟨rfl, hb6⟩; have hB6 := seqB (hB5.alloc hB5.size (.cells #[.int .i64 s0, .int .i64 s1, .int .i64 s2] 25)) hb6; have hk6 : SltAt w6 w5.heap.size s0 s1 s2 := (hb6.block _ (block_lt (heap_alloc_new w5 (.cells #[.int .i64 s0, .int .i64 s1, .int .i64 s2] 25)))).trans (heap_alloc_new w5 (.cells #[.int .i64 s0, .int .i64 s1, .int .i64 s2] 25)))
    | (go_at_call 24; (with_reducible refine (C.out.k6 _).mono ?_); rintro e w7 ⟨rfl, hb7⟩; have hB7 := seqB (hB6.alloc hB6.size (.cells #[.int .i64 s0, .int .i64 s1, .int .i64 s2] 25)) hb7; have hk7 : SltAt w7 w5.heap.size s0 s1 s2 := hk6.over hb7; have hm7 : SltAt w7 w6.heap.size s0 s1 s2 := (hb7.block _ (block_lt (heap_alloc_new w6 (.cells #[.int .i64 s0, .int .i64 s1, .int .i64 s2] 25)))).trans (heap_alloc_new w6 (.cells #[.int .i64 s0, .int .i64 s1, .int .i64 s2] 25)))
    | (go_at_call 25; (with_reducible refine (C.out.k7 _).mono ?_); rintro e w8 ⟨rfl, hb8⟩; have hB8 := seqB hB7 hb8; have hk8 := hk7.on hb8; have hm8 := hm7.on hb8)
    | (go_at_call 26; (with_reducible refine (C.out.k8 _).mono ?_); rintro e w9 ⟨rfl, hb9⟩; have hB9 := seqB hB8 hb9; have hk9 := hk8.on hb9; have hm9 := hm8.on hb9)
    | (go_at_call 27; (with_reducible refine (C.out.k9 _).mono ?_); rintro e w10 ⟨rfl, hb10⟩; have hB10 := seqB hB9 hb10; obtain ⟨k0, k1, k2⟩ := (hk9.on hb10).facts; obtain ⟨m0, m1, m2⟩ := (hm9.on hb10).facts)
    | (go_at_call 17; (with_reducible refine (lives8_any _).mono ?_); rintro e w11 ⟨rfl, hb11⟩; have hB11 := seqB hB10 hb11))
  go_ret
  exact ⟨rfl, hB11⟩

set_option maxRecDepth 100000 in
set_option maxHeartbeats 3200000 in
theorem reads_short (x : ByteArray) (w : World) (hx : ¬ (100 : Int) < x.size) : Calls Try.prog 4 #[.string x] w fun e w' => e = .returned (.bool true) ∧ Below w.heap.size w w' := by
  obtain ⟨v1, v0, e1, d0, d1, d2, d3, e2, s0, s1, s2, e3, r0, e4, c0, e5, hC⟩ := read_calls x (by omega)
  have C := Lib.hid hC
  clear hC
  go_enter Try.func4, Try.ntmps4
  go_wp2_with (first
    | (go_at_call 18; (with_reducible refine (C.out.k0 _).mono ?_); rintro e w1 ⟨rfl, hb1⟩; have hB1 := hb1)
    | (go_at_call 19; (with_reducible refine (C.out.k1 _).mono ?_); rintro e w2 ⟨rfl, hb2⟩; have hB2 := seqB hB1 hb2)
    | (go_at_call 20; (with_reducible refine (C.out.k2 _).mono ?_); rintro e w3 ⟨rfl, hb3⟩; have hB3 := seqB hB2 hb3)
    | (go_at_call 21; (with_reducible refine (C.out.k3 _).mono ?_); rintro e w4 ⟨rfl, hb4⟩; have hB4 := seqB (hB3.alloc hB3.size (.cells #[.int .i64 d0, .int .i64 d1, .int .i64 d2, .int .i64 d3] 23)) hb4; have hg4 : DetAt w4 w3.heap.size d0 d1 d2 d3 := (hb4.block _ (block_lt (heap_alloc_new w3 (.cells #[.int .i64 d0, .int .i64 d1, .int .i64 d2, .int .i64 d3] 23)))).trans (heap_alloc_new w3 (.cells #[.int .i64 d0, .int .i64 d1, .int .i64 d2, .int .i64 d3] 23)); obtain ⟨g0, g1, g2, g3⟩ := hg4.later)
    | (go_at_call 22; (with_reducible refine (C.out.k4 _).mono ?_); rintro e w5 ⟨rfl, hb5⟩; have hB5 := seqB (hB4.alloc hB4.size (.cells #[.int .i64 d0, .int .i64 d1, .int .i64 d2, .int .i64 d3] 23)) hb5)
    | (go_at_call 23; (with_reducible refine (C.out.k5 _).mono ?_); rintro e w6 ⟨rfl, hb6⟩; have hB6 := seqB (hB5.alloc hB5.size (.cells #[.int .i64 s0, .int .i64 s1, .int .i64 s2] 25)) hb6; have hk6 : SltAt w6 w5.heap.size s0 s1 s2 := (hb6.block _ (block_lt (heap_alloc_new w5 (.cells #[.int .i64 s0, .int .i64 s1, .int .i64 s2] 25)))).trans (heap_alloc_new w5 (.cells #[.int .i64 s0, .int .i64 s1, .int .i64 s2] 25)))
    | (go_at_call 24; (with_reducible refine (C.out.k6 _).mono ?_); rintro e w7 ⟨rfl, hb7⟩; have hB7 := seqB (hB6.alloc hB6.size (.cells #[.int .i64 s0, .int .i64 s1, .int .i64 s2] 25)) hb7; have hk7 : SltAt w7 w5.heap.size s0 s1 s2 := hk6.over hb7; have hm7 : SltAt w7 w6.heap.size s0 s1 s2 := (hb7.block _ (block_lt (heap_alloc_new w6 (.cells #[.int .i64 s0, .int .i64 s1, .int .i64 s2] 25)))).trans (heap_alloc_new w6 (.cells #[.int .i64 s0, .int .i64 s1, .int .i64 s2] 25)))
    | (go_at_call 25; (with_reducible refine (C.out.k7 _).mono ?_); rintro e w8 ⟨rfl, hb8⟩; have hB8 := seqB hB7 hb8; have hk8 := hk7.on hb8; have hm8 := hm7.on hb8)
    | (go_at_call 26; (with_reducible refine (C.out.k8 _).mono ?_); rintro e w9 ⟨rfl, hb9⟩; have hB9 := seqB hB8 hb9; have hk9 := hk8.on hb9; have hm9 := hm8.on hb9)
    | (go_at_call 27; (with_reducible refine (C.out.k9 _).mono ?_); rintro e w10 ⟨rfl, hb10⟩; have hB10 := seqB hB9 hb10; obtain ⟨k0, k1, k2⟩ := (hk9.on hb10).facts; obtain ⟨m0, m1, m2⟩ := (hm9.on hb10).facts)
    | (go_at_call 17; (with_reducible refine (lives8_any _).mono ?_); rintro e w11 ⟨rfl, hb11⟩; have hB11 := seqB hB10 hb11))
  go_ret
  exact ⟨rfl, hB11⟩

theorem reads_walk (x : ByteArray) (w : World) (hx : x.size ≤ maxLen) : Calls Try.prog 4 #[.string x] w fun e w' => e = .returned (.bool true) ∧ Below w.heap.size w w' := by
  by_cases h : (100 : Int) < x.size
  · exact reads_long x w h
  · exact reads_short x w h

end Go.Proofs.Ytebcbaejpebpfab
