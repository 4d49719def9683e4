/-
  The walk of ValueOne.
-/
import Derived.Test.YtebcbaejpebpfabValL
namespace Go.Proofs.Ytebcbaejpebpfab
open Go.RowKit
set_option linter.unusedVariables false
set_option linter.unusedSimpArgs false

/-- what ValueOne calls, on one text -/
structure OneC (w : World) (y : ByteArray) (e1 v1 v0 e2 d0 d1 d2 d3 e3 s0 s1 s2 e4 r0 e5 c0 : Int) : Prop where
  rm : ∀ W, Below w.heap.size w W → Calls Try.prog 18 #[.string y] W fun e w' => e = .returned (.tuple #[.int .i64 v1, .int .i64 v0, .int .i64 e1]) ∧ Below w.heap.size w w'
  wm : ∀ W, Below w.heap.size w W → e1 = 0 → Calls Try.prog 7 #[.int .i64 v1, .int .i64 v0] W fun e w' => e = .returned (.string y) ∧ Below w.heap.size w w'
  rd : ∀ W, Below w.heap.size w W → Calls Try.prog 20 #[.string y] W fun e w' => e = .returned (.tuple #[.agg #[.int .i64 d0, .int .i64 d1, .int .i64 d2, .int .i64 d3], .int .i64 e2]) ∧ Below w.heap.size w w'
  wd : ∀ W, Below w.heap.size w W → e2 = 0 → Calls Try.prog 9 #[.agg #[.int .i64 d0, .int .i64 d1, .int .i64 d2, .int .i64 d3]] W fun e w' => e = .returned (.string y) ∧ Below w.heap.size w w'
  rs : ∀ W, Below w.heap.size w W → Calls Try.prog 22 #[.string y] W fun e w' => e = .returned (.tuple #[.agg #[.int .i64 s0, .int .i64 s1, .int .i64 s2], .int .i64 e3]) ∧ Below w.heap.size w w'
  ws : ∀ W, Below w.heap.size w W → e3 = 0 → Calls Try.prog 11 #[.agg #[.int .i64 s0, .int .i64 s1, .int .i64 s2]] W fun e w' => e = .returned (.string y) ∧ Below w.heap.size w w'
  rr : ∀ W, Below w.heap.size w W → Calls Try.prog 24 #[.string y] W fun e w' => e = .returned (.tuple #[.int .i64 r0, .int .i64 e4]) ∧ Below w.heap.size w w'
  wr : ∀ W, Below w.heap.size w W → e4 = 0 → Calls Try.prog 13 #[.int .i64 r0] W fun e w' => e = .returned (.string y) ∧ Below w.heap.size w w'
  rc : ∀ W, Below w.heap.size w W → Calls Try.prog 26 #[.string y] W fun e w' => e = .returned (.tuple #[.int .i64 c0, .int .i64 e5]) ∧ Below w.heap.size w w'
  wc : ∀ W, Below w.heap.size w W → e5 = 0 → Calls Try.prog 15 #[.int .i64 c0] W fun e w' => e = .returned (.string y) ∧ Below w.heap.size w w'
  lv : ∀ W, Below w.heap.size w W → Calls Try.prog 17 #[] W fun e w' => e = .returned (.bool true) ∧ Below w.heap.size w w'

theorem later8 {w W : World} {F : Nat} {args : Array Value} {v : Value} (hW : Below w.heap.size w W) (h : Calls Try.prog F args W fun e w' => e = .returned v ∧ Below W.heap.size W w') : Calls Try.prog F args W fun e w' => e = .returned v ∧ Below w.heap.size w w' :=
  h.mono fun e w' ⟨h1, h2⟩ => ⟨h1, hW.trans (h2.mono hW.size)⟩

theorem one_calls (w : World) (y : ByteArray) (hy : y.size ≤ 100) : ∃ e1 v1 v0 e2 d0 d1 d2 d3 e3 s0 s1 s2 e4 r0 e5 c0 : Int, OneC w y e1 v1 v0 e2 d0 d1 d2 d3 e3 s0 s1 s2 e4 r0 e5 c0 := by
  have hl : (bs y).length ≤ 1000 := by rw [bs_len]; omega
  have B := fun ns hf k => rdV_bd (bs y) ns hf k
  refine ⟨rdE (bs y) mapS, rdV (bs y) mapS 1, rdV (bs y) mapS 0, rdE (bs y) detS, rdV (bs y) detS 0, rdV (bs y) detS 1, rdV (bs y) detS 2, rdV (bs y) detS 3, rdE (bs y) slotS, rdV (bs y) slotS 0, rdV (bs y) slotS 1, rdV (bs y) slotS 2, rdE (bs y) rootS, rdV (bs y) rootS 0, rdE (bs y) countS, rdV (bs y) countS 0, ?_, ?_, ?_, ?_, ?_, ?_, ?_, ?_, ?_, ?_, ?_⟩
  · intro W hW
    have := later8 hW (ReadMap_any W (bs y) hl)
    rwa [mk_bs] at this
  · intro W hW he
    have := later8 hW (Map_any W (rdV (bs y) mapS 1) (rdV (bs y) mapS 0) (B _ mapS_fit _) (B _ mapS_fit _))
    have e : mapB (rdV (bs y) mapS 1) (rdV (bs y) mapS 0) = bs y := rdV_back (ns := mapS) he
    rwa [e, mk_bs] at this
  · intro W hW
    have := later8 hW (ReadDetail_any W (bs y) hl)
    rwa [mk_bs] at this
  · intro W hW he
    have := later8 hW (Detail_any W (rdV (bs y) detS 0) (rdV (bs y) detS 1) (rdV (bs y) detS 2) (rdV (bs y) detS 3) (B _ detS_fit _) (B _ detS_fit _) (B _ detS_fit _) (B _ detS_fit _))
    have e : detB (rdV (bs y) detS 0) (rdV (bs y) detS 1) (rdV (bs y) detS 2) (rdV (bs y) detS 3) = bs y := rdV_back (ns := detS) he
    rwa [e, mk_bs] at this
  · intro W hW
    have := later8 hW (ReadSlot_any W (bs y) hl)
    rwa [mk_bs] at this
  · intro W hW he
    have := later8 hW (Slot_any W (rdV (bs y) slotS 0) (rdV (bs y) slotS 1) (rdV (bs y) slotS 2) (B _ slotS_fit _) (B _ slotS_fit _) (B _ slotS_fit _))
    have e : slotB (rdV (bs y) slotS 0) (rdV (bs y) slotS 1) (rdV (bs y) slotS 2) = bs y := rdV_back (ns := slotS) he
    rwa [e, mk_bs] at this
  · intro W hW
    have := later8 hW (ReadRoot_any W (bs y) hl)
    rwa [mk_bs] at this
  · intro W hW he
    have := later8 hW (Root_any W (rdV (bs y) rootS 0) (B _ rootS_fit _))
    have e : rootB (rdV (bs y) rootS 0) = bs y := rdV_back (ns := rootS) he
    rwa [e, mk_bs] at this
  · intro W hW
    have := later8 hW (ReadCount_any W (bs y) hl)
    rwa [mk_bs] at this
  · intro W hW he
    have := later8 hW (Count_any W (rdV (bs y) countS 0) (B _ countS_fit _))
    have e : countB (rdV (bs y) countS 0) = bs y := rdV_back (ns := countS) he
    rwa [e, mk_bs] at this
  · intro W hW
    exact later8 hW (lives8_any W)

set_option maxRecDepth 100000 in
set_option maxHeartbeats 3200000 in
theorem one_long (x : ByteArray) (w : World) (hx : (100 : Int) < x.size) : Calls Try.prog 6 #[.string x] w fun e w' => e = .returned (.bool true) ∧ Below w.heap.size w w' := by
  have hy : (x.extract 0 100).size ≤ 100 := by simp [ByteArray.size_extract]; omega
  obtain ⟨e1, v1, v0, e2, d0, d1, d2, d3, e3, s0, s1, s2, e4, r0, e5, c0, hC⟩ := one_calls w _ hy
  have C := Lib.hid hC
  clear hC hy
  go_enter Try.func6, Try.ntmps6
  go_wp2_with (first
    | (go_at_call 18; (with_reducible refine (C.out.rm _ (Below.refl _ _)).mono ?_); rintro e w1 ⟨rfl, hb1⟩)
    | (go_at_call 7; (with_reducible refine (C.out.wm _ (by first | assumption | exact hb3.alloc hb3.size _ | exact hb5.alloc hb5.size _) (by first | rfl | assumption)).mono ?_); rintro e w2 ⟨rfl, hb2⟩)
    | (go_at_call 20; (with_reducible refine (C.out.rd _ (by first | assumption | exact hb3.alloc hb3.size _ | exact hb5.alloc hb5.size _)).mono ?_); rintro e w3 ⟨rfl, hb3⟩)
    | (go_at_call 9; (with_reducible refine (C.out.wd _ (by first | assumption | exact hb3.alloc hb3.size _ | exact hb5.alloc hb5.size _) (by first | rfl | assumption)).mono ?_); rintro e w4 ⟨rfl, hb4⟩)
    | (go_at_call 22; (with_reducible refine (C.out.rs _ (by first | assumption | exact hb3.alloc hb3.size _ | exact hb5.alloc hb5.size _)).mono ?_); rintro e w5 ⟨rfl, hb5⟩)
    | (go_at_call 11; (with_reducible refine (C.out.ws _ (by first | assumption | exact hb3.alloc hb3.size _ | exact hb5.alloc hb5.size _) (by first | rfl | assumption)).mono ?_); rintro e w6 ⟨rfl, hb6⟩)
    | (go_at_call 24; (with_reducible refine (C.out.rr _ (by first | assumption | exact hb3.alloc hb3.size _ | exact hb5.alloc hb5.size _)).mono ?_); rintro e w7 ⟨rfl, hb7⟩)
    | (go_at_call 13; (with_reducible refine (C.out.wr _ (by first | assumption | exact hb3.alloc hb3.size _ | exact hb5.alloc hb5.size _) (by first | rfl | assumption)).mono ?_); rintro e w8 ⟨rfl, hb8⟩)
    | (go_at_call 26; (with_reducible refine (C.out.rc _ (by first | assumption | exact hb3.alloc hb3.size _ | exact hb5.alloc hb5.size _)).mono ?_); rintro e w9 ⟨rfl, hb9⟩)
    | (go_at_call 15; (with_reducible refine (C.out.wc _ (by first | assumption | exact hb3.alloc hb3.size _ | exact hb5.alloc hb5.size _) (by first | rfl | assumption)).mono ?_); rintro e w10 ⟨rfl, hb10⟩)
    | (go_at_call 17; (with_reducible refine (C.out.lv _ (by first | assumption | exact hb3.alloc hb3.size _ | exact hb5.alloc hb5.size _)).mono ?_); rintro e w11 ⟨rfl, hb11⟩))
  all_goals go_ret
  all_goals exact ⟨rfl, hb11⟩

set_option maxRecDepth 100000 in
set_option maxHeartbeats 3200000 in
theorem one_short (x : ByteArray) (w : World) (hx : ¬ (100 : Int) < x.size) : Calls Try.prog 6 #[.string x] w fun e w' => e = .returned (.bool true) ∧ Below w.heap.size w w' := by
  obtain ⟨e1, v1, v0, e2, d0, d1, d2, d3, e3, s0, s1, s2, e4, r0, e5, c0, hC⟩ := one_calls w x (by omega)
  have C := Lib.hid hC
  clear hC
  go_enter Try.func6, Try.ntmps6
  go_wp2_with (first
    | (go_at_call 18; (with_reducible refine (C.out.rm _ (Below.refl _ _)).mono ?_); rintro e w1 ⟨rfl, hb1⟩)
    | (go_at_call 7; (with_reducible refine (C.out.wm _ (by first | assumption | exact hb3.alloc hb3.size _ | exact hb5.alloc hb5.size _) (by first | rfl | assumption)).mono ?_); rintro e w2 ⟨rfl, hb2⟩)
    | (go_at_call 20; (with_reducible refine (C.out.rd _ (by first | assumption | exact hb3.alloc hb3.size _ | exact hb5.alloc hb5.size _)).mono ?_); rintro e w3 ⟨rfl, hb3⟩)
    | (go_at_call 9; (with_reducible refine (C.out.wd _ (by first | assumption | exact hb3.alloc hb3.size _ | exact hb5.alloc hb5.size _) (by first | rfl | assumption)).mono ?_); rintro e w4 ⟨rfl, hb4⟩)
    | (go_at_call 22; (with_reducible refine (C.out.rs _ (by first | assumption | exact hb3.alloc hb3.size _ | exact hb5.alloc hb5.size _)).mono ?_); rintro e w5 ⟨rfl, hb5⟩)
    | (go_at_call 11; (with_reducible refine (C.out.ws _ (by first | assumption | exact hb3.alloc hb3.size _ | exact hb5.alloc hb5.size _) (by first | rfl | assumption)).mono ?_); rintro e w6 ⟨rfl, hb6⟩)
    | (go_at_call 24; (with_reducible refine (C.out.rr _ (by first | assumption | exact hb3.alloc hb3.size _ | exact hb5.alloc hb5.size _)).mono ?_); rintro e w7 ⟨rfl, hb7⟩)
    | (go_at_call 13; (with_reducible refine (C.out.wr _ (by first | assumption | exact hb3.alloc hb3.size _ | exact hb5.alloc hb5.size _) (by first | rfl | assumption)).mono ?_); rintro e w8 ⟨rfl, hb8⟩)
    | (go_at_call 26; (with_reducible refine (C.out.rc _ (by first | assumption | exact hb3.alloc hb3.size _ | exact hb5.alloc hb5.size _)).mono ?_); rintro e w9 ⟨rfl, hb9⟩)
    | (go_at_call 15; (with_reducible refine (C.out.wc _ (by first | assumption | exact hb3.alloc hb3.size _ | exact hb5.alloc hb5.size _) (by first | rfl | assumption)).mono ?_); rintro e w10 ⟨rfl, hb10⟩)
    | (go_at_call 17; (with_reducible refine (C.out.lv _ (by first | assumption | exact hb3.alloc hb3.size _ | exact hb5.alloc hb5.size _)).mono ?_); rintro e w11 ⟨rfl, hb11⟩))
  all_goals go_ret
  all_goals exact ⟨rfl, hb11⟩

theorem one_walk (x : ByteArray) (w : World) (hx : x.size ≤ maxLen) : Calls Try.prog 6 #[.string x] w fun e w' => e = .returned (.bool true) ∧ Below w.heap.size w w' := by
  by_cases h : (100 : Int) < x.size
  · exact one_long x w h
  · exact one_short x w h

end Go.Proofs.Ytebcbaejpebpfab
