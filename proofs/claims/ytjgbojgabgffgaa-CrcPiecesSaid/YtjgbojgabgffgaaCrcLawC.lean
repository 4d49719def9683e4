/-
  The walk of CrcPieces.
-/
import Derived.Test.YtjgbojgabgffgaaCrcLawA
namespace Go.Proofs.Ytjgbojgabgffgaa
open Go.RowKit
set_option linter.unusedVariables false
set_option linter.unusedSimpArgs false

theorem Sum_own (base : Nat) (v : Value) (m : Nat) (l : List UInt8) (w : World) (h : w.ownsRow base 5 1 v m (u8s l)) :
    Calls Try.prog 8 #[.slice (some ⟨w.heap.size, 0, none⟩) 1 1] (w.alloc (.cells #[v] 22)) fun e w' => e = .returned (.int .i64 (Crc.sum l : Int)) ∧ Below w.heap.size w w' := by
  obtain ⟨A, c, rfl, hB⟩ := Bytes8.of_own h
  exact Sum_one A m c l w hB

theorem flat_le (R : Nat) (ll : List (List UInt8)) (h : ∀ l ∈ ll, l.length ≤ R) : ll.flatten.length ≤ ll.length * R := by
  induction ll with
  | nil => simp
  | cons a r ih =>
    have h1 := ih fun l hl => h l (List.mem_cons_of_mem _ hl)
    have h2 := h a List.mem_cons_self
    simp only [List.flatten_cons, List.length_append, List.length_cons, Nat.add_mul, Nat.one_mul]
    omega

set_option maxRecDepth 100000 in
set_option maxHeartbeats 1600000 in
theorem pieces_pos (b off n c : Nat) (ll : List (List UInt8)) (w : World) (h : Pcs w (some ⟨b, off, none⟩) n c ll) (hR : ∀ l ∈ ll, l.length ≤ 140737488351232) (hp : 0 < n) :
    Calls Try.prog 5 #[.slice (some ⟨b, off, none⟩) n c] w fun e w' => e = .returned (.bool true) ∧ Below w.heap.size w w' := by
  have hm := h.most
  have hcp := h.cap
  obtain ⟨b', off', e, hb, hcell⟩ := h.lit hp
  cases e
  have HC := Lib.hid hcell
  have HL := Lib.hid h.len
  have HP := Lib.hid h
  have HR := Lib.hid hR
  clear h hcell hR
  go_enter Try.func5, Try.ntmps5
  go_wp2
  go_loop [3, 4] (fun s i => ∃ k t : Nat, k ≤ n ∧ k ≤ 101 ∧ i = .int .i64 k ∧ s = .int .i64 t ∧ Hid (t = (ll.take k).flatten.length) ∧ t ≤ 14214486323486434) (fun _ i => n - (intOf i).toNat)
  case atStart => exact ⟨0, 0, by omega, by omega, rfl, rfl, rfl, by omega⟩
  case round =>
    obtain ⟨k, t, hk, hk2, rfl, rfl, HT, ht⟩ := hrel
    by_cases hlt : k < n
    · by_cases h101 : k < 101
      · have hkl : k < ll.length := by have := HL.out; omega
        obtain ⟨A', m', c', hc0, hB0⟩ := HC.out k hkl
        have hm' := hB0.len
        have hm2 := HR.out ll[k] (List.getElem_mem _)
        have HT2 : Hid (t + m' = (ll.take (k + 1)).flatten.length) := by
          rw [flat_take_succ _ _ hkl, List.length_append, ← HT.out, hm']
          rfl
        have ht2 : t + m' ≤ 14214486323486434 := by
          have h1 := flat_le 140737488351232 (ll.take (k + 1)) fun l hl => HR.out l (List.mem_of_mem_take hl)
          rw [← HT2.out, List.length_take] at h1
          have h2 : min (k + 1) ll.length ≤ 101 := by omega
          have h3 := Nat.mul_le_mul_right 140737488351232 h2
          omega
        rw [hm'] at hm2
        clear hB0 hm'
        go_wp2
        go_round
        case rel => exact ⟨k + 1, t + m', by omega, by omega, by go_num, by go_num, HT2, ht2⟩
        case measure => simp [intOf]; omega
      · go_wp2_with (go_at_call 7; refine (lives_any _).mono ?_; rintro e w1 ⟨rfl, hb1⟩)
        go_ret
        exact ⟨rfl, hb1⟩
    · obtain rfl : k = n := by omega
      by_cases h100 : 100 < k
      · go_wp2_with (go_at_call 7; refine (lives_any _).mono ?_; rintro e w1 ⟨rfl, hb1⟩)
        go_ret
        exact ⟨rfl, hb1⟩
      · by_cases h3000 : 3000 < t
        · go_wp2_with (go_at_call 7; refine (lives_any _).mono ?_; rintro e w1 ⟨rfl, hb1⟩)
          go_ret
          exact ⟨rfl, hb1⟩
        · have HTL : Hid (ll.flatten.length ≤ 3000) := by
            have := HT.out
            rw [List.take_of_length_le (by have := HL.out; omega)] at this
            show _ ≤ _
            omega
          have E0 : Hid (Crc.sum [] = 0) := Crc.sum_nil
          go_wp2
          go_loopw [5, 6, 7] (fun v s i wr => ∃ j : Nat, j ≤ k ∧ i = .int .i64 j ∧ s = .int .i64 (Crc.sum (ll.take j).flatten : Int) ∧ Hid (wr.ownsRow w.heap.size 5 1 v (ll.take j).flatten.length (u8s (ll.take j).flatten)) ∧ w.heap.size ≤ wr.heap.size ∧ Below w.heap.size w wr) (fun _ _ i _ => k - (intOf i).toNat)
          case atStart => exact ⟨0, by omega, rfl, by rw [List.take_zero, List.flatten_nil, E0.out]; rfl, World.ownsRow_nil _ _ _ _, Nat.le_refl _, Below.refl _ _⟩
          case round =>
            obtain ⟨j, hj, rfl, rfl, hown, hs, hbel⟩ := hrel
            by_cases hjl : j < k
            · have hkl : j < ll.length := by have := HL.out; omega
              obtain ⟨A', m', c', hc0, hB0⟩ := HC.out j hkl
              have hc1 : wr.cell? ⟨b, off + j, none⟩ = some (.slice A' m' c') := (hbel.cell (p := ⟨b, off + j, none⟩) hb).trans hc0
              have hm' := hB0.len
              have hlen : (ll.take (j + 1)).flatten.length ≤ 3000 := by
                have h1 : (ll.take (j + 1)).flatten.length ≤ ll.flatten.length := by
                  conv => rhs; rw [← List.take_append_drop (j + 1) ll, List.flatten_append, List.length_append]
                  omega
                have := HTL.out
                omega
              rw [flat_take_succ _ _ hkl, List.length_append, hm'] at hlen
              have HF := Lib.hid (flat_take_succ ll j hkl)
              have hsl := Crc.sum_lt (ll.take j).flatten
              have HM : Hid (∀ W, Below w.heap.size wr W → Calls Try.prog 10 #[.int .i64 (Crc.sum (ll.take j).flatten : Int), .slice A' m' c'] W fun e w' => e = .returned (.int .i64 (Crc.sum (ll.take (j + 1)).flatten : Int)) ∧ Below W.heap.size W w') := fun W hb => by
                have := More_good (Crc.sum (ll.take j).flatten) A' m' c' ll[j] W (hB0.below (hbel.trans hb)) hsl
                rwa [Crc.more_sum, ← HF.out] at this
              have HB0 := Lib.hid (hB0.below hbel)
              have HN : Hid (Crc.sum (ll.take j).flatten = Crc.sum (ll.take j).flatten) := rfl
              clear hc0 hB0 hm'
              generalize Crc.sum (ll.take j).flatten = sj at *
              go_wp2_with (first
                | (at_builtin; refine wpList_append_row _ rfl _ _ 22 rfl w.heap.size 5 (.int .u8 0) 1 Try.underlying22 (by kernel_rfl) rfl u5 _ _ rfl hown hs A' (u8s ll[j]) m' c' rfl (by rw [u8s_length]; exact HB0.out.len) HB0.out.row (u8s_one _) (by omega) (by omega) ?_; intro v2 w2 hown2 hs2 hb2; have hc2 : w2.cell? ⟨b, off + j, none⟩ = some (.slice A' m' c') := (hb2.cell (p := ⟨b, off + j, none⟩) hb).trans hc1)
                | (go_at_call 10; (with_reducible refine (HM.out _ hb2).mono ?_); rintro e w3 ⟨rfl, hb3⟩))
              go_roundw
              case rel =>
                refine ⟨j + 1, by omega, by go_num, rfl, ?_, Nat.le_trans hs2 hb3.size, hbel.trans (hb2.trans (hb3.mono hs2))⟩
                have h9 := own_below hown2 hb3
                rw [← u8s_append] at h9
                rw [HF.out, List.length_append, HB0.out.len]
                exact h9
              case measure => simp [intOf]; omega
            · obtain rfl : j = k := by omega
              have hTk : ll.take j = ll := List.take_of_length_le (by have := HL.out; omega)
              rw [hTk] at hown
              rw [hTk]
              clear hTk
              have S1 : Hid (∀ W, Below w.heap.size w W → Calls Try.prog 8 #[.slice (some ⟨b, off, none⟩) j c] W fun e w' => e = .returned (.int .i64 (Crc.sum ll.flatten : Int)) ∧ Below W.heap.size W w') := fun W hb => Sum_any _ j c ll W (HP.out.below hb)
              obtain ⟨A5, c5, rfl, HB5⟩ := Bytes8.of_own hown.out
              have S2 : Hid (∀ W, Bytes8 W A5 ll.flatten.length c5 ll.flatten → Calls Try.prog 8 #[.slice (some ⟨W.heap.size, 0, none⟩) 1 1] (W.alloc (.cells #[.slice A5 ll.flatten.length c5] 22)) fun e w' => e = .returned (.int .i64 (Crc.sum ll.flatten : Int)) ∧ Below W.heap.size W w') := fun W h => Sum_one A5 _ c5 _ W h
              clear hown
              generalize ll.flatten.length = fl at *
              generalize Crc.sum ll.flatten = x at *
              go_wp2_with (first
                | (go_at_call 8; (with_reducible refine (S1.out _ hbel).mono ?_); rintro e w1 ⟨rfl, hb1⟩; have hown1 := HB5.below hb1)
                | (go_at_call 8; (with_reducible refine (S2.out _ hown1).mono ?_); rintro e w2 ⟨rfl, hb2⟩; have hown2 := hown1.below hb2)
                | (go_at_call 8; (with_reducible refine (S2.out _ hown2).mono ?_); rintro e w3 ⟨rfl, hb3⟩)
                | (go_at_call 7; refine (lives_any _).mono ?_; rintro e w4 ⟨rfl, hb4⟩))
              go_ret
              have h12 := hb1.trans (hb2.mono hb1.size)
              have h34 := hb3.trans (hb4.mono hb3.size)
              have h14 := h12.trans (h34.mono (Nat.le_trans hb1.size hb2.size))
              exact ⟨rfl, hbel.trans (h14.mono hs)⟩

set_option maxRecDepth 100000 in
set_option maxHeartbeats 800000 in
theorem pieces_nil (A : Option Addr) (c : Nat) (w : World) (h : Pcs w A 0 c []) :
    Calls Try.prog 5 #[.slice A 0 c] w fun e w' => e = .returned (.bool true) ∧ Below w.heap.size w w' := by
  have S1 : Hid (∀ W, Below w.heap.size w W → Calls Try.prog 8 #[.slice A 0 c] W fun e w' => e = .returned (.int .i64 0) ∧ Below W.heap.size W w') := fun W hb => (Sum_any A 0 c [] W (h.below hb)).mono fun e w' ⟨h1, h2⟩ => ⟨by rw [h1, List.flatten_nil, Crc.sum_nil]; rfl, h2⟩
  have S2 : Hid (∀ W, Calls Try.prog 8 #[.slice (some ⟨W.heap.size, 0, none⟩) 1 1] (W.alloc (.cells #[.slice none 0 0] 22)) fun e w' => e = .returned (.int .i64 0) ∧ Below W.heap.size W w') := fun W => (Sum_one none 0 0 [] W (Bytes8.nil W)).mono fun e w' ⟨h1, h2⟩ => ⟨by rw [h1, Crc.sum_nil]; rfl, h2⟩
  have tok : True := trivial
  clear h
  go_enter Try.func5, Try.ntmps5
  go_wp2
  refine wp_loop_rounds 1 ?_
  rw [rounds_succ]
  go_wp2
  refine wp_loop_rounds 1 ?_
  rw [rounds_succ]
  go_wp2_with (first
    | (go_at_call 8; (with_reducible refine (S1.out _ (Below.refl _ _)).mono ?_); rintro e w1 ⟨rfl, hb1⟩)
    | (go_at_call 8; have _t := tok; (with_reducible refine (S2.out _).mono ?_); rintro e w2 ⟨rfl, hb2⟩; clear tok _t)
    | (go_at_call 8; (with_reducible refine (S2.out _).mono ?_); rintro e w3 ⟨rfl, hb3⟩)
    | (go_at_call 7; refine (lives_any _).mono ?_; rintro e w4 ⟨rfl, hb4⟩))
  go_ret
  have h12 := hb1.trans (hb2.mono hb1.size)
  have h34 := hb3.trans (hb4.mono hb3.size)
  exact ⟨rfl, h12.trans (h34.mono (Nat.le_trans hb1.size hb2.size))⟩

theorem pieces_walk (A : Option Addr) (n c : Nat) (ll : List (List UInt8)) (w : World) (h : Pcs w A n c ll) (hR : ∀ l ∈ ll, l.length ≤ 140737488351232) :
    Calls Try.prog 5 #[.slice A n c] w fun e w' => e = .returned (.bool true) ∧ Below w.heap.size w w' := by
  by_cases hp : 0 < n
  · obtain ⟨b, off, rfl, _, _⟩ := h.lit hp
    exact pieces_pos b off n c ll w h hR hp
  · obtain rfl : n = 0 := by omega
    obtain rfl : ll = [] := List.eq_nil_of_length_eq_zero h.len
    exact pieces_nil A c w h

end Go.Proofs.Ytjgbojgabgffgaa
