/-
  Layer 2's register over bytes; Sum and More.
-/
import Derived.Test.YtldgdgkojlohfaaCrcB
import Derived.Test.YtldgdgkojlohfaaMemE
namespace Go.Proofs.Ytldgdgkojlohfaa
open Go.RowKit
set_option linter.unusedVariables false
set_option linter.unusedSimpArgs false

theorem tab_full (x : Nat) (h : x < 256) {w : World} {g : Nat} (hB : Blk w g 64 (tab 256)) : w.cell? ⟨g, x, none⟩ = some (.int .u32 (Crc.it 8 x : Int)) := by
  rw [hB.cell x (by rw [tab_length]; omega)]
  have := tab_at 256 x h
  rw [List.getElem?_eq_getElem (by rw [tab_length]; omega), if_pos h] at this
  exact this

set_option maxHeartbeats 400000 in
theorem feed_any (g : Nat) (A : Option Addr) (n c : Nat) (l : List UInt8) (r0 : Nat) (w : World) (hB : Blk w g 64 (tab 256)) (h : Bytes8 w A n c l) (hr : r0 < 4294967296) :
    Calls Try.prog 43 #[.pointer (some ⟨g, 0, none⟩), .int .u32 (r0 : Int), .slice A n c] w fun e w' => e = .returned (.int .u32 (Crc.feed r0 l : Int)) ∧ w = w' := by
  have hm := h.le
  by_cases hp : 0 < n
  · obtain ⟨b, off, rfl, hb, hcell⟩ := h.row.lit (by rw [u8s_length, h.len]; omega)
    have HC := Lib.hid hcell
    have HL := Lib.hid h.len
    have HB := Lib.hid hB
    clear h hcell hB
    go_enter Try.func43, Try.ntmps43
    go_wp2
    go_loop [1, 11] (fun r i => ∃ k m : Nat, k ≤ n ∧ i = .int .i64 k ∧ r = .int .u32 m ∧ m < 4294967296 ∧ Hid (m = Crc.feed r0 (l.take k))) (fun _ i => n - (intOf i).toNat)
    case atStart => exact ⟨0, r0, by omega, rfl, rfl, hr, rfl⟩
    case round =>
      obtain ⟨k, m, hk, rfl, rfl, hmm, HM⟩ := hrel
      by_cases hlt : k < n
      · have hkl : k < l.length := by have := HL.out; omega
        have hcu := UInt8.toNat_lt l[k]
        have hst : Hid (Crc.upd m l[k].toNat = Crc.feed r0 (l.take (k + 1))) := by rw [Crc.feed_take_succ _ _ _ hkl, ← HM.out]; rfl
        have hul := Crc.upd_lt hmm l[k]
        have hc0 : w.cell? ⟨b, off + k, none⟩ = some (.int .u8 (l[k].toNat : Int)) := HC.out k _ (u8s_at l k hkl)
        have hut := Crc.upd_table m l[k].toNat
        generalize l[k].toNat = u at *
        have hxl : (m % 256) ^^^ u < 256 := Nat.xor_lt_two_pow (n := 8) (by omega) (by omega)
        have e1 : bits .xor .u8 ((m : Int) % 256) (u : Int) = (((m % 256) ^^^ u : Nat) : Int) := by
          have := u8_xor_nat (m % 256) u (by omega) (by omega)
          rw [← this]
          congr 1
        have hc1 := tab_full _ hxl HB.out
        have hil := Crc.it_lt 8 (n := (m % 256) ^^^ u) (by omega)
        have e2 : bits .xor .u32 (Crc.it 8 ((m % 256) ^^^ u) : Int) ((m : Int) / 256) = (Crc.upd m u : Int) := by
          rw [← hut, ← u32_xor_nat _ (m / 256) hil (by omega)]
          congr 1
        generalize (m % 256) ^^^ u = x at *
        generalize Crc.upd m u = up at *
        generalize Crc.it 8 x = ix at *
        clear hut
        go_wp2
        go_round
        case rel => exact ⟨k + 1, up, by omega, by go_num, rfl, hul, hst⟩
        case measure => simp [intOf]; omega
      · obtain rfl : k = n := by omega
        have HM2 : Hid (m = Crc.feed r0 l) := by
          have := HM.out
          rwa [List.take_of_length_le (by have := HL.out; omega)] at this
        go_wp2
        go_ret
        exact ⟨ret_int (by rw [HM2.out]), rfl⟩
  · obtain rfl : n = 0 := by omega
    obtain rfl : l = [] := List.eq_nil_of_length_eq_zero h.len
    clear h hB
    go_enter Try.func43, Try.ntmps43
    go_wp2
    refine wp_loop_rounds 1 ?_
    rw [rounds_succ]
    go_wp2
    go_ret
    exact ⟨rfl, rfl⟩

theorem flat_take_succ (ll : List (List UInt8)) (k : Nat) (h : k < ll.length) : (ll.take (k + 1)).flatten = (ll.take k).flatten ++ ll[k] := by
  rw [List.take_succ_eq_append_getElem h, List.flatten_append]
  simp

theorem xor_ones (m : Nat) (h : m < 4294967296) : bits .xor .u32 (m : Int) 4294967295 = ((m ^^^ Crc.ones : Nat) : Int) :=
  u32_xor_nat m 4294967295 h (by omega)

set_option maxRecDepth 100000 in
set_option maxHeartbeats 800000 in
theorem Sum_any (A : Option Addr) (n c : Nat) (ll : List (List UInt8)) (w : World) (h : Pcs w A n c ll) :
    Calls Try.prog 31 #[.slice A n c] w fun e w' => e = .returned (.int .i64 (Crc.sum ll.flatten : Int)) ∧ Below w.heap.size w w' := by
  have hm := h.most
  have hcp := h.cap
  by_cases hp : 0 < n
  · obtain ⟨b, off, rfl, hb, hcell⟩ := h.lit hp
    have HC := Lib.hid hcell
    have HL := Lib.hid h.len
    clear h hcell
    go_enter Try.func31, Try.ntmps31
    go_wp2_with (first
      | (go_at_call 42; refine (eight_any _).mono ?_; rintro e w1 ⟨rfl, hb1⟩)
      | (refine wpList_alloc_row rfl 64 rfl (tab 0) tab_zero ?_; intro w2 g HB HBg hBs hBb)
      | (refine wpList_store_whole rfl 64 _ _ rfl g 64 (tab 0) (tab 256) (by rfl) (by rfl) HB (tab_size_of 256) (by rw [tab_length, tab_length]) (tab_one 256) ?_; intro w3 HS hSs hSb HSo))
    have hbel : Below w.heap.size w w3 := hb1.trans ((hBb.mono hb1.size).trans (hSb.mono (by have := HBg.out; have := hb1.size; omega)))
    clear HB HBg hBs hBb hSb HSo hSs hb1
    go_loop [4, 10] (fun r i => ∃ k m : Nat, k ≤ n ∧ i = .int .i64 k ∧ r = .int .u32 m ∧ m < 4294967296 ∧ Hid (m = Crc.feed Crc.ones (ll.take k).flatten)) (fun _ i => n - (intOf i).toNat)
    case atStart => exact ⟨0, 4294967295, by omega, rfl, rfl, by omega, rfl⟩
    case round =>
      obtain ⟨k, m, hk, rfl, rfl, hmm, HM⟩ := hrel
      by_cases hlt : k < n
      · have hkl : k < ll.length := by have := HL.out; omega
        obtain ⟨A', m', c', hc0, hB0⟩ := HC.out k hkl
        have hc1 : w3.cell? ⟨b, off + k, none⟩ = some (.slice A' m' c') := (hbel.cell (p := ⟨b, off + k, none⟩) hb).trans hc0
        have F := Lib.hid (feed_any g A' m' c' ll[k] m w3 HS.out (hB0.below hbel) hmm)
        have hfl := Crc.feed_lt hmm ll[k]
        have hst : Hid (Crc.feed m ll[k] = Crc.feed Crc.ones (ll.take (k + 1)).flatten) := by
          rw [flat_take_succ _ _ hkl, Crc.feed_append, ← HM.out]
          rfl
        generalize Crc.feed m ll[k] = up at *
        clear hc0 hB0
        go_wp2_with (go_at_call 43; refine (F.out).mono ?_; rintro e w' ⟨rfl, rfl⟩)
        go_round
        case rel => exact ⟨k + 1, up, by omega, by go_num, rfl, hfl, hst⟩
        case measure => simp [intOf]; omega
      · obtain rfl : k = n := by omega
        have hx := xor_ones m hmm
        have hxl := Crc.xor_lt hmm Crc.ones_lt
        have HM2 : Hid (m ^^^ Crc.ones = Crc.sum ll.flatten) := by
          have := HM.out
          rw [List.take_of_length_le (by have := HL.out; omega)] at this
          rw [this]
          rfl
        generalize m ^^^ Crc.ones = z at *
        go_wp2
        go_ret
        exact ⟨ret_int (by rw [HM2.out]), hbel⟩
  · obtain rfl : n = 0 := by omega
    obtain rfl : ll = [] := List.eq_nil_of_length_eq_zero h.len
    clear h
    go_enter Try.func31, Try.ntmps31
    go_wp2_with (first
      | (go_at_call 42; refine (eight_any _).mono ?_; rintro e w1 ⟨rfl, hb1⟩)
      | (refine wpList_alloc_row rfl 64 rfl (tab 0) tab_zero ?_; intro w2 g HB HBg hBs hBb)
      | (refine wpList_store_whole rfl 64 _ _ rfl g 64 (tab 0) (tab 256) (by rfl) (by rfl) HB (tab_size_of 256) (by rw [tab_length, tab_length]) (tab_one 256) ?_; intro w3 HS hSs hSb HSo))
    have hbel : Below w.heap.size w w3 := hb1.trans ((hBb.mono hb1.size).trans (hSb.mono (by have := HBg.out; have := hb1.size; omega)))
    clear HB HBg hBs hBb hSb HSo hSs hb1
    have hx : bits .xor .u32 4294967295 4294967295 = 0 := by decide
    refine wp_loop_rounds 1 ?_
    rw [rounds_succ]
    go_wp2
    go_ret
    exact ⟨ret_int (by rw [List.flatten_nil, Crc.sum_nil]; rfl), hbel⟩

end Go.Proofs.Ytldgdgkojlohfaa
