/-
  Layer 7's Same, and the library's Equal and HasPrefix that it and Read call.
-/
import Derived.Test.YtebcbaejpebpfaaNodD
namespace Go.Proofs.Ytebcbaejpebpfaa
open Go.RowKit
set_option linter.unusedVariables false
set_option linter.unusedSimpArgs false

theorem str_ne {s s2 : ByteArray} (h : ¬ s = s2) : (s.toList == s2.toList) = false := by
  rw [beq_eq_false_iff_ne]
  intro e
  apply h
  rw [Lib.toList_data, Lib.toList_data] at e
  cases s; cases s2
  congr
  exact Array.toList_inj.1 e

set_option maxHeartbeats 800000 in
theorem EqI_any (A : Option Addr) (n c : Nat) (l : List Int) (A2 : Option Addr) (n2 c2 : Nat) (l2 : List Int) (w : World) (h : Ints w A n c l) (h2 : Ints w A2 n2 c2 l2) (r : Bool) (hr : decide (l = l2) = r) :
    Calls Try.prog 26 #[.slice A n c, .slice A2 n2 c2] w fun e w' => e = .returned (.bool r) ∧ Below w.heap.size w w' := by
  have hn := h.le
  have hn2 := h2.le
  have hl := h.len
  have hl2 := h2.len
  by_cases he : n = n2
  · subst he
    by_cases hp : 0 < n
    · obtain ⟨b, off, rfl, hb, hcell⟩ := h.row.lit (by rw [i64s_length]; omega)
      obtain ⟨b2, off2, rfl, hb2, hcell2⟩ := h2.row.lit (by rw [i64s_length]; omega)
      have HC := Lib.hid hcell
      have HC2 := Lib.hid hcell2
      have HR := Lib.hid hr
      clear h h2 hcell hcell2 hr
      go_enter Try.func26, Try.ntmps26
      go_wp2
      go_loopw [13] (fun i wr => ∃ k : Nat, k ≤ n ∧ i = .int .i64 k ∧ Hid (l.take k = l2.take k) ∧ Hid (Below w.heap.size w wr)) (fun i _ => n - (intOf i).toNat)
      case atStart => exact ⟨0, by omega, rfl, rfl, Below.refl _ _⟩
      case round =>
        obtain ⟨k, hk, rfl, hT, hbel⟩ := hrel
        by_cases hlt : k < n
        · have hkl : k < l.length := by omega
          have hkl2 : k < l2.length := by omega
          have hc1 : wr.cell? ⟨b, off + k, none⟩ = some (.int .i64 l[k]) := (hbel.out.cell (p := ⟨b, off + k, none⟩) hb).trans (HC.out k _ (i64s_at l k hkl))
          have hc2 : wr.cell? ⟨b2, off2 + k, none⟩ = some (.int .i64 l2[k]) := (hbel.out.cell (p := ⟨b2, off2 + k, none⟩) hb2).trans (HC2.out k _ (i64s_at l2 k hkl2))
          by_cases hx : l[k] = l2[k]
          · have hT1 : Hid (l.take (k + 1) = l2.take (k + 1)) := by
              rw [List.take_succ_eq_append_getElem hkl, List.take_succ_eq_append_getElem hkl2, hT.out, hx]; rfl
            rw [hx] at hc1
            generalize l2[k] = x at *
            clear hx
            go_wp2
            go_region
            go_wp2
            go_roundw
            case rel => exact ⟨k + 1, by omega, by go_num, hT1, hbel.out.drew⟩
            case measure => simp [intOf]; omega
          · obtain rfl : false = r := by
              rw [← HR.out]
              symm
              apply decide_eq_false
              intro h
              subst h
              exact hx rfl
            generalize l[k] = x at *
            generalize l2[k] = y at *
            go_wp2
            go_region
            go_wp2
            go_ret
            exact ⟨rfl, hbel.out.drew⟩
        · obtain rfl : k = n := by omega
          obtain rfl : true = r := by
            rw [← HR.out]
            symm
            apply decide_eq_true
            have := hT.out
            rwa [List.take_of_length_le (by omega), List.take_of_length_le (by omega)] at this
          go_wp2
          go_ret
          exact ⟨rfl, hbel.out⟩
    · obtain rfl : n = 0 := by omega
      obtain rfl : true = r := by
        rw [← hr]; symm; apply decide_eq_true
        rw [List.eq_nil_of_length_eq_zero hl, List.eq_nil_of_length_eq_zero hl2]
      clear h h2 hr
      go_enter Try.func26, Try.ntmps26
      go_wp2
      refine wp_loop_rounds 1 ?_
      rw [rounds_succ]
      go_wp2
      go_ret
      exact ⟨rfl, Below.refl _ _⟩
  · obtain rfl : false = r := by
      rw [← hr]; symm; apply decide_eq_false
      intro h; subst h; exact he (hl.symm.trans hl2)
    have hne : ((n : Int) != (n2 : Int)) = true := by rw [bne_iff_ne]; omega
    clear h h2 hr
    go_enter Try.func26, Try.ntmps26
    go_wp2
    go_ret
    exact ⟨rfl, Below.refl _ _⟩

set_option maxHeartbeats 800000 in
theorem EqS_any (A : Option Addr) (n c : Nat) (l : List (List UInt8)) (A2 : Option Addr) (n2 c2 : Nat) (l2 : List (List UInt8)) (w : World) (h : Strs w A n c l) (h2 : Strs w A2 n2 c2 l2) (r : Bool) (hr : decide (l = l2) = r) :
    Calls Try.prog 27 #[.slice A n c, .slice A2 n2 c2] w fun e w' => e = .returned (.bool r) ∧ Below w.heap.size w w' := by
  have hn : n ≤ 9223372036854775807 := Nat.le_trans h.cap h.most
  have hn2 : n2 ≤ 9223372036854775807 := Nat.le_trans h2.cap h2.most
  have hl := h.len
  have hl2 := h2.len
  by_cases he : n = n2
  · subst he
    by_cases hp : 0 < n
    · obtain ⟨b, off, rfl, hb, hcell⟩ := strs_cell h hp
      obtain ⟨b2, off2, rfl, hb2, hcell2⟩ := strs_cell h2 hp
      have HC := Lib.hid hcell
      have HC2 := Lib.hid hcell2
      have HR := Lib.hid hr
      clear h h2 hcell hcell2 hr
      go_enter Try.func27, Try.ntmps27
      go_wp2
      go_loopw [13] (fun i wr => ∃ k : Nat, k ≤ n ∧ i = .int .i64 k ∧ Hid (l.take k = l2.take k) ∧ Hid (Below w.heap.size w wr)) (fun i _ => n - (intOf i).toNat)
      case atStart => exact ⟨0, by omega, rfl, rfl, Below.refl _ _⟩
      case round =>
        obtain ⟨k, hk, rfl, hT, hbel⟩ := hrel
        by_cases hlt : k < n
        · have hkl : k < l.length := by omega
          have hkl2 : k < l2.length := by omega
          obtain ⟨s, hse, _, hcs⟩ := HC.out k hkl
          obtain ⟨s2, hse2, _, hcs2⟩ := HC2.out k hkl2
          have hc1 : wr.cell? ⟨b, off + k, none⟩ = some (.string s) := (hbel.out.cell (p := ⟨b, off + k, none⟩) hb).trans hcs
          have hc2 : wr.cell? ⟨b2, off2 + k, none⟩ = some (.string s2) := (hbel.out.cell (p := ⟨b2, off2 + k, none⟩) hb2).trans hcs2
          clear hcs hcs2
          by_cases hx : l[k] = l2[k]
          · have hT1 : Hid (l.take (k + 1) = l2.take (k + 1)) := by
              rw [List.take_succ_eq_append_getElem hkl, List.take_succ_eq_append_getElem hkl2, hT.out, hx]; rfl
            obtain rfl : s = s2 := by rw [hse, hse2, hx]
            clear hx hse hse2
            go_wp2
            go_region
            go_wp2
            go_roundw
            case rel => exact ⟨k + 1, by omega, by go_num, hT1, hbel.out.drew⟩
            case measure => simp [intOf]; omega
          · obtain rfl : false = r := by
              rw [← HR.out]
              symm
              apply decide_eq_false
              intro h
              subst h
              exact hx rfl
            have hne : ¬ s = s2 := by
              intro e
              rw [hse, hse2] at e
              injection e with e
              exact hx (by have := congrArg Array.toList e; simpa using this)
            have hne2 := str_ne hne
            have hne3 : (!s.toList == s2.toList) = true := by rw [hne2]; rfl
            clear hx hse hse2
            go_wp2
            go_region
            go_wp2
            go_ret
            exact ⟨rfl, hbel.out.drew⟩
        · obtain rfl : k = n := by omega
          obtain rfl : true = r := by
            rw [← HR.out]
            symm
            apply decide_eq_true
            have := hT.out
            rwa [List.take_of_length_le (by omega), List.take_of_length_le (by omega)] at this
          go_wp2
          go_ret
          exact ⟨rfl, hbel.out⟩
    · obtain rfl : n = 0 := by omega
      obtain rfl : true = r := by
        rw [← hr]; symm; apply decide_eq_true
        rw [List.eq_nil_of_length_eq_zero hl, List.eq_nil_of_length_eq_zero hl2]
      clear h h2 hr
      go_enter Try.func27, Try.ntmps27
      go_wp2
      refine wp_loop_rounds 1 ?_
      rw [rounds_succ]
      go_wp2
      go_ret
      exact ⟨rfl, Below.refl _ _⟩
  · obtain rfl : false = r := by
      rw [← hr]; symm; apply decide_eq_false
      intro h; subst h; exact he (hl.symm.trans hl2)
    have hne : ((n : Int) != (n2 : Int)) = true := by rw [bne_iff_ne]; omega
    clear h h2 hr
    go_enter Try.func27, Try.ntmps27
    go_wp2
    go_ret
    exact ⟨rfl, Below.refl _ _⟩

set_option maxHeartbeats 400000 in
theorem nodEqual_any (A1 : Option Addr) (n1 c1 : Nat) (l1 : List UInt8) (A2 : Option Addr) (n2 c2 : Nat) (l2 : List UInt8) (w : World) (h1 : Bytes8 w A1 n1 c1 l1) (h2 : Bytes8 w A2 n2 c2 l2) (r : Bool) (hr : decide (l1 = l2) = r) :
    Calls Try.prog 38 #[.slice A1 n1 c1, .slice A2 n2 c2] w fun e w' => e = .returned (.bool r) ∧ w = w' := by
  have cv1 := run_str h1
  have cv2 := run_str h2
  clear h1 h2
  go_enter Try.func38, Try.ntmps38
  go_wp2
  go_ret
  exact ⟨ret_bool (by rw [← hr, Bool.eq_iff_iff]; simp), rfl⟩

set_option maxHeartbeats 400000 in
theorem HasPrefix_any (A1 : Option Addr) (n1 c1 : Nat) (l1 : List UInt8) (A2 : Option Addr) (n2 c2 : Nat) (l2 : List UInt8) (w : World) (h1 : Bytes8 w A1 n1 c1 l1) (h2 : Bytes8 w A2 n2 c2 l2) (hl : n2 ≤ n1) (r : Bool) (hr : decide (l1.take n2 = l2) = r) :
    Calls Try.prog 29 #[.slice A1 n1 c1, .slice A2 n2 c2] w fun e w' => e = .returned (.bool r) ∧ w = w' := by
  have hcut : Bytes8 w A1 n2 c1 (l1.take n2) := ⟨by rw [List.length_take, h1.len]; omega, Nat.le_trans hl h1.cap, h1.most, by rw [← u8s_take]; exact h1.row.take _⟩
  have E := Lib.hid (fun c (hc : c = c1) => hc ▸ nodEqual_any A1 n2 c1 (l1.take n2) A2 n2 c2 l2 w hcut h2 r hr)
  have hn1 := h1.le
  have hc1 := h1.cap
  have hm1 := h1.most
  clear h1 h2 hcut
  go_enter Try.func29, Try.ntmps29
  go_wp2_with (go_at_call 38; (with_reducible refine (E.out _ rfl).mono ?_); rintro e w' ⟨rfl, rfl⟩)
  go_ret
  exact ⟨rfl, rfl⟩

end Go.Proofs.Ytebcbaejpebpfaa
