/-
  The reference's Put; both Zero.
-/
import Derived.Test.YtbflfnaiihbjoaaCodeF
import Derived.Test.YtbflfnaiihbjoaaMemB
namespace Go.Proofs.Ytbflfnaiihbjoaa
open Go.RowKit
set_option linter.unusedVariables false
set_option linter.unusedSimpArgs false

set_option maxHeartbeats 400000 in
theorem refPut_bad (A : Option Addr) (n c : Nat) (i wd x : Int) (w : World) (hn : n ≤ 9223372036854775807) (hi : -9223372036854775808 ≤ i ∧ i ≤ 9223372036854775807) (r : Int) (hr : roomE n i wd = r) (h13 : r = 1 ∨ r = 3) :
    Calls Try.prog 11 #[.slice A n c, .int .i64 i, .int .i64 wd, .int .i64 x] w fun e w' => e = .returned (.tuple #[.slice none 0 0, .int .i64 r]) ∧ w = w' := by
  have P := Lib.hid (room_any A n c i wd w hn hi r hr)
  clear hi hr
  rcases h13 with rfl | rfl
  all_goals go_enter Try.func11, Try.ntmps11
  all_goals go_wp2_with (go_at_call 21; refine (P.out).mono ?_; rintro e w' ⟨rfl, rfl⟩)
  all_goals go_ret2
  all_goals exact ⟨rfl, rfl⟩

set_option maxHeartbeats 400000 in
theorem refPut_nofit (A : Option Addr) (n c : Nat) (i wd x : Int) (w : World) (hn : n ≤ 9223372036854775807) (hi : -9223372036854775808 ≤ i ∧ i ≤ 9223372036854775807) (hr : roomE n i wd = 0) (hw : isW wd = true)
    (hx : -9223372036854775808 ≤ x ∧ x ≤ 9223372036854775807) (hf : fitsB x wd = false) :
    Calls Try.prog 11 #[.slice A n c, .int .i64 i, .int .i64 wd, .int .i64 x] w fun e w' => e = .returned (.tuple #[.slice none 0 0, .int .i64 2]) ∧ Below w.heap.size w w' := by
  have P := Lib.hid (room_any A n c i wd w hn hi 0 hr)
  have F := Lib.hid (refFits_any x wd w hw hx false hf)
  clear hi hr hf hw hx
  go_enter Try.func11, Try.ntmps11
  go_wp2_with (first
    | (go_at_call 21; refine (P.out).mono ?_; rintro e w' ⟨rfl, rfl⟩)
    | (go_at_call 24; refine (F.out).mono ?_; rintro e w' ⟨rfl, hb⟩))
  go_ret2
  exact ⟨rfl, hb⟩

set_option maxHeartbeats 400000 in
theorem refPut_good (b off n c k m : Nat) (x : Nat) (l : List UInt8) (w : World) (h : Bytes8 w (some ⟨b, off, none⟩) n c l) (hn : n ≤ 140737488355320) (hr : roomE n k m = 0) (hw : isW m = true) (hk : k + m ≤ n)
    (hx : x < 9223372036854775808) (hf : fitsB x m = true) :
    Calls Try.prog 11 #[.slice (some ⟨b, off, none⟩) n c, .int .i64 k, .int .i64 m, .int .i64 x] w fun e w' => ∃ A' c', e = .returned (.tuple #[.slice A' n c', .int .i64 0]) ∧
      Bytes8 w' A' n c' (l.take k ++ (encN m x ++ l.drop (k + m))) ∧ Below w.heap.size w w' := by
  have hb8 : m ≤ 8 := by rcases isW_cases hw with h | h | h | h <;> omega
  have P := Lib.hid (room_any (some ⟨b, off, none⟩) n c k m w (by omega) (by omega) 0 hr)
  have F := Lib.hid (refFits_any x m w hw (by omega) true hf)
  have B : ∀ W : World, Calls Try.prog 25 #[.int .i64 x, .int .i64 m] W fun e w' => ∃ A' c', e = .returned (.slice A' m c') ∧ Bytes8 w' A' m c' (encN m x) ∧ Below W.heap.size W w' :=
    fun W => (Bytes_any x m W hx hb8).mono fun e w' ⟨v', he, ho, hb⟩ => by
      obtain ⟨A', c', rfl, hB⟩ := Bytes8.of_own ho
      exact ⟨A', c', he, hB, hb⟩
  have HB := Lib.hid h
  have HBy := Lib.hid B
  have hcap := h.cap
  have hmost := h.most
  have hkn : k ≤ n := by omega
  have hkc : k ≤ c := by omega
  clear h hr hf hw B
  go_enter Try.func11, Try.ntmps11
  go_wp2_with (first
    | (go_at_call 21; refine (P.out).mono ?_; rintro e w' ⟨rfl, rfl⟩)
    | (go_at_call 24; refine (F.out).mono ?_; rintro e w1 ⟨rfl, hb1⟩)
    | (go_at_call 25; refine (HBy.out _).mono ?_; rintro e w3 ⟨A3, c3, rfl, HB3, hb3⟩; have hbw3 := (hb1.trans ((((Below.refl _ w1).alloc (Nat.le_refl _) _).trans hb2).mono hb1.size)).trans (hb3.mono (Nat.le_trans hb1.size hs2)); have ho3 := own_below ho2 hb3; have hs3 := Nat.le_trans hs2 hb3.size)
    | (at_builtin; refine wpList_append_row _ rfl (.tmp 23) (.tmp 26) _ rfl w1.heap.size 5 _ 1 Try.underlying22 info_u8 rfl _ 0 [] rfl (own_empty w1 _) (by simp) _ (u8s (l.take k)) k c rfl (by rw [u8s_length, List.length_take, HB.out.len]; omega) ((by have := (HB.out.row.below (hb1.alloc hb1.size (.cells #[] 5))).take k; rwa [u8s_take] at this)) (u8s_one _) (by omega) (by omega) ?_; intro v2 w2 ho2 hs2 hb2)
    | (at_builtin; refine wpList_append_row _ rfl (.tmp 28) (.tmp 31) _ rfl w1.heap.size 5 _ 1 Try.underlying22 info_u8 rfl v2 _ _ rfl ho3 hs3 _ (u8s (encN m x)) m c3 rfl (by rw [u8s_length, encN_length]) HB3.row (u8s_one _) (by omega) (by omega) ?_; intro v4 w4 ho4 hs4 hb4; have hbw4 := hbw3.trans (hb4.mono hb1.size))
    | (at_builtin; refine wpList_append_row _ rfl (.tmp 33) (.tmp 38) _ rfl w1.heap.size 5 _ 1 Try.underlying22 info_u8 rfl v4 _ _ rfl ho4 hs4 _ (u8s (l.drop (k + m))) (n - (k + m)) (c - (k + m)) rfl (by rw [u8s_length, List.length_drop, HB.out.len]) (by rw [← u8s_drop]; exact (HB.out.row.below hbw4).cut_lit (by rw [u8s_length, HB.out.len]; exact hcap)) (u8s_one _) (by omega) (by omega) ?_; intro v5 w5 ho5 hs5 hb5; have hbw5 := hbw4.trans (hb5.mono hb1.size)))
  all_goals go_ret2
  all_goals
    have ho6 := ho5.out
    rw [show 0 + k + m + (n - (k + m)) = n by omega, List.nil_append, ← u8s_append, ← u8s_append, List.append_assoc] at ho6
    obtain ⟨A5, c5, hv5, hB5⟩ := Bytes8.of_own ho6
    exact ⟨A5, c5, by rw [← hv5]; rfl, hB5, hbw5⟩

theorem refPut_any (A : Option Addr) (n c : Nat) (l : List UInt8) (i wd x : Int) (w : World) (h : Bytes8 w A n c l) (hn : n ≤ 140737488355320) (hi : -9223372036854775808 ≤ i ∧ i ≤ 9223372036854775807) (hx : -9223372036854775808 ≤ x ∧ x ≤ 9223372036854775807) :
    Calls Try.prog 11 #[.slice A n c, .int .i64 i, .int .i64 wd, .int .i64 x] w fun e w' => ∃ A' m c', e = .returned (.tuple #[.slice A' m c', .int .i64 (putE l i wd x)]) ∧ Bytes8 w' A' m c' (putB l i wd x) ∧ Below w.heap.size w w' := by
  have hl := h.len
  rcases roomE_cases n i wd with hr | hr | ⟨hr, hw, h0, h1⟩
  · refine (refPut_bad A n c i wd x w h.le hi 1 hr (.inl rfl)).mono ?_
    rintro e w' ⟨rfl, rfl⟩
    exact ⟨none, 0, 0, by simp [putE, hl, hr], by simpa [putB, putE, hl, hr] using Bytes8.nil w, Below.refl _ _⟩
  · refine (refPut_bad A n c i wd x w h.le hi 3 hr (.inr rfl)).mono ?_
    rintro e w' ⟨rfl, rfl⟩
    exact ⟨none, 0, 0, by simp [putE, hl, hr], by simpa [putB, putE, hl, hr] using Bytes8.nil w, Below.refl _ _⟩
  · cases hf : fitsB x wd with
    | false =>
      refine (refPut_nofit A n c i wd x w h.le hi hr hw hx hf).mono ?_
      rintro e w' ⟨rfl, hb⟩
      exact ⟨none, 0, 0, by simp [putE, hl, hr, hf], by simpa [putB, putE, hl, hr, hf] using Bytes8.nil w', hb⟩
    | true =>
      have hx0 : 0 ≤ x := by simp [fitsB] at hf; exact hf.1
      have hb8 : 1 ≤ wd := by rcases isW_cases hw with h | h | h | h <;> omega
      obtain ⟨k, rfl⟩ := Int.eq_ofNat_of_zero_le h0
      obtain ⟨y, rfl⟩ := Int.eq_ofNat_of_zero_le hx0
      obtain ⟨m, rfl⟩ := Int.eq_ofNat_of_zero_le (show 0 ≤ wd by omega)
      obtain ⟨b, off, rfl, _, _⟩ := h.row.lit (by rw [u8s_length]; omega)
      refine (refPut_good b off n c k m y l w h hn hr hw (by omega) (by omega) hf).mono ?_
      rintro e w' ⟨A', c', rfl, hB, hb⟩
      exact ⟨A', n, c', by simp [putE, hl, hr, hf], by simpa [putB, putE, hl, hr, hf] using hB, hb⟩

def zeroB (l : List UInt8) : Bool := l.all (· == 0)

theorem zeroB_take {l : List UInt8} {k : Nat} (h : zeroB (l.take k) = true) (hk : k < l.length) : zeroB (l.take (k + 1)) = (l[k] == 0) := by
  rw [List.take_succ_eq_append_getElem hk]
  simp only [zeroB, List.all_append] at *
  rw [h]
  simp

theorem zeroB_false {l : List UInt8} {k : Nat} (hk : k < l.length) (h : l[k] ≠ 0) : zeroB l = false := by
  simp only [zeroB, List.all_eq_false]
  exact ⟨l[k], List.getElem_mem _, by simpa using h⟩

set_option maxHeartbeats 400000 in
theorem Zero_any (A : Option Addr) (n c : Nat) (l : List UInt8) (w : World) (h : Bytes8 w A n c l) (r : Bool) (hz : zeroB l = r) :
    Calls Try.prog 12 #[.slice A n c] w fun e w' => e = .returned (.bool r) ∧ w = w' := by
  obtain ⟨hl, hcap, hmost, hr⟩ := h
  have HL := Lib.hid hl
  have HZ := Lib.hid hz
  have hn : n ≤ 9223372036854775807 := by omega
  by_cases hp : 0 < n
  · obtain ⟨b, off, rfl, hb, hcell⟩ := hr.lit (by rw [u8s_length]; omega)
    have HC := Lib.hid hcell
    clear hl hz hr hcell
    go_enter Try.func12, Try.ntmps12
    go_wp2
    go_loop [7] (fun i => ∃ k : Nat, k ≤ n ∧ i = .int .i64 k ∧ Hid (zeroB (l.take k) = true)) (fun i => n - (intOf i).toNat)
    case atStart => exact ⟨0, by omega, rfl, rfl⟩
    case round =>
      obtain ⟨k, hk, rfl, hzk⟩ := hrel
      by_cases hlt : k < n
      · have hkl : k < l.length := by have := HL.out; omega
        have hc := HC.out k _ (u8s_at l k hkl)
        by_cases h0 : l[k] = 0
        · have hz1 : Hid (zeroB (l.take (k + 1)) = true) := by
            rw [zeroB_take hzk.out hkl, h0]; rfl
          have hc0 : w.cell? ⟨b, off + k, none⟩ = some (.int .u8 0) := by rw [hc, h0]; rfl
          clear hc h0
          go_wp2
          go_round
          case rel => exact ⟨k + 1, by omega, by go_num, hz1⟩
          case measure => simp [intOf]; omega
        · have hf : zeroB l = false := zeroB_false hkl h0
          obtain rfl : false = r := by rw [← HZ.out, hf]
          have hne : ((l[k].toNat : Int) != 0) = true := by
            rw [bne_iff_ne]
            intro he
            exact h0 (UInt8.toNat_inj.1 (by simpa using he))
          generalize l[k].toNat = v at *
          clear h0 hf
          go_wp2
          go_ret
          exact ⟨rfl, rfl⟩
      · have ht : zeroB l = true := by
          have := hzk.out
          rwa [List.take_of_length_le (by have := HL.out; omega)] at this
        obtain rfl : true = r := by rw [← HZ.out, ht]
        clear ht
        go_wp2
        go_ret
        exact ⟨rfl, rfl⟩
  · obtain rfl : n = 0 := by omega
    obtain rfl : l = [] := List.eq_nil_of_length_eq_zero hl
    obtain rfl : true = r := by rw [← hz]; rfl
    clear hl hz hr
    go_enter Try.func12, Try.ntmps12
    go_wp2
    refine wp_loop_rounds 1 ?_
    rw [rounds_succ]
    go_wp2
    go_ret
    exact ⟨rfl, rfl⟩

set_option maxHeartbeats 400000 in
theorem refZero_any (A : Option Addr) (n c : Nat) (l : List UInt8) (w : World) (h : Bytes8 w A n c l) (r : Bool) (hz : zeroB l = r) :
    Calls Try.prog 13 #[.slice A n c] w fun e w' => e = .returned (.bool r) ∧ w = w' := by
  obtain ⟨hl, hcap, hmost, hr⟩ := h
  have HL := Lib.hid hl
  have HZ := Lib.hid hz
  have hn : n ≤ 9223372036854775807 := by omega
  by_cases hp : 0 < n
  · obtain ⟨b, off, rfl, hb, hcell⟩ := hr.lit (by rw [u8s_length]; omega)
    have HC := Lib.hid hcell
    clear hl hz hr hcell
    go_enter Try.func13, Try.ntmps13
    go_wp2
    go_loop [3] (fun i => ∃ k : Nat, k ≤ n ∧ i = .int .i64 k ∧ Hid (zeroB (l.take k) = true)) (fun i => n - (intOf i).toNat)
    case atStart => exact ⟨0, by omega, rfl, rfl⟩
    case round =>
      obtain ⟨k, hk, rfl, hzk⟩ := hrel
      by_cases hlt : k < n
      · have hkl : k < l.length := by have := HL.out; omega
        have hc := HC.out k _ (u8s_at l k hkl)
        by_cases h0 : l[k] = 0
        · have hz1 : Hid (zeroB (l.take (k + 1)) = true) := by
            rw [zeroB_take hzk.out hkl, h0]; rfl
          have hc0 : w.cell? ⟨b, off + k, none⟩ = some (.int .u8 0) := by rw [hc, h0]; rfl
          clear hc h0
          go_wp2
          go_round
          case rel => exact ⟨k + 1, by omega, by go_num, hz1⟩
          case measure => simp [intOf]; omega
        · have hf : zeroB l = false := zeroB_false hkl h0
          obtain rfl : false = r := by rw [← HZ.out, hf]
          have hne : ((l[k].toNat : Int) != 0) = true := by
            rw [bne_iff_ne]
            intro he
            exact h0 (UInt8.toNat_inj.1 (by simpa using he))
          generalize l[k].toNat = v at *
          clear h0 hf
          go_wp2
          go_ret
          exact ⟨rfl, rfl⟩
      · have ht : zeroB l = true := by
          have := hzk.out
          rwa [List.take_of_length_le (by have := HL.out; omega)] at this
        obtain rfl : true = r := by rw [← HZ.out, ht]
        clear ht
        go_wp2
        go_ret
        exact ⟨rfl, rfl⟩
  · obtain rfl : n = 0 := by omega
    obtain rfl : l = [] := List.eq_nil_of_length_eq_zero hl
    obtain rfl : true = r := by rw [← hz]; rfl
    clear hl hz hr
    go_enter Try.func13, Try.ntmps13
    go_wp2
    refine wp_loop_rounds 1 ?_
    rw [rounds_succ]
    go_wp2
    go_ret
    exact ⟨rfl, rfl⟩

end Go.Proofs.Ytbflfnaiihbjoaa
