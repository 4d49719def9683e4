/-
  The walk of CodeBack.
-/
import Derived.Test.YtbflfnaiihbjoaaCodeI
import Derived.Test.YtbflfnaiihbjoaaCodeK
import Derived.Deep.QuietTactic
import Derived.BigQuiet
namespace Go.Proofs.Ytbflfnaiihbjoaa
open Go.RowKit
set_option linter.unusedVariables false
set_option linter.unusedSimpArgs false

theorem leN_encN (k n : Nat) (h : n < 256 ^ k) : leN (encN k n) = n := by
  induction k generalizing n with
  | zero => simp at h; simp [encN, leN, h]
  | succ k ih =>
    have h1 : n / 256 < 256 ^ k := by
      rw [Nat.pow_succ] at h
      omega
    simp only [encN, leN, ih _ h1]
    simp
    omega

theorem putE_zero {l : List UInt8} {i wd x : Int} (h : putE l i wd x = 0) : roomE l.length i wd = 0 ∧ isW wd = true ∧ 0 ≤ i ∧ i + wd ≤ l.length ∧ fitsB x wd = true := by
  rcases roomE_cases l.length i wd with hr | hr | ⟨hr, hw, h0, h1⟩
  · simp [putE, hr] at h
  · simp [putE, hr] at h
  · refine ⟨hr, hw, h0, h1, ?_⟩
    cases hf : fitsB x wd
    · simp [putE, hr, hf] at h
    · rfl

theorem putB_length {l : List UInt8} {i wd x : Int} (h : putE l i wd x = 0) : (putB l i wd x).length = l.length := by
  obtain ⟨hr, hw, h0, h1, hf⟩ := putE_zero h
  have hb : 1 ≤ wd := by rcases isW_cases hw with h | h | h | h <;> omega
  simp only [putB, h, if_true, List.length_append, List.length_take, List.length_drop, encN_length]
  omega

theorem part_putB {l : List UInt8} {i wd x : Int} (h : putE l i wd x = 0) : part (putB l i wd x) i wd = encN wd.toNat x.toNat := by
  obtain ⟨hr, hw, h0, h1, hf⟩ := putE_zero h
  have hb : 1 ≤ wd := by rcases isW_cases hw with h | h | h | h <;> omega
  simp only [putB, h, if_true, part]
  have e1 : (l.take i.toNat).length = i.toNat := by rw [List.length_take]; omega
  rw [List.drop_append_of_le_length (by omega), List.drop_of_length_le (by omega), List.nil_append, List.take_append_of_le_length (by rw [encN_length]; omega), List.take_of_length_le (by rw [encN_length]; omega)]

theorem fits_lt {x wd : Int} (hw : isW wd = true) (hf : fitsB x wd = true) (hx : x ≤ 9223372036854775807) : x.toNat < 256 ^ wd.toNat := by
  simp only [fitsB, Bool.and_eq_true, decide_eq_true_eq, Bool.or_eq_true, beq_iff_eq] at hf
  obtain ⟨h0, hf⟩ := hf
  obtain ⟨y, rfl⟩ := Int.eq_ofNat_of_zero_le h0
  rcases isW_cases hw with rfl | rfl | rfl | rfl
  all_goals simp at hf ⊢
  all_goals omega

theorem get_put {l : List UInt8} {i wd x : Int} (h : putE l i wd x = 0) (hx : x ≤ 9223372036854775807) : getE (putB l i wd x) i wd = 0 ∧ getN (putB l i wd x) i wd = x := by
  obtain ⟨hr, hw, h0, h1, hf⟩ := putE_zero h
  have hx0 := fits_bounds hf
  have hv : leN (part (putB l i wd x) i wd) = x.toNat := by rw [part_putB h, leN_encN _ _ (fits_lt hw hf hx)]
  have e0 : getE (putB l i wd x) i wd = 0 := by
    simp only [getE, putB_length h, hr, hv]
    simp
    omega
  exact ⟨e0, by simp only [getN, e0, hv]; simp; omega⟩

theorem putB_at {l : List UInt8} {i wd x : Int} (h : putE l i wd x = 0) {j : Nat} (hj : j < l.length) (ho : (j : Int) < i ∨ wd ≤ j - i) : (putB l i wd x)[j]'(by rw [putB_length h]; exact hj) = l[j] := by
  obtain ⟨hr, hw, h0, h1, hf⟩ := putE_zero h
  have hb : 1 ≤ wd := by rcases isW_cases hw with h | h | h | h <;> omega
  have key : (putB l i wd x)[j]? = l[j]? := by
    simp only [putB, h, if_true]
    rcases ho with ho | ho
    · rw [List.getElem?_append_left (by rw [List.length_take]; omega), List.getElem?_take, if_pos (by omega)]
    · rw [List.getElem?_append_right (by rw [List.length_take]; omega), List.getElem?_append_right (by rw [List.length_take, encN_length]; omega), List.getElem?_drop, List.length_take, encN_length]
      congr 1
      omega
  have h2 : j < (putB l i wd x).length := by rw [putB_length h]; exact hj
  rw [List.getElem?_eq_getElem h2, List.getElem?_eq_getElem hj] at key
  exact Option.some.inj key

set_option maxHeartbeats 800000 in
theorem back_bad (A : Option Addr) (n c : Nat) (l : List UInt8) (i wd x : Int) (w : World) (h : Bytes8 w A n c l) (hn : n ≤ 3000)
    (hi : -9223372036854775808 ≤ i ∧ i ≤ 9223372036854775807) (hx : -9223372036854775808 ≤ x ∧ x ≤ 9223372036854775807) (he : putE l i wd x ≠ 0) :
    Calls Try.prog 5 #[.slice A n c, .int .i64 i, .int .i64 wd, .int .i64 x] w fun e w' => e = .returned (.bool true) ∧ Below w.heap.size w w' := by
  have P : Hid (∀ W, Below w.heap.size w W → Calls Try.prog 10 #[.slice A n c, .int .i64 i, .int .i64 wd, .int .i64 x] W fun e w' => ∃ A' c', e = .returned (.tuple #[.slice A' 0 c', .int .i64 (putE l i wd x)]) ∧ Below W.heap.size W w') :=
    fun W hb => (Put_any A n c l i wd x W (h.below hb) (by omega) hi hx).mono fun e w' ⟨A', m, c', h1, h2, h3⟩ => by
      have hm : m = 0 := by have := h2.len; simp [putB, he] at this; exact this.symm
      subst hm
      exact ⟨A', c', h1, h3⟩
  have hne : (putE l i wd x != 0) = true := by rw [bne_iff_ne]; exact he
  have HB := Lib.hid h
  have cv0 := run_str h
  generalize putE l i wd x = pe at *
  clear h hi hx he
  go_enter Try.func5, Try.ntmps5
  go_wp2_with (first
    | (go_at_call 10; refine (P.out _ (Below.refl _ _)).mono ?_; rintro e w1 ⟨A1, c1, rfl, hb1⟩; have cv1 := run_str (HB.out.below hb1))
    | (go_at_call 7; refine (lives_any _).mono ?_; rintro e w4 ⟨rfl, hb4⟩))
  go_ret
  exact ⟨rfl, hb1.trans (hb4.mono hb1.size)⟩

set_option maxHeartbeats 1600000 in
theorem back_good (A : Option Addr) (n c : Nat) (l : List UInt8) (i wd x : Int) (w : World) (h : Bytes8 w A n c l) (hn : n ≤ 3000)
    (hi : -9223372036854775808 ≤ i ∧ i ≤ 9223372036854775807) (hx : -9223372036854775808 ≤ x ∧ x ≤ 9223372036854775807) (he : putE l i wd x = 0) :
    Calls Try.prog 5 #[.slice A n c, .int .i64 i, .int .i64 wd, .int .i64 x] w fun e w' => e = .returned (.bool true) ∧ Below w.heap.size w w' := by
  have P : Hid (∀ W, Below w.heap.size w W → Calls Try.prog 10 #[.slice A n c, .int .i64 i, .int .i64 wd, .int .i64 x] W fun e w' => ∃ b1 off1 c', e = .returned (.tuple #[.slice (some ⟨b1, off1, none⟩) n c', .int .i64 0]) ∧ Bytes8 w' (some ⟨b1, off1, none⟩) n c' (putB l i wd x) ∧ Below W.heap.size W w') :=
    fun W hb => (Put_any A n c l i wd x W (h.below hb) (by omega) hi hx).mono fun e w' ⟨A', m, c', h1, h2, h3⟩ => by
      obtain rfl : n = m := by have h4 := h2.len; have h5 := h.len; rw [putB_length he] at h4; omega
      rw [he] at h1
      obtain ⟨hr, hw, h0, h1', hf⟩ := putE_zero he
      have hb8 : 1 ≤ wd := by rcases isW_cases hw with h | h | h | h <;> omega
      obtain ⟨b1, off1, rfl, _, _⟩ := h2.row.lit (by rw [u8s_length, putB_length he]; omega)
      exact ⟨b1, off1, c', h1, h2, h3⟩
  have G : Hid (∀ W A' c', Bytes8 W A' n c' (putB l i wd x) → Calls Try.prog 8 #[.slice A' n c', .int .i64 i, .int .i64 wd] W fun e w' => e = .returned (.tuple #[.int .i64 x, .int .i64 0]) ∧ Below W.heap.size W w') :=
    fun W A' c' hB => (Get_any A' n c' _ i wd W hB hi).mono fun e w' ⟨h1, h2⟩ => by
      obtain ⟨e1, e2⟩ := get_put he hx.2
      rw [e1, e2] at h1
      exact ⟨h1, h2⟩
  obtain ⟨hr, hw, h0, h1, hf⟩ := putE_zero he
  have hb8 : 1 ≤ wd ∧ wd ≤ 8 := by rcases isW_cases hw with h | h | h | h <;> omega
  obtain ⟨hb81, hb82⟩ := hb8
  have hlen := h.len
  have hin : i + wd ≤ n := by omega
  have hO : Hid (∀ j (hj : j < l.length), (j : Int) < i ∨ wd ≤ j - i → (putB l i wd x)[j]'(by rw [putB_length he]; exact hj) = l[j]) := fun j hj ho => putB_at he hj ho
  have hPL := Lib.hid (putB_length he)
  have HB := Lib.hid h
  have HL := Lib.hid hlen
  have cv0 := run_str h
  obtain ⟨b, off, rfl, hb, hcell⟩ := h.row.lit (by rw [u8s_length]; omega)
  have HC := Lib.hid hcell
  clear h hi hx hr hw hf h1 hlen hcell
  go_enter Try.func5, Try.ntmps5
  go_wp2_with (first
    | (go_at_call 10; refine (P.out _ (Below.refl _ _)).mono ?_; rintro e w1 ⟨b1, off1, c1, rfl, hB1, hb1⟩; have cv1 := run_str (HB.out.below hb1))
    | (go_at_call 8; refine (G.out _ _ _ hB1).mono ?_; rintro e w2 ⟨rfl, hb2⟩))
  have hw2 := hb1.trans (hb2.mono hb1.size)
  have hB2 := hB1.below hb2
  have HB2 := Lib.hid hB2
  clear cv0 cv1 hB1 hB2 P G
  go_loopw [14] (fun v wr => ∃ j : Nat, j ≤ n ∧ v = .int .i64 j ∧ Below w2.heap.size w2 wr) (fun v _ => n - (intOf v).toNat)
  case atStart => exact ⟨0, by omega, rfl, Below.refl _ _⟩
  case round =>
    obtain ⟨j, hj, rfl, hbr⟩ := hrel
    by_cases hlt : j < n
    · have hjl : j < l.length := by have := HL.out; omega
      have hjp : j < (putB l i wd x).length := by have := hPL.out; omega
      have hkc : wr.cell? ⟨b, off + j, none⟩ = some (.int .u8 (l[j].toNat : Int)) := (hbr.cell (p := ⟨b, off + j, none⟩) (by have := hw2.size; show b < _; omega)).trans ((hw2.cell (p := ⟨b, off + j, none⟩) hb).trans (HC.out j _ (u8s_at l j hjl)))
      have hk1 : wr.cell? ⟨b1, off1 + j, none⟩ = some (.int .u8 ((putB l i wd x)[j].toNat : Int)) := by
        have h3 := HB2.out.row.at_ (u8s_at _ j hjp)
        rw [Addr.add_lit] at h3
        exact (hbr.cell (cell_lt h3)).trans h3
      by_cases hc1 : (j : Int) < i
      · rw [hO.out j hjl (.inl hc1)] at hk1
        generalize l[j].toNat = v at *
        go_wp2
        go_quiet (fail)
        go_wp2
        go_roundw
        case rel => exact ⟨j + 1, by omega, by go_num, below_drewN hbr _⟩
        case measure => simp [intOf]; omega
      · have hd1 : decide ((j : Int) < i) = false := by simpa using hc1
        by_cases hc2 : wd ≤ (j : Int) - i
        · rw [hO.out j hjl (.inr hc2)] at hk1
          generalize l[j].toNat = v at *
          go_wp2
          go_quiet (fail)
          go_wp2
          go_roundw
          case rel => exact ⟨j + 1, by omega, by go_num, below_drewN hbr _⟩
          case measure => simp [intOf]; omega
        · have hd2 : decide (wd ≤ (j : Int) - i) = false := by simpa using hc2
          clear hkc hk1
          go_wp2
          go_quiet (fail)
          go_wp2
          go_roundw
          case rel => exact ⟨j + 1, by omega, by go_num, below_drewN hbr _⟩
          case measure => simp [intOf]; omega
    · go_wp2_with (go_at_call 7; refine (lives_any _).mono ?_; rintro e w4 ⟨rfl, hb4⟩)
      go_ret
      exact ⟨rfl, hw2.trans ((hbr.trans (hb4.mono hbr.size)).mono hw2.size)⟩

theorem back_walk (A : Option Addr) (n c : Nat) (l : List UInt8) (i wd x : Int) (w : World) (h : Bytes8 w A n c l)
    (hi : -9223372036854775808 ≤ i ∧ i ≤ 9223372036854775807) (_hwd : -9223372036854775808 ≤ wd ∧ wd ≤ 9223372036854775807) (hx : -9223372036854775808 ≤ x ∧ x ≤ 9223372036854775807) :
    Calls Try.prog 5 #[.slice A n c, .int .i64 i, .int .i64 wd, .int .i64 x] w fun e w' => e = .returned (.bool true) ∧ Below w.heap.size w w' := by
  have hm := h.le
  by_cases hn : 3000 < n
  · clear h hi hx
    go_enter Try.func5, Try.ntmps5
    go_wp2_with (go_at_call 7; refine (lives_any _).mono ?_; rintro e w1 ⟨rfl, hb1⟩)
    go_ret
    exact ⟨rfl, hb1⟩
  · by_cases he : putE l i wd x = 0
    · exact back_good A n c l i wd x w h (by omega) hi hx he
    · exact back_bad A n c l i wd x w h (by omega) hi hx he

end Go.Proofs.Ytbflfnaiihbjoaa
