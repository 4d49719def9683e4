/-
  The reference's Open, whatever the block, and its Which.
-/
import Derived.Test.YtldgdgkojlohfaaSealG
import Derived.Test.YtldgdgkojlohfaaSealE
import Derived.LoopTactic
namespace Go.Proofs.Ytldgdgkojlohfaa
open Go.RowKit
set_option linter.unusedVariables false
set_option linter.unusedSimpArgs false

theorem refOpen_any (A : Option Addr) (n c : Nat) (l : List UInt8) (k no : Int) (w : World) (h : Bytes8 w A n c l) :
    Calls Try.prog 13 #[.slice A n c, .int .i64 k, .int .i64 no] w fun e w' => ∃ A' m c', e = .returned (.tuple #[.slice A' m c', .int .i64 (openE l k no)]) ∧ Bytes8 w' A' m c' (openB l k no) ∧ Below w.heap.size w w' := by
  have hl := h.len
  cases hk : knownB k no with
  | false =>
    have e : openE l k no = 1 := by simp [openE, hk]
    refine (refOpen_arg A n c k no w hk).mono ?_
    rintro e' w' ⟨rfl, rfl⟩
    exact ⟨none, 0, 0, by rw [e], by rw [openB, if_neg (by rw [e]; omega)]; exact Bytes8.nil _, Below.refl _ _⟩
  | true =>
    by_cases hn : n = 256
    · subst hn
      obtain ⟨b, off, rfl, hbl, hcell⟩ := h.row.lit (by rw [u8s_length]; omega)
      have h6 := hcell 6 _ (u8s_at l 6 (by omega))
      have h7 := hcell 7 _ (u8s_at l 7 (by omega))
      have e2 := leN_two hl
      have hb6 := UInt8.toNat_lt l[6]
      have hb7 := UInt8.toNat_lt l[7]
      have hlt := sumN_lt l k
      refine (refOpen_deep b off c l k no w h hk _ _ l[6].toNat l[7].toNat _ _ (sumN l k) rfl rfl h6 h7 rfl rfl rfl (openE l k no) ?_).mono ?_
      · rw [bytes_toList, bytes_toList]
        by_cases h3 : leN (l.drop 252) = sumN l k
        · have e3 : l.drop 252 = encN 4 (sumN l k) := by
            have := encN_leN (l.drop 252)
            rw [show (l.drop 252).length = 4 by simp; omega] at this
            rw [← this, h3]
          have h3' : ¬ (leN (l.drop 252) : Int) ≠ sumN l k := by rw [h3]; simp
          refine .inr ⟨by rw [e3], ?_⟩
          by_cases h4 : (leN (l.take 4) : Int) = no
          · refine .inr ⟨h4, ?_⟩
            by_cases h5 : (leN ((l.drop 4).take 2) : Int) = k
            · refine .inr ⟨h5, ?_⟩
              by_cases g6 : l[6].toNat = 0
              · refine .inr ⟨g6, ?_⟩
                by_cases g7 : l[7].toNat = 0
                · refine .inr ⟨g7, ?_⟩
                  rw [openE, if_neg (by simp [hk]), if_neg (by omega), if_neg h3', if_neg (by omega), if_neg (by omega), if_neg (by omega)]
                · refine .inl ⟨by simp; omega, ?_⟩
                  rw [openE, if_neg (by simp [hk]), if_neg (by omega), if_neg h3', if_neg (by omega), if_neg (by omega), if_pos (by omega)]
              · refine .inl ⟨by simp; omega, ?_⟩
                rw [openE, if_neg (by simp [hk]), if_neg (by omega), if_neg h3', if_neg (by omega), if_neg (by omega), if_pos (by omega)]
            · refine .inl ⟨by simpa using h5, ?_⟩
              rw [openE, if_neg (by simp [hk]), if_neg (by omega), if_neg h3', if_neg (by omega), if_pos h5]
          · refine .inl ⟨by simpa using h4, ?_⟩
            rw [openE, if_neg (by simp [hk]), if_neg (by omega), if_neg h3', if_pos h4]
        · refine .inl ⟨?_, ?_⟩
          · refine beq_eq_false_iff_ne.2 fun e => h3 ?_
            rw [e, leN_encN _ _ (by omega)]
          · rw [openE, if_neg (by simp [hk]), if_neg (by omega), if_pos (by omega)]
      · rintro e' w' ⟨A', m, c', rfl, hB, hb⟩
        exact ⟨A', m, c', rfl, hB, hb⟩
    · have e : openE l k no = 7 := by rw [openE, if_neg (by simp [hk]), if_pos (by omega)]
      refine (refOpen_form A n c k no w hk hn).mono ?_
      rintro e' w' ⟨rfl, rfl⟩
      exact ⟨none, 0, 0, by rw [e], by rw [openB, if_neg (by rw [e]; omega)]; exact Bytes8.nil _, Below.refl _ _⟩

theorem which_len {l : List UInt8} (h : l.length ≠ 256) : whichB l = false := by
  unfold whichB whichE
  refine beq_eq_false_iff_ne.2 fun e => h (openE_zero e).2.1

/-- a kind that opens a block is the one that is stored -/
theorem which_yes {l : List UInt8} {k : Int} (hl : l.length = 256) (h : openE l k (storedN l 0 4) = 0) : whichB l = true ∧ whichK l = k ∧ whichN l = storedN l 0 4 := by
  have hk : storedN l 4 2 = k := by rw [stored_4 hl]; exact (openE_zero h).2.2.2.2.1
  have hb : whichB l = true := by unfold whichB whichE; rw [hk, h]; rfl
  exact ⟨hb, by rw [whichK, if_pos hb, hk], by rw [whichN, if_pos hb]⟩

theorem which_no {l : List UInt8} (h : ∀ m : Nat, 1 ≤ m → m < 5 → openE l m (storedN l 0 4) ≠ 0) : whichB l = false := by
  unfold whichB
  refine beq_eq_false_iff_ne.2 fun e => ?_
  have hk := knownB_iff.1 (openE_zero e).1
  obtain ⟨m, hm⟩ := Int.eq_ofNat_of_zero_le (show 0 ≤ storedN l 4 2 by omega)
  unfold whichE at e
  rw [hm] at e
  exact h m (by omega) (by omega) e

theorem which_none {l : List UInt8} (h : whichB l = false) : whichK l = 0 ∧ whichN l = 0 := by simp [whichK, whichN, h]

set_option maxHeartbeats 1600000 in
theorem refWhich_any (A : Option Addr) (n c : Nat) (l : List UInt8) (w : World) (h : Bytes8 w A n c l) :
    Calls Try.prog 15 #[.slice A n c] w fun e w' => e = .returned (.tuple #[.int .i64 (whichK l), .int .i64 (whichN l), .bool (whichB l)]) ∧ Below w.heap.size w w' := by
  have hl := h.len
  by_cases hn : n = 256
  · subst hn
    have G0 : Hid (Calls Try.prog 25 #[.slice A 256 c, .int .i64 0, .int .i64 4] w fun e w' => e = .returned (.tuple #[.int .i64 (storedN l 0 4), .int .i64 0]) ∧ w = w') := by
      have := refGet_any _ 256 c l 0 4 w h (by omega)
      have hg := get_at hl 0 4 (.inr rfl) (by omega)
      have e1 : getE l 0 4 = 0 := hg.1
      have e2 : getN l 0 4 = storedN l 0 4 := by rw [storedN, if_pos e1]
      rw [e1, e2] at this
      exact this
    have HO : Hid (∀ (m : Nat) W, Bytes8 W A 256 c l → Calls Try.prog 13 #[.slice A 256 c, .int .i64 (m : Int), .int .i64 (storedN l 0 4)] W fun e w' => ∃ A' m' c', e = .returned (.tuple #[.slice A' m' c', .int .i64 (openE l m (storedN l 0 4))]) ∧ Below W.heap.size W w') :=
      fun m W hW => (refOpen_any A 256 c l _ _ W hW).mono fun e w' ⟨A', m', c', h1, _, h3⟩ => ⟨A', m', c', h1, h3⟩
    have HB := Lib.hid h
    have HW := Lib.hid (fun k => which_yes (l := l) (k := k) hl)
    have HN := Lib.hid (which_no (l := l))
    generalize storedN l 0 4 = N at *
    clear h hl
    go_enter Try.func15, Try.ntmps15
    go_wp2_with (go_at_call 25; refine (G0.out).mono ?_; rintro e w' ⟨rfl, rfl⟩)
    go_loopw [7] (fun i wr => ∃ j : Nat, 1 ≤ j ∧ j ≤ 5 ∧ i = .int .i64 j ∧ Hid (Bytes8 wr A 256 c l) ∧ Below w.heap.size w wr ∧ Hid (∀ m : Nat, 1 ≤ m → m < j → openE l m N ≠ 0)) (fun i _ => 6 - (intOf i).toNat)
    case atStart => exact ⟨1, by omega, by omega, rfl, HB, Below.refl _ _, fun m h1 h2 => by omega⟩
    case round =>
      clear HB
      obtain ⟨j, hj1, hj2, rfl, HB, hbel, HJ⟩ := hrel
      by_cases hlt : j ≤ 4
      · have O := Lib.hid (HO.out j)
        have HX := Lib.hid (fun h0 : openE l j N ≠ 0 => show ∀ m : Nat, 1 ≤ m → m < j + 1 → openE l m N ≠ 0 from fun m h1 h2 => by
          by_cases e : m = j
          · subst e; exact h0
          · exact HJ.out m h1 (by omega))
        have HY := Lib.hid (HW.out (j : Int))
        generalize openE l (j : Int) N = x at *
        by_cases hx : x = 0
        · subst hx
          have HY2 := Lib.hid (HY.out rfl)
          clear HX HY
          go_wp2_with (go_at_call 13; (with_reducible refine (O.out _ HB.out).mono ?_); rintro e w3 ⟨A3, m3, c3, rfl, hb3⟩)
          go_ret3
          obtain ⟨y1, y2, y3⟩ := HY2.out
          exact ⟨by rw [y1, y2, y3]; rfl, hbel.trans (hb3.mono hbel.size)⟩
        · have q : (x == 0) = false := by simpa using hx
          have HX2 := Lib.hid (HX.out hx)
          clear HX HY hx
          go_wp2_with (go_at_call 13; (with_reducible refine (O.out _ HB.out).mono ?_); rintro e w3 ⟨A3, m3, c3, rfl, hb3⟩)
          go_roundw
          case rel => exact ⟨j + 1, by omega, by omega, by go_num, Lib.hid (HB.out.below hb3), hbel.trans (hb3.mono hbel.size), HX2⟩
          case measure => simp [intOf]; omega
      · obtain rfl : j = 5 := by omega
        have hb := HN.out HJ.out
        obtain ⟨e1, e2⟩ := which_none hb
        have E := Lib.hid (And.intro hb (And.intro e1 e2))
        clear hb e1 e2
        go_wp2
        go_ret3
        obtain ⟨y1, y2, y3⟩ := E.out
        exact ⟨by rw [y1, y2, y3]; rfl, hbel⟩
  · have hb := which_len (l := l) (by omega)
    obtain ⟨e1, e2⟩ := which_none hb
    have E := Lib.hid (And.intro hb (And.intro e1 e2))
    have q : ((n : Int) != 256) = true := by simp; omega
    clear hb e1 e2 hn h hl
    go_enter Try.func15, Try.ntmps15
    go_wp2
    go_ret3
    obtain ⟨y1, y2, y3⟩ := E.out
    exact ⟨by rw [y1, y2, y3]; rfl, Below.refl _ _⟩

end Go.Proofs.Ytldgdgkojlohfaa
