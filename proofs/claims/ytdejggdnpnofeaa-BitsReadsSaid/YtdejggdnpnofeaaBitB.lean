/-
  Layer 9: Put.
-/
import Derived.Test.YtdejggdnpnofeaaBitA
import Derived.Test.YtdejggdnpnofeaaMemL
import Derived.Test.YtdejggdnpnofeaaCodeF
namespace Go.Proofs.Ytdejggdnpnofeaa
open Go.RowKit
set_option linter.unusedVariables false
set_option linter.unusedSimpArgs false

/-- the bytes after k of them have been made -/
def bitsP (l : List Int) (k : Nat) : List UInt8 := encN 4 l.length ++ (((List.range k).map fun j => UInt8.ofNat (fourB l j)) ++ List.replicate (240 - k) 0)
theorem bitsP_length (l : List Int) {k : Nat} (hk : k ≤ 240) : (bitsP l k).length = 244 := by simp [bitsP, encN_length]; omega
theorem bitsP_all (l : List Int) : bitsP l 240 = encBits l := by simp [bitsP, encBits]
theorem bitsP_zero (l : List Int) : bitsP l 0 = encN 4 l.length ++ List.replicate 240 0 := by simp [bitsP]
theorem bitsP_step (l : List Int) {k : Nat} (hk : k < 240) : (bitsP l k).set (4 + k) (UInt8.ofNat (fourB l k)) = bitsP l (k + 1) := by
  have e1 : 240 - k = (240 - (k + 1)) + 1 := by omega
  rw [bitsP, List.set_append_right _ _ (by rw [encN_length]; omega), encN_length, show 4 + k - 4 = k by omega, List.set_append_right _ _ (by simp), bitsP, List.range_succ, List.map_append, e1, List.replicate_succ]
  simp

set_option maxHeartbeats 400000 in
theorem BPut_bad (A : Option Addr) (n c : Nat) (l : List Int) (w : World) (h : Ints w A n c l) (hr : okB9 l = false) :
    Calls Try.prog 7 #[.slice A n c] w fun e w' => e = .returned (.tuple #[.slice none 0 0, .int .i64 1]) ∧ w = w' := by
  have R := Lib.hid (right_any9 A n c l w h false hr)
  clear h hr
  go_enter Try.func7, Try.ntmps7
  go_wp2_with (go_at_call 14; (with_reducible refine (R.out).mono ?_); rintro e w' ⟨rfl, rfl⟩)
  go_ret2
  exact ⟨rfl, rfl⟩

set_option maxRecDepth 100000 in
set_option maxHeartbeats 800000 in
theorem BPut_good (A : Option Addr) (n c : Nat) (l : List Int) (w : World) (h : Ints w A n c l) (hr : okB9 l = true) :
    Calls Try.prog 7 #[.slice A n c] w fun e w' => ∃ g, e = .returned (.tuple #[.slice (some ⟨g, 0, none⟩) 244 244, .int .i64 0]) ∧ Own8 w' w.heap.size g (encBits l) ∧ Below w.heap.size w w' := by
  have R := Lib.hid (right_any9 A n c l w h true hr)
  have hl := h.len
  have h9 := (okB9_iff.1 hr).1
  rw [hl] at h9
  obtain ⟨i0, hi0, hz0, hz1, hz2⟩ := info_parts info_u8
  have C : Hid (∀ w1 : World, ∀ g0, Own8 w1 w.heap.size g0 (List.replicate 244 0) → Calls Try.prog 15 #[.slice (some ⟨g0, 0, none⟩) 244 244, .int .i64 0, .int .i64 4, .int .i64 (n : Int)] w1 fun e w' => e = .returned (.tuple #[.slice (some ⟨w1.heap.size, 0, none⟩) 244 244, .int .i64 0]) ∧ Own8 w' w1.heap.size w1.heap.size (bitsP l 0) ∧ Below w1.heap.size w1 w') := fun w1 g0 hO =>
    (Put_own _ 244 244 0 4 n _ w1 (hO.bytes (n := 244) List.length_replicate (by omega)) (by omega) (by decide) (by decide) (by decide) (by omega) (by simp [fitsB]; omega)).mono fun e w' ⟨h1, h2, h3⟩ => by
      refine ⟨h1, ?_, h3⟩
      rw [bitsP_zero, hl]
      rw [List.take_zero, List.nil_append, List.drop_replicate] at h2
      exact h2
  have J : Hid (∀ (W : World) (k : Nat), Below w.heap.size w W → k < 240 → Calls Try.prog 16 #[.slice A n c, .int .i64 (4 * (k : Int))] W fun e w' => e = .returned (.int .u8 (fourB l k : Int)) ∧ W = w') := fun W k hW hk => by
    have := join_any9 A n c l (4 * k) W (h.below hW) hr (by omega)
    rw [fourP_four] at this
    exact this
  have HF : Hid (∀ k, fourB l k < 256) := fun k => fourB_lt hr k
  have HA : Hid (bitsP l 240 = encBits l) := bitsP_all l
  clear h hr hl
  go_enter Try.func7, Try.ntmps7
  go_wp2_with (first
    | (go_at_call 14; (with_reducible refine (R.out).mono ?_); rintro e w' ⟨rfl, rfl⟩)
    | (at_make; refine wpList_make_full w rfl (.const (.int .i64 244)) (.const (.int .i64 244)) _ rfl w.heap.size 5 i0 _ 1 Try.underlying24 hi0 hz0 hz1 .i64 .i64 _ _ 244 rfl rfl rfl rfl (by rw [hz2]; omega) (by simp only [maxLen]; omega) (Nat.le_refl _) ?_; intro w1 hown1 hg1; have hb1 := below_of_grown hg1 (by simp); have HO1 := Lib.hid (own_zeros hown1 (Nat.le_refl _)); clear hown1)
    | (go_at_call 15; (with_reducible refine (C.out _ _ HO1.out).mono ?_); rintro e w2 ⟨rfl, hO2, hb2⟩; have hg2 := hb1.size))
  have hbel : Below w.heap.size w w2 := hb1.trans (hb2.mono hg1.size)
  have hgl : w.heap.size ≤ w1.heap.size := hg1.size
  have HO2 : Hid (Own8 w2 w.heap.size w1.heap.size (bitsP l 0)) := hO2.down hgl
  have HB2 := Lib.hid hbel
  clear hO2 hbel hb1 hb2 hg1 HO1 hg2
  generalize w1.heap.size = g at *
  clear hi0 hz0 hz1 hz2
  go_loopw [23] (fun i wr => ∃ k : Nat, k ≤ 240 ∧ i = .int .i64 k ∧ Hid (Own8 wr w.heap.size g (bitsP l k)) ∧ Hid (Below w.heap.size w wr)) (fun i _ => 240 - (intOf i).toNat)
  case atStart => exact ⟨0, by omega, rfl, HO2, HB2⟩
  case round =>
    clear HO2 HB2
    obtain ⟨k, hk, rfl, hO, hbel⟩ := hrel
    by_cases hlt : k < 240
    · have hbl := bitsP_length l hk
      have hc0 := hO.out.cell (j := 4 + k) (by omega)
      have hf0 := hO.out.free (4 + k)
      have hfk : fourB l k ≤ 255 := by have := HF.out k; omega
      have HS := Lib.hid (bitsP_step l hlt)
      have HT := Lib.hid (hO.out.set (4 + k) (fourB l k) (by omega))
      have hJ := Lib.hid (J.out wr k hbel.out hlt)
      generalize (bitsP l k)[4 + k] = old at *
      clear hbl
      generalize fourB l k = v at *
      go_wp2_with (go_at_call 16; (with_reducible refine (hJ.out).mono ?_); rintro e w' ⟨rfl, rfl⟩)
      go_roundw
      case rel => exact ⟨k + 1, by omega, by go_num, by have := HT.out; rw [HS.out] at this; exact this, hbel.out.setCell hgl _⟩
      case measure => simp [intOf]; omega
    · obtain rfl : k = 240 := by omega
      go_wp2
      go_ret2
      exact ⟨g, rfl, by rw [← HA.out]; exact hO.out, hbel.out⟩

theorem BPut_any (A : Option Addr) (n c : Nat) (l : List Int) (w : World) (h : Ints w A n c l) :
    Calls Try.prog 7 #[.slice A n c] w fun e w' => ∃ A' m c', e = .returned (.tuple #[.slice A' m c', .int .i64 (putBE9 l)]) ∧ Bytes8 w' A' m c' (putBB9 l) ∧ Below w.heap.size w w' := by
  cases hr : okB9 l with
  | false =>
    refine (BPut_bad A n c l w h hr).mono ?_
    rintro e w' ⟨rfl, rfl⟩
    exact ⟨none, 0, 0, by simp [putBE9, hr], by simpa [putBB9, hr] using Bytes8.nil w, Below.refl _ _⟩
  | true =>
    refine (BPut_good A n c l w h hr).mono ?_
    rintro e w' ⟨g, rfl, hO, hb⟩
    exact ⟨some ⟨g, 0, none⟩, 244, 244, by simp [putBE9, hr], by simpa [putBB9, hr] using hO.bytes (n := 244) (encBits_length l) (by omega), hb⟩

/-! ### the document's example -/
theorem bits_ex1 : okB9 [1, 2, 3, 0, 1] = true := by decide
theorem bits_ex2 : (encBits [1, 2, 3, 0, 1]).take 6 = [5, 0, 0, 0, 57, 1] := by decide +kernel

set_option maxHeartbeats 400000 in
theorem lives9_any (w : World) : Calls Try.prog 6 #[] w fun e w' => e = .returned (.bool true) ∧ Below w.heap.size w w' := by
  have P : Hid (Calls Try.prog 7 #[.slice (some ⟨w.heap.size, 0, none⟩) 5 5] (w.alloc (.cells #[.int .i64 1, .int .i64 2, .int .i64 3, .int .i64 0, .int .i64 1] 3)) fun e w' =>
      ∃ g, e = .returned (.tuple #[.slice (some ⟨g, 0, none⟩) 244 244, .int .i64 0]) ∧ (convert 24 9 (.slice (some ⟨g, 0, none⟩) 6 244)).run Try.prog w' = .ok (.string ⟨#[5, 0, 0, 0, 57, 1]⟩) w' ∧ Below w.heap.size w w') := by
    refine (BPut_good (some ⟨w.heap.size, 0, none⟩) 5 5 [1, 2, 3, 0, 1] _ ⟨rfl, Nat.le_refl _, by omega, ?_⟩ bits_ex1).mono ?_
    · exact Row.of_block (heap_alloc_new w _)
    · rintro e w' ⟨g, rfl, hO, hb⟩
      have hB := hO.bytes (n := 244) (encBits_length _) (by omega)
      have hB2 : Bytes8 w' (some ⟨g, 0, none⟩) 6 244 [5, 0, 0, 0, 57, 1] := by
        refine ⟨rfl, by omega, by omega, ?_⟩
        have := hB.row.take 6
        rw [u8s_take, bits_ex2] at this
        exact this
      exact ⟨g, rfl, run_str hB2, ((Below.refl _ _).alloc (Nat.le_refl _) _).trans (hb.mono (by simp))⟩
  go_enter Try.func6, Try.ntmps6
  go_wp2_with (go_at_call 7; (with_reducible refine (P.out).mono ?_); rintro e w1 ⟨g, rfl, cv, hb⟩)
  go_ret
  exact ⟨rfl, hb⟩

end Go.Proofs.Ytdejggdnpnofeaa
