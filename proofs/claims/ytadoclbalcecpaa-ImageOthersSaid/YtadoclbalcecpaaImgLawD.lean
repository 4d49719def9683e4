/-
  The walk of ImageOthers.
-/
import Derived.Test.YtadoclbalcecpaaImgD
namespace Go.Proofs.Ytadoclbalcecpaa
open Go.RowKit
set_option linter.unusedVariables false
set_option linter.unusedSimpArgs false

/-- the block j of the bytes that came in, as a slice of them reads as a string -/
theorem text_part {w : World} {b off n c : Nat} {l : List UInt8} (h : Bytes8 w (some ⟨b, off, none⟩) n c l) (j : Nat) (hj : j * 256 + 256 ≤ n) (A : Addr) (m d : Nat) (hA : A = ⟨b, off + j * 256, none⟩) (hm : m = 256) (hd : 256 ≤ d ∧ d ≤ c) :
    (convert 22 9 (.slice (some A) m d)).run Try.prog w = .ok (.string ⟨(blk l j).toArray⟩) w := by
  subst hA hm
  refine run_text ⟨?_, hd.1, Nat.le_trans hd.2 h.most, ?_⟩
  · have := h.len
    simp only [blk, List.length_take, List.length_drop]; omega
  · have := (h.row.drop (j * 256)).take 256
    rw [u8s_drop, u8s_take] at this
    simpa [Addr.add_lit, blk] using this

set_option maxRecDepth 100000 in
set_option maxHeartbeats 1600000 in
theorem others_big (A A2 : Option Addr) (n c m c2 : Nat) (k : Int) (w : World) (hn : n ≤ 9223372036854775807) (hm : m ≤ 9223372036854775807) (h : 6000 < n ∨ 600 < m) :
    Calls Try.prog 6 #[.slice A n c, .int .i64 k, .slice A2 m c2] w fun e w' => e = .returned (.bool true) ∧ Below w.heap.size w w' := by
  by_cases h1 : 6000 < n
  · clear h
    go_enter Try.func6, Try.ntmps6
    go_wp2_with (go_at_call 9; refine (lives_any _).mono ?_; rintro e w4 ⟨rfl, hb4⟩)
    go_ret
    exact ⟨rfl, hb4⟩
  · have h2 : 600 < m := by omega
    clear h
    go_enter Try.func6, Try.ntmps6
    go_wp2_with (go_at_call 9; refine (lives_any _).mono ?_; rintro e w4 ⟨rfl, hb4⟩)
    go_ret
    exact ⟨rfl, hb4⟩

set_option maxRecDepth 100000 in
set_option maxHeartbeats 1600000 in
theorem others_kept (b off n c m c2 q : Nat) (A2 : Option Addr) (k : Int) (l : List UInt8) (w : World) (h : Bytes8 w (some ⟨b, off, none⟩) n c l) (hb : b < w.heap.size) (hn : n ≤ 6000) (hm : m ≤ 600) (hq : q = n / 256)
    (x : Int) (hx : x ≠ 0) (hW : ∀ W B p g, Img W B p g (l.take (q * 256)) → Calls Try.prog 12 #[.pointer (some ⟨p, 0, none⟩), .int .i64 k, .slice A2 m c2] W fun e w' => e = .returned (.int .i64 x) ∧ W = w')
    (hk : k < 0 ∨ (0 ≤ k ∧ (q : Int) ≤ k) ∨ (0 ≤ k ∧ k < (q : Int) ∧ m ≠ 256)) :
    Calls Try.prog 6 #[.slice (some ⟨b, off, none⟩) n c, .int .i64 k, .slice A2 m c2] w fun e w' => e = .returned (.bool true) ∧ Below w.heap.size w w' := by
  have hlen := h.len
  have hL : (l.take (q * 256)).length = q * 256 := by rw [List.length_take]; omega
  have F : Hid (Calls Try.prog 10 #[.slice (some ⟨b, off, none⟩) n c] w fun e w' => ∃ p g, e = .returned (.pointer (some ⟨p, 0, none⟩)) ∧ Img w' w.heap.size p g (l.take (q * 256)) ∧ Below w.heap.size w w') := by
    have := Of_any _ n c l w h
    rwa [whole_small hn, ← hq] at this
  have HW := Lib.hid hW
  have hcap := h.cap
  have hmost := h.most
  have K : Hid (∀ W B p g, Img W B p g (l.take (q * 256)) → Calls Try.prog 16 #[.pointer (some ⟨p, 0, none⟩)] W fun e w' => e = .returned (.int .i64 (q : Int)) ∧ W = w') := fun W B p g hi => Blocks_img W hi hL
  have R : Hid (∀ W B p g (j : Nat), j < q → Img W B p g (l.take (q * 256)) → Calls Try.prog 14 #[.pointer (some ⟨p, 0, none⟩), .int .i64 (j : Int)] W fun e w' => ∃ A, e = .returned (.tuple #[.slice A 256 256, .int .i64 0]) ∧ Bytes8 w' A 256 256 (blk l j) ∧ Below W.heap.size W w') := fun W B p g j hj hi => by
    have := Read_img j W hi hL hj
    rwa [blk_take hj] at this
  have T : Hid (∀ W (j : Nat) (A : Addr) (m d : Nat), Below w.heap.size w W → j < q → A = ⟨b, off + j * 256, none⟩ → m = 256 → (256 ≤ d ∧ d ≤ c) → (convert 22 9 (.slice (some A) m d)).run Try.prog W = .ok (.string ⟨(blk l j).toArray⟩) W) := fun W j A m d hbl hj hA hm hd => text_part (h.below hbl) j (by omega) A m d hA hm hd
  have hq2 : (n : Int) / 256 = (q : Int) := by omega
  have hx1 : (x == 0) = false := by simpa using hx
  have hqa : q * 256 ≤ n := by omega
  have hqb : n < q * 256 + 256 := by omega
  clear h hW hlen hL hx hq
  rcases hk with hk | ⟨hk, hk2⟩ | ⟨hk, hk2, hk3⟩
  · go_enter Try.func6, Try.ntmps6
    go_wp2_with (first
      | (go_at_call 10; refine (F.out).mono ?_; rintro e w1 ⟨p, g, rfl, hI, hb1⟩; have HI := Lib.hid hI; clear hI)
      | (go_at_call 12; (with_reducible refine (HW.out _ _ p g HI.out).mono ?_); rintro e w' ⟨rfl, rfl⟩)
      | (go_at_call 16; (with_reducible refine (K.out _ _ p g HI.out).mono ?_); rintro e w' ⟨rfl, rfl⟩))
    go_loopw [9] (fun i wr => ∃ j : Nat, j ≤ q ∧ i = .int .i64 j ∧ Below w.heap.size w wr ∧ Hid (Img wr w.heap.size p g (l.take (q * 256)))) (fun i _ => q - (intOf i).toNat)
    case atStart => exact ⟨0, by omega, rfl, hb1, HI⟩
    case round =>
      obtain ⟨j, hj, rfl, hbel, HJ⟩ := hrel
      by_cases hlt : j < q
      · have hjn : j * 256 + 256 ≤ n := by omega
        go_wp2_with (first
          | (go_at_call 14; (with_reducible refine (R.out _ _ p g j hlt HJ.out).mono ?_); rintro e w2 ⟨A', rfl, hB2, hb2⟩; have cv := run_text hB2; have hb3 := hbel.trans (hb2.mono hbel.size); have ct := T.out w2 j ⟨b, off + 256 * j, none⟩ 256 (c - 256 * j) hb3 hlt (by rw [Nat.mul_comm]) rfl (by omega)))
        go_roundw
        case rel => exact ⟨j + 1, by omega, by go_num, hb3, Lib.hid (HJ.out.later hb2)⟩
        case measure => simp [intOf]; omega
      · obtain rfl : j = q := by omega
        go_wp2_with (go_at_call 9; refine (lives_any _).mono ?_; rintro e w4 ⟨rfl, hb4⟩)
        go_ret
        exact ⟨rfl, hbel.trans (hb4.mono hbel.size)⟩
  · go_enter Try.func6, Try.ntmps6
    go_wp2_with (first
      | (go_at_call 10; refine (F.out).mono ?_; rintro e w1 ⟨p, g, rfl, hI, hb1⟩; have HI := Lib.hid hI; clear hI)
      | (go_at_call 12; (with_reducible refine (HW.out _ _ p g HI.out).mono ?_); rintro e w' ⟨rfl, rfl⟩)
      | (go_at_call 16; (with_reducible refine (K.out _ _ p g HI.out).mono ?_); rintro e w' ⟨rfl, rfl⟩))
    go_loopw [9] (fun i wr => ∃ j : Nat, j ≤ q ∧ i = .int .i64 j ∧ Below w.heap.size w wr ∧ Hid (Img wr w.heap.size p g (l.take (q * 256)))) (fun i _ => q - (intOf i).toNat)
    case atStart => exact ⟨0, by omega, rfl, hb1, HI⟩
    case round =>
      obtain ⟨j, hj, rfl, hbel, HJ⟩ := hrel
      by_cases hlt : j < q
      · have hjn : j * 256 + 256 ≤ n := by omega
        go_wp2_with (first
          | (go_at_call 14; (with_reducible refine (R.out _ _ p g j hlt HJ.out).mono ?_); rintro e w2 ⟨A', rfl, hB2, hb2⟩; have cv := run_text hB2; have hb3 := hbel.trans (hb2.mono hbel.size); have ct := T.out w2 j ⟨b, off + 256 * j, none⟩ 256 (c - 256 * j) hb3 hlt (by rw [Nat.mul_comm]) rfl (by omega)))
        go_roundw
        case rel => exact ⟨j + 1, by omega, by go_num, hb3, Lib.hid (HJ.out.later hb2)⟩
        case measure => simp [intOf]; omega
      · obtain rfl : j = q := by omega
        go_wp2_with (go_at_call 9; refine (lives_any _).mono ?_; rintro e w4 ⟨rfl, hb4⟩)
        go_ret
        exact ⟨rfl, hbel.trans (hb4.mono hbel.size)⟩
  · have hk4 : ((m : Int) == 256) = false := by simp; omega
    clear hk3
    go_enter Try.func6, Try.ntmps6
    go_wp2_with (first
      | (go_at_call 10; refine (F.out).mono ?_; rintro e w1 ⟨p, g, rfl, hI, hb1⟩; have HI := Lib.hid hI; clear hI)
      | (go_at_call 12; (with_reducible refine (HW.out _ _ p g HI.out).mono ?_); rintro e w' ⟨rfl, rfl⟩)
      | (go_at_call 16; (with_reducible refine (K.out _ _ p g HI.out).mono ?_); rintro e w' ⟨rfl, rfl⟩))
    go_loopw [9] (fun i wr => ∃ j : Nat, j ≤ q ∧ i = .int .i64 j ∧ Below w.heap.size w wr ∧ Hid (Img wr w.heap.size p g (l.take (q * 256)))) (fun i _ => q - (intOf i).toNat)
    case atStart => exact ⟨0, by omega, rfl, hb1, HI⟩
    case round =>
      obtain ⟨j, hj, rfl, hbel, HJ⟩ := hrel
      by_cases hlt : j < q
      · have hjn : j * 256 + 256 ≤ n := by omega
        go_wp2_with (first
          | (go_at_call 14; (with_reducible refine (R.out _ _ p g j hlt HJ.out).mono ?_); rintro e w2 ⟨A', rfl, hB2, hb2⟩; have cv := run_text hB2; have hb3 := hbel.trans (hb2.mono hbel.size); have ct := T.out w2 j ⟨b, off + 256 * j, none⟩ 256 (c - 256 * j) hb3 hlt (by rw [Nat.mul_comm]) rfl (by omega)))
        go_roundw
        case rel => exact ⟨j + 1, by omega, by go_num, hb3, Lib.hid (HJ.out.later hb2)⟩
        case measure => simp [intOf]; omega
      · obtain rfl : j = q := by omega
        go_wp2_with (go_at_call 9; refine (lives_any _).mono ?_; rintro e w4 ⟨rfl, hb4⟩)
        go_ret
        exact ⟨rfl, hbel.trans (hb4.mono hbel.size)⟩

set_option maxRecDepth 100000 in
set_option maxHeartbeats 1600000 in
theorem others_put (b off n c c2 q kk : Nat) (A2 : Option Addr) (l lc : List UInt8) (w : World) (h : Bytes8 w (some ⟨b, off, none⟩) n c l) (hb : b < w.heap.size) (hc : Bytes8 w A2 256 c2 lc) (hn : n ≤ 6000) (hq : q = n / 256) (hkq : kk < q) :
    Calls Try.prog 6 #[.slice (some ⟨b, off, none⟩) n c, .int .i64 (kk : Int), .slice A2 256 c2] w fun e w' => e = .returned (.bool true) ∧ Below w.heap.size w w' := by
  have hlen := h.len
  have hL : (l.take (q * 256)).length = q * 256 := by rw [List.length_take]; omega
  have F : Hid (Calls Try.prog 10 #[.slice (some ⟨b, off, none⟩) n c] w fun e w' => ∃ p g, e = .returned (.pointer (some ⟨p, 0, none⟩)) ∧ Img w' w.heap.size p g (l.take (q * 256)) ∧ Below w.heap.size w w') := by
    have := Of_any _ n c l w h
    rwa [whole_small hn, ← hq] at this
  obtain ⟨L2, hL2⟩ : ∃ L2, L2 = splice (l.take (q * 256)) (kk * 256) lc := ⟨_, rfl⟩
  have hcl := hc.len
  have hL2n : L2.length = q * 256 := by rw [hL2, length_splice _ _ _ (by omega), hL]
  have HW : Hid (∀ W p g, Below w.heap.size w W → Img W w.heap.size p g (l.take (q * 256)) → Calls Try.prog 12 #[.pointer (some ⟨p, 0, none⟩), .int .i64 (kk : Int), .slice A2 256 c2] W fun e w' => e = .returned (.int .i64 0) ∧ Below w.heap.size w w' ∧ Img w' w.heap.size p g L2) := fun W p g hbl hi => (Write_img kk A2 c2 W hi hL hkq (hc.below hbl)).mono fun e w' ⟨h1, h2, h3⟩ => ⟨h1, hbl.trans (h2.below hi.bg), by rw [hL2]; exact h3⟩
  have hcap := h.cap
  have hmost := h.most
  have K : Hid (∀ W B p g, Img W B p g L2 → Calls Try.prog 16 #[.pointer (some ⟨p, 0, none⟩)] W fun e w' => e = .returned (.int .i64 (q : Int)) ∧ W = w') := fun W B p g hi => Blocks_img W hi hL2n
  have R : Hid (∀ W B p g (j : Nat), j < q → Img W B p g L2 → Calls Try.prog 14 #[.pointer (some ⟨p, 0, none⟩), .int .i64 (j : Int)] W fun e w' => ∃ A, e = .returned (.tuple #[.slice A 256 256, .int .i64 0]) ∧ Bytes8 w' A 256 256 (if j = kk then lc else blk l j) ∧ Below W.heap.size W w') := fun W B p g j hj hi => by
    have := Read_img j W hi hL2n hj
    rwa [hL2, blk_splice hL hcl hkq hj, blk_take hj] at this
  have T : Hid (∀ W (j : Nat) (A : Addr) (m d : Nat), Below w.heap.size w W → j < q → A = ⟨b, off + j * 256, none⟩ → m = 256 → (256 ≤ d ∧ d ≤ c) → (convert 22 9 (.slice (some A) m d)).run Try.prog W = .ok (.string ⟨(blk l j).toArray⟩) W) := fun W j A m d hbl hj hA hm hd => text_part (h.below hbl) j (by omega) A m d hA hm hd
  have T2 : Hid (∀ W, Below w.heap.size w W → (convert 22 9 (.slice A2 256 c2)).run Try.prog W = .ok (.string ⟨lc.toArray⟩) W) := fun W hbl => run_text (hc.below hbl)
  have hq2 : (n : Int) / 256 = (q : Int) := by omega
  have hqa : q * 256 ≤ n := by omega
  have hqb : n < q * 256 + 256 := by omega
  clear h hlen hL hq hc hL2 hcl hL2n
  go_enter Try.func6, Try.ntmps6
  go_wp2_with (first
    | (go_at_call 10; refine (F.out).mono ?_; rintro e w1 ⟨p, g, rfl, hI, hb1⟩)
    | (go_at_call 12; (with_reducible refine (HW.out _ p g hb1 hI).mono ?_); rintro e w2 ⟨rfl, hb2, hI2⟩; have HI := Lib.hid hI2; clear hI hI2 hb1)
    | (go_at_call 16; (with_reducible refine (K.out _ _ p g HI.out).mono ?_); rintro e w' ⟨rfl, rfl⟩))
  go_loopw [9] (fun i wr => ∃ j : Nat, j ≤ q ∧ i = .int .i64 j ∧ Below w.heap.size w wr ∧ Hid (Img wr w.heap.size p g L2)) (fun i _ => q - (intOf i).toNat)
  case atStart => exact ⟨0, by omega, rfl, hb2, HI⟩
  case round =>
    obtain ⟨j, hj, rfl, hbel, HJ⟩ := hrel
    by_cases hlt : j < q
    · have hjn : j * 256 + 256 ≤ n := by omega
      by_cases hjk : j = kk
      · subst hjk
        go_wp2_with (first
          | (go_at_call 14; (with_reducible refine (R.out _ _ p g j hlt HJ.out).mono ?_); rintro e w2 ⟨A', rfl, hB2, hb2⟩; rw [if_pos rfl] at hB2; have cv := run_text hB2; have hb3 := hbel.trans (hb2.mono hbel.size); have ct := T.out w2 j ⟨b, off + 256 * j, none⟩ 256 (c - 256 * j) hb3 hlt (by rw [Nat.mul_comm]) rfl (by omega); have ct2 := T2.out w2 hb3))
        go_roundw
        case rel => exact ⟨j + 1, by omega, by go_num, hb3, Lib.hid (HJ.out.later hb2)⟩
        case measure => simp [intOf]; omega
      · have hjk2 : ((j : Int) == (kk : Int)) = false := by simp; omega
        go_wp2_with (first
          | (go_at_call 14; (with_reducible refine (R.out _ _ p g j hlt HJ.out).mono ?_); rintro e w2 ⟨A', rfl, hB2, hb2⟩; rw [if_neg hjk] at hB2; have cv := run_text hB2; have hb3 := hbel.trans (hb2.mono hbel.size); have ct := T.out w2 j ⟨b, off + 256 * j, none⟩ 256 (c - 256 * j) hb3 hlt (by rw [Nat.mul_comm]) rfl (by omega)))
        go_roundw
        case rel => exact ⟨j + 1, by omega, by go_num, hb3, Lib.hid (HJ.out.later hb2)⟩
        case measure => simp [intOf]; omega
    · obtain rfl : j = q := by omega
      go_wp2_with (go_at_call 9; refine (lives_any _).mono ?_; rintro e w4 ⟨rfl, hb4⟩)
      go_ret
      exact ⟨rfl, hbel.trans (hb4.mono hbel.size)⟩

set_option maxRecDepth 100000 in
set_option maxHeartbeats 1600000 in
theorem others_zero (c m c2 : Nat) (A A2 : Option Addr) (k : Int) (w : World) (h : Bytes8 w A 0 c []) (hm : m ≤ 600) :
    Calls Try.prog 6 #[.slice A 0 c, .int .i64 k, .slice A2 m c2] w fun e w' => e = .returned (.bool true) ∧ Below w.heap.size w w' := by
  have F : Hid (Calls Try.prog 10 #[.slice A 0 c] w fun e w' => ∃ p g, e = .returned (.pointer (some ⟨p, 0, none⟩)) ∧ Img w' w.heap.size p g [] ∧ Below w.heap.size w w') := by
    have := Of_any _ 0 c [] w h
    show Calls _ _ _ _ _
    simpa using this
  have K : Hid (∀ W B p g, Img W B p g [] → Calls Try.prog 16 #[.pointer (some ⟨p, 0, none⟩)] W fun e w' => e = .returned (.int .i64 0) ∧ W = w') := fun W B p g hi => Blocks_img (n := 0) W hi rfl
  have HW : Hid (∀ W B p g, Img W B p g [] → Calls Try.prog 12 #[.pointer (some ⟨p, 0, none⟩), .int .i64 k, .slice A2 m c2] W fun e w' => e = .returned (.int .i64 3) ∧ W = w') := fun W B p g hi => Write_bad p k 0 A2 m c2 W (Blocks_img (n := 0) W hi rfl) (by omega)
  clear h
  by_cases hk : k < 0
  · go_enter Try.func6, Try.ntmps6
    go_wp2_with (first
      | (go_at_call 10; refine (F.out).mono ?_; rintro e w1 ⟨p, g, rfl, hI, hb1⟩; have HI := Lib.hid hI; clear hI)
      | (go_at_call 12; (with_reducible refine (HW.out _ _ p g HI.out).mono ?_); rintro e w' ⟨rfl, rfl⟩)
      | (go_at_call 16; (with_reducible refine (K.out _ _ p g HI.out).mono ?_); rintro e w' ⟨rfl, rfl⟩))
    refine wp_loop_rounds 1 ?_
    rw [rounds_succ]
    go_wp2_with (go_at_call 9; refine (lives_any _).mono ?_; rintro e w4 ⟨rfl, hb4⟩)
    go_ret
    exact ⟨rfl, hb1.trans (hb4.mono hb1.size)⟩
  · have hk2 : 0 ≤ k := by omega
    clear hk
    go_enter Try.func6, Try.ntmps6
    go_wp2_with (first
      | (go_at_call 10; refine (F.out).mono ?_; rintro e w1 ⟨p, g, rfl, hI, hb1⟩; have HI := Lib.hid hI; clear hI)
      | (go_at_call 12; (with_reducible refine (HW.out _ _ p g HI.out).mono ?_); rintro e w' ⟨rfl, rfl⟩)
      | (go_at_call 16; (with_reducible refine (K.out _ _ p g HI.out).mono ?_); rintro e w' ⟨rfl, rfl⟩))
    refine wp_loop_rounds 1 ?_
    rw [rounds_succ]
    go_wp2_with (go_at_call 9; refine (lives_any _).mono ?_; rintro e w4 ⟨rfl, hb4⟩)
    go_ret
    exact ⟨rfl, hb1.trans (hb4.mono hb1.size)⟩

theorem others_walk (A : Option Addr) (n c : Nat) (l : List UInt8) (k : Int) (A2 : Option Addr) (m c2 : Nat) (lc : List UInt8) (w : World) (h : Bytes8 w A n c l) (hk : -9223372036854775808 ≤ k ∧ k ≤ 9223372036854775807) (hc : Bytes8 w A2 m c2 lc) :
    Calls Try.prog 6 #[.slice A n c, .int .i64 k, .slice A2 m c2] w fun e w' => e = .returned (.bool true) ∧ Below w.heap.size w w' := by
  by_cases hbig : 6000 < n ∨ 600 < m
  · exact others_big A A2 n c m c2 k w h.le hc.le hbig
  · have hn : n ≤ 6000 := by omega
    have hm : m ≤ 600 := by omega
    by_cases hp : 0 < n
    · obtain ⟨b, off, rfl, hb, _⟩ := h.row.lit (by rw [u8s_length, h.len]; exact hp)
      have hlen := h.len
      have hL : (l.take (n / 256 * 256)).length = n / 256 * 256 := by rw [List.length_take]; omega
      by_cases hk0 : k < 0
      · exact others_kept b off n c m c2 _ A2 k l w h hb hn hm rfl 3 (by decide) (fun W B p g hi => Write_bad p k (n / 256) A2 m c2 W (Blocks_img W hi hL) (by omega)) (by omega)
      · obtain ⟨kk, rfl⟩ := Int.eq_ofNat_of_zero_le (show 0 ≤ k by omega)
        by_cases hkq : kk < n / 256
        · by_cases hm2 : m = 256
          · subst hm2
            exact others_put b off n c c2 _ kk A2 l lc w h hb hc hn rfl hkq
          · exact others_kept b off n c m c2 _ A2 kk l w h hb hn hm rfl 1 (by decide) (fun W B p g hi => Write_size kk A2 m c2 W hi hL hkq hm2) (by omega)
        · exact others_kept b off n c m c2 _ A2 kk l w h hb hn hm rfl 3 (by decide) (fun W B p g hi => Write_bad p kk (n / 256) A2 m c2 W (Blocks_img W hi hL) (by omega)) (by omega)
    · obtain rfl : n = 0 := by omega
      obtain rfl : l = [] := List.eq_nil_of_length_eq_zero h.len
      exact others_zero c m c2 A A2 k w h hm

end Go.Proofs.Ytadoclbalcecpaa
