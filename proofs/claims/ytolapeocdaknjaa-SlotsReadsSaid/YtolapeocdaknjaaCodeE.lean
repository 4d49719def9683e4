/-
  Layer 1's split: the encoding of an integer.
-/
import Derived.Test.YtolapeocdaknjaaCodeD
import Derived.Test.YtolapeocdaknjaaInfo
import Derived.OwnWalk
namespace Go.Proofs.Ytolapeocdaknjaa
open Go.RowKit
set_option linter.unusedVariables false
set_option linter.unusedSimpArgs false


/-- the encoding of n in k bytes -/
def encN : Nat → Nat → List UInt8
  | 0, _ => []
  | k + 1, n => UInt8.ofNat n :: encN k (n / 256)

theorem encN_length (k n : Nat) : (encN k n).length = k := by
  induction k generalizing n with
  | zero => rfl
  | succ k ih => simp [encN, ih]

theorem enc_cell (n : Nat) : Value.int .u8 ((UInt8.ofNat n).toNat : Int) = .int .u8 ((n : Int) % 256) := by
  simp

set_option maxHeartbeats 400000 in
theorem split1 (base : Nat) (v : Value) (m : Nat) (xs : List Value) (n : Nat) (w : World) (hown : Hid (w.ownsRow base 5 1 v m xs)) (hb : base ≤ w.heap.size) (hm : m + 8 ≤ 140737488355328) (hn : n < 9223372036854775808) :
    Calls Try.prog 25 #[v, .int .i64 n, .int .i64 1] w fun e w' => ∃ v', e = .returned v' ∧ w'.ownsRow base 5 1 v' (m + 1) (xs ++ u8s (encN 1 n)) ∧ Below base w w' := by
  go_enter Try.func25, Try.ntmps25
  go_wp2_with (at_builtin; refine wpList_append_new w rfl (.tmp 49) (.tmp 52) _ rfl base 5 _ _ 1 Try.underlying24 info_u8 rfl v m xs rfl hown hb [_] 1 1 rfl rfl (by simp [Value.oneCell']) (by omega) (by omega) ?_; intro v1 w1 hown1 hb1 hg1)
  go_ret
  refine ⟨v1, rfl, ?_, hg1⟩
  simpa [encN, u8s] using hown1.out

set_option maxHeartbeats 400000 in
theorem split2 (base : Nat) (v : Value) (m : Nat) (xs : List Value) (n : Nat) (w : World) (hown : Hid (w.ownsRow base 5 1 v m xs)) (hb : base ≤ w.heap.size) (hm : m + 8 ≤ 140737488355328) (hn : n < 9223372036854775808) :
    Calls Try.prog 25 #[v, .int .i64 n, .int .i64 2] w fun e w' => ∃ v', e = .returned v' ∧ w'.ownsRow base 5 1 v' (m + 2) (xs ++ u8s (encN 2 n)) ∧ Below base w w' := by
  go_enter Try.func25, Try.ntmps25
  go_wp2_with (first
    | (at_builtin; refine wpList_append_new w rfl (.tmp 42) (.tmp 45) _ rfl base 5 _ _ 1 Try.underlying24 info_u8 rfl v m xs rfl hown hb [_] 1 1 rfl rfl (by simp [Value.oneCell']) (by omega) (by omega) ?_; intro v1 w1 hown1 hb1 hg1)
    | (at_builtin; refine wpList_append_new w1 rfl (.tmp 49) (.tmp 52) _ rfl base 5 _ _ 1 Try.underlying24 info_u8 rfl v1 _ _ rfl hown1 hb1 [_] 1 1 rfl rfl (by simp [Value.oneCell']) (by omega) (by omega) ?_; intro v2 w2 hown2 hb2 hg2))
  go_ret
  refine ⟨v2, rfl, ?_, hg1.trans hg2⟩
  simpa [encN, u8s] using hown2.out

set_option maxHeartbeats 400000 in
theorem split4 (base : Nat) (v : Value) (m : Nat) (xs : List Value) (n : Nat) (w : World) (hown : Hid (w.ownsRow base 5 1 v m xs)) (hb : base ≤ w.heap.size) (hm : m + 8 ≤ 140737488355328) (hn : n < 9223372036854775808) :
    Calls Try.prog 25 #[v, .int .i64 n, .int .i64 4] w fun e w' => ∃ v', e = .returned v' ∧ w'.ownsRow base 5 1 v' (m + 4) (xs ++ u8s (encN 4 n)) ∧ Below base w w' := by
  go_enter Try.func25, Try.ntmps25
  go_wp2_with (first
    | (at_builtin; refine wpList_append_new w rfl (.tmp 32) (.tmp 38) _ rfl base 5 _ _ 1 Try.underlying24 info_u8 rfl v m xs rfl hown hb [_, _] 2 2 rfl rfl (by simp [Value.oneCell']) (by omega) (by omega) ?_; intro v1 w1 hown1 hb1 hg1)
    | (at_builtin; refine wpList_append_new w1 rfl (.tmp 42) (.tmp 45) _ rfl base 5 _ _ 1 Try.underlying24 info_u8 rfl v1 _ _ rfl hown1 hb1 [_] 1 1 rfl rfl (by simp [Value.oneCell']) (by omega) (by omega) ?_; intro v2 w2 hown2 hb2 hg2)
    | (at_builtin; refine wpList_append_new w2 rfl (.tmp 49) (.tmp 52) _ rfl base 5 _ _ 1 Try.underlying24 info_u8 rfl v2 _ _ rfl hown2 hb2 [_] 1 1 rfl rfl (by simp [Value.oneCell']) (by omega) (by omega) ?_; intro v3 w3 hown3 hb3 hg3))
  go_ret
  refine ⟨v3, rfl, ?_, (hg1.trans hg2).trans hg3⟩
  have := hown3.out
  simp [encN, u8s, Nat.div_div_eq_div_mul, Int.ediv_ediv_of_nonneg] at this ⊢
  exact this

set_option maxHeartbeats 400000 in
theorem split8 (base : Nat) (v : Value) (m : Nat) (xs : List Value) (n : Nat) (w : World) (hown : Hid (w.ownsRow base 5 1 v m xs)) (hb : base ≤ w.heap.size) (hm : m + 8 ≤ 140737488355328) (hn : n < 9223372036854775808) :
    Calls Try.prog 25 #[v, .int .i64 n, .int .i64 8] w fun e w' => ∃ v', e = .returned v' ∧ w'.ownsRow base 5 1 v' (m + 8) (xs ++ u8s (encN 8 n)) ∧ Below base w w' := by
  go_enter Try.func25, Try.ntmps25
  go_wp2_with (first
    | (at_builtin; refine wpList_append_new w rfl (.tmp 16) (.tmp 28) _ rfl base 5 _ _ 1 Try.underlying24 info_u8 rfl v m xs rfl hown hb [_, _, _, _] 4 4 rfl rfl (by simp [Value.oneCell']) (by omega) (by omega) ?_; intro v0 w0 hown0 hb0 hg0)
    | (at_builtin; refine wpList_append_new w0 rfl (.tmp 32) (.tmp 38) _ rfl base 5 _ _ 1 Try.underlying24 info_u8 rfl v0 _ _ rfl hown0 hb0 [_, _] 2 2 rfl rfl (by simp [Value.oneCell']) (by omega) (by omega) ?_; intro v1 w1 hown1 hb1 hg1)
    | (at_builtin; refine wpList_append_new w1 rfl (.tmp 42) (.tmp 45) _ rfl base 5 _ _ 1 Try.underlying24 info_u8 rfl v1 _ _ rfl hown1 hb1 [_] 1 1 rfl rfl (by simp [Value.oneCell']) (by omega) (by omega) ?_; intro v2 w2 hown2 hb2 hg2)
    | (at_builtin; refine wpList_append_new w2 rfl (.tmp 49) (.tmp 52) _ rfl base 5 _ _ 1 Try.underlying24 info_u8 rfl v2 _ _ rfl hown2 hb2 [_] 1 1 rfl rfl (by simp [Value.oneCell']) (by omega) (by omega) ?_; intro v3 w3 hown3 hb3 hg3))
  go_ret
  refine ⟨v3, rfl, ?_, ((hg0.trans hg1).trans hg2).trans hg3⟩
  have := hown3.out
  simp [encN, u8s, Nat.div_div_eq_div_mul, Int.ediv_ediv_of_nonneg] at this ⊢
  have e : (n : Int) / 72057594037927936 % 256 = (n : Int) / 72057594037927936 := by omega
  rw [e]
  exact this

theorem split_any (base : Nat) (v : Value) (m : Nat) (xs : List Value) (n wd : Int) (w : World) (hown : w.ownsRow base 5 1 v m xs) (hb : base ≤ w.heap.size) (hm : m + 8 ≤ 140737488355328)
    (hn0 : 0 ≤ n) (hn : n < 9223372036854775808) (hw : isW wd = true) :
    Calls Try.prog 25 #[v, .int .i64 n, .int .i64 wd] w fun e w' => ∃ v', e = .returned v' ∧ w'.ownsRow base 5 1 v' (m + wd.toNat) (xs ++ u8s (encN wd.toNat n.toNat)) ∧ Below base w w' := by
  obtain ⟨k, rfl⟩ := Int.eq_ofNat_of_zero_le hn0
  rcases isW_cases hw with rfl | rfl | rfl | rfl
  · exact split1 base v m xs k w hown hb hm (by omega)
  · exact split2 base v m xs k w hown hb hm (by omega)
  · exact split4 base v m xs k w hown hb hm (by omega)
  · exact split8 base v m xs k w hown hb hm (by omega)

/-! ### the reference's Bytes -/
theorem encN_snoc (k n : Nat) : encN (k + 1) n = encN k n ++ [UInt8.ofNat (n / 256 ^ k)] := by
  induction k generalizing n with
  | zero => simp [encN]
  | succ k ih =>
    rw [show encN (k + 1 + 1) n = UInt8.ofNat n :: encN (k + 1) (n / 256) from rfl, ih, show encN (k + 1) n = UInt8.ofNat n :: encN k (n / 256) from rfl]
    simp [Nat.div_div_eq_div_mul, Nat.pow_succ, Nat.mul_comm]

set_option maxHeartbeats 400000 in
theorem Bytes_any (n : Nat) (k : Nat) (w : World) (hn : n < 9223372036854775808) (hk : k ≤ 8) :
    Calls Try.prog 14 #[.int .i64 n, .int .i64 k] w fun e w' => ∃ v', e = .returned v' ∧ w'.ownsRow w.heap.size 5 1 v' k (u8s (encN k n)) ∧ Below w.heap.size w w' := by
  go_enter Try.func14, Try.ntmps14
  go_wp2
  go_loopw [0, 5, 6] (fun a v i wr => ∃ j : Nat, j ≤ k ∧ i = .int .i64 j ∧ (∃ q : Nat, q < 9223372036854775808 ∧ a = .int .i64 q ∧ q = n / 256 ^ j) ∧ Hid (wr.ownsRow w.heap.size 5 1 v j (u8s (encN j n))) ∧ w.heap.size ≤ wr.heap.size ∧ Below w.heap.size w wr) (fun _ _ i _ => (k - (intOf i).toNat))
  case atStart => exact ⟨0, by omega, rfl, ⟨n, hn, rfl, by simp⟩, World.ownsRow_nil _ _ _ _, Nat.le_refl _, Below.refl _ _⟩
  case round =>
    obtain ⟨j, hj, rfl, ⟨q, hq, rfl, hqe⟩, hown, hbr, hbel⟩ := hrel
    have HQ := Lib.hid hqe
    clear hqe
    by_cases hlt : j < k
    · go_wp2_with (at_builtin; go_must (refine wpList_append_new wr rfl (.tmp 12) (.tmp 16) _ rfl w.heap.size 5 _ _ 1 Try.underlying24 info_u8 rfl u5 _ _ rfl hown hbr [_] 1 1 rfl rfl (by simp [Value.oneCell']) (by omega) (by omega) ?_); intro v1 w1 hown1 hb1 hg1)
      go_roundw
      case rel =>
        refine ⟨j + 1, by omega, by go_num, ⟨q / 256, by omega, by go_num, by rw [HQ.out, Nat.div_div_eq_div_mul, Nat.pow_succ]⟩, ?_, hb1, hbel.trans (hg1.mono (by omega))⟩
        rw [encN_snoc, u8s_append, ← HQ.out]
        simpa [u8s] using hown1
      case measure => simp [intOf]; omega
    · go_wp2
      go_ret
      obtain rfl : j = k := by omega
      exact ⟨_, rfl, hown.out, hbel⟩

end Go.Proofs.Ytolapeocdaknjaa
