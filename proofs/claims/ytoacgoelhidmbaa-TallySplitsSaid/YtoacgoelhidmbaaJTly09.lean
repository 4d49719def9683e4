/-
  Joined: CodeE, CodeF, CodeG, CodeH, CodeJ, CodeK, CodeL, ValMath, TlyMath.
-/
import Derived.OwnWalk
import Derived.Test.YtoacgoelhidmbaaJTly06
import Derived.Test.YtoacgoelhidmbaaJTly05
import Derived.Deep.RegionLaw
import Derived.Test.YtoacgoelhidmbaaJTly01
import Derived.Laws.BytesArg
/-
  Layer 1's split: the encoding of an integer.
-/
namespace Go.Proofs.Ytoacgoelhidmbaa
open Go.RowKit
set_option linter.unusedVariables false
set_option linter.unusedSimpArgs false


/-- the encoding of n in k bytes -/
def encN : Nat → Nat → List UInt8
  | 0, _ => []
  | k + 1, n => UInt8.ofNat n :: encN k (n / 256)

theorem encN_length (k n : Nat) : (encN k n).length = k := by
  induction k generalizing n with
  | zero => rfl
  | succ k ih => simp [encN, ih]

set_option maxRecDepth 100000 in
set_option maxHeartbeats 400000 in
theorem split1 (base : Nat) (v : Value) (m : Nat) (xs : List Value) (n : Nat) (w : World) (hown : Hid (w.ownsRow base 5 1 v m xs)) (hb : base ≤ w.heap.size) (hm : m + 8 ≤ 140737488355328) (hn : n < 9223372036854775808) :
    Calls Try.prog 37 #[v, .int .i64 n, .int .i64 1] w fun e w' => ∃ v', e = .returned v' ∧ w'.ownsRow base 5 1 v' (m + 1) (xs ++ u8s (encN 1 n)) ∧ Below base w w' := by
  go_enter Try.func37, Try.ntmps37
  go_wp2_with (at_builtin; refine wpList_append_new w rfl (.tmp 49) (.tmp 52) _ rfl base 5 _ _ 1 Try.underlying65 info_u8 rfl v m xs rfl hown hb [_] 1 1 rfl rfl (by simp [Value.oneCell']) (by omega) (by omega) ?_; intro v1 w1 hown1 hb1 hg1)
  go_ret
  refine ⟨v1, rfl, ?_, hg1⟩
  simpa [encN, u8s] using hown1.out

set_option maxRecDepth 100000 in
set_option maxHeartbeats 400000 in
theorem split2 (base : Nat) (v : Value) (m : Nat) (xs : List Value) (n : Nat) (w : World) (hown : Hid (w.ownsRow base 5 1 v m xs)) (hb : base ≤ w.heap.size) (hm : m + 8 ≤ 140737488355328) (hn : n < 9223372036854775808) :
    Calls Try.prog 37 #[v, .int .i64 n, .int .i64 2] w fun e w' => ∃ v', e = .returned v' ∧ w'.ownsRow base 5 1 v' (m + 2) (xs ++ u8s (encN 2 n)) ∧ Below base w w' := by
  go_enter Try.func37, Try.ntmps37
  go_wp2_with (first
    | (at_builtin; refine wpList_append_new w rfl (.tmp 42) (.tmp 45) _ rfl base 5 _ _ 1 Try.underlying65 info_u8 rfl v m xs rfl hown hb [_] 1 1 rfl rfl (by simp [Value.oneCell']) (by omega) (by omega) ?_; intro v1 w1 hown1 hb1 hg1)
    | (at_builtin; refine wpList_append_new w1 rfl (.tmp 49) (.tmp 52) _ rfl base 5 _ _ 1 Try.underlying65 info_u8 rfl v1 _ _ rfl hown1 hb1 [_] 1 1 rfl rfl (by simp [Value.oneCell']) (by omega) (by omega) ?_; intro v2 w2 hown2 hb2 hg2))
  go_ret
  refine ⟨v2, rfl, ?_, hg1.trans hg2⟩
  simpa [encN, u8s] using hown2.out

set_option maxRecDepth 100000 in
set_option maxHeartbeats 400000 in
theorem split4 (base : Nat) (v : Value) (m : Nat) (xs : List Value) (n : Nat) (w : World) (hown : Hid (w.ownsRow base 5 1 v m xs)) (hb : base ≤ w.heap.size) (hm : m + 8 ≤ 140737488355328) (hn : n < 9223372036854775808) :
    Calls Try.prog 37 #[v, .int .i64 n, .int .i64 4] w fun e w' => ∃ v', e = .returned v' ∧ w'.ownsRow base 5 1 v' (m + 4) (xs ++ u8s (encN 4 n)) ∧ Below base w w' := by
  go_enter Try.func37, Try.ntmps37
  go_wp2_with (first
    | (at_builtin; refine wpList_append_new w rfl (.tmp 32) (.tmp 38) _ rfl base 5 _ _ 1 Try.underlying65 info_u8 rfl v m xs rfl hown hb [_, _] 2 2 rfl rfl (by simp [Value.oneCell']) (by omega) (by omega) ?_; intro v1 w1 hown1 hb1 hg1)
    | (at_builtin; refine wpList_append_new w1 rfl (.tmp 42) (.tmp 45) _ rfl base 5 _ _ 1 Try.underlying65 info_u8 rfl v1 _ _ rfl hown1 hb1 [_] 1 1 rfl rfl (by simp [Value.oneCell']) (by omega) (by omega) ?_; intro v2 w2 hown2 hb2 hg2)
    | (at_builtin; refine wpList_append_new w2 rfl (.tmp 49) (.tmp 52) _ rfl base 5 _ _ 1 Try.underlying65 info_u8 rfl v2 _ _ rfl hown2 hb2 [_] 1 1 rfl rfl (by simp [Value.oneCell']) (by omega) (by omega) ?_; intro v3 w3 hown3 hb3 hg3))
  go_ret
  refine ⟨v3, rfl, ?_, (hg1.trans hg2).trans hg3⟩
  have := hown3.out
  simp [encN, u8s, Nat.div_div_eq_div_mul, Int.ediv_ediv_of_nonneg] at this ⊢
  exact this

set_option maxRecDepth 100000 in
set_option maxHeartbeats 400000 in
theorem split8 (base : Nat) (v : Value) (m : Nat) (xs : List Value) (n : Nat) (w : World) (hown : Hid (w.ownsRow base 5 1 v m xs)) (hb : base ≤ w.heap.size) (hm : m + 8 ≤ 140737488355328) (hn : n < 9223372036854775808) :
    Calls Try.prog 37 #[v, .int .i64 n, .int .i64 8] w fun e w' => ∃ v', e = .returned v' ∧ w'.ownsRow base 5 1 v' (m + 8) (xs ++ u8s (encN 8 n)) ∧ Below base w w' := by
  go_enter Try.func37, Try.ntmps37
  go_wp2_with (first
    | (at_builtin; refine wpList_append_new w rfl (.tmp 16) (.tmp 28) _ rfl base 5 _ _ 1 Try.underlying65 info_u8 rfl v m xs rfl hown hb [_, _, _, _] 4 4 rfl rfl (by simp [Value.oneCell']) (by omega) (by omega) ?_; intro v0 w0 hown0 hb0 hg0)
    | (at_builtin; refine wpList_append_new w0 rfl (.tmp 32) (.tmp 38) _ rfl base 5 _ _ 1 Try.underlying65 info_u8 rfl v0 _ _ rfl hown0 hb0 [_, _] 2 2 rfl rfl (by simp [Value.oneCell']) (by omega) (by omega) ?_; intro v1 w1 hown1 hb1 hg1)
    | (at_builtin; refine wpList_append_new w1 rfl (.tmp 42) (.tmp 45) _ rfl base 5 _ _ 1 Try.underlying65 info_u8 rfl v1 _ _ rfl hown1 hb1 [_] 1 1 rfl rfl (by simp [Value.oneCell']) (by omega) (by omega) ?_; intro v2 w2 hown2 hb2 hg2)
    | (at_builtin; refine wpList_append_new w2 rfl (.tmp 49) (.tmp 52) _ rfl base 5 _ _ 1 Try.underlying65 info_u8 rfl v2 _ _ rfl hown2 hb2 [_] 1 1 rfl rfl (by simp [Value.oneCell']) (by omega) (by omega) ?_; intro v3 w3 hown3 hb3 hg3))
  go_ret
  refine ⟨v3, rfl, ?_, ((hg0.trans hg1).trans hg2).trans hg3⟩
  have := hown3.out
  simp [encN, u8s, Nat.div_div_eq_div_mul, Int.ediv_ediv_of_nonneg] at this ⊢
  have e : (n : Int) / 72057594037927936 % 256 = (n : Int) / 72057594037927936 := by omega
  rw [e]
  exact this

theorem split_any (base : Nat) (v : Value) (m : Nat) (xs : List Value) (n wd : Int) (w : World) (hown : w.ownsRow base 5 1 v m xs) (hb : base ≤ w.heap.size) (hm : m + 8 ≤ 140737488355328)
    (hn0 : 0 ≤ n) (hn : n < 9223372036854775808) (hw : isW wd = true) :
    Calls Try.prog 37 #[v, .int .i64 n, .int .i64 wd] w fun e w' => ∃ v', e = .returned v' ∧ w'.ownsRow base 5 1 v' (m + wd.toNat) (xs ++ u8s (encN wd.toNat n.toNat)) ∧ Below base w w' := by
  obtain ⟨k, rfl⟩ := Int.eq_ofNat_of_zero_le hn0
  rcases isW_cases hw with rfl | rfl | rfl | rfl
  · exact split1 base v m xs k w hown hb hm (by omega)
  · exact split2 base v m xs k w hown hb hm (by omega)
  · exact split4 base v m xs k w hown hb hm (by omega)
  · exact split8 base v m xs k w hown hb hm (by omega)

/-! ### the reference's Bytes -/
theorem encN_snoc (k n : Nat) : encN (k + 1) n = encN k n ++ [UInt8.ofNat (n / 256 ^ k)] := by
  induction k generalizing n with
  | zero => simp [encN]
  | succ k ih =>
    rw [show encN (k + 1 + 1) n = UInt8.ofNat n :: encN (k + 1) (n / 256) from rfl, ih, show encN (k + 1) n = UInt8.ofNat n :: encN k (n / 256) from rfl]
    simp [Nat.div_div_eq_div_mul, Nat.pow_succ, Nat.mul_comm]

set_option maxRecDepth 100000 in
set_option maxHeartbeats 400000 in
theorem Bytes_any (n : Nat) (k : Nat) (w : World) (hn : n < 9223372036854775808) (hk : k ≤ 8) :
    Calls Try.prog 32 #[.int .i64 n, .int .i64 k] w fun e w' => ∃ v', e = .returned v' ∧ w'.ownsRow w.heap.size 5 1 v' k (u8s (encN k n)) ∧ Below w.heap.size w w' := by
  go_enter Try.func32, Try.ntmps32
  go_wp2
  go_loopw [0, 5, 6] (fun a v i wr => ∃ j : Nat, j ≤ k ∧ i = .int .i64 j ∧ (∃ q : Nat, q < 9223372036854775808 ∧ a = .int .i64 q ∧ q = n / 256 ^ j) ∧ Hid (wr.ownsRow w.heap.size 5 1 v j (u8s (encN j n))) ∧ w.heap.size ≤ wr.heap.size ∧ Below w.heap.size w wr) (fun _ _ i _ => (k - (intOf i).toNat))
  case atStart => exact ⟨0, by omega, rfl, ⟨n, hn, rfl, by simp⟩, World.ownsRow_nil _ _ _ _, Nat.le_refl _, Below.refl _ _⟩
  case round =>
    obtain ⟨j, hj, rfl, ⟨q, hq, rfl, hqe⟩, hown, hbr, hbel⟩ := hrel
    have HQ := Lib.hid hqe
    clear hqe
    by_cases hlt : j < k
    · go_wp2_with (at_builtin; go_must (refine wpList_append_new wr rfl (.tmp 12) (.tmp 16) _ rfl w.heap.size 5 _ _ 1 Try.underlying65 info_u8 rfl u5 _ _ rfl hown hbr [_] 1 1 rfl rfl (by simp [Value.oneCell']) (by omega) (by omega) ?_); intro v1 w1 hown1 hb1 hg1)
      go_roundw
      case rel =>
        refine ⟨j + 1, by omega, by go_num, ⟨q / 256, by omega, by go_num, by rw [HQ.out, Nat.div_div_eq_div_mul, Nat.pow_succ]⟩, ?_, hb1, hbel.trans (hg1.mono (by omega))⟩
        rw [encN_snoc, u8s_append, ← HQ.out]
        simpa [u8s] using hown1
      case measure => simp [intOf]; omega
    · go_wp2
      go_ret
      obtain rfl : j = k := by omega
      exact ⟨_, rfl, hown.out, hbel⟩

end Go.Proofs.Ytoacgoelhidmbaa

/-
  Layer 1's Put.
-/
namespace Go.Proofs.Ytoacgoelhidmbaa
open Go.RowKit
set_option linter.unusedVariables false
set_option linter.unusedSimpArgs false

end Go.Proofs.Ytoacgoelhidmbaa

/-
  The reference's Put; both Zero.
-/
namespace Go.Proofs.Ytoacgoelhidmbaa
open Go.RowKit
set_option linter.unusedVariables false
set_option linter.unusedSimpArgs false

end Go.Proofs.Ytoacgoelhidmbaa

/-
  Layer 1's Pack.
-/
namespace Go.Proofs.Ytoacgoelhidmbaa
open Go.RowKit
set_option linter.unusedVariables false
set_option linter.unusedSimpArgs false

/-- fields as cells -/
def flds (l : List (Int × Int)) : List Value := l.flatMap fun p => [.int .i64 p.1, .int .i64 p.2]

theorem flds_length (l : List (Int × Int)) : (flds l).length = l.length * 2 := by
  induction l with
  | nil => rfl
  | cons p r ih => simp only [flds, List.flatMap_cons, List.length_append, List.length_cons, List.length_nil] at *; omega

theorem flds_at (l : List (Int × Int)) (k : Nat) (h : k < l.length) : (flds l)[k * 2]? = some (.int .i64 l[k].1) ∧ (flds l)[k * 2 + 1]? = some (.int .i64 l[k].2) := by
  induction l generalizing k with
  | nil => simp at h
  | cons p r ih =>
    cases k with
    | zero => simp [flds]
    | succ k =>
      have := ih k (by simpa using h)
      simp only [flds, List.flatMap_cons] at *
      rw [List.getElem?_append_right (by simp; omega), List.getElem?_append_right (by simp; omega)]
      simp only [List.length_cons, List.length_nil, List.getElem_cons_succ]
      rw [show (k + 1) * 2 - (0 + 1 + 1) = k * 2 by omega, show (k + 1) * 2 + 1 - (0 + 1 + 1) = k * 2 + 1 by omega]
      exact this

def i64b (x : Int) : Prop := -9223372036854775808 ≤ x ∧ x ≤ 9223372036854775807

/-- a slice of fields -/
structure Flds (w : World) (A : Option Addr) (n c : Nat) (l : List (Int × Int)) : Prop where
  len : l.length = n
  cap : n ≤ c
  most : c ≤ 9223372036854775807
  row : Row w A (flds l)
  bds : ∀ p ∈ l, i64b p.1 ∧ i64b p.2

theorem Flds.below {w w' : World} {A : Option Addr} {n c : Nat} {l : List (Int × Int)} (h : Flds w A n c l) (hb : Below w.heap.size w w') : Flds w' A n c l := ⟨h.len, h.cap, h.most, h.row.below hb, h.bds⟩

def packE : List (Int × Int) → Int
  | [] => 0
  | p :: r => if isW p.1 = false then 1 else if fitsB p.2 p.1 = false then 2 else packE r

def encs (l : List (Int × Int)) : List UInt8 := l.flatMap fun p => encN p.1.toNat p.2.toNat

def packB (l : List (Int × Int)) : List UInt8 := if packE l = 0 then encs l else []

theorem packE_append (a b : List (Int × Int)) : packE (a ++ b) = if packE a = 0 then packE b else packE a := by
  induction a with
  | nil => simp [packE]
  | cons p r ih =>
    simp only [List.cons_append, packE]
    split
    · simp
    · split
      · simp
      · exact ih

theorem packE_at {l : List (Int × Int)} {k : Nat} (hk : k < l.length) (h : packE (l.take k) = 0) : packE l = packE (l[k] :: l.drop (k + 1)) := by
  conv => lhs; rw [← List.take_append_drop k l, packE_append, h, List.drop_eq_getElem_cons hk]
  simp

theorem packE_step {l : List (Int × Int)} {k : Nat} (hk : k < l.length) (h : packE (l.take k) = 0) (hw : isW l[k].1 = true) (hf : fitsB l[k].2 l[k].1 = true) : packE (l.take (k + 1)) = 0 := by
  rw [List.take_succ_eq_append_getElem hk, packE_append, h]
  simp [packE, hw, hf]

theorem encs_step {l : List (Int × Int)} {k : Nat} (hk : k < l.length) : encs (l.take (k + 1)) = encs (l.take k) ++ encN l[k].1.toNat l[k].2.toNat := by
  simp only [encs]
  rw [List.take_succ_eq_append_getElem hk, List.flatMap_append]
  simp only [List.flatMap_cons, List.flatMap_nil, List.append_nil]

theorem encs_le {l : List (Int × Int)} (h : packE l = 0) : (encs l).length ≤ l.length * 8 := by
  induction l with
  | nil => simp [encs]
  | cons p r ih =>
    simp only [packE] at h
    split at h
    · simp at h
    · rename_i hw
      split at h
      · simp at h
      · have := ih h
        have hw' : isW p.1 = true := by simpa using hw
        have : p.1.toNat ≤ 8 := by rcases isW_cases hw' with h | h | h | h <;> omega
        simp only [encs, List.flatMap_cons, List.length_append, encN_length, List.length_cons] at *
        omega

theorem fits_bounds {x wd : Int} (h : fitsB x wd = true) : 0 ≤ x := by simp [fitsB] at h; exact h.1

set_option maxRecDepth 100000 in
set_option maxHeartbeats 400000 in
theorem Pack_any (A : Option Addr) (n c : Nat) (l : List (Int × Int)) (w : World) (h : Flds w A n c l) (hn : n ≤ 1000000) :
    Calls Try.prog 30 #[.slice A n c] w fun e w' => ∃ A' m c', e = .returned (.tuple #[.slice A' m c', .int .i64 (packE l)]) ∧ Bytes8 w' A' m c' (packB l) ∧ Below w.heap.size w w' := by
  by_cases hp : 0 < n
  · obtain ⟨b, off, rfl, hb, hcell⟩ := h.row.lit (by rw [flds_length, h.len]; omega)
    have HF := Lib.hid h
    have HC := Lib.hid hcell
    clear h hcell
    go_enter Try.func30, Try.ntmps30
    go_wp2
    go_loopw [4, 9] (fun v i wr => ∃ k : Nat, k ≤ n ∧ i = .int .i64 k ∧ Hid (packE (l.take k) = 0) ∧ Hid (wr.ownsRow w.heap.size 5 1 v (encs (l.take k)).length (u8s (encs (l.take k)))) ∧ w.heap.size ≤ wr.heap.size ∧ Below w.heap.size w wr) (fun _ i _ => n - (intOf i).toNat)
    case atStart => exact ⟨0, by omega, rfl, rfl, World.ownsRow_nil _ _ _ _, Nat.le_refl _, Below.refl _ _⟩
    case round =>
      obtain ⟨k, hk, rfl, hE, hown, hs, hbel⟩ := hrel
      by_cases hlt : k < n
      · have hkl : k < l.length := by have := HF.out.len; omega
        have h0 := flds_at l k hkl
        have hc0 : wr.cell? ⟨b, off + k * 2, none⟩ = some (.int .i64 l[k].1) := (hbel.cell (p := ⟨b, off + k * 2, none⟩) hb).trans (HC.out _ _ h0.1)
        have hc1 : wr.cell? ⟨b, off + k * 2 + 1, none⟩ = some (.int .i64 l[k].2) := (hbel.cell (p := ⟨b, off + k * 2 + 1, none⟩) hb).trans (HC.out _ _ h0.2)
        obtain ⟨⟨hb1, hb2⟩, hb3, hb4⟩ := HF.out.bds l[k] (List.getElem_mem _)
        have hat := packE_at hkl hE.out
        have hst := packE_step hkl hE.out
        have hen := encs_step hkl
        have hle := encs_le hE.out
        rw [List.length_take] at hle
        clear h0
        simp only [packE] at hat
        generalize hp1 : l[k].1 = a at *
        generalize hp2 : l[k].2 = x at *
        clear hp1 hp2
        cases hw : isW a with
        | false =>
          have hr : Hid (packE l = 1) := by rw [hat]; simp [hw, Hid]
          have W := Lib.hid (fun W => isWidth_any a W false hw)
          clear hat hst hen hle hw
          go_wp2_with (go_at_call 35; refine (W.out _).mono ?_; rintro e w' ⟨rfl, rfl⟩)
          go_ret2
          exact ⟨none, 0, 0, by rw [hr.out]; rfl, by simpa [packB, hr.out] using Bytes8.nil _, hbel.alloc hs _⟩
        | true =>
          have W := Lib.hid (fun W => isWidth_any a W true hw)
          cases hf : fitsB x a with
          | false =>
            have hr : Hid (packE l = 2) := by rw [hat]; simp [hw, hf, Hid]
            have F := Lib.hid (fun W => fits_any x a W hw ⟨hb3, hb4⟩ false hf)
            clear hat hst hen hle hw hf
            go_wp2_with (first
              | (go_at_call 35; refine (W.out _).mono ?_; rintro e w' ⟨rfl, rfl⟩)
              | (go_at_call 36; refine (F.out _).mono ?_; rintro e w' ⟨rfl, rfl⟩))
            go_ret2
            exact ⟨none, 0, 0, by rw [hr.out]; rfl, by simpa [packB, hr.out] using Bytes8.nil _, hbel.alloc hs _⟩
          | true =>
            have F := Lib.hid (fun W => fits_any x a W hw ⟨hb3, hb4⟩ true hf)
            have S := Lib.hid (fun (W : World) (hO : W.ownsRow w.heap.size 5 1 u4 (encs (l.take k)).length (u8s (encs (l.take k)))) (hs : w.heap.size ≤ W.heap.size) => split_any w.heap.size u4 _ _ x a W hO hs (by omega) (fits_bounds hf) (by omega) hw)
            have hst' := Lib.hid (hst hw hf)
            have hen' := Lib.hid hen
            clear hat hst hen hle hw hf
            go_wp2_with (first
              | (go_at_call 35; refine (W.out _).mono ?_; rintro e w' ⟨rfl, rfl⟩)
              | (go_at_call 36; refine (F.out _).mono ?_; rintro e w' ⟨rfl, rfl⟩)
              | (go_at_call 37; refine (S.out _ (hown.out.alloc _) (by simp; omega)).mono ?_; rintro e w1 ⟨v1, rfl, hown1, hb1⟩; have HO1 := Lib.hid hown1; clear hown1))
            go_roundw
            case rel =>
              have hb2 := (hbel.alloc hs _).trans hb1
              refine ⟨k + 1, by omega, by go_num, hst', ?_, hb2.size, hb2⟩
              have := HO1.out
              rw [← u8s_append] at this
              rw [hen'.out, List.length_append, encN_length]
              exact this
            case measure => simp [intOf]; omega
      · obtain rfl : k = n := by omega
        have hE' : Hid (packE l = 0) := by
          have := hE.out
          rwa [List.take_of_length_le (by have := HF.out.len; omega)] at this
        have hown' : Hid (wr.ownsRow w.heap.size 5 1 u4 (encs l).length (u8s (encs l))) := by
          have := hown.out
          rwa [List.take_of_length_le (by have := HF.out.len; omega)] at this
        obtain ⟨A', c', hv, hB⟩ := Bytes8.of_own hown'.out
        have HV := Lib.hid hv
        clear hv
        go_wp2
        go_ret2
        exact ⟨A', _, c', by rw [hE'.out, ← HV.out]; rfl, by simpa [packB, hE'.out] using hB, hbel⟩
  · obtain rfl : n = 0 := by omega
    obtain rfl : l = [] := List.eq_nil_of_length_eq_zero h.len
    clear h
    go_enter Try.func30, Try.ntmps30
    go_wp2
    refine wp_loop_rounds 1 ?_
    rw [rounds_succ]
    go_wp2
    go_ret2
    exact ⟨none, 0, 0, rfl, Bytes8.nil _, Below.refl _ _⟩

end Go.Proofs.Ytoacgoelhidmbaa

/-
  Layer 1's Unpack and the reference's.
-/
namespace Go.Proofs.Ytoacgoelhidmbaa
open Go.RowKit
set_option linter.unusedVariables false
set_option linter.unusedSimpArgs false

end Go.Proofs.Ytoacgoelhidmbaa

/-
  The reference's Same; the document's example.
-/
namespace Go.Proofs.Ytoacgoelhidmbaa
open Go.RowKit
set_option linter.unusedVariables false
set_option linter.unusedSimpArgs false

set_option maxRecDepth 100000 in
set_option maxHeartbeats 800000 in
theorem Same_same (A A2 : Option Addr) (n c c2 : Nat) (l : List Int) (w : World) (h : Ints w A n c l) (h2 : Ints w A2 n c2 l) :
    Calls Try.prog 14 #[.slice A n c, .slice A2 n c2] w fun e w' => e = .returned (.bool true) ∧ Below w.heap.size w w' := by
  have hn := h.le
  by_cases hp : 0 < n
  · obtain ⟨b, off, rfl, hb, hcell⟩ := h.row.lit (by rw [i64s_length, h.len]; omega)
    obtain ⟨b2, off2, rfl, hb2, hcell2⟩ := h2.row.lit (by rw [i64s_length, h2.len]; omega)
    have HL := Lib.hid h.len
    have HC := Lib.hid hcell
    have HC2 := Lib.hid hcell2
    clear h h2 hcell hcell2
    go_enter Try.func14, Try.ntmps14
    go_wp2
    go_loopw [5] (fun i wr => ∃ k : Nat, k ≤ n ∧ i = .int .i64 k ∧ Below w.heap.size w wr) (fun i _ => n - (intOf i).toNat)
    case atStart => exact ⟨0, by omega, rfl, Below.refl _ _⟩
    case round =>
      obtain ⟨k, hk, rfl, hbel⟩ := hrel
      by_cases hlt : k < n
      · have hkl : k < l.length := by have := HL.out; omega
        have hc0 : wr.cell? ⟨b, off + k, none⟩ = some (.int .i64 l[k]) := (hbel.cell (p := ⟨b, off + k, none⟩) hb).trans (HC.out _ _ (i64s_at l k hkl))
        have hc2 : wr.cell? ⟨b2, off2 + k, none⟩ = some (.int .i64 l[k]) := (hbel.cell (p := ⟨b2, off2 + k, none⟩) hb2).trans (HC2.out _ _ (i64s_at l k hkl))
        generalize l[k] = a at *
        go_wp2
        go_quiet (fail)
        go_wp2
        go_roundw
        case rel => exact ⟨k + 1, by omega, by go_num, below_drewN hbel _⟩
        case measure => simp [intOf]; omega
      · go_wp2
        go_ret
        exact ⟨rfl, hbel⟩
  · obtain rfl : n = 0 := by omega
    clear h h2
    go_enter Try.func14, Try.ntmps14
    go_wp2
    refine wp_loop_rounds 1 ?_
    rw [rounds_succ]
    go_wp2
    go_ret
    exact ⟨rfl, Below.refl _ _⟩

end Go.Proofs.Ytoacgoelhidmbaa

/-
  Layer 1's mathematics: what was put is got; what was packed is unpacked.
-/
namespace Go.Proofs.Ytoacgoelhidmbaa
open Go.RowKit
set_option linter.unusedVariables false
set_option linter.unusedSimpArgs false

theorem leN_encN (k n : Nat) (h : n < 256 ^ k) : leN (encN k n) = n := by
  induction k generalizing n with
  | zero => simp at h; simp [encN, leN, h]
  | succ k ih =>
    have h1 : n / 256 < 256 ^ k := by
      rw [Nat.pow_succ] at h
      omega
    simp only [encN, leN, ih _ h1]
    simp
    omega

end Go.Proofs.Ytoacgoelhidmbaa

/-
  Layer 8: the numbers of a value, their bytes, and back.
-/
namespace Go.Proofs.Ytoacgoelhidmbaa
open Go.RowKit
set_option linter.unusedVariables false
set_option linter.unusedSimpArgs false

/-- a number of a value: how many bytes, from where to where -/
abbrev NumS := Nat × Int × Int
def inB (n lo hi : Int) : Bool := decide (lo ≤ n) && decide (n ≤ hi)
theorem inB_iff {n lo hi : Int} : inB n lo hi = true ↔ lo ≤ n ∧ n ≤ hi := by simp [inB]

def okP (l : List (NumS × Int)) : Bool := l.all fun p => inB p.2 p.1.2.1 p.1.2.2
def encP (l : List (NumS × Int)) : List UInt8 := l.flatMap fun p => encN p.1.1 p.2.toNat
def bldP (l : List (NumS × Int)) : List UInt8 := if okP l then encP l else []

/-- a number that some bytes can hold -/
def fitN (p : NumS) : Prop := 1 ≤ p.1 ∧ p.1 ≤ 8 ∧ 0 ≤ p.2.1 ∧ p.2.2 ≤ 9223372036854775807 ∧ p.2.2 < ((256 ^ p.1 : Nat) : Int) ∧ p.2.1 ≤ 9223372036854775807 ∧ -9223372036854775808 ≤ p.2.2

def sizeN (ns : List NumS) : Nat := (ns.map (·.1)).sum
def partsN : List UInt8 → List NumS → List Nat
  | _, [] => []
  | s, p :: r => leN (s.take p.1) :: partsN (s.drop p.1) r
def okR (s : List UInt8) (ns : List NumS) : Bool := okP (ns.zip ((partsN s ns).map fun k : Nat => (k : Int)))
def rdE (s : List UInt8) (ns : List NumS) : Int := if s.length ≠ sizeN ns then 7 else if okR s ns then 0 else 2

theorem val_encN_back (l : List UInt8) : encN l.length (leN l) = l := by
  induction l with
  | nil => rfl
  | cons b r ih =>
    have hb := UInt8.toNat_lt b
    have h1 : UInt8.ofNat (leN (b :: r)) = b := by
      apply UInt8.toNat_inj.1
      rw [UInt8.toNat_ofNat', leN]
      omega
    have h2 : leN (b :: r) / 256 = leN r := by simp only [leN]; omega
    change UInt8.ofNat (leN (b :: r)) :: encN r.length (leN (b :: r) / 256) = b :: r
    rw [h1, h2, ih]

theorem encN_take : ∀ (k j n : Nat), j ≤ k → (encN k n).take j = encN j n
  | _, 0, _, _ => by simp [encN]
  | 0, _ + 1, _, h => by omega
  | k + 1, j + 1, n, h => by rw [encN, encN, List.take_succ_cons, encN_take k j (n / 256) (by omega)]

theorem leN_zeros (l : List UInt8) (m : Nat) : leN (l ++ List.replicate m 0) = leN l := by
  induction l with
  | nil =>
    induction m with
    | zero => rfl
    | succ m ih =>
      rw [List.nil_append] at ih ⊢
      rw [List.replicate_succ]
      change (0 : UInt8).toNat + 256 * leN (List.replicate m 0) = leN []
      rw [ih]
      rfl
  | cons b r ih => rw [List.cons_append, leN, leN, ih]

theorem okP_append (a b : List (NumS × Int)) : okP (a ++ b) = (okP a && okP b) := by simp [okP]
theorem encP_append (a b : List (NumS × Int)) : encP (a ++ b) = encP a ++ encP b := by simp [encP]
theorem okP_step {l : List (NumS × Int)} {k : Nat} (hk : k < l.length) : okP (l.take (k + 1)) = (okP (l.take k) && inB l[k].2 l[k].1.2.1 l[k].1.2.2) := by
  rw [List.take_succ_eq_append_getElem hk, okP_append]
  simp [okP]
theorem encP_step {l : List (NumS × Int)} {k : Nat} (hk : k < l.length) : encP (l.take (k + 1)) = encP (l.take k) ++ encN l[k].1.1 l[k].2.toNat := by
  rw [List.take_succ_eq_append_getElem hk, encP_append]
  simp [encP]
theorem okP_bad {l : List (NumS × Int)} {k : Nat} (hk : k < l.length) (h : inB l[k].2 l[k].1.2.1 l[k].1.2.2 = false) : okP l = false := by
  rw [Bool.eq_false_iff]
  intro e
  have := List.all_eq_true.1 e l[k] (List.getElem_mem _)
  rw [h] at this
  cases this
theorem encP_le {l : List (NumS × Int)} (h : ∀ p ∈ l, p.1.1 ≤ 8) : (encP l).length ≤ l.length * 8 := by
  induction l with
  | nil => simp [encP]
  | cons p r ih =>
    have h1 := ih fun q hq => h q (List.mem_cons_of_mem _ hq)
    have h2 := h p List.mem_cons_self
    simp only [encP, List.flatMap_cons, List.length_append, encN_length, List.length_cons] at *
    omega

theorem partsN_length (s : List UInt8) (ns : List NumS) : (partsN s ns).length = ns.length := by
  induction ns generalizing s with
  | nil => rfl
  | cons p r ih => simp [partsN, ih]

/-- what was built is read -/
theorem parts_enc (ns : List NumS) (vs : List Int) (hl : vs.length = ns.length) (hf : ∀ p ∈ ns, fitN p) (ho : okP (ns.zip vs) = true) (rest : List UInt8) :
    (partsN (encP (ns.zip vs) ++ rest) ns).map (fun k : Nat => (k : Int)) = vs ∧ (encP (ns.zip vs)).length = sizeN ns := by
  induction ns generalizing vs with
  | nil =>
    obtain rfl : vs = [] := List.eq_nil_of_length_eq_zero (by simpa using hl)
    exact ⟨rfl, rfl⟩
  | cons p r ih =>
    match vs, hl with
    | v :: vs, hl =>
      have hp := hf p List.mem_cons_self
      obtain ⟨h1, h2, h3, h4, h5, h6⟩ := hp
      simp only [List.zip_cons_cons, okP, List.all_cons, Bool.and_eq_true] at ho
      obtain ⟨hv, ho⟩ := ho
      rw [inB_iff] at hv
      obtain ⟨i1, i2⟩ := ih vs (by simpa using hl) (fun q hq => hf q (List.mem_cons_of_mem _ hq)) ho
      have e1 : encP (((p, v) :: r.zip vs)) = encN p.1 v.toNat ++ encP (r.zip vs) := by simp [encP]
      simp only [List.zip_cons_cons, e1]
      constructor
      · rw [partsN, List.append_assoc, List.take_left' (encN_length _ _), List.drop_left' (encN_length _ _), leN_encN _ _ (by omega), List.map_cons, i1]
        congr 1
        omega
      · rw [List.length_append, encN_length, i2]
        simp [sizeN]

/-- of what is read the bytes are those -/
theorem enc_parts (ns : List NumS) (s : List UInt8) (h : s.length = sizeN ns) : encP (ns.zip ((partsN s ns).map fun k : Nat => (k : Int))) = s := by
  induction ns generalizing s with
  | nil =>
    obtain rfl : s = [] := List.eq_nil_of_length_eq_zero (by simpa [sizeN] using h)
    rfl
  | cons p r ih =>
    have h1 : s.length = p.1 + sizeN r := by rw [h]; simp [sizeN]
    have h2 := ih (s.drop p.1) (by rw [List.length_drop]; omega)
    have e : (s.take p.1).length = p.1 := by rw [List.length_take]; omega
    simp only [partsN, List.map_cons, List.zip_cons_cons]
    have e1 : ∀ v q, encP ((p, v) :: q) = encN p.1 v.toNat ++ encP q := by intro v q; simp [encP]
    rw [e1, h2, Int.toNat_natCast]
    conv => lhs; lhs; lhs; rw [← e]
    rw [val_encN_back, List.take_append_drop]

theorem bldP_ne {l : List (NumS × Int)} (h : bldP l ≠ []) : okP l = true := by
  by_cases e : okP l = true
  · exact e
  · rw [bldP, if_neg e] at h; exact absurd rfl h
/-- the round trip: a value that was built -/
theorem read_built {ns : List NumS} {vs : List Int} (hl : vs.length = ns.length) (hf : ∀ p ∈ ns, fitN p) (ho : okP (ns.zip vs) = true) :
    rdE (bldP (ns.zip vs)) ns = 0 ∧ (partsN (bldP (ns.zip vs)) ns).map (fun k : Nat => (k : Int)) = vs ∧ (bldP (ns.zip vs)).length = sizeN ns := by
  obtain ⟨h1, h2⟩ := parts_enc ns vs hl hf ho []
  rw [List.append_nil] at h1
  rw [bldP, if_pos ho]
  refine ⟨?_, h1, h2⟩
  rw [rdE, if_neg (by omega), okR, h1, ho]
  rfl
/-- the round trip: bytes that were read -/
theorem built_read {ns : List NumS} {s : List UInt8} (h : rdE s ns = 0) : bldP (ns.zip ((partsN s ns).map fun k : Nat => (k : Int))) = s := by
  unfold rdE at h
  split at h
  · cases h
  · rename_i hl
    split at h
    · rename_i ho
      rw [bldP, if_pos (show okP _ = true from ho), enc_parts ns s (by omega)]
    · cases h

/-! ### the kinds -/
def countS : List NumS := [(4, 3, 2147483647)]
theorem countS_fit : ∀ p ∈ countS, fitN p := by
  intro p hp
  simp only [countS, List.mem_cons, List.mem_nil_iff, or_false] at hp
  rcases hp with rfl <;> simp [fitN]

end Go.Proofs.Ytoacgoelhidmbaa

/-
  Layer 21's mathematics: counts split into two-bit counts and overflow entries, and joined.
-/
namespace Go.Proofs.Ytoacgoelhidmbaa
open Go.RowKit
set_option linter.unusedVariables false
set_option linter.unusedSimpArgs false

/-! ### a count as a value -/
abbrev Ovr21 := Int × List UInt8
def cB21 (n : Int) : List UInt8 := bldP (countS.zip [n])
def cV21 (s : List UInt8) : Int := ((partsN s countS).map fun k : Nat => (k : Int)).getD 0 0
theorem ok21 {n : Int} (h : 3 ≤ n) (h2 : n ≤ 2147483647) : okP (countS.zip [n]) = true := by simp [okP, countS, inB, h, h2]
theorem cnt21_back {n : Int} (h : 3 ≤ n) (h2 : n ≤ 2147483647) : rdE (cB21 n) countS = 0 ∧ cV21 (cB21 n) = n ∧ cB21 n ≠ [] := by
  obtain ⟨a, b, c⟩ := read_built (vs := [n]) rfl countS_fit (ok21 h h2)
  refine ⟨a, ?_, fun e => ?_⟩
  · unfold cV21 cB21
    rw [b]
    rfl
  · unfold cB21 at e
    rw [e] at c
    simp [sizeN, countS] at c
theorem cnt21_read {s : List UInt8} (h : rdE s countS = 0) : cB21 (cV21 s) = s ∧ 3 ≤ cV21 s ∧ cV21 s ≤ 2147483647 := by
  have hb := built_read h
  obtain ⟨x, hx⟩ : ∃ x, (partsN s countS).map (fun k : Nat => (k : Int)) = [x] := by
    have hl : ((partsN s countS).map fun k : Nat => (k : Int)).length = 1 := by rw [List.length_map, partsN_length]; rfl
    match (partsN s countS).map (fun k : Nat => (k : Int)), hl with
    | [x], _ => exact ⟨x, rfl⟩
  rw [hx] at hb
  have e : cV21 s = x := by unfold cV21; rw [hx]; rfl
  have hok : okP (countS.zip [x]) = true := by
    refine bldP_ne fun e2 => ?_
    rw [e2] at hb
    rw [← hb] at h
    simp [rdE, sizeN, countS] at h
  rw [e]
  refine ⟨hb, ?_⟩
  simp only [okP, countS, List.zip_cons_cons, List.zip_nil_right, List.all_cons, List.all_nil, Bool.and_true] at hok
  have := inB_iff.1 hok
  exact this

/-! ### pieces of 960 -/
def piece21 (l : List Int) (k : Nat) : List Int := (l.drop (960 * k)).take 960
def chop21 (l : List Int) : List (List Int) := (List.range ((l.length + 959) / 960)).map (piece21 l)
theorem chop21_length (l : List Int) : (chop21 l).length = (l.length + 959) / 960 := by simp [chop21]
theorem piece21_length (l : List Int) (k : Nat) : (piece21 l k).length = min 960 (l.length - 960 * k) := by simp [piece21]
theorem piece21_snoc (l : List Int) (x : Int) (k : Nat) (h : 960 * (k + 1) ≤ l.length) : piece21 (l ++ [x]) k = piece21 l k := by
  unfold piece21
  rw [List.drop_append_of_le_length (by omega), List.take_append_of_le_length (by rw [List.length_drop]; omega)]
/-- one more: a piece of its own, or at the last one's end -/
theorem chop21_new {l : List Int} (x : Int) (h : l.length % 960 = 0) : chop21 (l ++ [x]) = chop21 l ++ [[x]] := by
  have e : ((l ++ [x]).length + 959) / 960 = (l.length + 959) / 960 + 1 := by simp; omega
  unfold chop21
  rw [e, List.range_succ, List.map_append]
  congr 1
  · refine List.map_congr_left fun k hk => ?_
    have := List.mem_range.1 hk
    exact piece21_snoc l x k (by omega)
  · have e2 : 960 * ((l.length + 959) / 960) = l.length := by omega
    simp only [List.map_cons, List.map_nil, piece21, e2]
    rw [List.drop_append_of_le_length (Nat.le_refl _), List.drop_length]
    rfl
theorem chop21_more {l : List Int} (x : Int) (h : l.length % 960 ≠ 0) : chop21 (l ++ [x]) = (chop21 l).dropLast ++ [(chop21 l).getD ((chop21 l).length - 1) [] ++ [x]] := by
  have e : ((l ++ [x]).length + 959) / 960 = l.length / 960 + 1 := by simp; omega
  have e0 : (l.length + 959) / 960 = l.length / 960 + 1 := by omega
  have e1 : (chop21 l).length - 1 = l.length / 960 := by rw [chop21_length]; omega
  have e2 : (chop21 l).getD (l.length / 960) [] = piece21 l (l.length / 960) := by
    unfold chop21
    rw [List.getD_eq_getElem?_getD, List.getElem?_map, List.getElem?_range (by omega)]
    rfl
  rw [e1, e2]
  unfold chop21
  rw [e, e0, List.range_succ, List.map_append, List.map_append]
  simp only [List.map_cons, List.map_nil, List.dropLast_concat]
  congr 1
  · refine List.map_congr_left fun k hk => ?_
    have := List.mem_range.1 hk
    exact piece21_snoc l x k (by omega)
  · unfold piece21
    rw [List.drop_append_of_le_length (by omega), List.take_of_length_le (by simp; omega), List.take_of_length_le (by simp; omega)]
theorem chop21_flat (l : List Int) : (chop21 l).flatten = l := by
  have key : ∀ k, ((List.range k).map (piece21 l)).flatten = l.take (960 * k) := fun k => by
    induction k with
    | zero => simp
    | succ k ih =>
      rw [List.range_succ, List.map_append, List.flatten_append, ih]
      simp only [List.map_cons, List.map_nil, List.flatten_cons, List.flatten_nil, List.append_nil, piece21]
      rw [show 960 * (k + 1) = 960 * k + 960 by omega, List.take_add]
  rw [chop21, key, List.take_of_length_le (by omega)]
/-- are lists formed so -/
def form21 : List (List Int) → Prop
  | [] => True
  | [x] => 1 ≤ x.length ∧ x.length ≤ 960
  | x :: y :: r => x.length = 960 ∧ form21 (y :: r)
theorem chop21_step {l : List Int} (h : 960 < l.length) : chop21 l = l.take 960 :: chop21 (l.drop 960) := by
  have e : (l.length + 959) / 960 = ((l.drop 960).length + 959) / 960 + 1 := by rw [List.length_drop]; omega
  unfold chop21
  rw [e, List.range_succ_eq_map, List.map_cons, List.map_map]
  congr 1
  refine List.map_congr_left fun k _ => ?_
  simp only [Function.comp, piece21, List.drop_drop]
  rw [show 960 * (k + 1) = 960 + 960 * k by omega]
theorem chop21_last {l : List Int} (h : 1 ≤ l.length) (h2 : l.length ≤ 960) : chop21 l = [l] := by
  have e : (l.length + 959) / 960 = 1 := by omega
  unfold chop21
  rw [e]
  simp [piece21, List.take_of_length_le h2]
theorem form21_chop : ∀ {b : List (List Int)}, form21 b → chop21 b.flatten = b
  | [], _ => rfl
  | [x], h => by
    obtain ⟨h1, h2⟩ := h
    have e : [x].flatten = x := by simp
    rw [e, chop21_last h1 h2]
  | x :: y :: r, h => by
    obtain ⟨h1, h2⟩ := h
    have hy : 1 ≤ y.length := by
      cases r with
      | nil => exact h2.1
      | cons z r => have := h2.1; omega
    have ih := form21_chop h2
    have hl : 1 ≤ (y :: r).flatten.length := by rw [List.flatten_cons, List.length_append]; omega
    have e : (x :: y :: r).flatten = x ++ (y :: r).flatten := List.flatten_cons
    rw [e, chop21_step (by rw [List.length_append]; omega), List.take_append_of_le_length (by omega), List.take_of_length_le (by omega), List.drop_append_of_le_length (by omega), List.drop_of_length_le (by omega), List.nil_append, ih]
theorem chop21_form : ∀ (n : Nat) (l : List Int), l.length ≤ n → form21 (chop21 l)
  | 0, l, h => by
    have h0 : l.length = 0 := by omega
    rw [List.eq_nil_of_length_eq_zero h0]
    exact trivial
  | n + 1, l, h => by
    by_cases h0 : l.length = 0
    · rw [List.eq_nil_of_length_eq_zero h0]; exact trivial
    · by_cases h1 : 960 < l.length
      · rw [chop21_step h1]
        have ih := chop21_form n (l.drop 960) (by rw [List.length_drop]; omega)
        have hn : chop21 (l.drop 960) ≠ [] := fun e => by
          have := chop21_length (l.drop 960)
          rw [e, List.length_drop] at this
          simp at this
          omega
        match hc : chop21 (l.drop 960), hn with
        | [], hn => exact absurd rfl hn
        | y :: r, _ =>
          rw [hc] at ih
          exact ⟨by rw [List.length_take]; omega, ih⟩
      · rw [chop21_last (by omega) (by omega)]
        exact ⟨by omega, by omega⟩

/-! ### what Split answers -/
def lim21 (n : Int) : Int := if 3 ≤ n then 3 else n
def bits21 (l : List Int) : List (List Int) := chop21 (l.map lim21)
def one21 (k n : Int) : List Ovr21 := if 3 ≤ n then [(k, cB21 n)] else []
def over21 (l : List Int) : List Ovr21 := (List.range l.length).flatMap fun (i : Nat) => one21 (i : Int) (l.getD i 0)
def okC21 (n : Int) : Prop := 0 ≤ n ∧ n ≤ 2147483647
instance (n : Int) : Decidable (okC21 n) := inferInstanceAs (Decidable (_ ∧ _))
def splE21 (l : List Int) : Int := if 65536 < l.length then 1 else if ∀ n ∈ l, okC21 n then 0 else 2
theorem over21_snoc (l : List Int) (x : Int) : over21 (l ++ [x]) = over21 l ++ one21 (l.length : Int) x := by
  unfold over21
  rw [List.length_append, show l.length + [x].length = l.length + 1 by rfl, List.range_succ, List.flatMap_append, List.flatMap_singleton]
  congr 1
  · rw [List.flatMap_def, List.flatMap_def]
    congr 1
    refine List.map_congr_left fun k hk => ?_
    have := List.mem_range.1 hk
    simp [List.getD_eq_getElem?_getD, List.getElem?_append_left this]
  · simp [List.getD_eq_getElem?_getD]
theorem over21_mem {l : List Int} {e : Ovr21} : e ∈ over21 l ↔ ∃ i : Nat, i < l.length ∧ 3 ≤ l.getD i 0 ∧ e = ((i : Int), cB21 (l.getD i 0)) := by
  unfold over21 one21
  rw [List.mem_flatMap]
  constructor
  · rintro ⟨i, hi, h⟩
    split at h
    · rename_i h3
      exact ⟨i, List.mem_range.1 hi, h3, List.mem_singleton.1 h⟩
    · cases h
  · rintro ⟨i, hi, h3, rfl⟩
    exact ⟨i, List.mem_range.2 hi, by rw [if_pos h3]; exact List.mem_singleton.2 rfl⟩
theorem over21_rises : ∀ l : List Int, (over21 l).Pairwise fun a b => a.1 < b.1 := fun l => by
  induction h : l.length generalizing l with
  | zero => rw [List.eq_nil_of_length_eq_zero h]; exact List.Pairwise.nil
  | succ k ih =>
    obtain ⟨r, x, rfl⟩ : ∃ r x, l = r ++ [x] := ⟨l.dropLast, l.getLast (by intro e; rw [e] at h; simp at h), (List.dropLast_concat_getLast _).symm⟩
    have hr : r.length = k := by simpa using h
    rw [over21_snoc, List.pairwise_append]
    refine ⟨ih r hr, ?_, fun a ha b hb => ?_⟩
    · unfold one21; split
      · exact List.pairwise_singleton _ _
      · exact List.Pairwise.nil
    · obtain ⟨i, hi, _, rfl⟩ := over21_mem.1 ha
      unfold one21 at hb
      split at hb
      · rw [List.mem_singleton.1 hb]
        show (i : Int) < (r.length : Int)
        omega
      · cases hb
/-- rows that rise and have the same in them are the same -/
theorem rise21_ext {α : Type} (f : α → Int) : ∀ {a b : List α}, (a.Pairwise fun x y => f x < f y) → (b.Pairwise fun x y => f x < f y) → (∀ x, x ∈ a ↔ x ∈ b) → a = b
  | [], [], _, _, _ => rfl
  | [], y :: b, _, _, h => (List.not_mem_nil ((h y).2 (List.mem_cons_self ..))).elim
  | x :: a, [], _, _, h => (List.not_mem_nil ((h x).1 (List.mem_cons_self ..))).elim
  | x :: a, y :: b, ha, hb, h => by
    obtain ⟨ha1, ha2⟩ := List.pairwise_cons.1 ha
    obtain ⟨hb1, hb2⟩ := List.pairwise_cons.1 hb
    have hxy : x = y := by
      rcases List.mem_cons.1 ((h x).1 (List.mem_cons_self ..)) with e | hx
      · exact e
      · rcases List.mem_cons.1 ((h y).2 (List.mem_cons_self ..)) with e | hy
        · exact e.symm
        · have := hb1 x hx
          have := ha1 y hy
          omega
    subst hxy
    congr 1
    refine rise21_ext f ha2 hb2 fun z => ?_
    constructor
    · intro hz
      rcases List.mem_cons.1 ((h z).1 (List.mem_cons_of_mem _ hz)) with rfl | hz2
      · have := ha1 z hz; omega
      · exact hz2
    · intro hz
      rcases List.mem_cons.1 ((h z).2 (List.mem_cons_of_mem _ hz)) with rfl | hz2
      · have := hb1 z hz; omega
      · exact hz2

/-! ### what Join answers -/
def okB21 (b : List (List Int)) : Prop := form21 b ∧ ∀ x ∈ b.flatten, 0 ≤ x ∧ x ≤ 3
/-- what is wrong with entries behind a key (none: no entry before) -/
def entE21 (out : List Int) : Option Int → List Ovr21 → Int
  | _, [] => 0
  | p, e :: r => if e.1 < 0 ∨ (∃ y, p = some y ∧ e.1 ≤ y) then 8 else if (out.length : Int) ≤ e.1 ∨ out.getD e.1.toNat 0 ≠ 3 then 13 else if rdE e.2 countS ≠ 0 then rdE e.2 countS else entE21 out (some e.1) r
/-- has each 3 an entry -/
def full21 (out : List Int) (o : List Ovr21) : Prop := ∀ k, k < out.length → out.getD k 0 = 3 → ∃ e ∈ o, e.1 = (k : Int)
/-- the first entry of a key -/
def find21 (o : List Ovr21) (k : Int) : Option Ovr21 := o.find? fun e => e.1 == k
def fill21 (out : List Int) (o : List Ovr21) : List Int := (List.range out.length).map fun (k : Nat) => if out.getD k 0 = 3 then (match find21 o (k : Int) with | some e => cV21 e.2 | none => 0) else out.getD k 0
theorem fill21_length (out : List Int) (o : List Ovr21) : (fill21 out o).length = out.length := by simp [fill21]
theorem fill21_at {out : List Int} {o : List Ovr21} {k : Nat} (h : k < out.length) : (fill21 out o).getD k 0 = if out.getD k 0 = 3 then (match find21 o (k : Int) with | some e => cV21 e.2 | none => 0) else out.getD k 0 := by
  unfold fill21
  rw [List.getD_eq_getElem?_getD, List.getElem?_map, List.getElem?_range h]
  rfl
theorem entE21_zero {out : List Int} : ∀ {p : Option Int} {o : List Ovr21}, entE21 out p o = 0 ↔
    (∀ e ∈ o, 0 ≤ e.1 ∧ e.1 < (out.length : Int) ∧ out.getD e.1.toNat 0 = 3 ∧ rdE e.2 countS = 0) ∧ (o.Pairwise fun a b => a.1 < b.1) ∧ ∀ y, p = some y → ∀ e ∈ o, y < e.1
  | p, [] => by
    constructor
    · intro _; exact ⟨fun x hx => (List.not_mem_nil hx).elim, List.Pairwise.nil, fun a _ x hx => (List.not_mem_nil hx).elim⟩
    · intro _; rfl
  | p, e :: r => by
    rw [entE21]
    by_cases h1 : e.1 < 0 ∨ (∃ y, p = some y ∧ e.1 ≤ y)
    · rw [if_pos h1]
      constructor
      · intro h; cases h
      · rintro ⟨a, _, c⟩
        rcases h1 with h1 | ⟨y, e1, h1⟩
        · have := (a e (List.mem_cons_self ..)).1; omega
        · have := c y e1 e (List.mem_cons_self ..); omega
    · rw [if_neg h1]
      by_cases h2 : (out.length : Int) ≤ e.1 ∨ out.getD e.1.toNat 0 ≠ 3
      · rw [if_pos h2]
        constructor
        · intro h; cases h
        · rintro ⟨a, _, _⟩
          have := a e (List.mem_cons_self ..)
          rcases h2 with h2 | h2
          · omega
          · exact absurd this.2.2.1 h2
      · rw [if_neg h2]
        by_cases h3 : rdE e.2 countS ≠ 0
        · rw [if_pos h3]
          constructor
          · intro h; exact absurd h h3
          · rintro ⟨a, _, _⟩
            exact absurd (a e (List.mem_cons_self ..)).2.2.2 h3
        · rw [if_neg h3, entE21_zero (p := some e.1) (o := r), List.pairwise_cons]
          have he : 0 ≤ e.1 := by
            by_cases h : 0 ≤ e.1
            · exact h
            · exact absurd (.inl (by omega)) h1
          have hp : ∀ y, p = some y → y < e.1 := fun y e1 => by
            by_cases h : y < e.1
            · exact h
            · exact absurd (.inr ⟨y, e1, by omega⟩) h1
          have hlen : e.1 < (out.length : Int) := by
            by_cases h : e.1 < (out.length : Int)
            · exact h
            · exact absurd (.inl (by omega)) h2
          have h33 : out.getD e.1.toNat 0 = 3 := by
            by_cases h : out.getD e.1.toNat 0 = 3
            · exact h
            · exact absurd (.inr h) h2
          have hz : rdE e.2 countS = 0 := by
            by_cases h : rdE e.2 countS = 0
            · exact h
            · exact absurd h h3
          constructor
          · rintro ⟨a, b, c⟩
            refine ⟨fun x hx => ?_, ⟨fun x hx => c _ rfl x hx, b⟩, fun y e1 x hx => ?_⟩
            · rcases List.mem_cons.1 hx with rfl | hx
              · exact ⟨he, hlen, h33, hz⟩
              · exact a x hx
            · rcases List.mem_cons.1 hx with rfl | hx
              · exact hp y e1
              · have := c _ rfl x hx
                have := hp y e1
                omega
          · rintro ⟨a, ⟨b1, b2⟩, c⟩
            refine ⟨fun x hx => a x (List.mem_cons_of_mem _ hx), b2, fun y e1 x hx => ?_⟩
            obtain rfl := Option.some.inj e1
            exact b1 x hx
theorem find21_yes {o : List Ovr21} (h : o.Pairwise fun a b => a.1 < b.1) {e : Ovr21} (he : e ∈ o) : find21 o e.1 = some e := by
  induction o with
  | nil => cases he
  | cons x r ih =>
    obtain ⟨h1, h2⟩ := List.pairwise_cons.1 h
    unfold find21
    rw [List.find?_cons]
    rcases List.mem_cons.1 he with rfl | he
    · simp
    · have hlt := h1 e he
      have hb : (x.1 == e.1) = false := by
        simp only [beq_eq_false_iff_ne, ne_eq]
        omega
      rw [hb]
      exact ih h2 he

/-! ### there and back -/
theorem lim21_in {n : Int} (h : okC21 n) : 0 ≤ lim21 n ∧ lim21 n ≤ 3 := by
  unfold lim21
  obtain ⟨a, b⟩ := h
  split <;> omega
theorem split21_join {l : List Int} (h : ∀ n ∈ l, okC21 n) : okB21 (bits21 l) ∧ (bits21 l).flatten = l.map lim21 ∧ entE21 (l.map lim21) none (over21 l) = 0 ∧ full21 (l.map lim21) (over21 l) ∧ fill21 (l.map lim21) (over21 l) = l := by
  have hf : (bits21 l).flatten = l.map lim21 := chop21_flat _
  have hin : ∀ i, i < l.length → okC21 (l.getD i 0) := fun i hi => by
    rw [List.getD_eq_getElem?_getD, List.getElem?_eq_getElem hi]
    exact h _ (List.getElem_mem hi)
  have hat : ∀ i, i < l.length → (l.map lim21).getD i 0 = lim21 (l.getD i 0) := fun i hi => by
    simp [List.getD_eq_getElem?_getD, hi]
  refine ⟨⟨chop21_form _ _ (Nat.le_refl _), fun x hx => ?_⟩, hf, ?_, ?_, ?_⟩
  · rw [hf] at hx
    obtain ⟨n, hn, rfl⟩ := List.mem_map.1 hx
    exact lim21_in (h n hn)
  · refine entE21_zero.2 ⟨fun e he => ?_, over21_rises l, fun y e1 => absurd e1 (by simp)⟩
    obtain ⟨i, hi, h3, rfl⟩ := over21_mem.1 he
    refine ⟨by show (0 : Int) ≤ (i : Int); omega, by show (i : Int) < _; rw [List.length_map]; omega, ?_, (cnt21_back h3 (hin i hi).2).1⟩
    show (l.map lim21).getD ((i : Int)).toNat 0 = 3
    rw [Int.toNat_natCast, hat i hi, lim21, if_pos h3]
  · intro k hk h3
    rw [List.length_map] at hk
    rw [hat k hk] at h3
    refine ⟨_, over21_mem.2 ⟨k, hk, ?_, rfl⟩, rfl⟩
    unfold lim21 at h3
    split at h3
    · assumption
    · omega
  · apply List.ext_getElem
    · rw [fill21_length, List.length_map]
    · intro k h1 h2
      have hx := fill21_at (out := l.map lim21) (o := over21 l) (k := k) (by rw [List.length_map]; exact h2)
      rw [List.getD_eq_getElem?_getD, List.getElem?_eq_getElem h1, hat k h2] at hx
      simp only [Option.getD_some] at hx
      have hg : l.getD k 0 = l[k] := by simp [List.getD_eq_getElem?_getD, h2]
      rw [hx]
      by_cases h3 : 3 ≤ l.getD k 0
      · have hm : (((k : Int), cB21 (l.getD k 0)) : Ovr21) ∈ over21 l := over21_mem.2 ⟨k, h2, h3, rfl⟩
        rw [lim21, if_pos h3, if_pos rfl, find21_yes (over21_rises l) hm]
        show cV21 (cB21 (l.getD k 0)) = l[k]
        rw [(cnt21_back h3 (hin k h2).2).2.1, hg]
      · rw [lim21, if_neg h3, if_neg (by omega), hg]
theorem join21_split {b : List (List Int)} {o : List Ovr21} (hb : okB21 b) (he : entE21 b.flatten none o = 0) (hf : full21 b.flatten o) : (∀ n ∈ fill21 b.flatten o, okC21 n) ∧ bits21 (fill21 b.flatten o) = b ∧ over21 (fill21 b.flatten o) = o := by
  obtain ⟨h1, h2⟩ := hb
  obtain ⟨e1, e2, _⟩ := entE21_zero.1 he
  have hin : ∀ k, k < b.flatten.length → 0 ≤ b.flatten.getD k 0 ∧ b.flatten.getD k 0 ≤ 3 := fun k hk => by
    rw [List.getD_eq_getElem?_getD, List.getElem?_eq_getElem hk]
    exact h2 _ (List.getElem_mem hk)
  have hval : ∀ k, k < b.flatten.length → (b.flatten.getD k 0 = 3 ∧ ∃ e ∈ o, e.1 = (k : Int) ∧ (fill21 b.flatten o).getD k 0 = cV21 e.2 ∧ rdE e.2 countS = 0) ∨ (b.flatten.getD k 0 ≠ 3 ∧ (fill21 b.flatten o).getD k 0 = b.flatten.getD k 0) := fun k hk => by
    rw [fill21_at hk]
    by_cases h3 : b.flatten.getD k 0 = 3
    · left
      obtain ⟨e, he, hk2⟩ := hf k hk h3
      refine ⟨h3, e, he, hk2, ?_, (e1 e he).2.2.2⟩
      rw [if_pos h3, ← hk2, find21_yes e2 he]
    · right
      rw [if_neg h3]
      exact ⟨h3, rfl⟩
  have hlim : (fill21 b.flatten o).map lim21 = b.flatten := by
    apply List.ext_getElem
    · rw [List.length_map, fill21_length]
    · intro k a1 a2
      have hx : b.flatten.getD k 0 = b.flatten[k] := by rw [List.getD_eq_getElem?_getD, List.getElem?_eq_getElem a2]; rfl
      have hy : (fill21 b.flatten o).getD k 0 = (fill21 b.flatten o)[k]'(by rw [fill21_length]; exact a2) := by rw [List.getD_eq_getElem?_getD, List.getElem?_eq_getElem]; rfl
      rw [List.getElem_map, ← hy, ← hx]
      rcases hval k a2 with ⟨h3, e, _, _, h4, h5⟩ | ⟨h3, h4⟩
      · rw [h4, h3, lim21, if_pos (cnt21_read h5).2.1]
      · have := hin k a2
        rw [h4, lim21, if_neg (by omega)]
  refine ⟨fun n hn => ?_, ?_, ?_⟩
  · obtain ⟨k, hk, rfl⟩ := List.getElem_of_mem hn
    have hk2 : k < b.flatten.length := by rw [fill21_length] at hk; exact hk
    have hy : (fill21 b.flatten o).getD k 0 = (fill21 b.flatten o)[k] := by rw [List.getD_eq_getElem?_getD, List.getElem?_eq_getElem hk]; rfl
    rw [← hy]
    rcases hval k hk2 with ⟨h3, e, _, _, h4, h5⟩ | ⟨h3, h4⟩
    · have := (cnt21_read h5).2
      rw [h4]
      unfold okC21
      omega
    · have := hin k hk2
      rw [h4]
      unfold okC21
      omega
  · unfold bits21
    rw [hlim]
    exact form21_chop h1
  · refine rise21_ext (fun e : Ovr21 => e.1) (over21_rises _) e2 fun x => ?_
    rw [over21_mem]
    constructor
    · rintro ⟨k, hk, h3, rfl⟩
      rw [fill21_length] at hk
      rcases hval k hk with ⟨_, e, he, hk2, h4, h5⟩ | ⟨h33, h4⟩
      · rw [h4, (cnt21_read h5).1, ← hk2]
        exact he
      · have := hin k hk
        omega
    · intro hx
      obtain ⟨a1, a2, a3, a4⟩ := e1 x hx
      refine ⟨x.1.toNat, by rw [fill21_length]; omega, ?_, ?_⟩
      · rcases hval x.1.toNat (by omega) with ⟨_, e, he, hk2, h4, h5⟩ | ⟨h33, _⟩
        · rw [h4]; exact (cnt21_read h5).2.1
        · exact absurd a3 h33
      · rcases hval x.1.toNat (by omega) with ⟨_, e, he, hk2, h4, h5⟩ | ⟨h33, _⟩
        · have hk3 : e.1 = x.1 := by omega
          have hex : e = x := by
            have f1 := find21_yes e2 he
            have f2 := find21_yes e2 hx
            rw [hk3, f2] at f1
            exact (Option.some.inj f1).symm
          subst hex
          rw [h4, (cnt21_read h5).1]
          refine Prod.ext ?_ rfl
          show e.1 = ((e.1.toNat : Nat) : Int)
          omega
        · exact absurd a3 h33
end Go.Proofs.Ytoacgoelhidmbaa
