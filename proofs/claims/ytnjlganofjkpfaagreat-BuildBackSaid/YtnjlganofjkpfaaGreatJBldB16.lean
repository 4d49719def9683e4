/-
  Joined: CodeE, CodeF, CodeG, CodeH, CodeJ, CodeL, BitMath, BitA, NodMath, NodMathB, NodA, SealMath, SupC, ValMath, SlotMath.
-/
import Derived.OwnWalk
import Derived.Test.YtnjlganofjkpfaaGreatJBldB11
import Derived.Test.YtnjlganofjkpfaaGreatJBldB09
import Derived.Deep.RegionLaw
import Derived.Test.YtnjlganofjkpfaaGreatJBldB02
import Derived.Test.YtnjlganofjkpfaaGreatJBldB01
/-
  Layer 1's split: the encoding of an integer.
-/
namespace Go.Proofs.YtnjlganofjkpfaaGreat
open Go.RowKit
set_option linter.unusedVariables false
set_option linter.unusedSimpArgs false


/-- the encoding of n in k bytes -/
def encN : Nat → Nat → List UInt8
  | 0, _ => []
  | k + 1, n => UInt8.ofNat n :: encN k (n / 256)

theorem encN_length (k n : Nat) : (encN k n).length = k := by
  induction k generalizing n with
  | zero => rfl
  | succ k ih => simp [encN, ih]

set_option maxRecDepth 100000 in
set_option maxHeartbeats 400000 in
theorem split1 (base : Nat) (v : Value) (m : Nat) (xs : List Value) (n : Nat) (w : World) (hown : Hid (w.ownsRow base 5 1 v m xs)) (hb : base ≤ w.heap.size) (hm : m + 8 ≤ 140737488355328) (hn : n < 9223372036854775808) :
    Calls Tryz.prog 68 #[v, .int .i64 n, .int .i64 1] w fun e w' => ∃ v', e = .returned v' ∧ w'.ownsRow base 5 1 v' (m + 1) (xs ++ u8s (encN 1 n)) ∧ Below base w w' := by
  go_enter Tryz.func68, Tryz.ntmps68
  go_wp2_with (at_builtin; refine wpList_append_new w rfl (.tmp 49) (.tmp 52) _ rfl base 5 _ _ 1 Tryz.underlying22 info_u8 rfl v m xs rfl hown hb [_] 1 1 rfl rfl (by simp [Value.oneCell']) (by omega) (by omega) ?_; intro v1 w1 hown1 hb1 hg1)
  go_ret
  refine ⟨v1, rfl, ?_, hg1⟩
  simpa [encN, u8s] using hown1.out

set_option maxRecDepth 100000 in
set_option maxHeartbeats 400000 in
theorem split2 (base : Nat) (v : Value) (m : Nat) (xs : List Value) (n : Nat) (w : World) (hown : Hid (w.ownsRow base 5 1 v m xs)) (hb : base ≤ w.heap.size) (hm : m + 8 ≤ 140737488355328) (hn : n < 9223372036854775808) :
    Calls Tryz.prog 68 #[v, .int .i64 n, .int .i64 2] w fun e w' => ∃ v', e = .returned v' ∧ w'.ownsRow base 5 1 v' (m + 2) (xs ++ u8s (encN 2 n)) ∧ Below base w w' := by
  go_enter Tryz.func68, Tryz.ntmps68
  go_wp2_with (first
    | (at_builtin; refine wpList_append_new w rfl (.tmp 42) (.tmp 45) _ rfl base 5 _ _ 1 Tryz.underlying22 info_u8 rfl v m xs rfl hown hb [_] 1 1 rfl rfl (by simp [Value.oneCell']) (by omega) (by omega) ?_; intro v1 w1 hown1 hb1 hg1)
    | (at_builtin; refine wpList_append_new w1 rfl (.tmp 49) (.tmp 52) _ rfl base 5 _ _ 1 Tryz.underlying22 info_u8 rfl v1 _ _ rfl hown1 hb1 [_] 1 1 rfl rfl (by simp [Value.oneCell']) (by omega) (by omega) ?_; intro v2 w2 hown2 hb2 hg2))
  go_ret
  refine ⟨v2, rfl, ?_, hg1.trans hg2⟩
  simpa [encN, u8s] using hown2.out

set_option maxRecDepth 100000 in
set_option maxHeartbeats 400000 in
theorem split4 (base : Nat) (v : Value) (m : Nat) (xs : List Value) (n : Nat) (w : World) (hown : Hid (w.ownsRow base 5 1 v m xs)) (hb : base ≤ w.heap.size) (hm : m + 8 ≤ 140737488355328) (hn : n < 9223372036854775808) :
    Calls Tryz.prog 68 #[v, .int .i64 n, .int .i64 4] w fun e w' => ∃ v', e = .returned v' ∧ w'.ownsRow base 5 1 v' (m + 4) (xs ++ u8s (encN 4 n)) ∧ Below base w w' := by
  go_enter Tryz.func68, Tryz.ntmps68
  go_wp2_with (first
    | (at_builtin; refine wpList_append_new w rfl (.tmp 32) (.tmp 38) _ rfl base 5 _ _ 1 Tryz.underlying22 info_u8 rfl v m xs rfl hown hb [_, _] 2 2 rfl rfl (by simp [Value.oneCell']) (by omega) (by omega) ?_; intro v1 w1 hown1 hb1 hg1)
    | (at_builtin; refine wpList_append_new w1 rfl (.tmp 42) (.tmp 45) _ rfl base 5 _ _ 1 Tryz.underlying22 info_u8 rfl v1 _ _ rfl hown1 hb1 [_] 1 1 rfl rfl (by simp [Value.oneCell']) (by omega) (by omega) ?_; intro v2 w2 hown2 hb2 hg2)
    | (at_builtin; refine wpList_append_new w2 rfl (.tmp 49) (.tmp 52) _ rfl base 5 _ _ 1 Tryz.underlying22 info_u8 rfl v2 _ _ rfl hown2 hb2 [_] 1 1 rfl rfl (by simp [Value.oneCell']) (by omega) (by omega) ?_; intro v3 w3 hown3 hb3 hg3))
  go_ret
  refine ⟨v3, rfl, ?_, (hg1.trans hg2).trans hg3⟩
  have := hown3.out
  simp [encN, u8s, Nat.div_div_eq_div_mul, Int.ediv_ediv_of_nonneg] at this ⊢
  exact this

set_option maxRecDepth 100000 in
set_option maxHeartbeats 400000 in
theorem split8 (base : Nat) (v : Value) (m : Nat) (xs : List Value) (n : Nat) (w : World) (hown : Hid (w.ownsRow base 5 1 v m xs)) (hb : base ≤ w.heap.size) (hm : m + 8 ≤ 140737488355328) (hn : n < 9223372036854775808) :
    Calls Tryz.prog 68 #[v, .int .i64 n, .int .i64 8] w fun e w' => ∃ v', e = .returned v' ∧ w'.ownsRow base 5 1 v' (m + 8) (xs ++ u8s (encN 8 n)) ∧ Below base w w' := by
  go_enter Tryz.func68, Tryz.ntmps68
  go_wp2_with (first
    | (at_builtin; refine wpList_append_new w rfl (.tmp 16) (.tmp 28) _ rfl base 5 _ _ 1 Tryz.underlying22 info_u8 rfl v m xs rfl hown hb [_, _, _, _] 4 4 rfl rfl (by simp [Value.oneCell']) (by omega) (by omega) ?_; intro v0 w0 hown0 hb0 hg0)
    | (at_builtin; refine wpList_append_new w0 rfl (.tmp 32) (.tmp 38) _ rfl base 5 _ _ 1 Tryz.underlying22 info_u8 rfl v0 _ _ rfl hown0 hb0 [_, _] 2 2 rfl rfl (by simp [Value.oneCell']) (by omega) (by omega) ?_; intro v1 w1 hown1 hb1 hg1)
    | (at_builtin; refine wpList_append_new w1 rfl (.tmp 42) (.tmp 45) _ rfl base 5 _ _ 1 Tryz.underlying22 info_u8 rfl v1 _ _ rfl hown1 hb1 [_] 1 1 rfl rfl (by simp [Value.oneCell']) (by omega) (by omega) ?_; intro v2 w2 hown2 hb2 hg2)
    | (at_builtin; refine wpList_append_new w2 rfl (.tmp 49) (.tmp 52) _ rfl base 5 _ _ 1 Tryz.underlying22 info_u8 rfl v2 _ _ rfl hown2 hb2 [_] 1 1 rfl rfl (by simp [Value.oneCell']) (by omega) (by omega) ?_; intro v3 w3 hown3 hb3 hg3))
  go_ret
  refine ⟨v3, rfl, ?_, ((hg0.trans hg1).trans hg2).trans hg3⟩
  have := hown3.out
  simp [encN, u8s, Nat.div_div_eq_div_mul, Int.ediv_ediv_of_nonneg] at this ⊢
  have e : (n : Int) / 72057594037927936 % 256 = (n : Int) / 72057594037927936 := by omega
  rw [e]
  exact this

theorem split_any (base : Nat) (v : Value) (m : Nat) (xs : List Value) (n wd : Int) (w : World) (hown : w.ownsRow base 5 1 v m xs) (hb : base ≤ w.heap.size) (hm : m + 8 ≤ 140737488355328)
    (hn0 : 0 ≤ n) (hn : n < 9223372036854775808) (hw : isW wd = true) :
    Calls Tryz.prog 68 #[v, .int .i64 n, .int .i64 wd] w fun e w' => ∃ v', e = .returned v' ∧ w'.ownsRow base 5 1 v' (m + wd.toNat) (xs ++ u8s (encN wd.toNat n.toNat)) ∧ Below base w w' := by
  obtain ⟨k, rfl⟩ := Int.eq_ofNat_of_zero_le hn0
  rcases isW_cases hw with rfl | rfl | rfl | rfl
  · exact split1 base v m xs k w hown hb hm (by omega)
  · exact split2 base v m xs k w hown hb hm (by omega)
  · exact split4 base v m xs k w hown hb hm (by omega)
  · exact split8 base v m xs k w hown hb hm (by omega)

/-! ### the reference's Bytes -/
end Go.Proofs.YtnjlganofjkpfaaGreat

/-
  Layer 1's Put.
-/
namespace Go.Proofs.YtnjlganofjkpfaaGreat
open Go.RowKit
set_option linter.unusedVariables false
set_option linter.unusedSimpArgs false

set_option maxRecDepth 100000 in
set_option maxHeartbeats 400000 in
theorem Put_own (A : Option Addr) (n c k : Nat) (wd : Int) (x : Nat) (l : List UInt8) (w : World) (h : Bytes8 w A n c l) (hn : n ≤ 140737488355320) (hr : roomE n k wd = 0) (hw : isW wd = true) (hk : k + wd.toNat ≤ n)
    (hx : x < 9223372036854775808) (hf : fitsB x wd = true) :
    Calls Tryz.prog 84 #[.slice A n c, .int .i64 k, .int .i64 wd, .int .i64 x] w fun e w' => e = .returned (.tuple #[.slice (some ⟨w.heap.size, 0, none⟩) n n, .int .i64 0]) ∧
      Own8 w' w.heap.size w.heap.size (l.take k ++ (encN wd.toNat x ++ l.drop (k + wd.toNat))) ∧ Below w.heap.size w w' := by
  have P := Lib.hid (place_any A n c k wd w (by omega) (by omega) 0 hr)
  have F := Lib.hid (fits_any x wd w hw (by omega) true hf)
  obtain ⟨m, hm⟩ : ∃ m : Nat, m = wd.toNat := ⟨_, rfl⟩
  have S : ∀ W : World, Calls Tryz.prog 68 #[.slice none 0 0, .int .i64 x, .int .i64 wd] W fun e w' => ∃ A' c', e = .returned (.slice A' m c') ∧ Bytes8 w' A' m c' (encN m x) ∧ Below W.heap.size W w' :=
    fun W => (split_any W.heap.size (.slice none 0 0) 0 [] x wd W (World.ownsRow_nil _ _ _ _) (Nat.le_refl _) (by omega) (by omega) (by omega) hw).mono fun e w' ⟨v', he, ho, hb⟩ => by
      simp only [Nat.zero_add, List.nil_append, Int.toNat_natCast, ← hm] at ho
      obtain ⟨A', c', rfl, hB⟩ := Bytes8.of_own ho
      exact ⟨A', c', he, hB, hb⟩
  have hb8 : 1 ≤ wd ∧ wd ≤ 8 := by rcases isW_cases hw with h | h | h | h <;> omega
  obtain ⟨i0, hi0, hz0, hz1, hz2⟩ := info_parts info_u8
  have HB := Lib.hid h
  have HS := Lib.hid S
  clear h hr hf hw S
  have hkm : k + m ≤ n := by omega
  have hm1 : 1 ≤ m := by omega
  have hkn : k ≤ n := by omega
  have hnk : ¬ n = k := by omega
  rw [← hm]
  have HM := Lib.hid hm
  clear hm hk
  go_enter Tryz.func84, Tryz.ntmps84
  go_wp2_with (first
    | (go_at_call 94; refine (P.out).mono ?_; rintro e w' ⟨rfl, rfl⟩)
    | (go_at_call 67; refine (F.out).mono ?_; rintro e w' ⟨rfl, rfl⟩)
    | (at_make; refine wpList_make_full w rfl (.tmp 24) (.tmp 24) _ rfl w.heap.size 5 i0 _ 1 Tryz.underlying22 hi0 hz0 hz1 .i64 .i64 _ _ n rfl rfl rfl rfl (by rw [hz2]; omega) (by simp only [maxLen]; omega) (Nat.le_refl _) ?_; intro w1 hown1 hg1; have hb1 := below_of_grown hg1 (by simp); have HO1 := Lib.hid hown1; clear hown1)
    | (refine wpList_copy_splice rfl (.tmp 26) (.tmp 27) _ _ rfl 5 Tryz.underlying22 size_u8 _ _ _ _ _ _ rfl rfl w.heap.size 0 _ 5 (ownsRow_whole HO1.out) (u8s l) (by rw [u8s_length, HB.out.len]; exact (Nat.min_self n).symm) (fun hp => ⟨rfl, (HB.out.row.below hb1).src hp⟩) (by have := HO1.out.1; rw [u8s_length, HB.out.len]; omega) (u8s_one _) w.heap.size w hb1 (Nat.le_refl _) ?_; intro w2 HG2 hb2; have HG2 : Hid (w2.heap[w.heap.size]? = some (.cells (u8s l).toArray 5 (0, 0))) := (by have h1 := HO1.out.1; have h2 := HB.out.len; rw [splice_all _ _ (by rw [u8s_length]; omega)] at HG2; exact HG2)))
  go_region_law (first
    | (go_simp; go_at_call 68; go_must (have hlt2 := block_lt HG2.out; refine (HS.out _).mono ?_; rintro e w3 ⟨A3, c3, rfl, HB3, hbb3⟩; have hb3 := hb2.drew.trans (hbb3.mono hb2.size); have HG3 : Hid (w3.heap[w.heap.size]? = _) := (hbb3.block w.heap.size hlt2).trans HG2.out))
    | (refine step_copy_splice rfl (.tmp 31) (.tmp 34) _ _ rfl 5 Tryz.underlying22 size_u8 _ _ _ _ _ _ rfl rfl w.heap.size k _ 5 (HG3.out) (u8s (encN m x)) (by rw [u8s_length, encN_length]; exact (Nat.min_eq_left (by omega)).symm) (fun hp => ⟨rfl, HB3.row.src hp⟩) (by have := HB.out.len; rw [u8s_length, u8s_length, encN_length]; omega) (u8s_one _) w.heap.size w hb3 (Nat.le_refl _) ?_; intro w4 HG4 hb4))
  go_wp2
  go_ret2
  refine ⟨rfl, ⟨Nat.le_refl _, ?_⟩, hb4⟩
  have := HG4.out
  simpa [splice, u8s_take, u8s_drop, u8s_append, u8s_length, encN_length] using this

end Go.Proofs.YtnjlganofjkpfaaGreat

/-
  The reference's Put; both Zero.
-/
namespace Go.Proofs.YtnjlganofjkpfaaGreat
open Go.RowKit
set_option linter.unusedVariables false
set_option linter.unusedSimpArgs false

def zeroB (l : List UInt8) : Bool := l.all (· == 0)

theorem zeroB_take {l : List UInt8} {k : Nat} (h : zeroB (l.take k) = true) (hk : k < l.length) : zeroB (l.take (k + 1)) = (l[k] == 0) := by
  rw [List.take_succ_eq_append_getElem hk]
  simp only [zeroB, List.all_append] at *
  rw [h]
  simp

theorem zeroB_false {l : List UInt8} {k : Nat} (hk : k < l.length) (h : l[k] ≠ 0) : zeroB l = false := by
  simp only [zeroB, List.all_eq_false]
  exact ⟨l[k], List.getElem_mem _, by simpa using h⟩

set_option maxRecDepth 100000 in
set_option maxHeartbeats 400000 in
theorem Zero_any (A : Option Addr) (n c : Nat) (l : List UInt8) (w : World) (h : Bytes8 w A n c l) (r : Bool) (hz : zeroB l = r) :
    Calls Tryz.prog 92 #[.slice A n c] w fun e w' => e = .returned (.bool r) ∧ w = w' := by
  obtain ⟨hl, hcap, hmost, hr⟩ := h
  have HL := Lib.hid hl
  have HZ := Lib.hid hz
  have hn : n ≤ 9223372036854775807 := by omega
  by_cases hp : 0 < n
  · obtain ⟨b, off, rfl, hb, hcell⟩ := hr.lit (by rw [u8s_length]; omega)
    have HC := Lib.hid hcell
    clear hl hz hr hcell
    go_enter Tryz.func92, Tryz.ntmps92
    go_wp2
    go_loop [7] (fun i => ∃ k : Nat, k ≤ n ∧ i = .int .i64 k ∧ Hid (zeroB (l.take k) = true)) (fun i => n - (intOf i).toNat)
    case atStart => exact ⟨0, by omega, rfl, rfl⟩
    case round =>
      obtain ⟨k, hk, rfl, hzk⟩ := hrel
      by_cases hlt : k < n
      · have hkl : k < l.length := by have := HL.out; omega
        have hc := HC.out k _ (u8s_at l k hkl)
        by_cases h0 : l[k] = 0
        · have hz1 : Hid (zeroB (l.take (k + 1)) = true) := by
            rw [zeroB_take hzk.out hkl, h0]; rfl
          have hc0 : w.cell? ⟨b, off + k, none⟩ = some (.int .u8 0) := by rw [hc, h0]; rfl
          clear hc h0
          go_wp2
          go_round
          case rel => exact ⟨k + 1, by omega, by go_num, hz1⟩
          case measure => simp [intOf]; omega
        · have hf : zeroB l = false := zeroB_false hkl h0
          obtain rfl : false = r := by rw [← HZ.out, hf]
          have hne : ((l[k].toNat : Int) != 0) = true := by
            rw [bne_iff_ne]
            intro he
            exact h0 (UInt8.toNat_inj.1 (by simpa using he))
          generalize l[k].toNat = v at *
          clear h0 hf
          go_wp2
          go_ret
          exact ⟨rfl, rfl⟩
      · have ht : zeroB l = true := by
          have := hzk.out
          rwa [List.take_of_length_le (by have := HL.out; omega)] at this
        obtain rfl : true = r := by rw [← HZ.out, ht]
        clear ht
        go_wp2
        go_ret
        exact ⟨rfl, rfl⟩
  · obtain rfl : n = 0 := by omega
    obtain rfl : l = [] := List.eq_nil_of_length_eq_zero hl
    obtain rfl : true = r := by rw [← hz]; rfl
    clear hl hz hr
    go_enter Tryz.func92, Tryz.ntmps92
    go_wp2
    refine wp_loop_rounds 1 ?_
    rw [rounds_succ]
    go_wp2
    go_ret
    exact ⟨rfl, rfl⟩

end Go.Proofs.YtnjlganofjkpfaaGreat

/-
  Layer 1's Pack.
-/
namespace Go.Proofs.YtnjlganofjkpfaaGreat
open Go.RowKit
set_option linter.unusedVariables false
set_option linter.unusedSimpArgs false

/-- fields as cells -/
def flds (l : List (Int × Int)) : List Value := l.flatMap fun p => [.int .i64 p.1, .int .i64 p.2]

theorem flds_length (l : List (Int × Int)) : (flds l).length = l.length * 2 := by
  induction l with
  | nil => rfl
  | cons p r ih => simp only [flds, List.flatMap_cons, List.length_append, List.length_cons, List.length_nil] at *; omega

theorem flds_at (l : List (Int × Int)) (k : Nat) (h : k < l.length) : (flds l)[k * 2]? = some (.int .i64 l[k].1) ∧ (flds l)[k * 2 + 1]? = some (.int .i64 l[k].2) := by
  induction l generalizing k with
  | nil => simp at h
  | cons p r ih =>
    cases k with
    | zero => simp [flds]
    | succ k =>
      have := ih k (by simpa using h)
      simp only [flds, List.flatMap_cons] at *
      rw [List.getElem?_append_right (by simp; omega), List.getElem?_append_right (by simp; omega)]
      simp only [List.length_cons, List.length_nil, List.getElem_cons_succ]
      rw [show (k + 1) * 2 - (0 + 1 + 1) = k * 2 by omega, show (k + 1) * 2 + 1 - (0 + 1 + 1) = k * 2 + 1 by omega]
      exact this

def i64b (x : Int) : Prop := -9223372036854775808 ≤ x ∧ x ≤ 9223372036854775807

/-- a slice of fields -/
structure Flds (w : World) (A : Option Addr) (n c : Nat) (l : List (Int × Int)) : Prop where
  len : l.length = n
  cap : n ≤ c
  most : c ≤ 9223372036854775807
  row : Row w A (flds l)
  bds : ∀ p ∈ l, i64b p.1 ∧ i64b p.2

theorem Flds.below {w w' : World} {A : Option Addr} {n c : Nat} {l : List (Int × Int)} (h : Flds w A n c l) (hb : Below w.heap.size w w') : Flds w' A n c l := ⟨h.len, h.cap, h.most, h.row.below hb, h.bds⟩

def packE : List (Int × Int) → Int
  | [] => 0
  | p :: r => if isW p.1 = false then 1 else if fitsB p.2 p.1 = false then 2 else packE r

def encs (l : List (Int × Int)) : List UInt8 := l.flatMap fun p => encN p.1.toNat p.2.toNat

def packB (l : List (Int × Int)) : List UInt8 := if packE l = 0 then encs l else []

theorem packE_append (a b : List (Int × Int)) : packE (a ++ b) = if packE a = 0 then packE b else packE a := by
  induction a with
  | nil => simp [packE]
  | cons p r ih =>
    simp only [List.cons_append, packE]
    split
    · simp
    · split
      · simp
      · exact ih

theorem packE_at {l : List (Int × Int)} {k : Nat} (hk : k < l.length) (h : packE (l.take k) = 0) : packE l = packE (l[k] :: l.drop (k + 1)) := by
  conv => lhs; rw [← List.take_append_drop k l, packE_append, h, List.drop_eq_getElem_cons hk]
  simp

theorem packE_step {l : List (Int × Int)} {k : Nat} (hk : k < l.length) (h : packE (l.take k) = 0) (hw : isW l[k].1 = true) (hf : fitsB l[k].2 l[k].1 = true) : packE (l.take (k + 1)) = 0 := by
  rw [List.take_succ_eq_append_getElem hk, packE_append, h]
  simp [packE, hw, hf]

theorem encs_step {l : List (Int × Int)} {k : Nat} (hk : k < l.length) : encs (l.take (k + 1)) = encs (l.take k) ++ encN l[k].1.toNat l[k].2.toNat := by
  simp only [encs]
  rw [List.take_succ_eq_append_getElem hk, List.flatMap_append]
  simp only [List.flatMap_cons, List.flatMap_nil, List.append_nil]

theorem encs_le {l : List (Int × Int)} (h : packE l = 0) : (encs l).length ≤ l.length * 8 := by
  induction l with
  | nil => simp [encs]
  | cons p r ih =>
    simp only [packE] at h
    split at h
    · simp at h
    · rename_i hw
      split at h
      · simp at h
      · have := ih h
        have hw' : isW p.1 = true := by simpa using hw
        have : p.1.toNat ≤ 8 := by rcases isW_cases hw' with h | h | h | h <;> omega
        simp only [encs, List.flatMap_cons, List.length_append, encN_length, List.length_cons] at *
        omega

theorem fits_bounds {x wd : Int} (h : fitsB x wd = true) : 0 ≤ x := by simp [fitsB] at h; exact h.1

set_option maxRecDepth 100000 in
set_option maxHeartbeats 400000 in
theorem Pack_any (A : Option Addr) (n c : Nat) (l : List (Int × Int)) (w : World) (h : Flds w A n c l) (hn : n ≤ 1000000) :
    Calls Tryz.prog 52 #[.slice A n c] w fun e w' => ∃ A' m c', e = .returned (.tuple #[.slice A' m c', .int .i64 (packE l)]) ∧ Bytes8 w' A' m c' (packB l) ∧ Below w.heap.size w w' := by
  by_cases hp : 0 < n
  · obtain ⟨b, off, rfl, hb, hcell⟩ := h.row.lit (by rw [flds_length, h.len]; omega)
    have HF := Lib.hid h
    have HC := Lib.hid hcell
    clear h hcell
    go_enter Tryz.func52, Tryz.ntmps52
    go_wp2
    go_loopw [4, 9] (fun v i wr => ∃ k : Nat, k ≤ n ∧ i = .int .i64 k ∧ Hid (packE (l.take k) = 0) ∧ Hid (wr.ownsRow w.heap.size 5 1 v (encs (l.take k)).length (u8s (encs (l.take k)))) ∧ w.heap.size ≤ wr.heap.size ∧ Below w.heap.size w wr) (fun _ i _ => n - (intOf i).toNat)
    case atStart => exact ⟨0, by omega, rfl, rfl, World.ownsRow_nil _ _ _ _, Nat.le_refl _, Below.refl _ _⟩
    case round =>
      obtain ⟨k, hk, rfl, hE, hown, hs, hbel⟩ := hrel
      by_cases hlt : k < n
      · have hkl : k < l.length := by have := HF.out.len; omega
        have h0 := flds_at l k hkl
        have hc0 : wr.cell? ⟨b, off + k * 2, none⟩ = some (.int .i64 l[k].1) := (hbel.cell (p := ⟨b, off + k * 2, none⟩) hb).trans (HC.out _ _ h0.1)
        have hc1 : wr.cell? ⟨b, off + k * 2 + 1, none⟩ = some (.int .i64 l[k].2) := (hbel.cell (p := ⟨b, off + k * 2 + 1, none⟩) hb).trans (HC.out _ _ h0.2)
        obtain ⟨⟨hb1, hb2⟩, hb3, hb4⟩ := HF.out.bds l[k] (List.getElem_mem _)
        have hat := packE_at hkl hE.out
        have hst := packE_step hkl hE.out
        have hen := encs_step hkl
        have hle := encs_le hE.out
        rw [List.length_take] at hle
        clear h0
        simp only [packE] at hat
        generalize hp1 : l[k].1 = a at *
        generalize hp2 : l[k].2 = x at *
        clear hp1 hp2
        cases hw : isW a with
        | false =>
          have hr : Hid (packE l = 1) := by rw [hat]; simp [hw, Hid]
          have W := Lib.hid (fun W => isWidth_any a W false hw)
          clear hat hst hen hle hw
          go_wp2_with (go_at_call 66; refine (W.out _).mono ?_; rintro e w' ⟨rfl, rfl⟩)
          go_ret2
          exact ⟨none, 0, 0, by rw [hr.out]; rfl, by simpa [packB, hr.out] using Bytes8.nil _, hbel.alloc hs _⟩
        | true =>
          have W := Lib.hid (fun W => isWidth_any a W true hw)
          cases hf : fitsB x a with
          | false =>
            have hr : Hid (packE l = 2) := by rw [hat]; simp [hw, hf, Hid]
            have F := Lib.hid (fun W => fits_any x a W hw ⟨hb3, hb4⟩ false hf)
            clear hat hst hen hle hw hf
            go_wp2_with (first
              | (go_at_call 66; refine (W.out _).mono ?_; rintro e w' ⟨rfl, rfl⟩)
              | (go_at_call 67; refine (F.out _).mono ?_; rintro e w' ⟨rfl, rfl⟩))
            go_ret2
            exact ⟨none, 0, 0, by rw [hr.out]; rfl, by simpa [packB, hr.out] using Bytes8.nil _, hbel.alloc hs _⟩
          | true =>
            have F := Lib.hid (fun W => fits_any x a W hw ⟨hb3, hb4⟩ true hf)
            have S := Lib.hid (fun (W : World) (hO : W.ownsRow w.heap.size 5 1 u4 (encs (l.take k)).length (u8s (encs (l.take k)))) (hs : w.heap.size ≤ W.heap.size) => split_any w.heap.size u4 _ _ x a W hO hs (by omega) (fits_bounds hf) (by omega) hw)
            have hst' := Lib.hid (hst hw hf)
            have hen' := Lib.hid hen
            clear hat hst hen hle hw hf
            go_wp2_with (first
              | (go_at_call 66; refine (W.out _).mono ?_; rintro e w' ⟨rfl, rfl⟩)
              | (go_at_call 67; refine (F.out _).mono ?_; rintro e w' ⟨rfl, rfl⟩)
              | (go_at_call 68; refine (S.out _ (hown.out.alloc _) (by simp; omega)).mono ?_; rintro e w1 ⟨v1, rfl, hown1, hb1⟩; have HO1 := Lib.hid hown1; clear hown1))
            go_roundw
            case rel =>
              have hb2 := (hbel.alloc hs _).trans hb1
              refine ⟨k + 1, by omega, by go_num, hst', ?_, hb2.size, hb2⟩
              have := HO1.out
              rw [← u8s_append] at this
              rw [hen'.out, List.length_append, encN_length]
              exact this
            case measure => simp [intOf]; omega
      · obtain rfl : k = n := by omega
        have hE' : Hid (packE l = 0) := by
          have := hE.out
          rwa [List.take_of_length_le (by have := HF.out.len; omega)] at this
        have hown' : Hid (wr.ownsRow w.heap.size 5 1 u4 (encs l).length (u8s (encs l))) := by
          have := hown.out
          rwa [List.take_of_length_le (by have := HF.out.len; omega)] at this
        obtain ⟨A', c', hv, hB⟩ := Bytes8.of_own hown'.out
        have HV := Lib.hid hv
        clear hv
        go_wp2
        go_ret2
        exact ⟨A', _, c', by rw [hE'.out, ← HV.out]; rfl, by simpa [packB, hE'.out] using hB, hbel⟩
  · obtain rfl : n = 0 := by omega
    obtain rfl : l = [] := List.eq_nil_of_length_eq_zero h.len
    clear h
    go_enter Tryz.func52, Tryz.ntmps52
    go_wp2
    refine wp_loop_rounds 1 ?_
    rw [rounds_succ]
    go_wp2
    go_ret2
    exact ⟨none, 0, 0, rfl, Bytes8.nil _, Below.refl _ _⟩

end Go.Proofs.YtnjlganofjkpfaaGreat

/-
  Layer 1's Unpack and the reference's.
-/
namespace Go.Proofs.YtnjlganofjkpfaaGreat
open Go.RowKit
set_option linter.unusedVariables false
set_option linter.unusedSimpArgs false

end Go.Proofs.YtnjlganofjkpfaaGreat

/-
  Layer 1's mathematics: what was put is got; what was packed is unpacked.
-/
namespace Go.Proofs.YtnjlganofjkpfaaGreat
open Go.RowKit
set_option linter.unusedVariables false
set_option linter.unusedSimpArgs false

theorem leN_encN (k n : Nat) (h : n < 256 ^ k) : leN (encN k n) = n := by
  induction k generalizing n with
  | zero => simp at h; simp [encN, leN, h]
  | succ k ih =>
    have h1 : n / 256 < 256 ^ k := by
      rw [Nat.pow_succ] at h
      omega
    simp only [encN, leN, ih _ h1]
    simp
    omega

theorem encs_append (a b : List (Int × Int)) : encs (a ++ b) = encs a ++ encs b := by simp [encs]
theorem flds_append (a b : List (Int × Int)) : flds (a ++ b) = flds a ++ flds b := by simp [flds]

end Go.Proofs.YtnjlganofjkpfaaGreat

/-
  Layer 9: counts of two bits, their bytes, and back.
-/
namespace Go.Proofs.YtnjlganofjkpfaaGreat
open Go.RowKit
set_option linter.unusedVariables false
set_option linter.unusedSimpArgs false

/-- count i of a list; 0 behind its end -/
def cntB (l : List Int) (i : Nat) : Nat := (l.getD i 0).toNat
/-- four counts in a byte -/
def fourB (l : List Int) (j : Nat) : Nat := cntB l (4 * j) + 4 * cntB l (4 * j + 1) + 16 * cntB l (4 * j + 2) + 64 * cntB l (4 * j + 3)
def okB9 (l : List Int) : Bool := decide (l.length ≤ 960) && l.all fun x => decide (0 ≤ x) && decide (x ≤ 3)
def encBits (l : List Int) : List UInt8 := encN 4 l.length ++ (List.range 240).map fun j => UInt8.ofNat (fourB l j)
def putBE9 (l : List Int) : Int := if okB9 l = true then 0 else 1
def putBB9 (l : List Int) : List UInt8 := if okB9 l = true then encBits l else []

/-- count i of the bytes -/
def digB (b : List UInt8) (i : Nat) : Nat := (b.getD (4 + i / 4) 0).toNat / 4 ^ (i % 4) % 4
def numB (b : List UInt8) : Nat := leN (b.take 4)
def readBits (b : List UInt8) : List Int := (List.range (numB b)).map fun i => (digB b i : Int)
def readBE9 (b : List UInt8) : Int := if b.length = 244 ∧ numB b ≤ 960 ∧ encBits (readBits b) = b then 0 else 7
def readBL9 (b : List UInt8) : List Int := if readBE9 b = 0 then readBits b else []

/-! ### the counts that are 0 -/
end Go.Proofs.YtnjlganofjkpfaaGreat

/-
  Layer 9: right (which counts a block can hold), join (four counts in a byte), bytes.Equal.
-/
namespace Go.Proofs.YtnjlganofjkpfaaGreat
open Go.RowKit
set_option linter.unusedVariables false
set_option linter.unusedSimpArgs false

/-! ### join -/
end Go.Proofs.YtnjlganofjkpfaaGreat

/-
  Layer 7's mathematics: nodes, their bytes, and what bytes are a node's.
-/
namespace Go.Proofs.YtnjlganofjkpfaaGreat
open Go.RowKit
set_option linter.unusedVariables false
set_option linter.unusedSimpArgs false

/-! ### pieces of one size -/
theorem nod_encN_back (l : List UInt8) : encN l.length (leN l) = l := by
  induction l with
  | nil => rfl
  | cons b r ih =>
    have hb := UInt8.toNat_lt b
    have e1 : (b.toNat + 256 * leN r) / 256 = leN r := by omega
    simp only [List.length_cons, leN, encN, e1, ih]
    congr 1
    apply UInt8.toNat_inj.1
    simp

theorem flat_length {α : Type} {c : Nat} : ∀ {ps : List (List α)}, (∀ p ∈ ps, p.length = c) → ps.flatten.length = c * ps.length
  | [], _ => by simp
  | p :: r, h => by
    rw [List.flatten_cons, List.length_append, h p (by simp), flat_length fun q hq => h q (by simp [hq]), List.length_cons, Nat.mul_add, Nat.mul_one, Nat.add_comm]

theorem piece_at {α : Type} {c : Nat} : ∀ {ps : List (List α)}, (∀ p ∈ ps, p.length = c) → ∀ (i : Nat) (h : i < ps.length), (ps.flatten.drop (c * i)).take c = ps[i]
  | [], _, i, h => by simp at h
  | p :: r, h, i, hi => by
    have hp := h p (by simp)
    cases i with
    | zero =>
      rw [Nat.mul_zero, List.drop_zero, List.flatten_cons, List.take_append_of_le_length (by omega), List.take_of_length_le (by omega)]
      rfl
    | succ i =>
      have ih := piece_at (ps := r) (fun q hq => h q (by simp [hq])) i (by simpa using hi)
      rw [List.flatten_cons, show c * (i + 1) = p.length + c * i by rw [hp, Nat.mul_add, Nat.mul_one, Nat.add_comm], List.drop_append, List.drop_of_length_le (by omega), List.nil_append, show p.length + c * i - p.length = c * i by omega, ih]
      rfl

/-! ### nodes -/
structure Nod where
  tree : Int
  leaf : Bool
  keys : List Int
  vals : List (List UInt8)

def Nod.zero : Nod := ⟨0, false, [], []⟩

/-- the value width, and the capacity -/
def widN (tree : Int) (leaf : Bool) : Nat :=
  if tree < 1 ∨ 5 < tree then 0 else if leaf = false then 4 else if tree = 2 then 8 else if tree = 3 then 24 else if tree = 4 then 16 else 4
def capN (w : Nat) : Nat := if w = 4 then 18 else if w = 8 then 12 else if w = 16 then 9 else if w = 24 then 6 else 0

theorem widN_cases (tree : Int) (leaf : Bool) : (widN tree leaf = 0 ∧ capN (widN tree leaf) = 0) ∨ (widN tree leaf = 4 ∧ capN (widN tree leaf) = 18) ∨ (widN tree leaf = 8 ∧ capN (widN tree leaf) = 12) ∨ (widN tree leaf = 24 ∧ capN (widN tree leaf) = 6) ∨ (widN tree leaf = 16 ∧ capN (widN tree leaf) = 9) := by
  unfold widN
  split
  · exact .inl ⟨rfl, rfl⟩
  · split
    · exact .inr (.inl ⟨rfl, rfl⟩)
    · split
      · exact .inr (.inr (.inl ⟨rfl, rfl⟩))
      · split
        · exact .inr (.inr (.inr (.inl ⟨rfl, rfl⟩)))
        · split
          · exact .inr (.inr (.inr (.inr ⟨rfl, rfl⟩)))
          · exact .inr (.inl ⟨rfl, rfl⟩)

theorem widN_tree {tree : Int} {leaf : Bool} (h : widN tree leaf ≠ 0) : 1 ≤ tree ∧ tree ≤ 5 := by
  unfold widN at h
  split at h
  · exact absurd rfl h
  · omega

def maxK : Int := 281474976710655

/-- strictly increasing, above p, no greater than the greatest key -/
def upFrom (p : Int) : List Int → Bool
  | [] => true
  | k :: r => decide (p < k) && decide (k ≤ maxK) && upFrom k r

theorem upFrom_bounds : ∀ {p : Int} {l : List Int}, upFrom p l = true → ∀ k ∈ l, p < k ∧ k ≤ maxK
  | _, [], _, k, hk => by simp at hk
  | p, x :: r, h, k, hk => by
    simp only [upFrom, Bool.and_eq_true, decide_eq_true_eq] at h
    rcases List.mem_cons.1 hk with rfl | hk
    · exact h.1
    · have := upFrom_bounds h.2 k hk
      omega

def rightN (n : Nod) : Bool :=
  decide (widN n.tree n.leaf ≠ 0) && decide (n.keys.length ≤ capN (widN n.tree n.leaf)) && decide (n.vals.length = n.keys.length) && n.vals.all (fun v => v.length == widN n.tree n.leaf) && upFrom (-1) n.keys && (n.leaf || decide (0 < n.keys.length))

theorem rightN_iff {n : Nod} : rightN n = true ↔ widN n.tree n.leaf ≠ 0 ∧ n.keys.length ≤ capN (widN n.tree n.leaf) ∧ n.vals.length = n.keys.length ∧ (∀ v ∈ n.vals, v.length = widN n.tree n.leaf) ∧ upFrom (-1) n.keys = true ∧ (n.leaf = true ∨ 0 < n.keys.length) := by
  simp [rightN, and_assoc]

/-- the first twelve bytes -/
def nodH (n : Nod) : List UInt8 := [if n.leaf = true then 1 else 0, UInt8.ofNat n.tree.toNat] ++ (encN 2 n.keys.length ++ (encN 2 (widN n.tree n.leaf) ++ (encN 2 (capN (widN n.tree n.leaf)) ++ encN 4 0)))
def nodK (l : List Int) : List UInt8 := (l.map fun k => encN 8 k.toNat).flatten
/-- an encoding -/
def encNod (n : Nod) : List UInt8 :=
  nodH n ++ (nodK n.keys ++ (List.replicate (8 * (capN (widN n.tree n.leaf) - n.keys.length)) 0 ++ (n.vals.flatten ++ List.replicate (232 - 8 * capN (widN n.tree n.leaf) - widN n.tree n.leaf * n.keys.length) 0)))

theorem nodH_len (n : Nod) : (nodH n).length = 12 := by simp [nodH, encN_length]
theorem nodK_len (l : List Int) : (nodK l).length = 8 * l.length := by
  rw [nodK, flat_length (c := 8), List.length_map]
  intro p hp
  obtain ⟨k, _, rfl⟩ := List.mem_map.1 hp
  exact encN_length 8 _

/-- what a right node's parts are -/
theorem encNod_length {n : Nod} (h : rightN n = true) : (encNod n).length = 244 := by
  obtain ⟨h1, h2, h3, h4, h5, h6⟩ := rightN_iff.1 h
  have hv := flat_length h4
  rw [h3] at hv
  simp only [encNod, List.length_append, nodH_len, nodK_len, List.length_replicate, hv]
  rcases widN_cases n.tree n.leaf with ⟨a, b⟩ | ⟨a, b⟩ | ⟨a, b⟩ | ⟨a, b⟩ | ⟨a, b⟩
  · exact absurd a h1
  all_goals rw [b] at h2
  all_goals rw [b, a]
  all_goals omega

/-! ### what lies in bytes -/
def at2 (b : List UInt8) (i : Nat) : Nat := leN ((b.drop i).take 2)
def cntR (b : List UInt8) : Nat := at2 b 2
def leafR (b : List UInt8) : Bool := b.getD 0 0 == 1
def treeR (b : List UInt8) : Int := (b.getD 1 0).toNat
def widR (b : List UInt8) : Nat := widN (treeR b) (leafR b)
def capR (b : List UInt8) : Nat := capN (widR b)
def keyR (b : List UInt8) (i : Nat) : Nat := leN ((b.drop (12 + 8 * i)).take 8)
def valR (b : List UInt8) (i : Nat) : List UInt8 := (b.drop (12 + 8 * capR b + widR b * i)).take (widR b)

/-- all but the keys is as it must be -/
structure FormN (b : List UInt8) : Prop where
  len : b.length = 244
  first : (b.getD 0 0).toNat ≤ 1
  wid : widR b ≠ 0
  w : at2 b 4 = widR b
  m : at2 b 6 = capR b
  z : leN ((b.drop 8).take 4) = 0
  cnt : cntR b ≤ capR b
  one : leafR b = true ∨ cntR b ≠ 0
  zk : zeroB ((b.drop (12 + 8 * cntR b)).take (8 * capR b - 8 * cntR b)) = true
  zv : zeroB (b.drop (12 + 8 * capR b + widR b * cntR b)) = true

/-- the first error of the keys, above p -/
def keyErr (p : Int) : List Nat → Int
  | [] => 0
  | k :: r => if maxK < (k : Int) then 2 else if (k : Int) ≤ p then 8 else keyErr k r

theorem keyErr_up : ∀ {p : Int} {l : List Nat}, keyErr p l = 0 ↔ upFrom p (l.map fun k : Nat => (k : Int)) = true
  | p, [] => by simp [keyErr, upFrom]
  | p, k :: r => by
    simp only [keyErr, List.map_cons, upFrom, Bool.and_eq_true, decide_eq_true_eq]
    have ih := keyErr_up (p := (k : Int)) (l := r)
    split
    · constructor
      · intro h; omega
      · rintro ⟨⟨_, h⟩, _⟩; omega
    · split
      · constructor
        · intro h; omega
        · rintro ⟨⟨h, _⟩, _⟩; omega
      · rw [ih]
        constructor
        · intro h; exact ⟨⟨by omega, by omega⟩, h⟩
        · intro h; exact h.2

def formN (b : List UInt8) : Bool :=
  decide (b.length = 244) && decide ((b.getD 0 0).toNat ≤ 1) && decide (widR b ≠ 0) && decide (at2 b 4 = widR b) && decide (at2 b 6 = capR b) && decide (leN ((b.drop 8).take 4) = 0) && decide (cntR b ≤ capR b) &&
    (leafR b || decide (cntR b ≠ 0)) && zeroB ((b.drop (12 + 8 * cntR b)).take (8 * capR b - 8 * cntR b)) && zeroB (b.drop (12 + 8 * capR b + widR b * cntR b))
theorem formN_iff {b : List UInt8} : formN b = true ↔ FormN b := by
  simp only [formN, Bool.and_eq_true, Bool.or_eq_true, decide_eq_true_eq]
  constructor
  · rintro ⟨⟨⟨⟨⟨⟨⟨⟨⟨h1, h2⟩, h3⟩, h4⟩, h5⟩, h6⟩, h7⟩, h8⟩, h9⟩, h10⟩
    exact ⟨h1, h2, h3, h4, h5, h6, h7, h8, h9, h10⟩
  · rintro ⟨h1, h2, h3, h4, h5, h6, h7, h8, h9, h10⟩
    exact ⟨⟨⟨⟨⟨⟨⟨⟨⟨h1, h2⟩, h3⟩, h4⟩, h5⟩, h6⟩, h7⟩, h8⟩, h9⟩, h10⟩

def readNE (b : List UInt8) : Int := if formN b = true then keyErr (-1) ((List.range (cntR b)).map (keyR b)) else 7
def nodR (b : List UInt8) : Nod := ⟨treeR b, leafR b, (List.range (cntR b)).map (fun i => (keyR b i : Int)), (List.range (cntR b)).map (valR b)⟩
def readN (b : List UInt8) : Nod := if readNE b = 0 then nodR b else Nod.zero

theorem readNE_zero {b : List UInt8} (h : readNE b = 0) : FormN b ∧ upFrom (-1) ((List.range (cntR b)).map fun i => (keyR b i : Int)) = true := by
  unfold readNE at h
  split at h
  · rename_i hf
    refine ⟨formN_iff.1 hf, ?_⟩
    have := keyErr_up.1 h
    rwa [List.map_map] at this
  · omega

theorem nod_zeros (n : Nat) : zeroB (List.replicate n 0) = true := by
  rw [zeroB, List.all_eq_true]
  intro b hb
  simpa using (List.mem_replicate.1 hb).2

theorem two_back (x y : UInt8) : encN 2 (leN [x, y]) = [x, y] := nod_encN_back [x, y]
theorem four_back (x y z t : UInt8) : encN 4 (leN [x, y, z, t]) = [x, y, z, t] := nod_encN_back [x, y, z, t]

theorem bit_back {x : UInt8} (h : x.toNat ≤ 1) : (if (x == 1) = true then (1 : UInt8) else 0) = x := by
  by_cases e : x = 1
  · subst e; rfl
  · rw [if_neg (by simpa using e)]
    apply UInt8.toNat_inj.1
    have h5 : x.toNat ≠ 1 := fun e2 => e (UInt8.toNat_inj.1 e2)
    simp only [UInt8.toNat_zero]
    omega

/-- a node that was read is right -/
theorem readN_right {b : List UInt8} (h : readNE b = 0) : rightN (nodR b) = true := by
  obtain ⟨hf, hu⟩ := readNE_zero h
  refine rightN_iff.2 ⟨hf.wid, ?_, ?_, ?_, hu, ?_⟩
  · simp only [nodR, List.length_map, List.length_range]; exact hf.cnt
  · simp [nodR]
  · intro v hv
    simp only [nodR] at hv ⊢
    obtain ⟨i, hi, rfl⟩ := List.mem_map.1 hv
    have hi := List.mem_range.1 hi
    have hcnt := hf.cnt
    have hwid := hf.wid
    have hlen := hf.len
    simp only [valR, List.length_take, List.length_drop, hlen]
    have hc := widN_cases (treeR b) (leafR b)
    change (widR b = 0 ∧ capR b = 0) ∨ (widR b = 4 ∧ capR b = 18) ∨ (widR b = 8 ∧ capR b = 12) ∨ (widR b = 24 ∧ capR b = 6) ∨ (widR b = 16 ∧ capR b = 9) at hc
    change min (widR b) (244 - (12 + 8 * capR b + widR b * i)) = widR b
    rcases hc with ⟨a, c⟩ | ⟨a, c⟩ | ⟨a, c⟩ | ⟨a, c⟩ | ⟨a, c⟩
    · exact absurd a hwid
    all_goals rw [c] at hcnt
    all_goals rw [a, c]
    all_goals omega
  · rcases hf.one with h1 | h1
    · exact .inl h1
    · right; simp [nodR]; omega

/-! ### what was put is read -/
theorem drop_past {α : Type} {a b : List α} {n k : Nat} (h : a.length = n) : (a ++ b).drop (n + k) = b.drop k := by
  subst h
  rw [List.drop_append, List.drop_of_length_le (by omega), List.nil_append]
  congr 1
  omega

theorem take_in {α : Type} {a b : List α} {i n : Nat} (h : i + n ≤ a.length) : ((a ++ b).drop i).take n = (a.drop i).take n := by
  rw [List.drop_append_of_le_length (by omega), List.take_append_of_le_length (by rw [List.length_drop]; omega)]

theorem encNod_parts {n : Nod} (h : rightN n = true) :
    leafR (encNod n) = n.leaf ∧ treeR (encNod n) = n.tree ∧ cntR (encNod n) = n.keys.length ∧ at2 (encNod n) 4 = widN n.tree n.leaf ∧ at2 (encNod n) 6 = capN (widN n.tree n.leaf) ∧ leN (((encNod n).drop 8).take 4) = 0 ∧ ((encNod n).getD 0 0).toNat ≤ 1 := by
  obtain ⟨h1, h2, h3, h4, h5, h6⟩ := rightN_iff.1 h
  obtain ⟨ht1, ht2⟩ := widN_tree h1
  have hc := widN_cases n.tree n.leaf
  have hk : n.keys.length < 65536 ∧ widN n.tree n.leaf < 65536 ∧ capN (widN n.tree n.leaf) < 65536 := by
    rcases hc with ⟨a, c⟩ | ⟨a, c⟩ | ⟨a, c⟩ | ⟨a, c⟩ | ⟨a, c⟩ <;> rw [c] at h2 ⊢ <;> rw [a] <;> omega
  have e2 : ∀ x, x < 65536 → leN [UInt8.ofNat x, UInt8.ofNat (x / 256)] = x := fun x hx => leN_encN 2 x (by simpa using hx)
  have ee : encNod n = (if n.leaf = true then 1 else 0) :: UInt8.ofNat n.tree.toNat :: UInt8.ofNat n.keys.length :: UInt8.ofNat (n.keys.length / 256) :: UInt8.ofNat (widN n.tree n.leaf) :: UInt8.ofNat (widN n.tree n.leaf / 256) :: UInt8.ofNat (capN (widN n.tree n.leaf)) :: UInt8.ofNat (capN (widN n.tree n.leaf) / 256) :: 0 :: 0 :: 0 :: 0 :: (encNod n).drop 12 := by
    have : encNod n = nodH n ++ (encNod n).drop 12 := by
      rw [encNod, ← nodH_len n, List.drop_left]
    conv => lhs; rw [this]
    rfl
  generalize (encNod n).drop 12 = rest at ee
  rw [ee]
  refine ⟨?_, ?_, ?_, ?_, ?_, ?_, ?_⟩
  · cases hl : n.leaf <;> simp [leafR]
  · simp [treeR]
    omega
  · simp only [cntR, at2, List.drop_succ_cons, List.drop_zero, List.take_succ_cons, List.take_zero]
    exact e2 _ hk.1
  · simp only [at2, List.drop_succ_cons, List.drop_zero, List.take_succ_cons, List.take_zero]
    exact e2 _ hk.2.1
  · simp only [at2, List.drop_succ_cons, List.drop_zero, List.take_succ_cons, List.take_zero]
    exact e2 _ hk.2.2
  · simp [leN]
  · cases hl : n.leaf <;> simp

theorem nod_read {n : Nod} (h : rightN n = true) : readNE (encNod n) = 0 ∧ nodR (encNod n) = n := by
  obtain ⟨h1, h2, h3, h4, h5, h6⟩ := rightN_iff.1 h
  obtain ⟨g1, g2, g3, g4, g5, g6, g7⟩ := encNod_parts h
  have hlen := encNod_length h
  have gw : widR (encNod n) = widN n.tree n.leaf := by rw [widR, g1, g2]
  have gc : capR (encNod n) = capN (widN n.tree n.leaf) := by rw [capR, gw]
  have hkb := upFrom_bounds h5
  have hv := flat_length h4
  rw [h3] at hv
  have hH := nodH_len n
  have hK := nodK_len n.keys
  generalize hw : widN n.tree n.leaf = w at *
  generalize hcap : capN w = m at *
  have eE : encNod n = nodH n ++ (nodK n.keys ++ (List.replicate (8 * (m - n.keys.length)) 0 ++ (n.vals.flatten ++ List.replicate (232 - 8 * m - w * n.keys.length) 0))) := by
    rw [encNod, hw, hcap]
  have kk : ∀ i (hi : i < n.keys.length), (keyR (encNod n) i : Int) = n.keys[i] := fun i hi => by
    have hb := hkb _ (List.getElem_mem hi)
    have e : ((encNod n).drop (12 + 8 * i)).take 8 = encN 8 n.keys[i].toNat := by
      rw [eE, drop_past hH, take_in (by rw [hK]; omega), nodK]
      have hp := piece_at (ps := n.keys.map fun k => encN 8 k.toNat) (c := 8) (by intro p hp; obtain ⟨k, _, rfl⟩ := List.mem_map.1 hp; exact encN_length 8 _) i (by simpa using hi)
      rw [hp, List.getElem_map]
    rw [keyR, e, leN_encN 8 _ (by simp only [maxK] at hb; omega)]
    omega
  have vv : ∀ i (hi : i < n.vals.length), valR (encNod n) i = n.vals[i] := fun i hi => by
    have hm2 : w * (i + 1) ≤ w * n.keys.length := Nat.mul_le_mul_left _ (by omega)
    rw [Nat.mul_add, Nat.mul_one] at hm2
    have hp := piece_at h4 i hi
    rw [valR, gc, gw, eE]
    have a1 : (nodH n ++ nodK n.keys ++ List.replicate (8 * (m - n.keys.length)) (0 : UInt8)).length = 12 + 8 * m := by
      simp only [List.length_append, hH, hK, List.length_replicate]; omega
    rw [show nodH n ++ (nodK n.keys ++ (List.replicate (8 * (m - n.keys.length)) (0 : UInt8) ++ (n.vals.flatten ++ List.replicate (232 - 8 * m - w * n.keys.length) 0))) = (nodH n ++ nodK n.keys ++ List.replicate (8 * (m - n.keys.length)) 0) ++ (n.vals.flatten ++ List.replicate (232 - 8 * m - w * n.keys.length) 0) by simp [List.append_assoc]]
    rw [drop_past a1, take_in (by rw [hv]; omega)]
    exact hp
  have hf : FormN (encNod n) := by
    refine ⟨hlen, g7, by rw [gw]; exact h1, by rw [g4, gw], by rw [g5, gc], g6, by rw [g3, gc]; exact h2, ?_, ?_, ?_⟩
    · rw [g1, g3]
      rcases h6 with h6 | h6
      · exact .inl h6
      · exact .inr (by omega)
    · rw [g3, gc, eE, drop_past hH]
      rw [show 8 * n.keys.length = (nodK n.keys).length + 0 by rw [hK]; rfl, drop_past rfl, List.drop_zero, Nat.add_zero, hK, List.take_append_of_le_length (by rw [List.length_replicate]; omega), List.take_replicate]
      exact nod_zeros _
    · rw [g3, gc, gw, eE]
      have a1 : (nodH n ++ nodK n.keys ++ List.replicate (8 * (m - n.keys.length)) (0 : UInt8) ++ n.vals.flatten).length = 12 + 8 * m + w * n.keys.length := by
        simp only [List.length_append, hH, hK, List.length_replicate, hv]; omega
      rw [show nodH n ++ (nodK n.keys ++ (List.replicate (8 * (m - n.keys.length)) (0 : UInt8) ++ (n.vals.flatten ++ List.replicate (232 - 8 * m - w * n.keys.length) 0))) = (nodH n ++ nodK n.keys ++ List.replicate (8 * (m - n.keys.length)) 0 ++ n.vals.flatten) ++ List.replicate (232 - 8 * m - w * n.keys.length) 0 by simp [List.append_assoc]]
      rw [← a1, List.drop_left]
      exact nod_zeros _
  have ek : (List.range (cntR (encNod n))).map (fun i => (keyR (encNod n) i : Int)) = n.keys := by
    rw [g3]
    apply List.ext_getElem
    · simp
    · intro i hi hi2
      simp only [List.getElem_map, List.getElem_range]
      exact kk i hi2
  have ev : (List.range (cntR (encNod n))).map (valR (encNod n)) = n.vals := by
    rw [g3]
    apply List.ext_getElem
    · simp [h3]
    · intro i hi hi2
      simp only [List.getElem_map, List.getElem_range]
      exact vv i hi2
  constructor
  · rw [readNE, if_pos (formN_iff.2 hf), keyErr_up, List.map_map]
    have : (List.range (cntR (encNod n))).map ((fun k : Nat => (k : Int)) ∘ keyR (encNod n)) = n.keys := ek
    rw [this]
    exact h5
  · rw [nodR, g1, g2, ek, ev]

end Go.Proofs.YtnjlganofjkpfaaGreat

/-
  Layer 7's mathematics, second part: the loops' steps, and the head of an encoding as Unpack gives it.
-/
namespace Go.Proofs.YtnjlganofjkpfaaGreat
open Go.RowKit
set_option linter.unusedVariables false
set_option linter.unusedSimpArgs false

/-! ### Get of a width that lies within the bytes -/
theorem get_in {l : List UInt8} {wd : Int} (i : Nat) (hw : isW wd = true) (hi : i + wd.toNat ≤ l.length) :
    (leN ((l.drop i).take wd.toNat) < 9223372036854775808 → getE l i wd = 0 ∧ getN l i wd = (leN ((l.drop i).take wd.toNat) : Int)) ∧ (9223372036854775808 ≤ leN ((l.drop i).take wd.toNat) → getE l i wd = 2 ∧ getN l i wd = 0) := by
  have hb : 1 ≤ wd ∧ wd ≤ 8 := by rcases isW_cases hw with h | h | h | h <;> omega
  have hr : roomE l.length i wd = 0 := by
    simp only [roomE, hw]
    simp
    omega
  have hp : part l i wd = (l.drop i).take wd.toNat := by simp [part]
  constructor
  · intro h
    have he : getE l i wd = 0 := by rw [getE, if_pos hr, hp, if_neg (by omega)]
    exact ⟨he, by rw [getN, if_pos he, hp]⟩
  · intro h
    have he : getE l i wd = 2 := by rw [getE, if_pos hr, hp, if_pos h]
    exact ⟨he, by rw [getN, if_neg (by rw [he]; omega)]⟩

theorem small_le {l : List UInt8} {k : Nat} (hk : k ≤ 4) (hl : l.length ≤ k) : leN l < 9223372036854775808 := by
  have := leN_lt l
  have h2 : 256 ^ l.length ≤ 256 ^ 4 := Nat.pow_le_pow_right (by omega) (by omega)
  omega

/-! ### the loops over the keys -/
/-- the key ahead of place i -/
def prevK (p : Int) (l : List Int) (i : Nat) : Int := if i = 0 then p else l.getD (i - 1) 0

theorem upFrom_append : ∀ {p : Int} {a b : List Int}, upFrom p (a ++ b) = (upFrom p a && upFrom (prevK p a a.length) b)
  | p, [], b => by simp [upFrom, prevK]
  | p, x :: r, b => by
    have ih := upFrom_append (p := x) (a := r) (b := b)
    simp only [List.cons_append, upFrom, ih]
    have e : prevK p (x :: r) (x :: r).length = prevK x r r.length := by
      simp only [prevK, List.length_cons, Nat.add_one_ne_zero, if_false, Nat.add_sub_cancel]
      by_cases h : r.length = 0
      · rw [if_pos h, h]; rfl
      · rw [if_neg h]
        obtain ⟨m, hm⟩ := Nat.exists_eq_succ_of_ne_zero h
        rw [hm]
        simp
    rw [e]; simp only [Bool.and_assoc]

theorem prevK_take {p : Int} {l : List Int} {i : Nat} (hi : i ≤ l.length) : prevK p (l.take i) (l.take i).length = prevK p l i := by
  have hl : (l.take i).length = i := by rw [List.length_take]; omega
  rw [hl]
  simp only [prevK]
  split
  · rfl
  · rw [List.getD_eq_getElem?_getD, List.getD_eq_getElem?_getD, List.getElem?_take, if_pos (by omega)]

/-- one more key -/
theorem upFrom_step {p : Int} {l : List Int} {i : Nat} (hi : i < l.length) : upFrom p (l.take (i + 1)) = (upFrom p (l.take i) && (decide (prevK p l i < l[i]) && decide (l[i] ≤ maxK))) := by
  rw [List.take_succ_eq_append_getElem hi, upFrom_append, prevK_take (by omega)]
  simp [upFrom]

theorem upFrom_take {p : Int} {l : List Int} (i : Nat) (h : upFrom p (l.take i) = false) : upFrom p l = false := by
  rw [← List.take_append_drop i l, upFrom_append, h, Bool.false_and]

theorem keyErr_append : ∀ {p : Int} {a b : List Nat}, keyErr p (a ++ b) = if keyErr p a = 0 then keyErr (prevK p (a.map fun k : Nat => (k : Int)) a.length) b else keyErr p a
  | p, [], b => by simp [keyErr, prevK]
  | p, x :: r, b => by
    have ih := keyErr_append (p := (x : Int)) (a := r) (b := b)
    have e : prevK p ((x :: r).map fun k : Nat => (k : Int)) (x :: r).length = prevK (x : Int) (r.map fun k : Nat => (k : Int)) r.length := by
      simp only [prevK, List.length_cons, Nat.add_one_ne_zero, if_false, Nat.add_sub_cancel, List.map_cons]
      by_cases h : r.length = 0
      · rw [if_pos h, h]; rfl
      · rw [if_neg h]
        obtain ⟨m, hm⟩ := Nat.exists_eq_succ_of_ne_zero h
        rw [hm]
        simp
    simp only [List.cons_append, keyErr, e]
    split
    · simp
    · split
      · simp
      · exact ih

/-- one more key: what the loop of Read finds -/
theorem keyErr_step {p : Int} {l : List Nat} {i : Nat} (hi : i < l.length) (h : keyErr p (l.take i) = 0) :
    keyErr p (l.take (i + 1)) = if maxK < (l[i] : Int) then 2 else if (l[i] : Int) ≤ prevK p (l.map fun k : Nat => (k : Int)) i then 8 else 0 := by
  rw [List.take_succ_eq_append_getElem hi, keyErr_append, if_pos h]
  have e : prevK p ((l.take i).map fun k : Nat => (k : Int)) (l.take i).length = prevK p (l.map fun k : Nat => (k : Int)) i := by
    have := prevK_take (p := p) (l := l.map fun k : Nat => (k : Int)) (i := i) (by simpa using Nat.le_of_lt hi)
    rw [← List.map_take, List.length_map] at this
    exact this
  rw [e]
  simp [keyErr]

theorem keyErr_take {p : Int} {l : List Nat} (i : Nat) (h : keyErr p (l.take i) ≠ 0) : keyErr p l = keyErr p (l.take i) := by
  conv => lhs; rw [← List.take_append_drop i l, keyErr_append, if_neg h]

end Go.Proofs.YtnjlganofjkpfaaGreat

/-
  Layer 7's Width, Max, holds and follows, and the reference's Width and Max.
-/
namespace Go.Proofs.YtnjlganofjkpfaaGreat
open Go.RowKit
set_option linter.unusedVariables false
set_option linter.unusedSimpArgs false

set_option maxRecDepth 100000 in
theorem Width_any (tree : Int) (leaf : Bool) (w : World) (r : Nat) (hr : widN tree leaf = r) :
    Calls Tryz.prog 28 #[.int .i64 tree, .bool leaf] w fun e w' => e = .returned (.int .i64 (r : Int)) ∧ w = w' := by
  by_cases h : 1 ≤ tree ∧ tree ≤ 5
  · rcases (show tree = 1 ∨ tree = 2 ∨ tree = 3 ∨ tree = 4 ∨ tree = 5 by omega) with rfl | rfl | rfl | rfl | rfl
    all_goals
      cases leaf
      all_goals
        subst hr
        go_enter Tryz.func28, Tryz.ntmps28
        go_wp2
        go_ret
        exact ⟨rfl, rfl⟩
  · obtain rfl : r = 0 := by rw [← hr, widN, if_pos (by omega)]
    have h1 : ¬ tree = 1 := by omega
    have h2 : ¬ tree = 2 := by omega
    have h3 : ¬ tree = 3 := by omega
    have h4 : ¬ tree = 4 := by omega
    have h5 : ¬ tree = 5 := by omega
    clear h hr
    go_enter Tryz.func28, Tryz.ntmps28
    go_wp2
    go_ret
    exact ⟨rfl, rfl⟩

set_option maxRecDepth 100000 in
theorem Max_any (tree : Int) (leaf : Bool) (w : World) (r : Nat) (hr : capN (widN tree leaf) = r) :
    Calls Tryz.prog 22 #[.int .i64 tree, .bool leaf] w fun e w' => e = .returned (.int .i64 (r : Int)) ∧ w = w' := by
  have W := Lib.hid (fun W => Width_any tree leaf W _ rfl)
  rcases widN_cases tree leaf with ⟨h1, h2⟩ | ⟨h1, h2⟩ | ⟨h1, h2⟩ | ⟨h1, h2⟩ | ⟨h1, h2⟩
  all_goals
    rw [h2] at hr
    subst hr
    rw [h1] at W
    clear h1 h2
    go_enter Tryz.func22, Tryz.ntmps22
    go_wp2_with (go_at_call 28; (with_reducible refine (W.out _).mono ?_); rintro e w' ⟨rfl, rfl⟩)
    go_ret
    exact ⟨rfl, rfl⟩

/-- can a node of such a tree have that many keys? -/
def holdsN (tree : Int) (leaf : Bool) (cnt : Nat) : Bool := decide (0 < capN (widN tree leaf)) && decide (cnt ≤ capN (widN tree leaf)) && (leaf || decide (0 < cnt))

set_option maxRecDepth 100000 in
set_option maxHeartbeats 400000 in
theorem holds_any (tree : Int) (leaf : Bool) (cnt : Nat) (w : World) (r : Bool) (hc : cnt ≤ 9223372036854775807) (hr : holdsN tree leaf cnt = r) :
    Calls Tryz.prog 64 #[.int .i64 tree, .bool leaf, .int .i64 cnt] w fun e w' => e = .returned (.bool r) ∧ w = w' := by
  have M := Lib.hid (fun W => Max_any tree leaf W _ rfl)
  have hm : capN (widN tree leaf) ≤ 18 := by rcases widN_cases tree leaf with ⟨h1, h2⟩ | ⟨h1, h2⟩ | ⟨h1, h2⟩ | ⟨h1, h2⟩ | ⟨h1, h2⟩ <;> rw [h2] <;> omega
  unfold holdsN at hr
  generalize capN (widN tree leaf) = m at *
  by_cases h0 : 0 < m
  · by_cases h1 : cnt ≤ m
    · cases leaf
      · by_cases h2 : 0 < cnt
        · obtain rfl : true = r := by rw [← hr]; simp [h0, h1, h2]
          clear hr
          go_enter Tryz.func64, Tryz.ntmps64
          go_wp2_with (go_at_call 22; (with_reducible refine (M.out _).mono ?_); rintro e w' ⟨rfl, rfl⟩)
          go_ret
          exact ⟨rfl, rfl⟩
        · obtain rfl : false = r := by rw [← hr]; simp [h0, h1, h2]
          clear hr
          go_enter Tryz.func64, Tryz.ntmps64
          go_wp2_with (go_at_call 22; (with_reducible refine (M.out _).mono ?_); rintro e w' ⟨rfl, rfl⟩)
          go_ret
          exact ⟨rfl, rfl⟩
      · obtain rfl : true = r := by rw [← hr]; simp [h0, h1]
        clear hr
        go_enter Tryz.func64, Tryz.ntmps64
        go_wp2_with (go_at_call 22; (with_reducible refine (M.out _).mono ?_); rintro e w' ⟨rfl, rfl⟩)
        go_ret
        exact ⟨rfl, rfl⟩
    · obtain rfl : false = r := by rw [← hr]; simp [h0, h1]
      clear hr
      go_enter Tryz.func64, Tryz.ntmps64
      go_wp2_with (go_at_call 22; (with_reducible refine (M.out _).mono ?_); rintro e w' ⟨rfl, rfl⟩)
      go_ret
      exact ⟨rfl, rfl⟩
  · obtain rfl : false = r := by rw [← hr]; simp [h0]
    obtain rfl : m = 0 := by omega
    clear hr
    go_enter Tryz.func64, Tryz.ntmps64
    go_wp2_with (go_at_call 22; (with_reducible refine (M.out _).mono ?_); rintro e w' ⟨rfl, rfl⟩)
    go_ret
    exact ⟨rfl, rfl⟩

/-- may the key stand there? -/
def followsE (key least : Int) : Int := if key < 0 ∨ 281474976710655 < key then 2 else if key < least then 8 else 0

set_option maxRecDepth 100000 in
theorem follows_any (key least : Int) (w : World) (r : Int) (hr : followsE key least = r) :
    Calls Tryz.prog 65 #[.int .i64 key, .int .i64 least] w fun e w' => e = .returned (.int .i64 r) ∧ w = w' := by
  unfold followsE at hr
  by_cases h0 : key < 0
  · rw [if_pos (.inl h0)] at hr
    subst hr
    go_enter Tryz.func65, Tryz.ntmps65
    go_wp2
    go_ret
    exact ⟨rfl, rfl⟩
  · by_cases h1 : 281474976710655 < key
    · rw [if_pos (.inr h1)] at hr
      subst hr
      have h1' : (281474976710656 : Int) ≤ key := by omega
      clear h1
      go_enter Tryz.func65, Tryz.ntmps65
      go_wp2
      go_ret
      exact ⟨rfl, rfl⟩
    · rw [if_neg (by omega)] at hr
      have h1' : key ≤ 281474976710655 := by omega
      clear h1
      by_cases h2 : key < least
      · rw [if_pos h2] at hr
        subst hr
        go_enter Tryz.func65, Tryz.ntmps65
        go_wp2
        go_ret
        exact ⟨rfl, rfl⟩
      · rw [if_neg h2] at hr
        subst hr
        go_enter Tryz.func65, Tryz.ntmps65
        go_wp2
        go_ret
        exact ⟨rfl, rfl⟩

end Go.Proofs.YtnjlganofjkpfaaGreat

/-
  Layer 4's mathematics: sealed blocks as lists of bytes. Nothing here names the program.
-/
namespace Go.Proofs.YtnjlganofjkpfaaGreat
open Go.RowKit
set_option linter.unusedVariables false
set_option linter.unusedSimpArgs false

def saltN (k : Int) : Nat := if k = 1 then 160774 else if k = 2 then 121107 else if k = 3 then 240779 else if k = 4 then 160478 else 0
def kindB (k : Int) : Bool := decide (1 ≤ k ∧ k ≤ 4)
def snumB (no : Int) : Bool := decide (0 ≤ no ∧ no < 14400)
def knownB (k no : Int) : Bool := kindB k && snumB no

theorem knownB_iff {k no : Int} : knownB k no = true ↔ (1 ≤ k ∧ k ≤ 4) ∧ 0 ≤ no ∧ no < 14400 := by simp [knownB, kindB, snumB]
theorem saltN_lt (k : Int) : saltN k < 4294967296 := by unfold saltN; repeat' split
                                                        all_goals omega
theorem saltN_inj {a b : Int} (ha : 1 ≤ a ∧ a ≤ 4) (hb : 1 ≤ b ∧ b ≤ 4) (h : saltN a = saltN b) : a = b := by
  have h1 : a = 1 ∨ a = 2 ∨ a = 3 ∨ a = 4 := by omega
  have h2 : b = 1 ∨ b = 2 ∨ b = 3 ∨ b = 4 := by omega
  rcases h1 with rfl | rfl | rfl | rfl <;> rcases h2 with rfl | rfl | rfl | rfl <;> first | rfl | (revert h; decide)

/-- what the checksum of a block's first bytes must be -/
def sumN (l : List UInt8) (k : Int) : Nat := Crc.sum (l.take 252) ^^^ saltN k
theorem sumN_lt (l : List UInt8) (k : Int) : sumN l k < 4294967296 := Crc.xor_lt (Crc.sum_lt _) (saltN_lt k)

def storedN (l : List UInt8) (i wd : Int) : Int := if getE l i wd = 0 then getN l i wd else -1

/-- the error of the checks of a block -/
def openE (l : List UInt8) (k no : Int) : Int :=
  if knownB k no = false then 1 else if l.length ≠ 256 then 7 else if (leN (l.drop 252) : Int) ≠ sumN l k then 4 else if (leN (l.take 4) : Int) ≠ no then 5
  else if (leN ((l.drop 4).take 2) : Int) ≠ k then 6 else if leN ((l.drop 6).take 2) ≠ 0 then 7 else 0
def openB (l : List UInt8) (k no : Int) : List UInt8 := if openE l k no = 0 then (l.drop 8).take 244 else []

/-- all of a sealed block but its checksum -/
def bodyB (k no : Int) (l : List UInt8) : List UInt8 := encN 4 no.toNat ++ (encN 2 k.toNat ++ ([0, 0] ++ (l ++ List.replicate (244 - l.length) 0)))
def sealE (k no : Int) (n : Nat) : Int := if knownB k no = false then 1 else if 244 < n then 2 else 0
def sealB (k no : Int) (l : List UInt8) : List UInt8 := if sealE k no l.length = 0 then bodyB k no l ++ encN 4 (Crc.sum (bodyB k no l) ^^^ saltN k) else []

/-- another kind's checksum is another -/
theorem kind_wrong {l : List UInt8} {k k2 : Int} (h : leN (l.drop 252) = sumN l k) (h2 : leN (l.drop 252) = sumN l k2) (hk : 1 ≤ k ∧ k ≤ 4) (hk2 : 1 ≤ k2 ∧ k2 ≤ 4) : k = k2 := by
  apply saltN_inj hk hk2
  rw [h] at h2
  unfold sumN at h2
  rw [Nat.xor_comm _ (saltN k), Nat.xor_comm _ (saltN k2)] at h2
  exact Crc.xor_right h2

theorem bodyB_length {k no : Int} {l : List UInt8} (h : l.length ≤ 244) : (bodyB k no l).length = 252 := by
  simp [bodyB, encN_length]; omega
theorem sealB_eq {k no : Int} {l : List UInt8} (h : sealE k no l.length = 0) : sealB k no l = bodyB k no l ++ encN 4 (Crc.sum (bodyB k no l) ^^^ saltN k) := by rw [sealB, if_pos h]
theorem sealE_zero {k no : Int} {n : Nat} (h : sealE k no n = 0) : knownB k no = true ∧ n ≤ 244 := by
  unfold sealE at h
  cases hk : knownB k no
  · simp [hk] at h
  · refine ⟨rfl, ?_⟩
    by_cases hn : 244 < n
    · simp [hk, hn] at h
    · omega
theorem sealB_length {k no : Int} {l : List UInt8} (h : sealE k no l.length = 0) : (sealB k no l).length = 256 := by
  rw [sealB_eq h, List.length_append, bodyB_length (sealE_zero h).2, encN_length]

theorem take_app {α : Type} {a b : List α} {n : Nat} (h : a.length = n) : (a ++ b).take n = a := by rw [← h]; simp
theorem drop_app {α : Type} {a b : List α} {n : Nat} (h : a.length = n) : (a ++ b).drop n = b := by rw [← h]; simp
theorem drop_add {α : Type} (a : List α) (i j : Nat) : (a.drop i).drop j = a.drop (i + j) := by simp [List.drop_drop]

/-- what lies in a sealed block -/
theorem sealB_parts {k no : Int} {l : List UInt8} (h : sealE k no l.length = 0) :
    leN ((sealB k no l).drop 252) = sumN (sealB k no l) k ∧ (leN ((sealB k no l).take 4) : Int) = no ∧ (leN (((sealB k no l).drop 4).take 2) : Int) = k ∧ leN (((sealB k no l).drop 6).take 2) = 0 ∧
    ((sealB k no l).drop 8).take 244 = l ++ List.replicate (244 - l.length) 0 := by
  obtain ⟨hk, hn⟩ := sealE_zero h
  obtain ⟨⟨hk1, hk2⟩, hno1, hno2⟩ := knownB_iff.1 hk
  have hb := bodyB_length (k := k) (no := no) hn
  rw [sealB_eq h]
  have hp : l.length + (244 - l.length) = 244 := by omega
  have e4 : (encN 4 no.toNat).length = 4 := encN_length _ _
  have e2 : (encN 2 k.toNat).length = 2 := encN_length _ _
  generalize hX : encN 4 (Crc.sum (bodyB k no l) ^^^ saltN k) = X
  have eX : leN X = Crc.sum (bodyB k no l) ^^^ saltN k := by rw [← hX, leN_encN _ _ (by have := Crc.xor_lt (Crc.sum_lt (bodyB k no l)) (saltN_lt k); omega)]
  have d4 : (bodyB k no l ++ X).drop 4 = encN 2 k.toNat ++ ([0, 0] ++ (l ++ List.replicate (244 - l.length) 0)) ++ X := by
    unfold bodyB
    rw [List.append_assoc, drop_app e4]
  have d6 : (bodyB k no l ++ X).drop 6 = [0, 0] ++ ((l ++ List.replicate (244 - l.length) 0) ++ X) := by
    rw [← drop_add _ 4 2, d4, List.append_assoc, drop_app e2, List.append_assoc]
  have d8 : (bodyB k no l ++ X).drop 8 = (l ++ List.replicate (244 - l.length) 0) ++ X := by
    rw [← drop_add _ 6 2, d6]; rfl
  refine ⟨?_, ?_, ?_, ?_, ?_⟩
  · rw [drop_app hb, eX, sumN, take_app hb]
  · unfold bodyB
    rw [List.append_assoc, take_app e4, leN_encN _ _ (by omega)]
    omega
  · rw [d4, List.append_assoc, take_app e2, leN_encN _ _ (by omega)]
    omega
  · rw [d6]; rfl
  · rw [d8, take_app (by simp; omega)]

theorem openE_seal {k no : Int} {l : List UInt8} (h : sealE k no l.length = 0) : openE (sealB k no l) k no = 0 ∧ openB (sealB k no l) k no = l ++ List.replicate (244 - l.length) 0 := by
  obtain ⟨h1, h2, h3, h4, h5⟩ := sealB_parts h
  have h0 : openE (sealB k no l) k no = 0 := by
    simp [openE, (sealE_zero h).1, sealB_length h, h1, h2, h3, h4]
  exact ⟨h0, by rw [openB, if_pos h0, h5]⟩

theorem openE_zero {l : List UInt8} {k no : Int} (h : openE l k no = 0) : knownB k no = true ∧ l.length = 256 ∧ leN (l.drop 252) = sumN l k ∧ (leN (l.take 4) : Int) = no ∧ (leN ((l.drop 4).take 2) : Int) = k ∧ leN ((l.drop 6).take 2) = 0 := by
  unfold openE at h
  by_cases h1 : knownB k no = false
  · simp [h1] at h
  by_cases h2 : l.length ≠ 256
  · simp [h1, h2] at h
  by_cases h3 : (leN (l.drop 252) : Int) ≠ sumN l k
  · rw [if_neg h1, if_neg h2, if_pos h3] at h; omega
  by_cases h4 : (leN (l.take 4) : Int) ≠ no
  · rw [if_neg h1, if_neg h2, if_neg h3, if_pos h4] at h; omega
  by_cases h5 : (leN ((l.drop 4).take 2) : Int) ≠ k
  · rw [if_neg h1, if_neg h2, if_neg h3, if_neg h4, if_pos h5] at h; omega
  by_cases h6 : leN ((l.drop 6).take 2) ≠ 0
  · rw [if_neg h1, if_neg h2, if_neg h3, if_neg h4, if_neg h5, if_pos h6] at h; omega
  exact ⟨by simpa using h1, by omega, by omega, by omega, by omega, by omega⟩

end Go.Proofs.YtnjlganofjkpfaaGreat

/-
  Layer 6's Put: the action that gathers the fields.
-/
namespace Go.Proofs.YtnjlganofjkpfaaGreat
open Go.RowKit
set_option linter.unusedVariables false
set_option linter.unusedSimpArgs false

end Go.Proofs.YtnjlganofjkpfaaGreat

/-
  Layer 8: the numbers of a value, their bytes, and back.
-/
namespace Go.Proofs.YtnjlganofjkpfaaGreat
open Go.RowKit
set_option linter.unusedVariables false
set_option linter.unusedSimpArgs false

/-- a number of a value: how many bytes, from where to where -/
abbrev NumS := Nat × Int × Int
def inB (n lo hi : Int) : Bool := decide (lo ≤ n) && decide (n ≤ hi)
theorem inB_iff {n lo hi : Int} : inB n lo hi = true ↔ lo ≤ n ∧ n ≤ hi := by simp [inB]

def okP (l : List (NumS × Int)) : Bool := l.all fun p => inB p.2 p.1.2.1 p.1.2.2
def encP (l : List (NumS × Int)) : List UInt8 := l.flatMap fun p => encN p.1.1 p.2.toNat
def bldP (l : List (NumS × Int)) : List UInt8 := if okP l then encP l else []

/-- a number that some bytes can hold -/
def fitN (p : NumS) : Prop := 1 ≤ p.1 ∧ p.1 ≤ 8 ∧ 0 ≤ p.2.1 ∧ p.2.2 ≤ 9223372036854775807 ∧ p.2.2 < ((256 ^ p.1 : Nat) : Int) ∧ p.2.1 ≤ 9223372036854775807 ∧ -9223372036854775808 ≤ p.2.2

def sizeN (ns : List NumS) : Nat := (ns.map (·.1)).sum
def partsN : List UInt8 → List NumS → List Nat
  | _, [] => []
  | s, p :: r => leN (s.take p.1) :: partsN (s.drop p.1) r
def okR (s : List UInt8) (ns : List NumS) : Bool := okP (ns.zip ((partsN s ns).map fun k : Nat => (k : Int)))
def rdE (s : List UInt8) (ns : List NumS) : Int := if s.length ≠ sizeN ns then 7 else if okR s ns then 0 else 2

theorem encN_take : ∀ (k j n : Nat), j ≤ k → (encN k n).take j = encN j n
  | _, 0, _, _ => by simp [encN]
  | 0, _ + 1, _, h => by omega
  | k + 1, j + 1, n, h => by rw [encN, encN, List.take_succ_cons, encN_take k j (n / 256) (by omega)]

theorem leN_zeros (l : List UInt8) (m : Nat) : leN (l ++ List.replicate m 0) = leN l := by
  induction l with
  | nil =>
    induction m with
    | zero => rfl
    | succ m ih =>
      rw [List.nil_append] at ih ⊢
      rw [List.replicate_succ]
      change (0 : UInt8).toNat + 256 * leN (List.replicate m 0) = leN []
      rw [ih]
      rfl
  | cons b r ih => rw [List.cons_append, leN, leN, ih]

theorem okP_append (a b : List (NumS × Int)) : okP (a ++ b) = (okP a && okP b) := by simp [okP]
theorem encP_append (a b : List (NumS × Int)) : encP (a ++ b) = encP a ++ encP b := by simp [encP]
theorem okP_step {l : List (NumS × Int)} {k : Nat} (hk : k < l.length) : okP (l.take (k + 1)) = (okP (l.take k) && inB l[k].2 l[k].1.2.1 l[k].1.2.2) := by
  rw [List.take_succ_eq_append_getElem hk, okP_append]
  simp [okP]
theorem encP_step {l : List (NumS × Int)} {k : Nat} (hk : k < l.length) : encP (l.take (k + 1)) = encP (l.take k) ++ encN l[k].1.1 l[k].2.toNat := by
  rw [List.take_succ_eq_append_getElem hk, encP_append]
  simp [encP]
theorem okP_bad {l : List (NumS × Int)} {k : Nat} (hk : k < l.length) (h : inB l[k].2 l[k].1.2.1 l[k].1.2.2 = false) : okP l = false := by
  rw [Bool.eq_false_iff]
  intro e
  have := List.all_eq_true.1 e l[k] (List.getElem_mem _)
  rw [h] at this
  cases this
theorem encP_le {l : List (NumS × Int)} (h : ∀ p ∈ l, p.1.1 ≤ 8) : (encP l).length ≤ l.length * 8 := by
  induction l with
  | nil => simp [encP]
  | cons p r ih =>
    have h1 := ih fun q hq => h q (List.mem_cons_of_mem _ hq)
    have h2 := h p List.mem_cons_self
    simp only [encP, List.flatMap_cons, List.length_append, encN_length, List.length_cons] at *
    omega

theorem partsN_length (s : List UInt8) (ns : List NumS) : (partsN s ns).length = ns.length := by
  induction ns generalizing s with
  | nil => rfl
  | cons p r ih => simp [partsN, ih]

/-- what was built is read -/
theorem parts_enc (ns : List NumS) (vs : List Int) (hl : vs.length = ns.length) (hf : ∀ p ∈ ns, fitN p) (ho : okP (ns.zip vs) = true) (rest : List UInt8) :
    (partsN (encP (ns.zip vs) ++ rest) ns).map (fun k : Nat => (k : Int)) = vs ∧ (encP (ns.zip vs)).length = sizeN ns := by
  induction ns generalizing vs with
  | nil =>
    obtain rfl : vs = [] := List.eq_nil_of_length_eq_zero (by simpa using hl)
    exact ⟨rfl, rfl⟩
  | cons p r ih =>
    match vs, hl with
    | v :: vs, hl =>
      have hp := hf p List.mem_cons_self
      obtain ⟨h1, h2, h3, h4, h5, h6⟩ := hp
      simp only [List.zip_cons_cons, okP, List.all_cons, Bool.and_eq_true] at ho
      obtain ⟨hv, ho⟩ := ho
      rw [inB_iff] at hv
      obtain ⟨i1, i2⟩ := ih vs (by simpa using hl) (fun q hq => hf q (List.mem_cons_of_mem _ hq)) ho
      have e1 : encP (((p, v) :: r.zip vs)) = encN p.1 v.toNat ++ encP (r.zip vs) := by simp [encP]
      simp only [List.zip_cons_cons, e1]
      constructor
      · rw [partsN, List.append_assoc, List.take_left' (encN_length _ _), List.drop_left' (encN_length _ _), leN_encN _ _ (by omega), List.map_cons, i1]
        congr 1
        omega
      · rw [List.length_append, encN_length, i2]
        simp [sizeN]

/-- the round trip: a value that was built -/
theorem read_built {ns : List NumS} {vs : List Int} (hl : vs.length = ns.length) (hf : ∀ p ∈ ns, fitN p) (ho : okP (ns.zip vs) = true) :
    rdE (bldP (ns.zip vs)) ns = 0 ∧ (partsN (bldP (ns.zip vs)) ns).map (fun k : Nat => (k : Int)) = vs ∧ (bldP (ns.zip vs)).length = sizeN ns := by
  obtain ⟨h1, h2⟩ := parts_enc ns vs hl hf ho []
  rw [List.append_nil] at h1
  rw [bldP, if_pos ho]
  refine ⟨?_, h1, h2⟩
  rw [rdE, if_neg (by omega), okR, h1, ho]
  rfl
/-! ### the kinds -/
def slotS : List NumS := [(8, 1, 14399), (4, 0, 960), (4, 0, 960)]
def rootS : List NumS := [(4, 1, 14399)]
theorem rootS_fit : ∀ p ∈ rootS, fitN p := by
  intro p hp
  simp only [rootS, List.mem_cons, List.mem_nil_iff, or_false] at hp
  rcases hp with rfl <;> simp [fitN]
end Go.Proofs.YtnjlganofjkpfaaGreat

/-
  Layer 10: an index of slots, its bytes, and back.
-/
namespace Go.Proofs.YtnjlganofjkpfaaGreat
open Go.RowKit
set_option linter.unusedVariables false
set_option linter.unusedSimpArgs false

abbrev Slt := Int × Int × Int
def sltV (x : Slt) : List Int := [x.1, x.2.1, x.2.2]
def sltOk (x : Slt) : Bool := okP (slotS.zip (sltV x))
def sltE (x : Slt) : List UInt8 := encP (slotS.zip (sltV x))
def okS10 (l : List Slt) : Bool := decide (l.length ≤ 15) && l.all sltOk
def encS10 (l : List Slt) : List UInt8 := encN 4 l.length ++ ((l.map sltE).flatten ++ List.replicate (240 - 16 * l.length) 0)
def numS (b : List UInt8) : Nat := leN (b.take 4)
def sltAt10 (b : List UInt8) (i : Nat) : List UInt8 := (b.drop (4 + 16 * i)).take 16
def nums10 (s : List UInt8) : List Int := (partsN s slotS).map fun k : Nat => (k : Int)
def sltR (s : List UInt8) : Slt := ((nums10 s).getD 0 0, (nums10 s).getD 1 0, (nums10 s).getD 2 0)
def readS10 (b : List UInt8) : List Slt := (List.range (numS b)).map fun i => sltR (sltAt10 b i)
def formS (b : List UInt8) : Bool := decide (b.length = 244) && (decide (numS b ≤ 15) && zeroB (b.drop (4 + 16 * numS b)))
def readSE10 (b : List UInt8) : Int := if formS b = true then (if (List.range (numS b)).all (fun i => okR (sltAt10 b i) slotS) = true then 0 else 2) else 7
def readSL10 (b : List UInt8) : List Slt := if readSE10 b = 0 then readS10 b else []

end Go.Proofs.YtnjlganofjkpfaaGreat
