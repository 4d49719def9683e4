/-
  Joined: CodeE, CodeF, CodeG, CodeH, CodeJ, CodeL, BitMath, BitA, NodMath, NodMathB, NodA, SealMath, SupC, ValMath, SlotMath.
-/
import Derived.OwnWalk
import Derived.Test.YtajeelbeochojaaGreatDoorJAlcB11
import Derived.Test.YtajeelbeochojaaGreatDoorJAlcB08
import Derived.Deep.RegionLaw
import Derived.Test.YtajeelbeochojaaGreatDoorJAlcB02
import Derived.Test.YtajeelbeochojaaGreatDoorJAlcB01
/-
  Layer 1's split: the encoding of an integer.
-/
namespace Go.Proofs.YtajeelbeochojaaGreatDoor
open Go.RowKit
set_option linter.unusedVariables false
set_option linter.unusedSimpArgs false


/-- the encoding of n in k bytes -/
def encN : Nat → Nat → List UInt8
  | 0, _ => []
  | k + 1, n => UInt8.ofNat n :: encN k (n / 256)

theorem encN_length (k n : Nat) : (encN k n).length = k := by
  induction k generalizing n with
  | zero => rfl
  | succ k ih => simp [encN, ih]

set_option maxRecDepth 100000 in
set_option maxHeartbeats 400000 in
theorem split1 (base : Nat) (v : Value) (m : Nat) (xs : List Value) (n : Nat) (w : World) (hown : Hid (w.ownsRow base 5 1 v m xs)) (hb : base ≤ w.heap.size) (hm : m + 8 ≤ 140737488355328) (hn : n < 9223372036854775808) :
    Calls Tryz.prog 91 #[v, .int .i64 n, .int .i64 1] w fun e w' => ∃ v', e = .returned v' ∧ w'.ownsRow base 5 1 v' (m + 1) (xs ++ u8s (encN 1 n)) ∧ Below base w w' := by
  go_enter Tryz.func91, Tryz.ntmps91
  go_wp2_with (at_builtin; refine wpList_append_new w rfl (.tmp 49) (.tmp 52) _ rfl base 5 _ _ 1 Tryz.underlying22 info_u8 rfl v m xs rfl hown hb [_] 1 1 rfl rfl (by simp [Value.oneCell']) (by omega) (by omega) ?_; intro v1 w1 hown1 hb1 hg1)
  go_ret
  refine ⟨v1, rfl, ?_, hg1⟩
  simpa [encN, u8s] using hown1.out

set_option maxRecDepth 100000 in
set_option maxHeartbeats 400000 in
theorem split2 (base : Nat) (v : Value) (m : Nat) (xs : List Value) (n : Nat) (w : World) (hown : Hid (w.ownsRow base 5 1 v m xs)) (hb : base ≤ w.heap.size) (hm : m + 8 ≤ 140737488355328) (hn : n < 9223372036854775808) :
    Calls Tryz.prog 91 #[v, .int .i64 n, .int .i64 2] w fun e w' => ∃ v', e = .returned v' ∧ w'.ownsRow base 5 1 v' (m + 2) (xs ++ u8s (encN 2 n)) ∧ Below base w w' := by
  go_enter Tryz.func91, Tryz.ntmps91
  go_wp2_with (first
    | (at_builtin; refine wpList_append_new w rfl (.tmp 42) (.tmp 45) _ rfl base 5 _ _ 1 Tryz.underlying22 info_u8 rfl v m xs rfl hown hb [_] 1 1 rfl rfl (by simp [Value.oneCell']) (by omega) (by omega) ?_; intro v1 w1 hown1 hb1 hg1)
    | (at_builtin; refine wpList_append_new w1 rfl (.tmp 49) (.tmp 52) _ rfl base 5 _ _ 1 Tryz.underlying22 info_u8 rfl v1 _ _ rfl hown1 hb1 [_] 1 1 rfl rfl (by simp [Value.oneCell']) (by omega) (by omega) ?_; intro v2 w2 hown2 hb2 hg2))
  go_ret
  refine ⟨v2, rfl, ?_, hg1.trans hg2⟩
  simpa [encN, u8s] using hown2.out

set_option maxRecDepth 100000 in
set_option maxHeartbeats 400000 in
theorem split4 (base : Nat) (v : Value) (m : Nat) (xs : List Value) (n : Nat) (w : World) (hown : Hid (w.ownsRow base 5 1 v m xs)) (hb : base ≤ w.heap.size) (hm : m + 8 ≤ 140737488355328) (hn : n < 9223372036854775808) :
    Calls Tryz.prog 91 #[v, .int .i64 n, .int .i64 4] w fun e w' => ∃ v', e = .returned v' ∧ w'.ownsRow base 5 1 v' (m + 4) (xs ++ u8s (encN 4 n)) ∧ Below base w w' := by
  go_enter Tryz.func91, Tryz.ntmps91
  go_wp2_with (first
    | (at_builtin; refine wpList_append_new w rfl (.tmp 32) (.tmp 38) _ rfl base 5 _ _ 1 Tryz.underlying22 info_u8 rfl v m xs rfl hown hb [_, _] 2 2 rfl rfl (by simp [Value.oneCell']) (by omega) (by omega) ?_; intro v1 w1 hown1 hb1 hg1)
    | (at_builtin; refine wpList_append_new w1 rfl (.tmp 42) (.tmp 45) _ rfl base 5 _ _ 1 Tryz.underlying22 info_u8 rfl v1 _ _ rfl hown1 hb1 [_] 1 1 rfl rfl (by simp [Value.oneCell']) (by omega) (by omega) ?_; intro v2 w2 hown2 hb2 hg2)
    | (at_builtin; refine wpList_append_new w2 rfl (.tmp 49) (.tmp 52) _ rfl base 5 _ _ 1 Tryz.underlying22 info_u8 rfl v2 _ _ rfl hown2 hb2 [_] 1 1 rfl rfl (by simp [Value.oneCell']) (by omega) (by omega) ?_; intro v3 w3 hown3 hb3 hg3))
  go_ret
  refine ⟨v3, rfl, ?_, (hg1.trans hg2).trans hg3⟩
  have := hown3.out
  simp [encN, u8s, Nat.div_div_eq_div_mul, Int.ediv_ediv_of_nonneg] at this ⊢
  exact this

set_option maxRecDepth 100000 in
set_option maxHeartbeats 400000 in
theorem split8 (base : Nat) (v : Value) (m : Nat) (xs : List Value) (n : Nat) (w : World) (hown : Hid (w.ownsRow base 5 1 v m xs)) (hb : base ≤ w.heap.size) (hm : m + 8 ≤ 140737488355328) (hn : n < 9223372036854775808) :
    Calls Tryz.prog 91 #[v, .int .i64 n, .int .i64 8] w fun e w' => ∃ v', e = .returned v' ∧ w'.ownsRow base 5 1 v' (m + 8) (xs ++ u8s (encN 8 n)) ∧ Below base w w' := by
  go_enter Tryz.func91, Tryz.ntmps91
  go_wp2_with (first
    | (at_builtin; refine wpList_append_new w rfl (.tmp 16) (.tmp 28) _ rfl base 5 _ _ 1 Tryz.underlying22 info_u8 rfl v m xs rfl hown hb [_, _, _, _] 4 4 rfl rfl (by simp [Value.oneCell']) (by omega) (by omega) ?_; intro v0 w0 hown0 hb0 hg0)
    | (at_builtin; refine wpList_append_new w0 rfl (.tmp 32) (.tmp 38) _ rfl base 5 _ _ 1 Tryz.underlying22 info_u8 rfl v0 _ _ rfl hown0 hb0 [_, _] 2 2 rfl rfl (by simp [Value.oneCell']) (by omega) (by omega) ?_; intro v1 w1 hown1 hb1 hg1)
    | (at_builtin; refine wpList_append_new w1 rfl (.tmp 42) (.tmp 45) _ rfl base 5 _ _ 1 Tryz.underlying22 info_u8 rfl v1 _ _ rfl hown1 hb1 [_] 1 1 rfl rfl (by simp [Value.oneCell']) (by omega) (by omega) ?_; intro v2 w2 hown2 hb2 hg2)
    | (at_builtin; refine wpList_append_new w2 rfl (.tmp 49) (.tmp 52) _ rfl base 5 _ _ 1 Tryz.underlying22 info_u8 rfl v2 _ _ rfl hown2 hb2 [_] 1 1 rfl rfl (by simp [Value.oneCell']) (by omega) (by omega) ?_; intro v3 w3 hown3 hb3 hg3))
  go_ret
  refine ⟨v3, rfl, ?_, ((hg0.trans hg1).trans hg2).trans hg3⟩
  have := hown3.out
  simp [encN, u8s, Nat.div_div_eq_div_mul, Int.ediv_ediv_of_nonneg] at this ⊢
  have e : (n : Int) / 72057594037927936 % 256 = (n : Int) / 72057594037927936 := by omega
  rw [e]
  exact this

theorem split_any (base : Nat) (v : Value) (m : Nat) (xs : List Value) (n wd : Int) (w : World) (hown : w.ownsRow base 5 1 v m xs) (hb : base ≤ w.heap.size) (hm : m + 8 ≤ 140737488355328)
    (hn0 : 0 ≤ n) (hn : n < 9223372036854775808) (hw : isW wd = true) :
    Calls Tryz.prog 91 #[v, .int .i64 n, .int .i64 wd] w fun e w' => ∃ v', e = .returned v' ∧ w'.ownsRow base 5 1 v' (m + wd.toNat) (xs ++ u8s (encN wd.toNat n.toNat)) ∧ Below base w w' := by
  obtain ⟨k, rfl⟩ := Int.eq_ofNat_of_zero_le hn0
  rcases isW_cases hw with rfl | rfl | rfl | rfl
  · exact split1 base v m xs k w hown hb hm (by omega)
  · exact split2 base v m xs k w hown hb hm (by omega)
  · exact split4 base v m xs k w hown hb hm (by omega)
  · exact split8 base v m xs k w hown hb hm (by omega)

/-! ### the reference's Bytes -/
end Go.Proofs.YtajeelbeochojaaGreatDoor

/-
  Layer 1's Put.
-/
namespace Go.Proofs.YtajeelbeochojaaGreatDoor
open Go.RowKit
set_option linter.unusedVariables false
set_option linter.unusedSimpArgs false

set_option maxRecDepth 100000 in
set_option maxHeartbeats 400000 in
theorem Put_own (A : Option Addr) (n c k : Nat) (wd : Int) (x : Nat) (l : List UInt8) (w : World) (h : Bytes8 w A n c l) (hn : n ≤ 140737488355320) (hr : roomE n k wd = 0) (hw : isW wd = true) (hk : k + wd.toNat ≤ n)
    (hx : x < 9223372036854775808) (hf : fitsB x wd = true) :
    Calls Tryz.prog 72 #[.slice A n c, .int .i64 k, .int .i64 wd, .int .i64 x] w fun e w' => e = .returned (.tuple #[.slice (some ⟨w.heap.size, 0, none⟩) n n, .int .i64 0]) ∧
      Own8 w' w.heap.size w.heap.size (l.take k ++ (encN wd.toNat x ++ l.drop (k + wd.toNat))) ∧ Below w.heap.size w w' := by
  have P := Lib.hid (place_any A n c k wd w (by omega) (by omega) 0 hr)
  have F := Lib.hid (fits_any x wd w hw (by omega) true hf)
  obtain ⟨m, hm⟩ : ∃ m : Nat, m = wd.toNat := ⟨_, rfl⟩
  have S : ∀ W : World, Calls Tryz.prog 91 #[.slice none 0 0, .int .i64 x, .int .i64 wd] W fun e w' => ∃ A' c', e = .returned (.slice A' m c') ∧ Bytes8 w' A' m c' (encN m x) ∧ Below W.heap.size W w' :=
    fun W => (split_any W.heap.size (.slice none 0 0) 0 [] x wd W (World.ownsRow_nil _ _ _ _) (Nat.le_refl _) (by omega) (by omega) (by omega) hw).mono fun e w' ⟨v', he, ho, hb⟩ => by
      simp only [Nat.zero_add, List.nil_append, Int.toNat_natCast, ← hm] at ho
      obtain ⟨A', c', rfl, hB⟩ := Bytes8.of_own ho
      exact ⟨A', c', he, hB, hb⟩
  have hb8 : 1 ≤ wd ∧ wd ≤ 8 := by rcases isW_cases hw with h | h | h | h <;> omega
  obtain ⟨i0, hi0, hz0, hz1, hz2⟩ := info_parts info_u8
  have HB := Lib.hid h
  have HS := Lib.hid S
  clear h hr hf hw S
  have hkm : k + m ≤ n := by omega
  have hm1 : 1 ≤ m := by omega
  have hkn : k ≤ n := by omega
  have hnk : ¬ n = k := by omega
  rw [← hm]
  have HM := Lib.hid hm
  clear hm hk
  go_enter Tryz.func72, Tryz.ntmps72
  go_wp2_with (first
    | (go_at_call 92; refine (P.out).mono ?_; rintro e w' ⟨rfl, rfl⟩)
    | (go_at_call 90; refine (F.out).mono ?_; rintro e w' ⟨rfl, rfl⟩)
    | (at_make; refine wpList_make_full w rfl (.tmp 24) (.tmp 24) _ rfl w.heap.size 5 i0 _ 1 Tryz.underlying22 hi0 hz0 hz1 .i64 .i64 _ _ n rfl rfl rfl rfl (by rw [hz2]; omega) (by simp only [maxLen]; omega) (Nat.le_refl _) ?_; intro w1 hown1 hg1; have hb1 := below_of_grown hg1 (by simp); have HO1 := Lib.hid hown1; clear hown1)
    | (refine wpList_copy_splice rfl (.tmp 26) (.tmp 27) _ _ rfl 5 Tryz.underlying22 size_u8 _ _ _ _ _ _ rfl rfl w.heap.size 0 _ 5 (ownsRow_whole HO1.out) (u8s l) (by rw [u8s_length, HB.out.len]; exact (Nat.min_self n).symm) (fun hp => ⟨rfl, (HB.out.row.below hb1).src hp⟩) (by have := HO1.out.1; rw [u8s_length, HB.out.len]; omega) (u8s_one _) w.heap.size w hb1 (Nat.le_refl _) ?_; intro w2 HG2 hb2; have HG2 : Hid (w2.heap[w.heap.size]? = some (.cells (u8s l).toArray 5 (0, 0))) := (by have h1 := HO1.out.1; have h2 := HB.out.len; rw [splice_all _ _ (by rw [u8s_length]; omega)] at HG2; exact HG2)))
  go_region_law (first
    | (go_simp; go_at_call 91; go_must (have hlt2 := block_lt HG2.out; refine (HS.out _).mono ?_; rintro e w3 ⟨A3, c3, rfl, HB3, hbb3⟩; have hb3 := hb2.drew.trans (hbb3.mono hb2.size); have HG3 : Hid (w3.heap[w.heap.size]? = _) := (hbb3.block w.heap.size hlt2).trans HG2.out))
    | (refine step_copy_splice rfl (.tmp 31) (.tmp 34) _ _ rfl 5 Tryz.underlying22 size_u8 _ _ _ _ _ _ rfl rfl w.heap.size k _ 5 (HG3.out) (u8s (encN m x)) (by rw [u8s_length, encN_length]; exact (Nat.min_eq_left (by omega)).symm) (fun hp => ⟨rfl, HB3.row.src hp⟩) (by have := HB.out.len; rw [u8s_length, u8s_length, encN_length]; omega) (u8s_one _) w.heap.size w hb3 (Nat.le_refl _) ?_; intro w4 HG4 hb4))
  go_wp2
  go_ret2
  refine ⟨rfl, ⟨Nat.le_refl _, ?_⟩, hb4⟩
  have := HG4.out
  simpa [splice, u8s_take, u8s_drop, u8s_append, u8s_length, encN_length] using this

end Go.Proofs.YtajeelbeochojaaGreatDoor

/-
  The reference's Put; both Zero.
-/
namespace Go.Proofs.YtajeelbeochojaaGreatDoor
open Go.RowKit
set_option linter.unusedVariables false
set_option linter.unusedSimpArgs false

end Go.Proofs.YtajeelbeochojaaGreatDoor

/-
  Layer 1's Pack.
-/
namespace Go.Proofs.YtajeelbeochojaaGreatDoor
open Go.RowKit
set_option linter.unusedVariables false
set_option linter.unusedSimpArgs false

/-- fields as cells -/
def flds (l : List (Int × Int)) : List Value := l.flatMap fun p => [.int .i64 p.1, .int .i64 p.2]

theorem flds_length (l : List (Int × Int)) : (flds l).length = l.length * 2 := by
  induction l with
  | nil => rfl
  | cons p r ih => simp only [flds, List.flatMap_cons, List.length_append, List.length_cons, List.length_nil] at *; omega

theorem flds_at (l : List (Int × Int)) (k : Nat) (h : k < l.length) : (flds l)[k * 2]? = some (.int .i64 l[k].1) ∧ (flds l)[k * 2 + 1]? = some (.int .i64 l[k].2) := by
  induction l generalizing k with
  | nil => simp at h
  | cons p r ih =>
    cases k with
    | zero => simp [flds]
    | succ k =>
      have := ih k (by simpa using h)
      simp only [flds, List.flatMap_cons] at *
      rw [List.getElem?_append_right (by simp; omega), List.getElem?_append_right (by simp; omega)]
      simp only [List.length_cons, List.length_nil, List.getElem_cons_succ]
      rw [show (k + 1) * 2 - (0 + 1 + 1) = k * 2 by omega, show (k + 1) * 2 + 1 - (0 + 1 + 1) = k * 2 + 1 by omega]
      exact this

def i64b (x : Int) : Prop := -9223372036854775808 ≤ x ∧ x ≤ 9223372036854775807

/-- a slice of fields -/
structure Flds (w : World) (A : Option Addr) (n c : Nat) (l : List (Int × Int)) : Prop where
  len : l.length = n
  cap : n ≤ c
  most : c ≤ 9223372036854775807
  row : Row w A (flds l)
  bds : ∀ p ∈ l, i64b p.1 ∧ i64b p.2

theorem Flds.below {w w' : World} {A : Option Addr} {n c : Nat} {l : List (Int × Int)} (h : Flds w A n c l) (hb : Below w.heap.size w w') : Flds w' A n c l := ⟨h.len, h.cap, h.most, h.row.below hb, h.bds⟩

def packE : List (Int × Int) → Int
  | [] => 0
  | p :: r => if isW p.1 = false then 1 else if fitsB p.2 p.1 = false then 2 else packE r

def encs (l : List (Int × Int)) : List UInt8 := l.flatMap fun p => encN p.1.toNat p.2.toNat

def packB (l : List (Int × Int)) : List UInt8 := if packE l = 0 then encs l else []

theorem packE_append (a b : List (Int × Int)) : packE (a ++ b) = if packE a = 0 then packE b else packE a := by
  induction a with
  | nil => simp [packE]
  | cons p r ih =>
    simp only [List.cons_append, packE]
    split
    · simp
    · split
      · simp
      · exact ih

theorem packE_at {l : List (Int × Int)} {k : Nat} (hk : k < l.length) (h : packE (l.take k) = 0) : packE l = packE (l[k] :: l.drop (k + 1)) := by
  conv => lhs; rw [← List.take_append_drop k l, packE_append, h, List.drop_eq_getElem_cons hk]
  simp

theorem packE_step {l : List (Int × Int)} {k : Nat} (hk : k < l.length) (h : packE (l.take k) = 0) (hw : isW l[k].1 = true) (hf : fitsB l[k].2 l[k].1 = true) : packE (l.take (k + 1)) = 0 := by
  rw [List.take_succ_eq_append_getElem hk, packE_append, h]
  simp [packE, hw, hf]

theorem encs_step {l : List (Int × Int)} {k : Nat} (hk : k < l.length) : encs (l.take (k + 1)) = encs (l.take k) ++ encN l[k].1.toNat l[k].2.toNat := by
  simp only [encs]
  rw [List.take_succ_eq_append_getElem hk, List.flatMap_append]
  simp only [List.flatMap_cons, List.flatMap_nil, List.append_nil]

theorem encs_le {l : List (Int × Int)} (h : packE l = 0) : (encs l).length ≤ l.length * 8 := by
  induction l with
  | nil => simp [encs]
  | cons p r ih =>
    simp only [packE] at h
    split at h
    · simp at h
    · rename_i hw
      split at h
      · simp at h
      · have := ih h
        have hw' : isW p.1 = true := by simpa using hw
        have : p.1.toNat ≤ 8 := by rcases isW_cases hw' with h | h | h | h <;> omega
        simp only [encs, List.flatMap_cons, List.length_append, encN_length, List.length_cons] at *
        omega

theorem fits_bounds {x wd : Int} (h : fitsB x wd = true) : 0 ≤ x := by simp [fitsB] at h; exact h.1

set_option maxRecDepth 100000 in
set_option maxHeartbeats 400000 in
theorem Pack_any (A : Option Addr) (n c : Nat) (l : List (Int × Int)) (w : World) (h : Flds w A n c l) (hn : n ≤ 1000000) :
    Calls Tryz.prog 71 #[.slice A n c] w fun e w' => ∃ A' m c', e = .returned (.tuple #[.slice A' m c', .int .i64 (packE l)]) ∧ Bytes8 w' A' m c' (packB l) ∧ Below w.heap.size w w' := by
  by_cases hp : 0 < n
  · obtain ⟨b, off, rfl, hb, hcell⟩ := h.row.lit (by rw [flds_length, h.len]; omega)
    have HF := Lib.hid h
    have HC := Lib.hid hcell
    clear h hcell
    go_enter Tryz.func71, Tryz.ntmps71
    go_wp2
    go_loopw [4, 9] (fun v i wr => ∃ k : Nat, k ≤ n ∧ i = .int .i64 k ∧ Hid (packE (l.take k) = 0) ∧ Hid (wr.ownsRow w.heap.size 5 1 v (encs (l.take k)).length (u8s (encs (l.take k)))) ∧ w.heap.size ≤ wr.heap.size ∧ Below w.heap.size w wr) (fun _ i _ => n - (intOf i).toNat)
    case atStart => exact ⟨0, by omega, rfl, rfl, World.ownsRow_nil _ _ _ _, Nat.le_refl _, Below.refl _ _⟩
    case round =>
      obtain ⟨k, hk, rfl, hE, hown, hs, hbel⟩ := hrel
      by_cases hlt : k < n
      · have hkl : k < l.length := by have := HF.out.len; omega
        have h0 := flds_at l k hkl
        have hc0 : wr.cell? ⟨b, off + k * 2, none⟩ = some (.int .i64 l[k].1) := (hbel.cell (p := ⟨b, off + k * 2, none⟩) hb).trans (HC.out _ _ h0.1)
        have hc1 : wr.cell? ⟨b, off + k * 2 + 1, none⟩ = some (.int .i64 l[k].2) := (hbel.cell (p := ⟨b, off + k * 2 + 1, none⟩) hb).trans (HC.out _ _ h0.2)
        obtain ⟨⟨hb1, hb2⟩, hb3, hb4⟩ := HF.out.bds l[k] (List.getElem_mem _)
        have hat := packE_at hkl hE.out
        have hst := packE_step hkl hE.out
        have hen := encs_step hkl
        have hle := encs_le hE.out
        rw [List.length_take] at hle
        clear h0
        simp only [packE] at hat
        generalize hp1 : l[k].1 = a at *
        generalize hp2 : l[k].2 = x at *
        clear hp1 hp2
        cases hw : isW a with
        | false =>
          have hr : Hid (packE l = 1) := by rw [hat]; simp [hw, Hid]
          have W := Lib.hid (fun W => isWidth_any a W false hw)
          clear hat hst hen hle hw
          go_wp2_with (go_at_call 89; refine (W.out _).mono ?_; rintro e w' ⟨rfl, rfl⟩)
          go_ret2
          exact ⟨none, 0, 0, by rw [hr.out]; rfl, by simpa [packB, hr.out] using Bytes8.nil _, hbel.alloc hs _⟩
        | true =>
          have W := Lib.hid (fun W => isWidth_any a W true hw)
          cases hf : fitsB x a with
          | false =>
            have hr : Hid (packE l = 2) := by rw [hat]; simp [hw, hf, Hid]
            have F := Lib.hid (fun W => fits_any x a W hw ⟨hb3, hb4⟩ false hf)
            clear hat hst hen hle hw hf
            go_wp2_with (first
              | (go_at_call 89; refine (W.out _).mono ?_; rintro e w' ⟨rfl, rfl⟩)
              | (go_at_call 90; refine (F.out _).mono ?_; rintro e w' ⟨rfl, rfl⟩))
            go_ret2
            exact ⟨none, 0, 0, by rw [hr.out]; rfl, by simpa [packB, hr.out] using Bytes8.nil _, hbel.alloc hs _⟩
          | true =>
            have F := Lib.hid (fun W => fits_any x a W hw ⟨hb3, hb4⟩ true hf)
            have S := Lib.hid (fun (W : World) (hO : W.ownsRow w.heap.size 5 1 u4 (encs (l.take k)).length (u8s (encs (l.take k)))) (hs : w.heap.size ≤ W.heap.size) => split_any w.heap.size u4 _ _ x a W hO hs (by omega) (fits_bounds hf) (by omega) hw)
            have hst' := Lib.hid (hst hw hf)
            have hen' := Lib.hid hen
            clear hat hst hen hle hw hf
            go_wp2_with (first
              | (go_at_call 89; refine (W.out _).mono ?_; rintro e w' ⟨rfl, rfl⟩)
              | (go_at_call 90; refine (F.out _).mono ?_; rintro e w' ⟨rfl, rfl⟩)
              | (go_at_call 91; refine (S.out _ (hown.out.alloc _) (by simp; omega)).mono ?_; rintro e w1 ⟨v1, rfl, hown1, hb1⟩; have HO1 := Lib.hid hown1; clear hown1))
            go_roundw
            case rel =>
              have hb2 := (hbel.alloc hs _).trans hb1
              refine ⟨k + 1, by omega, by go_num, hst', ?_, hb2.size, hb2⟩
              have := HO1.out
              rw [← u8s_append] at this
              rw [hen'.out, List.length_append, encN_length]
              exact this
            case measure => simp [intOf]; omega
      · obtain rfl : k = n := by omega
        have hE' : Hid (packE l = 0) := by
          have := hE.out
          rwa [List.take_of_length_le (by have := HF.out.len; omega)] at this
        have hown' : Hid (wr.ownsRow w.heap.size 5 1 u4 (encs l).length (u8s (encs l))) := by
          have := hown.out
          rwa [List.take_of_length_le (by have := HF.out.len; omega)] at this
        obtain ⟨A', c', hv, hB⟩ := Bytes8.of_own hown'.out
        have HV := Lib.hid hv
        clear hv
        go_wp2
        go_ret2
        exact ⟨A', _, c', by rw [hE'.out, ← HV.out]; rfl, by simpa [packB, hE'.out] using hB, hbel⟩
  · obtain rfl : n = 0 := by omega
    obtain rfl : l = [] := List.eq_nil_of_length_eq_zero h.len
    clear h
    go_enter Tryz.func71, Tryz.ntmps71
    go_wp2
    refine wp_loop_rounds 1 ?_
    rw [rounds_succ]
    go_wp2
    go_ret2
    exact ⟨none, 0, 0, rfl, Bytes8.nil _, Below.refl _ _⟩

end Go.Proofs.YtajeelbeochojaaGreatDoor

/-
  Layer 1's Unpack and the reference's.
-/
namespace Go.Proofs.YtajeelbeochojaaGreatDoor
open Go.RowKit
set_option linter.unusedVariables false
set_option linter.unusedSimpArgs false

end Go.Proofs.YtajeelbeochojaaGreatDoor

/-
  Layer 1's mathematics: what was put is got; what was packed is unpacked.
-/
namespace Go.Proofs.YtajeelbeochojaaGreatDoor
open Go.RowKit
set_option linter.unusedVariables false
set_option linter.unusedSimpArgs false

end Go.Proofs.YtajeelbeochojaaGreatDoor

/-
  Layer 9: counts of two bits, their bytes, and back.
-/
namespace Go.Proofs.YtajeelbeochojaaGreatDoor
open Go.RowKit
set_option linter.unusedVariables false
set_option linter.unusedSimpArgs false

/-- count i of a list; 0 behind its end -/
def cntB (l : List Int) (i : Nat) : Nat := (l.getD i 0).toNat
/-- four counts in a byte -/
def fourB (l : List Int) (j : Nat) : Nat := cntB l (4 * j) + 4 * cntB l (4 * j + 1) + 16 * cntB l (4 * j + 2) + 64 * cntB l (4 * j + 3)
def okB9 (l : List Int) : Bool := decide (l.length ≤ 960) && l.all fun x => decide (0 ≤ x) && decide (x ≤ 3)
def encBits (l : List Int) : List UInt8 := encN 4 l.length ++ (List.range 240).map fun j => UInt8.ofNat (fourB l j)
def putBE9 (l : List Int) : Int := if okB9 l = true then 0 else 1
def putBB9 (l : List Int) : List UInt8 := if okB9 l = true then encBits l else []

/-- count i of the bytes -/
def digB (b : List UInt8) (i : Nat) : Nat := (b.getD (4 + i / 4) 0).toNat / 4 ^ (i % 4) % 4
def numB (b : List UInt8) : Nat := leN (b.take 4)
def readBits (b : List UInt8) : List Int := (List.range (numB b)).map fun i => (digB b i : Int)
def readBE9 (b : List UInt8) : Int := if b.length = 244 ∧ numB b ≤ 960 ∧ encBits (readBits b) = b then 0 else 7
def readBL9 (b : List UInt8) : List Int := if readBE9 b = 0 then readBits b else []

/-! ### the counts that are 0 -/
end Go.Proofs.YtajeelbeochojaaGreatDoor

/-
  Layer 9: right (which counts a block can hold), join (four counts in a byte), bytes.Equal.
-/
namespace Go.Proofs.YtajeelbeochojaaGreatDoor
open Go.RowKit
set_option linter.unusedVariables false
set_option linter.unusedSimpArgs false

/-! ### join -/
end Go.Proofs.YtajeelbeochojaaGreatDoor

/-
  Layer 7's mathematics: nodes, their bytes, and what bytes are a node's.
-/
namespace Go.Proofs.YtajeelbeochojaaGreatDoor
open Go.RowKit
set_option linter.unusedVariables false
set_option linter.unusedSimpArgs false

/-! ### pieces of one size -/
/-! ### nodes -/
structure Nod where
  tree : Int
  leaf : Bool
  keys : List Int
  vals : List (List UInt8)

def Nod.zero : Nod := ⟨0, false, [], []⟩

/-! ### what lies in bytes -/
/-! ### what was put is read -/
end Go.Proofs.YtajeelbeochojaaGreatDoor

/-
  Layer 7's mathematics, second part: the loops' steps, and the head of an encoding as Unpack gives it.
-/
namespace Go.Proofs.YtajeelbeochojaaGreatDoor
open Go.RowKit
set_option linter.unusedVariables false
set_option linter.unusedSimpArgs false

/-! ### Get of a width that lies within the bytes -/
/-! ### the loops over the keys -/
end Go.Proofs.YtajeelbeochojaaGreatDoor

/-
  Layer 7's Width, Max, holds and follows, and the reference's Width and Max.
-/
namespace Go.Proofs.YtajeelbeochojaaGreatDoor
open Go.RowKit
set_option linter.unusedVariables false
set_option linter.unusedSimpArgs false

end Go.Proofs.YtajeelbeochojaaGreatDoor

/-
  Layer 4's mathematics: sealed blocks as lists of bytes. Nothing here names the program.
-/
namespace Go.Proofs.YtajeelbeochojaaGreatDoor
open Go.RowKit
set_option linter.unusedVariables false
set_option linter.unusedSimpArgs false

def saltN (k : Int) : Nat := if k = 1 then 160774 else if k = 2 then 121107 else if k = 3 then 240779 else if k = 4 then 160478 else 0
def kindB (k : Int) : Bool := decide (1 ≤ k ∧ k ≤ 4)
def snumB (no : Int) : Bool := decide (0 ≤ no ∧ no < 14400)
def knownB (k no : Int) : Bool := kindB k && snumB no

theorem knownB_iff {k no : Int} : knownB k no = true ↔ (1 ≤ k ∧ k ≤ 4) ∧ 0 ≤ no ∧ no < 14400 := by simp [knownB, kindB, snumB]
theorem saltN_lt (k : Int) : saltN k < 4294967296 := by unfold saltN; repeat' split
                                                        all_goals omega
/-- what the checksum of a block's first bytes must be -/
def sumN (l : List UInt8) (k : Int) : Nat := Crc.sum (l.take 252) ^^^ saltN k
theorem sumN_lt (l : List UInt8) (k : Int) : sumN l k < 4294967296 := Crc.xor_lt (Crc.sum_lt _) (saltN_lt k)

/-- all of a sealed block but its checksum -/
def bodyB (k no : Int) (l : List UInt8) : List UInt8 := encN 4 no.toNat ++ (encN 2 k.toNat ++ ([0, 0] ++ (l ++ List.replicate (244 - l.length) 0)))
def sealE (k no : Int) (n : Nat) : Int := if knownB k no = false then 1 else if 244 < n then 2 else 0
def sealB (k no : Int) (l : List UInt8) : List UInt8 := if sealE k no l.length = 0 then bodyB k no l ++ encN 4 (Crc.sum (bodyB k no l) ^^^ saltN k) else []

theorem bodyB_length {k no : Int} {l : List UInt8} (h : l.length ≤ 244) : (bodyB k no l).length = 252 := by
  simp [bodyB, encN_length]; omega
theorem sealB_eq {k no : Int} {l : List UInt8} (h : sealE k no l.length = 0) : sealB k no l = bodyB k no l ++ encN 4 (Crc.sum (bodyB k no l) ^^^ saltN k) := by rw [sealB, if_pos h]
theorem sealE_zero {k no : Int} {n : Nat} (h : sealE k no n = 0) : knownB k no = true ∧ n ≤ 244 := by
  unfold sealE at h
  cases hk : knownB k no
  · simp [hk] at h
  · refine ⟨rfl, ?_⟩
    by_cases hn : 244 < n
    · simp [hk, hn] at h
    · omega
theorem sealB_length {k no : Int} {l : List UInt8} (h : sealE k no l.length = 0) : (sealB k no l).length = 256 := by
  rw [sealB_eq h, List.length_append, bodyB_length (sealE_zero h).2, encN_length]

theorem take_app {α : Type} {a b : List α} {n : Nat} (h : a.length = n) : (a ++ b).take n = a := by rw [← h]; simp
end Go.Proofs.YtajeelbeochojaaGreatDoor

/-
  Layer 6's Put: the action that gathers the fields.
-/
namespace Go.Proofs.YtajeelbeochojaaGreatDoor
open Go.RowKit
set_option linter.unusedVariables false
set_option linter.unusedSimpArgs false

/-- the fields with their widths: the version, and the first k -/
def fl (f : Nat → Int) : Nat → List (Int × Int)
  | 0 => [(4, 1)]
  | k + 1 => fl f k ++ [(4, f k)]
end Go.Proofs.YtajeelbeochojaaGreatDoor

/-
  Layer 8: the numbers of a value, their bytes, and back.
-/
namespace Go.Proofs.YtajeelbeochojaaGreatDoor
open Go.RowKit
set_option linter.unusedVariables false
set_option linter.unusedSimpArgs false

/-- a number of a value: how many bytes, from where to where -/
abbrev NumS := Nat × Int × Int
def inB (n lo hi : Int) : Bool := decide (lo ≤ n) && decide (n ≤ hi)
def okP (l : List (NumS × Int)) : Bool := l.all fun p => inB p.2 p.1.2.1 p.1.2.2
def encP (l : List (NumS × Int)) : List UInt8 := l.flatMap fun p => encN p.1.1 p.2.toNat
/-- a number that some bytes can hold -/
def fitN (p : NumS) : Prop := 1 ≤ p.1 ∧ p.1 ≤ 8 ∧ 0 ≤ p.2.1 ∧ p.2.2 ≤ 9223372036854775807 ∧ p.2.2 < ((256 ^ p.1 : Nat) : Int) ∧ p.2.1 ≤ 9223372036854775807 ∧ -9223372036854775808 ≤ p.2.2

/-! ### the kinds -/
def slotS : List NumS := [(8, 1, 14399), (4, 0, 960), (4, 0, 960)]
end Go.Proofs.YtajeelbeochojaaGreatDoor

/-
  Layer 10: an index of slots, its bytes, and back.
-/
namespace Go.Proofs.YtajeelbeochojaaGreatDoor
open Go.RowKit
set_option linter.unusedVariables false
set_option linter.unusedSimpArgs false

abbrev Slt := Int × Int × Int
def sltV (x : Slt) : List Int := [x.1, x.2.1, x.2.2]
def sltOk (x : Slt) : Bool := okP (slotS.zip (sltV x))
def sltE (x : Slt) : List UInt8 := encP (slotS.zip (sltV x))
def okS10 (l : List Slt) : Bool := decide (l.length ≤ 15) && l.all sltOk
def encS10 (l : List Slt) : List UInt8 := encN 4 l.length ++ ((l.map sltE).flatten ++ List.replicate (240 - 16 * l.length) 0)
def sltAt10 (b : List UInt8) (i : Nat) : List UInt8 := (b.drop (4 + 16 * i)).take 16
end Go.Proofs.YtajeelbeochojaaGreatDoor
