/-
  Layer 1's mathematics: what was put is got; what was packed is unpacked.
-/
import Derived.Test.YtlobmefcpjjbcaaCodeH
import Derived.Test.YtlobmefcpjjbcaaCodeJ
namespace Go.Proofs.Ytlobmefcpjjbcaa
open Go.RowKit
set_option linter.unusedVariables false
set_option linter.unusedSimpArgs false

theorem leN_encN (k n : Nat) (h : n < 256 ^ k) : leN (encN k n) = n := by
  induction k generalizing n with
  | zero => simp at h; simp [encN, leN, h]
  | succ k ih =>
    have h1 : n / 256 < 256 ^ k := by
      rw [Nat.pow_succ] at h
      omega
    simp only [encN, leN, ih _ h1]
    simp
    omega

theorem putE_zero {l : List UInt8} {i wd x : Int} (h : putE l i wd x = 0) : roomE l.length i wd = 0 ∧ isW wd = true ∧ 0 ≤ i ∧ i + wd ≤ l.length ∧ fitsB x wd = true := by
  rcases roomE_cases l.length i wd with hr | hr | ⟨hr, hw, h0, h1⟩
  · simp [putE, hr] at h
  · simp [putE, hr] at h
  · refine ⟨hr, hw, h0, h1, ?_⟩
    cases hf : fitsB x wd
    · simp [putE, hr, hf] at h
    · rfl

theorem putB_length {l : List UInt8} {i wd x : Int} (h : putE l i wd x = 0) : (putB l i wd x).length = l.length := by
  obtain ⟨hr, hw, h0, h1, hf⟩ := putE_zero h
  have hb : 1 ≤ wd := by rcases isW_cases hw with h | h | h | h <;> omega
  simp only [putB, h, if_true, List.length_append, List.length_take, List.length_drop, encN_length]
  omega

theorem part_putB {l : List UInt8} {i wd x : Int} (h : putE l i wd x = 0) : part (putB l i wd x) i wd = encN wd.toNat x.toNat := by
  obtain ⟨hr, hw, h0, h1, hf⟩ := putE_zero h
  have hb : 1 ≤ wd := by rcases isW_cases hw with h | h | h | h <;> omega
  simp only [putB, h, if_true, part]
  have e1 : (l.take i.toNat).length = i.toNat := by rw [List.length_take]; omega
  rw [List.drop_append_of_le_length (by omega), List.drop_of_length_le (by omega), List.nil_append, List.take_append_of_le_length (by rw [encN_length]; omega), List.take_of_length_le (by rw [encN_length]; omega)]

theorem fits_lt {x wd : Int} (hw : isW wd = true) (hf : fitsB x wd = true) (hx : x ≤ 9223372036854775807) : x.toNat < 256 ^ wd.toNat := by
  simp only [fitsB, Bool.and_eq_true, decide_eq_true_eq, Bool.or_eq_true, beq_iff_eq] at hf
  obtain ⟨h0, hf⟩ := hf
  obtain ⟨y, rfl⟩ := Int.eq_ofNat_of_zero_le h0
  rcases isW_cases hw with rfl | rfl | rfl | rfl
  all_goals simp at hf ⊢
  all_goals omega

theorem get_put {l : List UInt8} {i wd x : Int} (h : putE l i wd x = 0) (hx : x ≤ 9223372036854775807) : getE (putB l i wd x) i wd = 0 ∧ getN (putB l i wd x) i wd = x := by
  obtain ⟨hr, hw, h0, h1, hf⟩ := putE_zero h
  have hx0 := fits_bounds hf
  have hv : leN (part (putB l i wd x) i wd) = x.toNat := by rw [part_putB h, leN_encN _ _ (fits_lt hw hf hx)]
  have e0 : getE (putB l i wd x) i wd = 0 := by
    simp only [getE, putB_length h, hr, hv]
    simp
    omega
  exact ⟨e0, by simp only [getN, e0, hv]; simp; omega⟩

theorem putB_at {l : List UInt8} {i wd x : Int} (h : putE l i wd x = 0) {j : Nat} (hj : j < l.length) (ho : (j : Int) < i ∨ wd ≤ j - i) : (putB l i wd x)[j]'(by rw [putB_length h]; exact hj) = l[j] := by
  obtain ⟨hr, hw, h0, h1, hf⟩ := putE_zero h
  have hb : 1 ≤ wd := by rcases isW_cases hw with h | h | h | h <;> omega
  have key : (putB l i wd x)[j]? = l[j]? := by
    simp only [putB, h, if_true]
    rcases ho with ho | ho
    · rw [List.getElem?_append_left (by rw [List.length_take]; omega), List.getElem?_take, if_pos (by omega)]
    · rw [List.getElem?_append_right (by rw [List.length_take]; omega), List.getElem?_append_right (by rw [List.length_take, encN_length]; omega), List.getElem?_drop, List.length_take, encN_length]
      congr 1
      omega
  have h2 : j < (putB l i wd x).length := by rw [putB_length h]; exact hj
  rw [List.getElem?_eq_getElem h2, List.getElem?_eq_getElem hj] at key
  exact Option.some.inj key

theorem encs_append (a b : List (Int × Int)) : encs (a ++ b) = encs a ++ encs b := by simp [encs]
theorem flds_append (a b : List (Int × Int)) : flds (a ++ b) = flds a ++ flds b := by simp [flds]

theorem get_enc {pre rest : List UInt8} {wd x : Int} (hw : isW wd = true) (hf : fitsB x wd = true) (hx : x ≤ 9223372036854775807) :
    getE (pre ++ (encN wd.toNat x.toNat ++ rest)) pre.length wd = 0 ∧ getN (pre ++ (encN wd.toNat x.toNat ++ rest)) pre.length wd = x := by
  have hx0 := fits_bounds hf
  have hb : 1 ≤ wd := by rcases isW_cases hw with h | h | h | h <;> omega
  have hr : roomE (pre ++ (encN wd.toNat x.toNat ++ rest)).length pre.length wd = 0 := by
    simp only [roomE, hw, List.length_append, encN_length]
    simp
    omega
  have hp : part (pre ++ (encN wd.toNat x.toNat ++ rest)) pre.length wd = encN wd.toNat x.toNat := by
    simp only [part, Int.toNat_natCast]
    rw [List.drop_left, List.take_append_of_le_length (by rw [encN_length]; omega), List.take_of_length_le (by rw [encN_length]; omega)]
  have hv : leN (part (pre ++ (encN wd.toNat x.toNat ++ rest)) pre.length wd) = x.toNat := by rw [hp, leN_encN _ _ (fits_lt hw hf hx)]
  have e0 : getE (pre ++ (encN wd.toNat x.toNat ++ rest)) pre.length wd = 0 := by
    simp only [getE, hr, hv]
    simp
    omega
  exact ⟨e0, by simp only [getN, e0, hv]; simp; omega⟩

theorem unp_pack (a : List (Int × Int)) (pre rest : List UInt8) (h : packE a = 0) (hb : ∀ p ∈ a, i64b p.1 ∧ i64b p.2) :
    unpE (pre ++ (encs a ++ rest)) pre.length (a.map (·.1)) = 0 ∧ unpL (pre ++ (encs a ++ rest)) pre.length (a.map (·.1)) = a.map (·.2) := by
  induction a generalizing pre with
  | nil => exact ⟨rfl, rfl⟩
  | cons p r ih =>
    simp only [packE] at h
    split at h
    · simp at h
    · rename_i hw
      have hw' : isW p.1 = true := by simpa using hw
      split at h
      · simp at h
      · rename_i hf
        have hf' : fitsB p.2 p.1 = true := by simpa using hf
        have hb1 : 1 ≤ p.1 := by rcases isW_cases hw' with h | h | h | h <;> omega
        have e : encs (p :: r) ++ rest = encN p.1.toNat p.2.toNat ++ (encs r ++ rest) := by simp [encs]
        obtain ⟨g1, g2⟩ := get_enc (pre := pre) (rest := encs r ++ rest) hw' hf' (hb p (by simp)).2.2
        have hih := ih (pre ++ encN p.1.toNat p.2.toNat) h (fun q hq => hb q (by simp [hq]))
        have el : (((pre ++ encN p.1.toNat p.2.toNat).length : Nat) : Int) = pre.length + p.1 := by
          rw [List.length_append, encN_length]; omega
        rw [el, List.append_assoc] at hih
        simp only [List.map_cons, unpE, unpL, e, g1, g2, if_true]
        exact ⟨hih.1, by rw [hih.2]⟩

theorem unp_pack0 (a : List (Int × Int)) (rest : List UInt8) (h : packE a = 0) (hb : ∀ p ∈ a, i64b p.1 ∧ i64b p.2) :
    unpE (encs a ++ rest) 0 (a.map (·.1)) = 0 ∧ unpN (encs a ++ rest) (a.map (·.1)) = a.map (·.2) := by
  have := unp_pack a [] rest h hb
  simp only [List.nil_append, List.length_nil] at this
  change unpE (encs a ++ rest) 0 (a.map (·.1)) = 0 ∧ unpL (encs a ++ rest) 0 (a.map (·.1)) = a.map (·.2) at this
  exact ⟨this.1, by unfold unpN; rw [if_pos this.1]; exact this.2⟩

end Go.Proofs.Ytlobmefcpjjbcaa
