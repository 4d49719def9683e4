/-
  Layer 1's Pack.
-/
import Derived.Test.YtlobmefcpjjbcaaCodeG
namespace Go.Proofs.Ytlobmefcpjjbcaa
open Go.RowKit
set_option linter.unusedVariables false
set_option linter.unusedSimpArgs false

/-- fields as cells -/
def flds (l : List (Int × Int)) : List Value := l.flatMap fun p => [.int .i64 p.1, .int .i64 p.2]

theorem flds_length (l : List (Int × Int)) : (flds l).length = l.length * 2 := by
  induction l with
  | nil => rfl
  | cons p r ih => simp only [flds, List.flatMap_cons, List.length_append, List.length_cons, List.length_nil] at *; omega

theorem flds_at (l : List (Int × Int)) (k : Nat) (h : k < l.length) : (flds l)[k * 2]? = some (.int .i64 l[k].1) ∧ (flds l)[k * 2 + 1]? = some (.int .i64 l[k].2) := by
  induction l generalizing k with
  | nil => simp at h
  | cons p r ih =>
    cases k with
    | zero => simp [flds]
    | succ k =>
      have := ih k (by simpa using h)
      simp only [flds, List.flatMap_cons] at *
      rw [List.getElem?_append_right (by simp; omega), List.getElem?_append_right (by simp; omega)]
      simp only [List.length_cons, List.length_nil, List.getElem_cons_succ]
      rw [show (k + 1) * 2 - (0 + 1 + 1) = k * 2 by omega, show (k + 1) * 2 + 1 - (0 + 1 + 1) = k * 2 + 1 by omega]
      exact this

def i64b (x : Int) : Prop := -9223372036854775808 ≤ x ∧ x ≤ 9223372036854775807

/-- a slice of fields -/
structure Flds (w : World) (A : Option Addr) (n c : Nat) (l : List (Int × Int)) : Prop where
  len : l.length = n
  cap : n ≤ c
  most : c ≤ 9223372036854775807
  row : Row w A (flds l)
  bds : ∀ p ∈ l, i64b p.1 ∧ i64b p.2

theorem Flds.below {w w' : World} {A : Option Addr} {n c : Nat} {l : List (Int × Int)} (h : Flds w A n c l) (hb : Below w.heap.size w w') : Flds w' A n c l := ⟨h.len, h.cap, h.most, h.row.below hb, h.bds⟩

def packE : List (Int × Int) → Int
  | [] => 0
  | p :: r => if isW p.1 = false then 1 else if fitsB p.2 p.1 = false then 2 else packE r

def encs (l : List (Int × Int)) : List UInt8 := l.flatMap fun p => encN p.1.toNat p.2.toNat

def packB (l : List (Int × Int)) : List UInt8 := if packE l = 0 then encs l else []

theorem packE_append (a b : List (Int × Int)) : packE (a ++ b) = if packE a = 0 then packE b else packE a := by
  induction a with
  | nil => simp [packE]
  | cons p r ih =>
    simp only [List.cons_append, packE]
    split
    · simp
    · split
      · simp
      · exact ih

theorem packE_at {l : List (Int × Int)} {k : Nat} (hk : k < l.length) (h : packE (l.take k) = 0) : packE l = packE (l[k] :: l.drop (k + 1)) := by
  conv => lhs; rw [← List.take_append_drop k l, packE_append, h, List.drop_eq_getElem_cons hk]
  simp

theorem packE_step {l : List (Int × Int)} {k : Nat} (hk : k < l.length) (h : packE (l.take k) = 0) (hw : isW l[k].1 = true) (hf : fitsB l[k].2 l[k].1 = true) : packE (l.take (k + 1)) = 0 := by
  rw [List.take_succ_eq_append_getElem hk, packE_append, h]
  simp [packE, hw, hf]

theorem encs_step {l : List (Int × Int)} {k : Nat} (hk : k < l.length) : encs (l.take (k + 1)) = encs (l.take k) ++ encN l[k].1.toNat l[k].2.toNat := by
  simp only [encs]
  rw [List.take_succ_eq_append_getElem hk, List.flatMap_append]
  simp only [List.flatMap_cons, List.flatMap_nil, List.append_nil]

theorem encs_le {l : List (Int × Int)} (h : packE l = 0) : (encs l).length ≤ l.length * 8 := by
  induction l with
  | nil => simp [encs]
  | cons p r ih =>
    simp only [packE] at h
    split at h
    · simp at h
    · rename_i hw
      split at h
      · simp at h
      · have := ih h
        have hw' : isW p.1 = true := by simpa using hw
        have : p.1.toNat ≤ 8 := by rcases isW_cases hw' with h | h | h | h <;> omega
        simp only [encs, List.flatMap_cons, List.length_append, encN_length, List.length_cons] at *
        omega

theorem fits_bounds {x wd : Int} (h : fitsB x wd = true) : 0 ≤ x := by simp [fitsB] at h; exact h.1

end Go.Proofs.Ytlobmefcpjjbcaa
