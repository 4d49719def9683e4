/-
  Layer 9: counts of two bits, their bytes, and back.
-/
import Derived.Test.YtdejggdnpnofeaaCodeL
namespace Go.Proofs.Ytdejggdnpnofeaa
open Go.RowKit
set_option linter.unusedVariables false
set_option linter.unusedSimpArgs false

/-- count i of a list; 0 behind its end -/
def cntB (l : List Int) (i : Nat) : Nat := (l.getD i 0).toNat
/-- four counts in a byte -/
def fourB (l : List Int) (j : Nat) : Nat := cntB l (4 * j) + 4 * cntB l (4 * j + 1) + 16 * cntB l (4 * j + 2) + 64 * cntB l (4 * j + 3)
def okB9 (l : List Int) : Bool := decide (l.length ≤ 960) && l.all fun x => decide (0 ≤ x) && decide (x ≤ 3)
def encBits (l : List Int) : List UInt8 := encN 4 l.length ++ (List.range 240).map fun j => UInt8.ofNat (fourB l j)
def putBE9 (l : List Int) : Int := if okB9 l = true then 0 else 1
def putBB9 (l : List Int) : List UInt8 := if okB9 l = true then encBits l else []

/-- count i of the bytes -/
def digB (b : List UInt8) (i : Nat) : Nat := (b.getD (4 + i / 4) 0).toNat / 4 ^ (i % 4) % 4
def numB (b : List UInt8) : Nat := leN (b.take 4)
def readBits (b : List UInt8) : List Int := (List.range (numB b)).map fun i => (digB b i : Int)
def readBE9 (b : List UInt8) : Int := if b.length = 244 ∧ numB b ≤ 960 ∧ encBits (readBits b) = b then 0 else 7
def readBL9 (b : List UInt8) : List Int := if readBE9 b = 0 then readBits b else []

theorem okB9_iff {l : List Int} : okB9 l = true ↔ l.length ≤ 960 ∧ ∀ x ∈ l, 0 ≤ x ∧ x ≤ 3 := by
  simp [okB9, List.all_eq_true]
theorem cntB_in {l : List Int} {i : Nat} (h : i < l.length) : cntB l i = l[i].toNat := by
  simp [cntB, List.getD_eq_getElem?_getD, h]
theorem cntB_out {l : List Int} {i : Nat} (h : l.length ≤ i) : cntB l i = 0 := by
  simp [cntB, List.getD_eq_getElem?_getD, h]
theorem cntB_le {l : List Int} (h : okB9 l = true) (i : Nat) : cntB l i ≤ 3 := by
  by_cases hi : i < l.length
  · have := (okB9_iff.1 h).2 _ (List.getElem_mem hi)
    rw [cntB_in hi]
    omega
  · rw [cntB_out (by omega)]
    omega
theorem fourB_lt {l : List Int} (h : okB9 l = true) (j : Nat) : fourB l j < 256 := by
  have h0 := cntB_le h (4 * j)
  have h1 := cntB_le h (4 * j + 1)
  have h2 := cntB_le h (4 * j + 2)
  have h3 := cntB_le h (4 * j + 3)
  unfold fourB
  omega
theorem encBits_length (l : List Int) : (encBits l).length = 244 := by simp [encBits, encN_length]
theorem encBits_at {l : List Int} (h : okB9 l = true) {j : Nat} (hj : j < 240) : ((encBits l).getD (4 + j) 0).toNat = fourB l j := by
  have e : (encBits l)[4 + j]? = some (UInt8.ofNat (fourB l j)) := by
    rw [encBits, List.getElem?_append_right (by rw [encN_length]; omega), encN_length, show 4 + j - 4 = j by omega, List.getElem?_map, List.getElem?_range hj]
    rfl
  rw [List.getD_eq_getElem?_getD, e, Option.getD_some, UInt8.toNat_ofNat']
  have := fourB_lt h j
  omega
theorem numB_enc {l : List Int} (h : okB9 l = true) : numB (encBits l) = l.length := by
  have hl := (okB9_iff.1 h).1
  rw [numB, encBits, List.take_left' (encN_length _ _), leN_encN _ _ (by omega)]
/-- the count that the byte holds -/
theorem fourB_dig {l : List Int} (h : okB9 l = true) (i : Nat) : fourB l (i / 4) / 4 ^ (i % 4) % 4 = cntB l i := by
  have h0 := cntB_le h (4 * (i / 4))
  have h1 := cntB_le h (4 * (i / 4) + 1)
  have h2 := cntB_le h (4 * (i / 4) + 2)
  have h3 := cntB_le h (4 * (i / 4) + 3)
  have hm : i % 4 = 0 ∨ i % 4 = 1 ∨ i % 4 = 2 ∨ i % 4 = 3 := by omega
  unfold fourB
  rcases hm with e | e | e | e
  all_goals
    rw [e]
  · rw [show (4 : Nat) ^ 0 = 1 from rfl, Nat.div_one]
    have ei : i = 4 * (i / 4) := by omega
    conv => rhs; rw [ei]
    omega
  · rw [show (4 : Nat) ^ 1 = 4 from rfl]
    have ei : i = 4 * (i / 4) + 1 := by omega
    conv => rhs; rw [ei]
    omega
  · rw [show (4 : Nat) ^ 2 = 16 from rfl]
    have ei : i = 4 * (i / 4) + 2 := by omega
    conv => rhs; rw [ei]
    omega
  · rw [show (4 : Nat) ^ 3 = 64 from rfl]
    have ei : i = 4 * (i / 4) + 3 := by omega
    conv => rhs; rw [ei]
    omega
theorem digB_enc {l : List Int} (h : okB9 l = true) {i : Nat} (hi : i < 960) : digB (encBits l) i = cntB l i := by
  rw [digB, encBits_at h (by omega), fourB_dig h]
/-- what was put is read -/
theorem bits_read {l : List Int} (h : okB9 l = true) : readBits (encBits l) = l := by
  obtain ⟨hl, hx⟩ := okB9_iff.1 h
  apply List.ext_getElem
  · simp [readBits, numB_enc h]
  · intro i h1 h2
    have hi : i < l.length := h2
    simp only [readBits, List.getElem_map, List.getElem_range]
    rw [digB_enc h (by omega), cntB_in hi]
    have := hx _ (List.getElem_mem hi)
    omega
theorem bits_readE {l : List Int} (h : okB9 l = true) : readBE9 (encBits l) = 0 := by
  have hl := (okB9_iff.1 h).1
  rw [readBE9, if_pos ⟨encBits_length l, by rw [numB_enc h]; exact hl, by rw [bits_read h]⟩]
/-- what is read may be put, and its bytes are those -/
theorem readBits_ok {b : List UInt8} (h : numB b ≤ 960) : okB9 (readBits b) = true := by
  rw [okB9_iff]
  refine ⟨by simpa [readBits] using h, fun x hx => ?_⟩
  simp only [readBits, List.mem_map] at hx
  obtain ⟨i, _, rfl⟩ := hx
  have : digB b i < 4 := Nat.mod_lt _ (by omega)
  omega
theorem readBE9_zero {b : List UInt8} (h : readBE9 b = 0) : b.length = 244 ∧ okB9 (readBits b) = true ∧ encBits (readBits b) = b := by
  unfold readBE9 at h
  split at h
  · rename_i hc
    exact ⟨hc.1, readBits_ok hc.2.1, hc.2.2⟩
  · cases h
/-- the byte of one count, when another count is put in its place -/
theorem fourB_set {l : List Int} {k : Nat} (x : Int) {j : Nat} (hj : j ≠ k / 4) : fourB (l.set k x) j = fourB l j := by
  have e : ∀ i, i ≠ k → cntB (l.set k x) i = cntB l i := fun i hi => by
    simp only [cntB, List.getD_eq_getElem?_getD]
    rw [List.getElem?_set_ne (by omega)]
  simp only [fourB]
  rw [e _ (by omega), e _ (by omega), e _ (by omega), e _ (by omega)]
/-- all bytes but that one stand as they stood -/
theorem encBits_set {l : List Int} {k : Nat} (x : Int) {i : Nat} (hi : i ≠ 4 + k / 4) : (encBits (l.set k x))[i]? = (encBits l)[i]? := by
  rw [encBits, encBits, List.length_set]
  by_cases h : i < 4
  · rw [List.getElem?_append_left (by rw [encN_length]; exact h), List.getElem?_append_left (by rw [encN_length]; exact h)]
  · rw [List.getElem?_append_right (by rw [encN_length]; omega), List.getElem?_append_right (by rw [encN_length]; omega), encN_length, List.getElem?_map, List.getElem?_map]
    by_cases h2 : i - 4 < 240
    · rw [List.getElem?_range h2]
      simp only [Option.map_some]
      rw [fourB_set x (by omega)]
    · rw [List.getElem?_eq_none (by simp; omega)]
      rfl

/-! ### the counts that are 0 -/
def freeN (l : List Int) : Nat := (l.filter (· == 0)).length
def freeAt (l : List Int) : Nat := l.findIdx (· == 0)
theorem freeN_step {l : List Int} {k : Nat} (h : k < l.length) : freeN (l.take (k + 1)) = freeN (l.take k) + (if l[k] = 0 then 1 else 0) := by
  rw [freeN, freeN, List.take_succ_eq_append_getElem h, List.filter_append, List.length_append]
  congr 1
  by_cases e : l[k] = 0
  · rw [if_pos e]; simp [e]
  · rw [if_neg e]; simp [e]

end Go.Proofs.Ytdejggdnpnofeaa
