/-
  Layer 10: an index of slots, its bytes, and back.
-/
import Derived.Test.YtolapeocdaknjaaValMath
import Derived.Test.YtolapeocdaknjaaNodMath
namespace Go.Proofs.Ytolapeocdaknjaa
open Go.RowKit
set_option linter.unusedVariables false
set_option linter.unusedSimpArgs false

abbrev Slt := Int × Int × Int
def sltV (x : Slt) : List Int := [x.1, x.2.1, x.2.2]
def sltOk (x : Slt) : Bool := okP (slotS.zip (sltV x))
def sltE (x : Slt) : List UInt8 := encP (slotS.zip (sltV x))
def okS10 (l : List Slt) : Bool := decide (l.length ≤ 15) && l.all sltOk
def encS10 (l : List Slt) : List UInt8 := encN 4 l.length ++ ((l.map sltE).flatten ++ List.replicate (240 - 16 * l.length) 0)
def putSE10 (l : List Slt) : Int := if okS10 l = true then 0 else 1
def putSB10 (l : List Slt) : List UInt8 := if okS10 l = true then encS10 l else []

def numS (b : List UInt8) : Nat := leN (b.take 4)
def sltAt10 (b : List UInt8) (i : Nat) : List UInt8 := (b.drop (4 + 16 * i)).take 16
def nums10 (s : List UInt8) : List Int := (partsN s slotS).map fun k : Nat => (k : Int)
def sltR (s : List UInt8) : Slt := ((nums10 s).getD 0 0, (nums10 s).getD 1 0, (nums10 s).getD 2 0)
def readS10 (b : List UInt8) : List Slt := (List.range (numS b)).map fun i => sltR (sltAt10 b i)
def formS (b : List UInt8) : Bool := decide (b.length = 244) && (decide (numS b ≤ 15) && zeroB (b.drop (4 + 16 * numS b)))
def readSE10 (b : List UInt8) : Int := if formS b = true then (if (List.range (numS b)).all (fun i => okR (sltAt10 b i) slotS) = true then 0 else 2) else 7
def readSL10 (b : List UInt8) : List Slt := if readSE10 b = 0 then readS10 b else []

theorem sltE_len (x : Slt) : (sltE x).length = 16 := by
  simp [sltE, encP, slotS, sltV, encN_length]
theorem okS10_iff {l : List Slt} : okS10 l = true ↔ l.length ≤ 15 ∧ ∀ x ∈ l, sltOk x = true := by
  simp [okS10, List.all_eq_true]
theorem sltV_R (s : List UInt8) : sltV (sltR s) = nums10 s := by
  have h : (nums10 s).length = 3 := by simp [nums10, partsN_length, slotS]
  match hn : nums10 s, h with
  | [a, b, c], _ => simp [sltV, sltR, hn]
theorem sltE_back {s : List UInt8} (h : s.length = 16) : sltE (sltR s) = s := by
  rw [sltE, sltV_R]
  exact enc_parts slotS s h
theorem sltOk_R (s : List UInt8) : sltOk (sltR s) = okR s slotS := by
  rw [sltOk, sltV_R]
  rfl
theorem sltR_E {x : Slt} (h : sltOk x = true) : sltR (sltE x) = x := by
  have := (parts_enc slotS (sltV x) rfl slotS_fit h []).1
  rw [List.append_nil] at this
  have h2 : nums10 (sltE x) = sltV x := this
  obtain ⟨a, b, c⟩ := x
  simp only [sltR, h2]
  rfl

theorem flatS_len (l : List Slt) : ((l.map sltE).flatten).length = 16 * l.length := by
  rw [flat_length (c := 16), List.length_map]
  intro p hp
  obtain ⟨x, _, rfl⟩ := List.mem_map.1 hp
  exact sltE_len x
theorem encS10_length {l : List Slt} (h : l.length ≤ 15) : (encS10 l).length = 244 := by
  rw [encS10, List.length_append, List.length_append, encN_length, flatS_len, List.length_replicate]
  omega
theorem numS_enc {l : List Slt} (h : l.length ≤ 15) : numS (encS10 l) = l.length := by
  rw [numS, encS10, List.take_left' (encN_length _ _), leN_encN _ _ (by omega)]
theorem sltAt_enc {l : List Slt} (h : l.length ≤ 15) {i : Nat} (hi : i < l.length) : sltAt10 (encS10 l) i = sltE l[i] := by
  rw [sltAt10, encS10, drop_past (encN_length _ _), take_in (by rw [flatS_len]; omega), piece_at (c := 16) (ps := l.map sltE) _ i (by simpa using hi)]
  · simp
  · intro p hp
    obtain ⟨x, _, rfl⟩ := List.mem_map.1 hp
    exact sltE_len x
/-- what was put is read -/
theorem slots_read {l : List Slt} (h : okS10 l = true) : readSE10 (encS10 l) = 0 ∧ readS10 (encS10 l) = l := by
  obtain ⟨h1, h2⟩ := okS10_iff.1 h
  have hn := numS_enc h1
  have hz : zeroB ((encS10 l).drop (4 + 16 * numS (encS10 l))) = true := by
    rw [hn, encS10, drop_past (encN_length _ _), List.drop_left' (flatS_len l)]
    exact nod_zeros _
  have hf : formS (encS10 l) = true := by
    rw [formS, hz, decide_eq_true (encS10_length h1), decide_eq_true (by omega)]
    rfl
  have ha : (List.range (numS (encS10 l))).all (fun i => okR (sltAt10 (encS10 l) i) slotS) = true := by
    rw [List.all_eq_true]
    intro i hi
    rw [List.mem_range, hn] at hi
    rw [sltAt_enc h1 hi, ← sltOk_R, sltR_E (h2 _ (List.getElem_mem hi))]
    exact h2 _ (List.getElem_mem hi)
  refine ⟨by rw [readSE10, if_pos hf, if_pos ha], ?_⟩
  apply List.ext_getElem
  · simp [readS10, hn]
  · intro i g1 g2
    simp only [readS10, List.getElem_map, List.getElem_range]
    rw [sltAt_enc h1 g2, sltR_E (h2 _ (List.getElem_mem g2))]
/-- what is read may be put, and its bytes are those -/
theorem slots_put {b : List UInt8} (h : readSE10 b = 0) : b.length = 244 ∧ okS10 (readS10 b) = true ∧ encS10 (readS10 b) = b := by
  unfold readSE10 at h
  split at h
  · rename_i hf
    split at h
    · rename_i ha
      simp only [formS, Bool.and_eq_true, decide_eq_true_eq] at hf
      obtain ⟨hl, hn, hz⟩ := hf
      have hrl : (readS10 b).length = numS b := by simp [readS10]
      have hp : ∀ i, i < numS b → (sltAt10 b i).length = 16 := fun i hi => by
        rw [sltAt10, List.length_take, List.length_drop]
        omega
      refine ⟨hl, ?_, ?_⟩
      · rw [okS10_iff, hrl]
        refine ⟨hn, fun x hx => ?_⟩
        simp only [readS10, List.mem_map] at hx
        obtain ⟨i, hi, rfl⟩ := hx
        rw [sltOk_R]
        exact List.all_eq_true.1 ha i hi
      · have e1 : (readS10 b).map sltE = (List.range (numS b)).map fun i => ((((b.drop 4).take (16 * numS b)).drop (16 * i)).take 16) := by
          rw [readS10, List.map_map]
          apply List.map_congr_left
          intro i hi
          rw [List.mem_range] at hi
          simp only [Function.comp]
          rw [sltE_back (hp i hi), sltAt10, List.drop_take, List.take_take, List.drop_drop]
          congr 1
          omega
        have e2 := pieces_back (c := 16) (numS b) ((b.drop 4).take (16 * numS b)) (by rw [List.length_take, List.length_drop]; omega)
        have e3 := nod_zero_back hz
        rw [List.length_drop, hl] at e3
        have e4 : encN 4 (numS b) = b.take 4 := by
          have := val_encN_back (b.take 4)
          rw [List.length_take, hl] at this
          exact this
        rw [encS10, hrl, e1, e2, e4, show 240 - 16 * numS b = 244 - (4 + 16 * numS b) by omega, ← e3]
        have e5 : (b.drop 4).take (16 * numS b) ++ b.drop (4 + 16 * numS b) = b.drop 4 := by
          conv => rhs; rw [← List.take_append_drop (16 * numS b) (b.drop 4), List.drop_drop]
        rw [e5, List.take_append_drop]
    · cases h
  · cases h

end Go.Proofs.Ytolapeocdaknjaa
