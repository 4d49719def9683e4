/-
  Layer 6's mathematics: the encoding, part by part.
-/
import Derived.Test.YtfebifpofhodoaaSupI
namespace Go.Proofs.Ytfebifpofhodoaa
open Go.RowKit
set_option linter.unusedVariables false
set_option linter.unusedSimpArgs false

theorem encN_back (l : List UInt8) : encN l.length (leN l) = l := by
  induction l with
  | nil => rfl
  | cons b r ih =>
    have hb := UInt8.toNat_lt b
    have e1 : (b.toNat + 256 * leN r) / 256 = leN r := by omega
    simp only [List.length_cons, leN, encN, e1, ih]
    congr 1
    apply UInt8.toNat_inj.1
    simp

theorem get_four {l : List UInt8} (i : Nat) (hi : i + 4 ≤ l.length) : getE l i 4 = 0 ∧ getN l i 4 = (leN ((l.drop i).take 4) : Int) := by
  have hr : roomE l.length i 4 = 0 := by simp [roomE, isW]; omega
  have hlt := leN_lt (part l i 4)
  have hpl : (part l i 4).length = 4 := by rw [part_len (by omega) (by omega) (by omega)]; rfl
  rw [hpl] at hlt
  have he : getE l i 4 = 0 := by rw [getE, if_pos hr, if_neg (by omega)]
  refine ⟨he, ?_⟩
  rw [getN, if_pos he]
  simp [part]

theorem unp_fours (b : List UInt8) (m i : Nat) (h : i + 4 * m ≤ b.length) : unpE b i (List.replicate m 4) = 0 ∧ unpL b i (List.replicate m 4) = (List.range m).map fun j => getN b ((i + 4 * j : Nat) : Int) 4 := by
  induction m generalizing i with
  | zero => exact ⟨rfl, rfl⟩
  | succ m ih =>
    have hg := get_four (l := b) i (by omega)
    have hih := ih (i + 4) (by omega)
    have e : ((i : Int) + 4) = ((i + 4 : Nat) : Int) := by omega
    simp only [List.replicate_succ, unpE, unpL, hg.1, if_true, e]
    refine ⟨hih.1, ?_⟩
    rw [hih.2, List.range_succ_eq_map, List.map_cons, List.map_map]
    congr 1
    apply List.map_congr_left
    intro j _
    simp only [Function.comp_apply]
    congr 2
    omega

/-- the twelve integers behind the beginning -/
def verF (l : List UInt8) (j : Nat) : Int := getN l ((8 + 4 * j : Nat) : Int) 4
theorem readF_verF (l : List UInt8) (k : Nat) : readF l k = verF l (k + 1) := by
  rw [readF, verF]; congr 2; omega

theorem unp_twelve {l : List UInt8} (h : l.length = 244) : unpE (l.drop 8) 0 (List.replicate 12 4) = 0 ∧ unpN (l.drop 8) (List.replicate 12 4) = (List.range 12).map (verF l) := by
  have hu : unpE (l.drop 8) 0 (List.replicate 12 4) = 0 ∧ unpL (l.drop 8) 0 (List.replicate 12 4) = (List.range 12).map fun j => getN (l.drop 8) ((0 + 4 * j : Nat) : Int) 4 := unp_fours (l.drop 8) 12 0 (by rw [List.length_drop]; omega)
  refine ⟨hu.1, ?_⟩
  rw [unpN, if_pos hu.1]
  refine hu.2.trans ?_
  apply List.map_congr_left
  intro j hj
  have hj := List.mem_range.1 hj
  rw [verF, (get_four (l := l) (8 + 4 * j) (by omega)).2, (get_four (l := l.drop 8) (0 + 4 * j) (by rw [List.length_drop]; omega)).2, List.drop_drop]
  congr 4
  omega

theorem encs_verF {l : List UInt8} (h : l.length = 244) (hv : verF l 0 = 1) : ∀ k, k ≤ 11 → encs (fl (readF l) k) = (l.drop 8).take (4 * (k + 1)) := by
  have four : ∀ j, j < 12 → encN 4 (verF l j).toNat = (l.drop (8 + 4 * j)).take 4 := fun j hj => by
    rw [verF, (get_four (l := l) (8 + 4 * j) (by omega)).2, Int.toNat_natCast]
    have hl : ((l.drop (8 + 4 * j)).take 4).length = 4 := by rw [List.length_take, List.length_drop]; omega
    have := encN_back ((l.drop (8 + 4 * j)).take 4)
    rwa [hl] at this
  intro k
  induction k with
  | zero =>
    intro _
    have := four 0 (by omega)
    rw [hv] at this
    exact this
  | succ k ih =>
    intro hk
    have e : encs (fl (readF l) (k + 1)) = encs (fl (readF l) k) ++ encN 4 (readF l k).toNat := by simp [fl, encs]
    rw [e, ih (by omega), readF_verF, four (k + 1) (by omega), show 4 * (k + 1 + 1) = 4 * (k + 1) + 4 by omega, List.take_add, List.drop_drop]

theorem zeroB_replicate {l : List UInt8} (h : zeroB l = true) : l = List.replicate l.length 0 := by
  rw [List.eq_replicate_iff]
  refine ⟨rfl, fun b hb => ?_⟩
  have := List.all_eq_true.1 h b hb
  simpa using this
theorem zeroB_zeros (n : Nat) : zeroB (List.replicate n 0) = true := by
  rw [zeroB, List.all_eq_true]
  intro b hb
  simpa using (List.mem_replicate.1 hb).2

theorem encS_back {l : List UInt8} (h : l.length = 244) (h1 : l.take 8 = magic) (h2 : verF l 0 = 1) (h3 : zeroB (l.drop 56) = true) : encS (readF l) = l := by
  have e3 := zeroB_replicate h3
  rw [List.length_drop, h] at e3
  rw [encS, encs_verF h h2 11 (by omega), ← h1]
  have e : List.replicate 188 (0 : UInt8) = (l.drop 8).drop (4 * (11 + 1)) := by rw [List.drop_drop]; exact e3.symm
  rw [e, List.take_append_drop, List.take_append_drop]

theorem encS_parts (f : Nat → Int) : (encS f).take 8 = magic ∧ verF (encS f) 0 = 1 ∧ zeroB ((encS f).drop 56) = true := by
  have hm : magic.length = 8 := rfl
  refine ⟨?_, ?_, ?_⟩
  · rw [encS, List.take_append_of_le_length (by omega), List.take_of_length_le (by omega)]
  · obtain ⟨t, ht⟩ := fl_prefix f 0 11
    have e : encS f = magic ++ (encN (4 : Int).toNat (1 : Int).toNat ++ (encs t ++ List.replicate 188 0)) := by
      rw [encS, show (11 : Nat) = 0 + 11 from rfl, ht, fl, encs_append]
      simp [encs, List.append_assoc]
    have g := (get_enc (pre := magic) (rest := encs t ++ List.replicate 188 0) (wd := 4) (x := 1) (by decide) (by decide) (by omega)).2
    rw [← e, hm] at g
    exact g
  · have hl : (magic ++ encs (fl f 11)).length = 56 := by rw [List.length_append, encs_fl, hm]
    have e : encS f = (magic ++ encs (fl f 11)) ++ List.replicate 188 0 := by rw [encS, List.append_assoc]
    rw [e, ← hl, List.drop_left]
    exact zeroB_zeros 188

theorem readE_bad {l : List UInt8} (h : l.take 8 ≠ magic ∨ verF l 0 ≠ 1 ∨ zeroB (l.drop 56) = false ∨ allB (readF l) 11 = false) : readE l = 7 := by
  rw [readE, if_neg]
  rintro ⟨ha, he⟩
  obtain ⟨p1, p2, p3⟩ := encS_parts (readF l)
  rw [he] at p1 p2 p3
  rcases h with h | h | h | h
  · exact h p1
  · exact h p2
  · rw [p3] at h; cases h
  · rw [ha] at h; cases h

theorem readE_good {l : List UInt8} (h : l.length = 244) (h1 : l.take 8 = magic) (h2 : verF l 0 = 1) (h3 : zeroB (l.drop 56) = true) (h4 : allB (readF l) 11 = true) : readE l = 0 := by
  rw [readE, if_pos ⟨h4, encS_back h h1 h2 h3⟩]

end Go.Proofs.Ytfebifpofhodoaa
