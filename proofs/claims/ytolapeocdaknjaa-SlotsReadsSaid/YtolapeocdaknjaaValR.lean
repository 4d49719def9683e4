/-
  Layer 8's reference: ReadMap, ReadRoot, ReadCount.
-/
import Derived.Test.YtolapeocdaknjaaValQ
import Derived.Test.YtolapeocdaknjaaCodeD
namespace Go.Proofs.Ytolapeocdaknjaa
open Go.RowKit
set_option linter.unusedVariables false
set_option linter.unusedSimpArgs false

/-- what is read of one number of four bytes -/
theorem rd_four {s : List UInt8} {lo hi : Int} (h : s.length = 4) : rdE s [(4, lo, hi)] = (if inB (leN s) lo hi then 0 else 2) ∧ rdV s [(4, lo, hi)] 0 = (if inB (leN s) lo hi then (leN s : Int) else 0) := by
  have ht : s.take 4 = s := List.take_of_length_le (by omega)
  have hp : psI s [(4, lo, hi)] = [(leN s : Int)] := by simp [psI, partsN, ht]
  have hk : okR s [(4, lo, hi)] = inB (leN s) lo hi := by
    rw [okR_rdL, rdL, hp]
    simp [okP]
  have he : rdE s [(4, lo, hi)] = (if inB (leN s) lo hi then 0 else 2) := by
    rw [rdE, if_neg (by rw [h]; simp [sizeN]), hk]
  refine ⟨he, ?_⟩
  rw [rdV, he, hp]
  cases inB (leN s) lo hi <;> rfl
theorem rd_len {s : List UInt8} {ns : List NumS} (h : s.length ≠ sizeN ns) : rdE s ns = 7 ∧ ∀ k, rdV s ns k = 0 := by
  have he : rdE s ns = 7 := by rw [rdE, if_pos h]
  exact ⟨he, fun k => by rw [rdV, if_neg (by rw [he]; omega)]⟩

theorem val_small {l : List UInt8} {k : Nat} (hk : k ≤ 4) (hl : l.length = k) : leN l < 4294967296 := by
  have := leN_lt l
  have h2 : 256 ^ l.length ≤ 256 ^ 4 := Nat.pow_le_pow_right (by omega) (by omega)
  omega
theorem val_get4 {l : List UInt8} (hl : l.length = 4) : getE l 0 4 = 0 ∧ getN l 0 4 = (leN l : Int) := by
  have hr : roomE l.length 0 4 = 0 := by
    rw [hl]
    rfl
  have hp : part l 0 4 = l := by
    simp only [part]
    exact List.take_of_length_le (by rw [List.length_drop, hl]; decide)
  have hs := val_small (Nat.le_refl 4) hl
  have he : getE l 0 4 = 0 := by rw [getE, if_pos hr, hp, if_neg (by omega)]
  exact ⟨he, by rw [getN, if_pos he, hp]⟩

/-- what is read of a mapping -/
theorem rd_map {s : List UInt8} (h : s.length = 8) : (leN s < 9223372036854775808 → leN s / 16777216 < 65536 → rdE s mapS = 0 ∧ rdV s mapS 1 = ((leN s / 16777216 : Nat) : Int) ∧ rdV s mapS 0 = ((leN s % 16777216 : Nat) : Int)) ∧
    ((9223372036854775808 ≤ leN s ∨ 65536 ≤ leN s / 16777216) → rdE s mapS = 2 ∧ rdV s mapS 1 = 0 ∧ rdV s mapS 0 = 0) := by
  have h1 := leN_split s 3 (by omega)
  have h2 := leN_lt (s.take 3)
  have hl3 : (s.take 3).length = 3 := by rw [List.length_take]; omega
  rw [hl3] at h2
  have ht : (s.drop 3).take 5 = s.drop 3 := List.take_of_length_le (by rw [List.length_drop]; omega)
  have hp : psI s mapS = [(leN (s.take 3) : Int), (leN (s.drop 3) : Int)] := by simp [psI, mapS, partsN, ht]
  have hk : okR s mapS = (inB (leN (s.take 3)) 0 16777215 && inB (leN (s.drop 3)) 0 65535) := by
    rw [okR_rdL, rdL, hp]
    simp [okP, mapS]
  have hi3 : inB (leN (s.take 3)) 0 16777215 = true := by rw [inB_iff]; omega
  have hd : leN s / 16777216 = leN (s.drop 3) := by omega
  have hm : leN s % 16777216 = leN (s.take 3) := by omega
  rw [hi3, Bool.true_and] at hk
  have he : rdE s mapS = if inB (leN (s.drop 3)) 0 65535 = true then 0 else 2 := by
    rw [rdE, if_neg (by rw [h]; simp [sizeN, mapS]), hk]
  constructor
  · intro ha hb
    have hin : inB (leN (s.drop 3)) 0 65535 = true := by rw [inB_iff]; omega
    rw [hin] at he
    have he0 : rdE s mapS = 0 := he
    rw [rdV, rdV, if_pos he0, if_pos he0, hp, hd, hm]
    exact ⟨he0, rfl, rfl⟩
  · intro ha
    have hin : inB (leN (s.drop 3)) 0 65535 = false := by rw [← Bool.not_eq_true, inB_iff]; omega
    rw [hin] at he
    have he0 : rdE s mapS = 2 := he
    have hn : ¬ rdE s mapS = 0 := by rw [he0]; omega
    rw [rdV, rdV, if_neg hn, if_neg hn]
    exact ⟨he0, rfl, rfl⟩

end Go.Proofs.Ytolapeocdaknjaa
