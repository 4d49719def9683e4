/-
  Layer 6's mathematics: what was put is read.
-/
import Derived.Test.YtfebifpofhodoaaSupH
import Derived.Test.YtfebifpofhodoaaCodeL
import Derived.Test.YtfebifpofhodoaaMemI
namespace Go.Proofs.Ytfebifpofhodoaa
open Go.RowKit
set_option linter.unusedVariables false
set_option linter.unusedSimpArgs false

theorem fl_prefix (f : Nat → Int) (k m : Nat) : ∃ t, fl f (k + m) = fl f k ++ t := by
  induction m with
  | zero => exact ⟨[], by simp⟩
  | succ m ih =>
    obtain ⟨t, ht⟩ := ih
    exact ⟨t ++ [(4, f (k + m))], by rw [← Nat.add_assoc, fl, ht, List.append_assoc]⟩

theorem readF_encS {f : Nat → Int} (h : allB f 11 = true) {k : Nat} (hk : k < 11) : readF (encS f) k = f k := by
  obtain ⟨t, ht⟩ := fl_prefix f (k + 1) (11 - (k + 1))
  rw [show k + 1 + (11 - (k + 1)) = 11 by omega] at ht
  have hb := allB_bounds h hk
  have f1 : fitsB (f k) 4 = true := by simp [fitsB]; omega
  have e : encS f = (magic ++ encs (fl f k)) ++ (encN (4 : Int).toNat (f k).toNat ++ (encs t ++ List.replicate 188 0)) := by
    rw [encS, ht, fl, encs_append, encs_append]
    simp [encs, List.append_assoc]
  have hl : (magic ++ encs (fl f k)).length = 12 + 4 * k := by
    rw [List.length_append, encs_fl]
    have : magic.length = 8 := rfl
    omega
  have g := (get_enc (pre := magic ++ encs (fl f k)) (rest := encs t ++ List.replicate 188 0) (wd := 4) (x := f k) (by decide) f1 (by omega)).2
  rw [← e, hl] at g
  exact g

theorem allB_congr {f g : Nat → Int} (h : ∀ k, k < 11 → f k = g k) : allB f 11 = allB g 11 := by
  have key : ∀ n, n ≤ 11 → allB f n = allB g n := by
    intro n
    induction n with
    | zero => intro _; rfl
    | succ n ih => intro hn; simp only [allB, ih (by omega), okB, h n (by omega), h 4 (by omega)]
  exact key 11 (Nat.le_refl _)
theorem fl_congr {f g : Nat → Int} (h : ∀ k, k < 11 → f k = g k) : fl f 11 = fl g 11 := by
  have key : ∀ n, n ≤ 11 → fl f n = fl g n := by
    intro n
    induction n with
    | zero => intro _; rfl
    | succ n ih => intro hn; simp only [fl, ih (by omega), h n (by omega)]
  exact key 11 (Nat.le_refl _)

theorem readE_encS {f : Nat → Int} (h : allB f 11 = true) : readE (encS f) = 0 := by
  have hc : ∀ k, k < 11 → readF (encS f) k = f k := fun k hk => readF_encS h hk
  rw [readE, if_pos ⟨by rw [allB_congr hc]; exact h, by rw [encS, fl_congr hc]; rfl⟩]
theorem readS_encS {f : Nat → Int} (h : allB f 11 = true) : supV (readS (encS f)) = supV f := by
  rw [readS, if_pos (readE_encS h), supV, supV, supC_congr fun k hk => readF_encS h hk]

theorem readE_short {l : List UInt8} (h : l.length ≠ 244) : readE l = 7 := by
  rw [readE, if_neg]
  rintro ⟨_, h2⟩
  have := encS_length (readF l)
  rw [h2] at this
  exact h this
theorem readS_wrong {l : List UInt8} (h : readE l = 7) : readS l = fun _ => 0 := by
  rw [readS, if_neg (by rw [h]; omega)]
theorem readE_cases (l : List UInt8) : readE l = 0 ∨ readE l = 7 := by
  rw [readE]; split <;> simp

end Go.Proofs.Ytfebifpofhodoaa
