/-
  Layer 4's example; the first 600 bytes.
-/
import Derived.Test.YtldgdgkojlohfaaSealD
namespace Go.Proofs.Ytldgdgkojlohfaa
open Go.RowKit
set_option linter.unusedVariables false
set_option linter.unusedSimpArgs false

theorem head_cells {w : World} {B g : Nat} {k no : Int} {l : List UInt8} (h : Own8 w B g (sealB k no l)) (hs : sealE k no l.length = 0) (j : Nat) (b : UInt8) (hj : (headB k no)[j]? = some b) : w.cell? ⟨g, j, none⟩ = some (.int .u8 (b.toNat : Int)) := by
  rw [cell_of_row w g j _ _ _ h.blk, sealB_eq hs]
  have e : bodyB k no l = headB k no ++ (l ++ List.replicate (244 - l.length) 0) := by simp [bodyB, headB]
  rw [e]
  have hlt : j < (headB k no).length := by
    rcases Nat.lt_or_ge j (headB k no).length with h | h
    · exact h
    · rw [List.getElem?_eq_none h] at hj; cases hj
  simp only [u8s, List.getElem?_toArray, List.getElem?_map, List.append_assoc]
  rw [List.getElem?_append_left hlt, hj]
  rfl

set_option maxHeartbeats 800000 in
theorem lives4_any (w : World) : Calls Try.prog 11 #[] w fun e w' => e = .returned (.bool true) ∧ Below w.heap.size w w' := by
  have hs : sealE 2 7 0 = 0 := by decide
  have S : Hid (Calls Try.prog 7 #[.int .i64 2, .int .i64 7, .slice none 0 0] w fun e w' => ∃ g, e = .returned (.tuple #[.slice (some ⟨g, 0, none⟩) 256 256, .int .i64 0]) ∧ w'.cell? ⟨g, 0, none⟩ = some (.int .u8 7) ∧ w'.cell? ⟨g, 4, none⟩ = some (.int .u8 2) ∧ Below w.heap.size w w') :=
    (Seal_good 2 7 none 0 0 [] w (Bytes8.nil w) hs).mono fun e w' ⟨g, h1, h2, h3⟩ => ⟨g, h1, head_cells h2 hs 0 7 (by decide), head_cells h2 hs 4 2 (by decide), h3⟩
  clear hs
  go_enter Try.func11, Try.ntmps11
  go_wp2_with (go_at_call 7; (with_reducible refine (S.out).mono ?_); rintro e w1 ⟨g, rfl, hc0, hc4, hb1⟩)
  go_ret
  exact ⟨rfl, hb1⟩

/-- at most m bytes of a slice -/
theorem few_bytes {w : World} {A : Option Addr} {n c : Nat} {l : List UInt8} (m : Nat) (h : Bytes8 w A n c l) : ∃ (q : Nat) (l' : List UInt8), Bytes8 w A q c l' ∧ q ≤ m ∧ ((m < n ∧ m ≤ c ∧ q = m) ∨ (n ≤ m ∧ q = n)) := by
  by_cases hn : m < n
  · have hc := h.cap
    refine ⟨m, l.take m, ⟨by rw [List.length_take, h.len]; omega, by omega, h.most, ?_⟩, Nat.le_refl _, .inl ⟨hn, by omega, rfl⟩⟩
    have := h.row.take m
    rwa [u8s_take] at this
  · exact ⟨n, l, h, by omega, .inr ⟨by omega, rfl⟩⟩

end Go.Proofs.Ytldgdgkojlohfaa
