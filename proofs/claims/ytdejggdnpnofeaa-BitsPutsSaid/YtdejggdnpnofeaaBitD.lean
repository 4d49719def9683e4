/-
  Layer 9: Free, and the reference's Free.
-/
import Derived.Test.YtdejggdnpnofeaaBitMath
import Derived.Test.YtdejggdnpnofeaaMem
import Derived.Laws.Small
namespace Go.Proofs.Ytdejggdnpnofeaa
open Go.RowKit
set_option linter.unusedVariables false
set_option linter.unusedSimpArgs false

theorem freeN_le (l : List Int) (k : Nat) : freeN (l.take k) ≤ k := by
  have := List.length_filter_le (fun x : Int => x == 0) (l.take k)
  have h2 := List.length_take_le k l
  unfold freeN
  omega
theorem freeAt_here {l : List Int} {k : Nat} (h : k < l.length) (h0 : l[k] = 0) (hb : ∀ j (hj : j < k), l[j] ≠ 0) : freeAt l = k := by
  rw [freeAt, List.findIdx_eq h]
  refine ⟨by simp [h0], fun j hj => ?_⟩
  have := hb j hj
  simpa using this
theorem freeAt_none {l : List Int} (hb : ∀ j (hj : j < l.length), l[j] ≠ 0) : freeAt l = l.length := by
  rw [freeAt, List.findIdx_eq_length]
  intro x hx
  obtain ⟨j, hj, rfl⟩ := List.mem_iff_getElem.1 hx
  have := hb j hj
  simpa using this

/-- the first that is 0, as far as k -/
def FirstZ (l : List Int) (n k f : Nat) : Prop := (f = n ∧ ∀ j (hj : j < l.length), j < k → l[j] ≠ 0) ∨ (f < k ∧ f = freeAt l)
theorem FirstZ.le {l : List Int} {n k f : Nat} (h : FirstZ l n k f) (hk : k ≤ n) : f ≤ n := by
  rcases h with ⟨rfl, _⟩ | ⟨h, _⟩ <;> omega
theorem FirstZ.other {l : List Int} {n k f : Nat} (h : FirstZ l n k f) (hk : k < l.length) (h0 : l[k] ≠ 0) : FirstZ l n (k + 1) f := by
  rcases h with ⟨h1, h2⟩ | ⟨h1, h2⟩
  · refine .inl ⟨h1, fun j hj hjk => ?_⟩
    by_cases e : j = k
    · subst e; exact h0
    · exact h2 j hj (by omega)
  · exact .inr ⟨by omega, h2⟩
theorem FirstZ.here {l : List Int} {n k f : Nat} (h : FirstZ l n k f) (hk : k < l.length) (hn : l.length = n) (h0 : l[k] = 0) : FirstZ l n (k + 1) (min f k) := by
  rcases h with ⟨h1, h2⟩ | ⟨h1, h2⟩
  · have := freeAt_here hk h0 (fun j hj => h2 j (by omega) hj)
    exact .inr ⟨by omega, by omega⟩
  · exact .inr ⟨by omega, by omega⟩
theorem FirstZ.all {l : List Int} {n f : Nat} (h : FirstZ l n n f) (hn : l.length = n) : f = freeAt l := by
  rcases h with ⟨h1, h2⟩ | ⟨h1, h2⟩
  · rw [freeAt_none fun j hj => h2 j hj (by omega)]
    omega
  · exact h2

set_option maxHeartbeats 800000 in
theorem Free_any9 (A : Option Addr) (n c : Nat) (l : List Int) (w : World) (h : Ints w A n c l) (hn : n ≤ 2000) :
    Calls Try.prog 9 #[.slice A n c] w fun e w' => e = .returned (.tuple #[.int .i64 (freeN l : Int), .int .i64 (freeAt l : Int)]) ∧ w = w' := by
  have hl := h.len
  have HC : Hid (∀ k (hk : k < n) (hkl : k < l.length), ∃ b off, A = some ⟨b, off, none⟩ ∧ w.cell? ⟨b, off + k, none⟩ = some (.int .i64 l[k])) := by
    intro k hk hkl
    obtain ⟨b, off, rfl, hb, hcell⟩ := h.row.lit (by rw [i64s_length]; omega)
    exact ⟨b, off, rfl, hcell k _ (i64s_at l k hkl)⟩
  have HL := Lib.hid hl
  clear h hl
  go_enter Try.func9, Try.ntmps9
  go_wp2
  go_loop [4, 5, 12] (fun a b i => ∃ k m f : Nat, k ≤ n ∧ i = .int .i64 k ∧ a = .int .i64 m ∧ b = .int .i64 f ∧ m ≤ k ∧ f ≤ n ∧ Hid (m = freeN (l.take k)) ∧ Hid (FirstZ l n k f)) (fun _ _ i => n - (intOf i).toNat)
  case atStart => exact ⟨0, 0, n, by omega, rfl, rfl, rfl, by omega, by omega, rfl, .inl ⟨rfl, fun j _ hj => by omega⟩⟩
  case round =>
    obtain ⟨k, m, f, hk, rfl, rfl, rfl, hm, hf, HM, HF⟩ := hrel
    by_cases hlt : k < n
    · have hkl : k < l.length := by have := HL.out; omega
      obtain ⟨b, off, rfl, hc0⟩ := HC.out k hlt hkl
      have HS := Lib.hid (freeN_step hkl)
      by_cases h0 : l[k] = 0
      · have H1 : Hid (m + 1 = freeN (l.take (k + 1))) := by rw [HS.out, if_pos h0, ← HM.out]; rfl
        have H2 := Lib.hid (HF.out.here hkl HL.out h0)
        rw [h0] at hc0
        by_cases hfk : k < f
        · have H3 : Hid (FirstZ l n (k + 1) k) := by have := H2.out; rwa [Nat.min_eq_right (by omega)] at this
          clear h0 HS
          go_wp2
          go_round
          case rel => exact ⟨k + 1, m + 1, k, by omega, by go_num, by go_num, rfl, by omega, by omega, H1, H3⟩
          case measure => simp [intOf]; omega
        · have H3 : Hid (FirstZ l n (k + 1) f) := by have := H2.out; rwa [Nat.min_eq_left (by omega)] at this
          clear h0 HS
          go_wp2
          go_round
          case rel => exact ⟨k + 1, m + 1, f, by omega, by go_num, by go_num, rfl, by omega, by omega, H1, H3⟩
          case measure => simp [intOf]; omega
      · have H1 : Hid (m = freeN (l.take (k + 1))) := by rw [HS.out, if_neg h0, ← HM.out]; rfl
        have H2 := Lib.hid (HF.out.other hkl h0)
        clear HS
        generalize l[k] = x at *
        go_wp2
        go_round
        case rel => exact ⟨k + 1, m, f, by omega, by go_num, rfl, rfl, by omega, by omega, H1, H2⟩
        case measure => simp [intOf]; omega
    · obtain rfl : k = n := by omega
      have H1 : Hid (m = freeN l) := by have := HM.out; rwa [List.take_of_length_le (by have := HL.out; omega)] at this
      have H2 := Lib.hid (HF.out.all HL.out)
      go_wp2
      go_ret2
      exact ⟨by rw [← H1.out, ← H2.out]; rfl, rfl⟩

set_option maxHeartbeats 800000 in
theorem refFree_any9 (A : Option Addr) (n c : Nat) (l : List Int) (w : World) (h : Ints w A n c l) (hn : n ≤ 2000) :
    Calls Try.prog 10 #[.slice A n c] w fun e w' => e = .returned (.tuple #[.int .i64 (freeN l : Int), .int .i64 (freeAt l : Int)]) ∧ w = w' := by
  have hl := h.len
  have HC : Hid (∀ k (hk : k < n) (hkl : k < l.length), ∃ b off, A = some ⟨b, off, none⟩ ∧ w.cell? ⟨b, off + k, none⟩ = some (.int .i64 l[k])) := by
    intro k hk hkl
    obtain ⟨b, off, rfl, hb, hcell⟩ := h.row.lit (by rw [i64s_length]; omega)
    exact ⟨b, off, rfl, hcell k _ (i64s_at l k hkl)⟩
  have HL := Lib.hid hl
  clear h hl
  go_enter Try.func10, Try.ntmps10
  go_wp2
  go_loop [4, 5] (fun a i => ∃ k m : Nat, k ≤ n ∧ i = .int .i64 k ∧ a = .int .i64 m ∧ m ≤ k ∧ Hid (m = freeN (l.take k))) (fun _ i => n - (intOf i).toNat)
  case atStart => exact ⟨0, 0, by omega, rfl, rfl, by omega, rfl⟩
  case round =>
    obtain ⟨k, m, hk, rfl, rfl, hm, HM⟩ := hrel
    by_cases hlt : k < n
    · have hkl : k < l.length := by have := HL.out; omega
      obtain ⟨b, off, rfl, hc0⟩ := HC.out k hlt hkl
      have HS := Lib.hid (freeN_step hkl)
      by_cases h0 : l[k] = 0
      · have H1 : Hid (m + 1 = freeN (l.take (k + 1))) := by rw [HS.out, if_pos h0, ← HM.out]; rfl
        rw [h0] at hc0
        clear h0 HS
        go_wp2
        go_round
        case rel => exact ⟨k + 1, m + 1, by omega, by go_num, by go_num, by omega, H1⟩
        case measure => simp [intOf]; omega
      · have H1 : Hid (m = freeN (l.take (k + 1))) := by rw [HS.out, if_neg h0, ← HM.out]; rfl
        clear HS
        generalize l[k] = x at *
        go_wp2
        go_round
        case rel => exact ⟨k + 1, m, by omega, by go_num, rfl, by omega, H1⟩
        case measure => simp [intOf]; omega
    · obtain rfl : k = n := by omega
      have H1 : Hid (m = freeN l) := by have := HM.out; rwa [List.take_of_length_le (by have := HL.out; omega)] at this
      clear HM hlt hk
      go_wp2
      go_loop [6] (fun i => ∃ j : Nat, j ≤ k ∧ i = .int .i64 j ∧ Hid (∀ q (hq : q < l.length), q < j → l[q] ≠ 0)) (fun i => k - (intOf i).toNat)
      case atStart => exact ⟨0, by omega, rfl, fun q _ hq => by omega⟩
      case round =>
        obtain ⟨j, hj, rfl, HZ⟩ := hrel
        by_cases hlt2 : j < k
        · have hjl : j < l.length := by have := HL.out; omega
          obtain ⟨b, off, rfl, hc0⟩ := HC.out j hlt2 hjl
          have hd : decide ((j : Int) < (k : Int)) = true := by simp; omega
          by_cases h0 : l[j] = 0
          · have HE := Lib.hid (freeAt_here hjl h0 (fun q hq => HZ.out q (by omega) hq))
            rw [h0] at hc0
            clear h0
            go_wp2
            go_ret2
            exact ⟨by rw [← H1.out, HE.out]; rfl, rfl⟩
          · have HE : Hid (∀ q (hq : q < l.length), q < j + 1 → l[q] ≠ 0) := fun q hq hqj => by
              by_cases e : q = j
              · subst e; exact h0
              · exact HZ.out q hq (by omega)
            have hne : (l[j] != 0) = true := by simpa using h0
            generalize l[j] = x at *
            go_wp2
            go_round
            case rel => exact ⟨j + 1, by omega, by go_num, HE⟩
            case measure => simp [intOf]; omega
        · obtain rfl : j = k := by omega
          have HE := Lib.hid (freeAt_none fun q hq => HZ.out q hq (by have := HL.out; omega))
          have hd : decide ((j : Int) < (j : Int)) = false := by simp
          go_wp2
          go_ret2
          exact ⟨by rw [← H1.out, HE.out, HL.out]; rfl, rfl⟩

end Go.Proofs.Ytdejggdnpnofeaa
