/-
  Joined: ValP, ValQ, ValR, ValS.
-/
import Derived.Deep.RegionWith
import Derived.Test.YtfcehhhcjlpklaaGreatDoorJWlkA20
import Derived.Test.YtfcehhhcjlpklaaGreatDoorJWlkA11
import Derived.Test.YtfcehhhcjlpklaaGreatDoorJWlkA08
import Derived.Test.YtfcehhhcjlpklaaGreatDoorJWlkA07
/-
  Layer 8's reference: in, text.
-/
namespace Go.Proofs.YtfcehhhcjlpklaaGreatDoor
open Go.RowKit
set_option linter.unusedVariables false
set_option linter.unusedSimpArgs false

set_option maxRecDepth 100000 in
theorem refIn_any8 (n lo hi : Int) (w : World) (r : Bool) (hr : inB n lo hi = r) :
    Calls Tryz.prog 77 #[.int .i64 n, .int .i64 lo, .int .i64 hi] w fun e w' => e = .returned (.bool r) ∧ w = w' := by
  by_cases h : lo ≤ n
  · go_enter Tryz.func77, Tryz.ntmps77
    go_wp2
    go_ret
    exact ⟨ret_bool (by rw [← hr, inB, decide_eq_true h, Bool.true_and]), rfl⟩
  · go_enter Tryz.func77, Tryz.ntmps77
    go_wp2
    go_ret
    exact ⟨ret_bool (by rw [← hr, inB, decide_eq_false (by omega), Bool.false_and]), rfl⟩

/-- a text, closed to the walk -/
def tx (l : List UInt8) : Value := .string ⟨l.toArray⟩
end Go.Proofs.YtfcehhhcjlpklaaGreatDoor

/-
  Layer 8's reference: Map, Detail, Slot, Root, Count.
-/
namespace Go.Proofs.YtfcehhhcjlpklaaGreatDoor
open Go.RowKit
set_option linter.unusedVariables false
set_option linter.unusedSimpArgs false

end Go.Proofs.YtfcehhhcjlpklaaGreatDoor

/-
  Layer 8's reference: ReadMap, ReadRoot, ReadCount.
-/
namespace Go.Proofs.YtfcehhhcjlpklaaGreatDoor
open Go.RowKit
set_option linter.unusedVariables false
set_option linter.unusedSimpArgs false

/-- what is read of one number of four bytes -/
theorem rd_four {s : List UInt8} {lo hi : Int} (h : s.length = 4) : rdE s [(4, lo, hi)] = (if inB (leN s) lo hi then 0 else 2) ∧ rdV s [(4, lo, hi)] 0 = (if inB (leN s) lo hi then (leN s : Int) else 0) := by
  have ht : s.take 4 = s := List.take_of_length_le (by omega)
  have hp : psI s [(4, lo, hi)] = [(leN s : Int)] := by simp [psI, partsN, ht]
  have hk : okR s [(4, lo, hi)] = inB (leN s) lo hi := by
    rw [okR_rdL, rdL, hp]
    simp [okP]
  have he : rdE s [(4, lo, hi)] = (if inB (leN s) lo hi then 0 else 2) := by
    rw [rdE, if_neg (by rw [h]; simp [sizeN]), hk]
  refine ⟨he, ?_⟩
  rw [rdV, he, hp]
  cases inB (leN s) lo hi <;> rfl
theorem rd_len {s : List UInt8} {ns : List NumS} (h : s.length ≠ sizeN ns) : rdE s ns = 7 ∧ ∀ k, rdV s ns k = 0 := by
  have he : rdE s ns = 7 := by rw [rdE, if_pos h]
  exact ⟨he, fun k => by rw [rdV, if_neg (by rw [he]; omega)]⟩

theorem val_small {l : List UInt8} {k : Nat} (hk : k ≤ 4) (hl : l.length = k) : leN l < 4294967296 := by
  have := leN_lt l
  have h2 : 256 ^ l.length ≤ 256 ^ 4 := Nat.pow_le_pow_right (by omega) (by omega)
  omega
theorem val_get4 {l : List UInt8} (hl : l.length = 4) : getE l 0 4 = 0 ∧ getN l 0 4 = (leN l : Int) := by
  have hr : roomE l.length 0 4 = 0 := by
    rw [hl]
    rfl
  have hp : part l 0 4 = l := by
    simp only [part]
    exact List.take_of_length_le (by rw [List.length_drop, hl]; decide)
  have hs := val_small (Nat.le_refl 4) hl
  have he : getE l 0 4 = 0 := by rw [getE, if_pos hr, hp, if_neg (by omega)]
  exact ⟨he, by rw [getN, if_pos he, hp]⟩

set_option maxRecDepth 100000 in
set_option maxHeartbeats 1600000 in
theorem four_any (w : World) (s : List UInt8) (hs : s.length ≤ 1000) (lo hi : Int) (h1 : i64b lo) (h2 : i64b hi) :
    Calls Tryz.prog 46 #[.string ⟨s.toArray⟩, .int .i64 lo, .int .i64 hi] w fun e w' => e = .returned (.tuple #[.int .i64 (rdV s [(4, lo, hi)] 0), .int .i64 (rdE s [(4, lo, hi)])]) ∧ Below w.heap.size w w' := by
  by_cases hl : s.length = 4
  · obtain ⟨e1, e2⟩ := rd_four (lo := lo) (hi := hi) hl
    obtain ⟨g1, g2⟩ := val_get4 hl
    have hsm := val_small (Nat.le_refl 4) hl
    obtain ⟨c', W1, hcv, hB, hbel⟩ := conv_bytes s w (by omega)
    have GT : Hid (Calls Tryz.prog 76 #[.slice (some ⟨w.heap.size, 0, none⟩) 4 c', .int .i64 0, .int .i64 4] W1 fun e w' => e = .returned (.tuple #[.int .i64 (leN s : Int), .int .i64 0]) ∧ W1 = w') := by
      have := refGet_any _ _ _ s 0 4 W1 hB (by omega)
      rw [g1, g2, hl] at this
      exact this
    rw [hl] at hcv
    have hne : ((s.length : Int) != 4) = false := by rw [hl]; rfl
    have HBel := Lib.hid hbel
    rw [e1, e2]
    clear e1 e2 g1 g2 hB hbel hl hs
    cases hin : inB (leN s) lo hi with
    | false =>
      have IN := Lib.hid (fun W => refIn_any8 (leN s) lo hi W false hin)
      clear hin
      generalize leN s = x at *
      go_enter Tryz.func46, Tryz.ntmps46
      go_wp2_with (first
        | (go_at_call 76; (with_reducible refine (GT.out).mono ?_); rintro e w' ⟨rfl, rfl⟩)
        | (go_at_call 77; (with_reducible refine (IN.out _).mono ?_); rintro e w' ⟨rfl, rfl⟩))
      go_ret2
      exact ⟨rfl, HBel.out⟩
    | true =>
      have IN := Lib.hid (fun W => refIn_any8 (leN s) lo hi W true hin)
      clear hin
      generalize leN s = x at *
      go_enter Tryz.func46, Tryz.ntmps46
      go_wp2_with (first
        | (go_at_call 76; (with_reducible refine (GT.out).mono ?_); rintro e w' ⟨rfl, rfl⟩)
        | (go_at_call 77; (with_reducible refine (IN.out _).mono ?_); rintro e w' ⟨rfl, rfl⟩))
      go_ret2
      exact ⟨rfl, HBel.out⟩
  · obtain ⟨e1, e2⟩ := rd_len (s := s) (ns := [(4, lo, hi)]) (by simpa [sizeN] using hl)
    rw [e1, e2 0]
    have hne : ((s.length : Int) != 4) = true := by rw [bne_iff_ne]; omega
    clear e1 e2 hl hs
    go_enter Tryz.func46, Tryz.ntmps46
    go_wp2
    go_ret2
    exact ⟨rfl, Below.refl _ _⟩

set_option maxRecDepth 100000 in
theorem refReadRoot_any8 (w : World) (s : List UInt8) (hs : s.length ≤ 1000) :
    Calls Tryz.prog 25 #[.string ⟨s.toArray⟩] w fun e w' => e = .returned (.tuple #[.int .i64 (rdV s rootS 0), .int .i64 (rdE s rootS)]) ∧ Below w.heap.size w w' := by
  have F := Lib.hid (four_any w s hs 1 14399 (by simp [i64b]) (by simp [i64b]))
  change Hid (Calls Tryz.prog 46 #[.string ⟨s.toArray⟩, .int .i64 1, .int .i64 14399] w fun e w' => e = .returned (.tuple #[.int .i64 (rdV s rootS 0), .int .i64 (rdE s rootS)]) ∧ Below w.heap.size w w') at F
  generalize rdV s rootS 0 = v at *
  generalize rdE s rootS = e0 at *
  go_enter Tryz.func25, Tryz.ntmps25
  go_wp2_with (go_at_call 46; (with_reducible refine (F.out).mono ?_); rintro e w1 ⟨rfl, hb1⟩)
  go_ret2
  exact ⟨rfl, hb1⟩
end Go.Proofs.YtfcehhhcjlpklaaGreatDoor

/-
  Layer 8's reference: ReadDetail, ReadSlot.
-/
namespace Go.Proofs.YtfcehhhcjlpklaaGreatDoor
open Go.RowKit
set_option linter.unusedVariables false
set_option linter.unusedSimpArgs false

end Go.Proofs.YtfcehhhcjlpklaaGreatDoor
