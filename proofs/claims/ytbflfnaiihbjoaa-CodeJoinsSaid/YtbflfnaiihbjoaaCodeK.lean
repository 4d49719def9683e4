/-
  The reference's Same; the document's example.
-/
import Derived.Test.YtbflfnaiihbjoaaCodeH
import Derived.Test.YtbflfnaiihbjoaaCodeJ
import Derived.Laws.BytesArg
namespace Go.Proofs.Ytbflfnaiihbjoaa
open Go.RowKit
set_option linter.unusedVariables false
set_option linter.unusedSimpArgs false

set_option maxHeartbeats 800000 in
theorem Same_same (A A2 : Option Addr) (n c c2 : Nat) (l : List Int) (w : World) (h : Ints w A n c l) (h2 : Ints w A2 n c2 l) :
    Calls Try.prog 18 #[.slice A n c, .slice A2 n c2] w fun e w' => e = .returned (.bool true) ∧ Below w.heap.size w w' := by
  have hn := h.le
  by_cases hp : 0 < n
  · obtain ⟨b, off, rfl, hb, hcell⟩ := h.row.lit (by rw [i64s_length, h.len]; omega)
    obtain ⟨b2, off2, rfl, hb2, hcell2⟩ := h2.row.lit (by rw [i64s_length, h2.len]; omega)
    have HL := Lib.hid h.len
    have HC := Lib.hid hcell
    have HC2 := Lib.hid hcell2
    clear h h2 hcell hcell2
    go_enter Try.func18, Try.ntmps18
    go_wp2
    go_loopw [5] (fun i wr => ∃ k : Nat, k ≤ n ∧ i = .int .i64 k ∧ Below w.heap.size w wr) (fun i _ => n - (intOf i).toNat)
    case atStart => exact ⟨0, by omega, rfl, Below.refl _ _⟩
    case round =>
      obtain ⟨k, hk, rfl, hbel⟩ := hrel
      by_cases hlt : k < n
      · have hkl : k < l.length := by have := HL.out; omega
        have hc0 : wr.cell? ⟨b, off + k, none⟩ = some (.int .i64 l[k]) := (hbel.cell (p := ⟨b, off + k, none⟩) hb).trans (HC.out _ _ (i64s_at l k hkl))
        have hc2 : wr.cell? ⟨b2, off2 + k, none⟩ = some (.int .i64 l[k]) := (hbel.cell (p := ⟨b2, off2 + k, none⟩) hb2).trans (HC2.out _ _ (i64s_at l k hkl))
        generalize l[k] = a at *
        go_wp2
        go_quiet (fail)
        go_wp2
        go_roundw
        case rel => exact ⟨k + 1, by omega, by go_num, below_drewN hbel _⟩
        case measure => simp [intOf]; omega
      · go_wp2
        go_ret
        exact ⟨rfl, hbel⟩
  · obtain rfl : n = 0 := by omega
    clear h h2
    go_enter Try.func18, Try.ntmps18
    go_wp2
    refine wp_loop_rounds 1 ?_
    rw [rounds_succ]
    go_wp2
    go_ret
    exact ⟨rfl, Below.refl _ _⟩

/-- the string of bytes -/
theorem run_str {w : World} {A : Option Addr} {n c : Nat} {l : List UInt8} (h : Bytes8 w A n c l) :
    (convert 22 9 (.slice A n c)).run Try.prog w = .ok (.string ⟨l.toArray⟩) w := by
  cases A with
  | none =>
    have hl : l = [] := by
      match l, h.row with
      | [], _ => rfl
      | y :: r, hr => obtain ⟨ad, e, _⟩ := hr 0 _ rfl; cases e
    subst hl
    exact run_convert_bytes_nil w _ _ Try.underlying22 Try.underlying5 n c _ Try.underlying9
  | some ad =>
    have hl : (loadCells ad n).run Try.prog w = .ok ((l.map fun b => (b.toNat : Int)).map (Value.int .u8)).toArray w := by
      have := run_loadCells_list (P := Try.prog) w ad (u8s l) (fun j v hj => h.row.at_ hj)
      rw [u8s_length, h.len] at this
      rw [this]
      simp [u8s]
    rw [run_convert_bytes_string w _ _ _ _ n c Try.underlying22 Try.underlying5 Try.underlying9, run_bytesToString w _ n c _ hl, foldl_push_bytes]
    have e : ((l.map fun b => (b.toNat : Int)).map fun n => UInt8.ofNat n.toNat) = l := by
      rw [List.map_map]
      conv => rhs; rw [← List.map_id l]
      exact List.map_congr_left fun b _ => by simp
    rw [e]
    simp [ByteArray.empty, ByteArray.emptyWithCapacity]
    rfl

set_option maxHeartbeats 800000 in
theorem lives_any (w : World) : Calls Try.prog 7 #[] w fun e w' => e = .returned (.bool true) ∧ Below w.heap.size w w' := by
  have P : Hid (Calls Try.prog 14 #[.slice (some ⟨w.heap.size, 0, none⟩) 2 2] (w.alloc (.cells #[.int .i64 2, .int .i64 258, .int .i64 1, .int .i64 1] 39)) fun e w' =>
      ∃ A' c', e = .returned (.tuple #[.slice A' 3 c', .int .i64 0]) ∧ Bytes8 w' A' 3 c' [2, 1, 1] ∧ Below w.heap.size w w') := by
    refine (Pack_any (some ⟨w.heap.size, 0, none⟩) 2 2 [(2, 258), (1, 1)] _ ⟨rfl, Nat.le_refl _, by omega, ?_, ?_⟩ (by omega)).mono ?_
    · exact Row.of_block (heap_alloc_new w _)
    · intro p hp
      simp only [List.mem_cons, List.not_mem_nil, or_false] at hp
      rcases hp with rfl | rfl <;> exact ⟨⟨by decide, by decide⟩, ⟨by decide, by decide⟩⟩
    · rintro e w' ⟨A', m, c', rfl, hB, hb⟩
      have e1 : packE [(2, 258), (1, 1)] = 0 := by decide
      have e2 : packB [(2, 258), (1, 1)] = [2, 1, 1] := by decide
      rw [e2] at hB
      rw [e1]
      obtain rfl : 3 = m := hB.len
      exact ⟨A', c', rfl, hB, ((Below.refl _ _).alloc (Nat.le_refl _) _).trans (hb.mono (by simp))⟩
  go_enter Try.func7, Try.ntmps7
  go_wp2_with (go_at_call 14; refine (P.out).mono ?_; rintro e w1 ⟨A', c', rfl, hB, hb⟩; have cv := run_str hB)
  go_ret
  exact ⟨rfl, hb⟩

end Go.Proofs.Ytbflfnaiihbjoaa
