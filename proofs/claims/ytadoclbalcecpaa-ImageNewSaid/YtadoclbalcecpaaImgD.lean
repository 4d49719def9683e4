/-
  Layer 3's example; strings of bytes.
-/
import Derived.Test.YtadoclbalcecpaaImgC
import Derived.Laws.BytesArg
import Derived.Deep.OwnRows
namespace Go.Proofs.Ytadoclbalcecpaa
open Go.RowKit
set_option linter.unusedVariables false
set_option linter.unusedSimpArgs false

theorem blk_take {l : List UInt8} {q j : Nat} (h : j < q) : blk (l.take (q * 256)) j = blk l j := by
  unfold blk
  rw [List.drop_take, List.take_take]
  congr 1
  omega

theorem whole_small {n : Nat} (h : n ≤ 6000) : whole n = n / 256 := by unfold whole; omega

theorem blk_splice {L lc : List UInt8} {q kk j : Nat} (hL : L.length = q * 256) (hc : lc.length = 256) (hk : kk < q) (hj : j < q) : blk (splice L (kk * 256) lc) j = if j = kk then lc else blk L j := by
  apply List.ext_getElem
  · split
    · rw [blk_length (n := q) (by rw [length_splice _ _ _ (by omega), hL]) hj, hc]
    · rw [blk_length (n := q) (by rw [length_splice _ _ _ (by omega), hL]) hj, blk_length hL hj]
  · intro i h1 h2
    have hi : i < 256 := by
      rw [blk_length (n := q) (by rw [length_splice _ _ _ (by omega), hL]) hj] at h1
      exact h1
    have hl : (L.take (kk * 256)).length = kk * 256 := by rw [List.length_take]; omega
    split
    · next e =>
      subst e
      simp only [blk, splice, List.getElem_take, List.getElem_drop]
      rw [List.getElem_append_right (by omega), List.getElem_append_left (by omega)]
      congr 1
      omega
    · next e =>
      simp only [blk, splice, List.getElem_take, List.getElem_drop]
      by_cases hlt : j < kk
      · rw [List.getElem_append_left (by omega), List.getElem_take]
      · rw [List.getElem_append_right (by omega), List.getElem_append_right (by omega), List.getElem_drop]
        exact getElem_congr_idx (by omega)

/-- the string of bytes -/
theorem run_text {w : World} {A : Option Addr} {n c : Nat} {l : List UInt8} (h : Bytes8 w A n c l) :
    (convert 22 9 (.slice A n c)).run Try.prog w = .ok (.string ⟨l.toArray⟩) w := by
  cases A with
  | none =>
    have hl : l = [] := by
      match l, h.row with
      | [], _ => rfl
      | y :: r, hr => obtain ⟨ad, e, _⟩ := hr 0 _ rfl; cases e
    subst hl
    exact run_convert_bytes_nil w _ _ Try.underlying22 Try.underlying5 n c _ Try.underlying9
  | some ad =>
    have hl : (loadCells ad n).run Try.prog w = .ok ((l.map fun b => (b.toNat : Int)).map (Value.int .u8)).toArray w := by
      have := run_loadCells_list (P := Try.prog) w ad (u8s l) (fun j v hj => h.row.at_ hj)
      rw [u8s_length, h.len] at this
      rw [this]
      simp [u8s]
    rw [run_convert_bytes_string w _ _ _ _ n c Try.underlying22 Try.underlying5 Try.underlying9, run_bytesToString w _ n c _ hl, foldl_push_bytes]
    have e : ((l.map fun b => (b.toNat : Int)).map fun n => UInt8.ofNat n.toNat) = l := by
      rw [List.map_map]
      conv => rhs; rw [← List.map_id l]
      exact List.map_congr_left fun b _ => by simp
    rw [e]
    simp [ByteArray.empty, ByteArray.emptyWithCapacity]
    rfl

theorem made_bytes (w : World) (n : Nat) (h : n ≤ 9223372036854775807) : Bytes8 (w.alloc (.cells (madeCells #[.int .u8 0] n) 5)) (some ⟨w.heap.size, 0, none⟩) n n (List.replicate n 0) := by
  refine ⟨List.length_replicate, Nat.le_refl _, h, ?_⟩
  rw [← zeros_u8]
  exact Row.of_block (heap_alloc_new w _)

theorem Of_made (w : World) (n m : Nat) (h : n ≤ 9223372036854775807) (hm : whole n * 256 = m) (hmn : m ≤ n) :
    Calls Try.prog 10 #[.slice (some ⟨w.heap.size, 0, none⟩) n n] (w.alloc (.cells (madeCells #[.int .u8 0] n) 5)) fun e w' => ∃ p g, e = .returned (.pointer (some ⟨p, 0, none⟩)) ∧ Img w' w.heap.size p g (List.replicate m 0) ∧ Below w.heap.size w w' := by
  refine (Of_any _ n n _ _ (made_bytes w n h)).mono ?_
  rintro e w' ⟨p, g, rfl, hi, hb⟩
  rw [hm, List.take_replicate, Nat.min_eq_left hmn] at hi
  refine ⟨p, g, rfl, hi.down (by simp), ((Below.refl _ _).alloc (Nat.le_refl _) _).trans (hb.mono (by simp))⟩

set_option maxHeartbeats 800000 in
theorem lives_any (w : World) : Calls Try.prog 9 #[] w fun e w' => e = .returned (.bool true) ∧ Below w.heap.size w w' := by
  have hmk : ∀ W : World, (Instr.makeSlice 22 (.int .i64 600) (.int .i64 600)).run Try.prog W = .ok (.slice (some ⟨W.heap.size, 0, none⟩) 600 600) (W.alloc (.cells (madeCells #[.int .u8 0] 600) 5)) :=
    fun W => run_make_row' 22 5 (.int .u8 0) 1 Try.underlying22 info_byte rfl .i64 .i64 600 (by omega) (by omega) W
  have N : Hid (Calls Try.prog 19 #[.int .i64 2] w fun e w' => ∃ p g, e = .returned (.tuple #[.pointer (some ⟨p, 0, none⟩), .int .i64 0]) ∧ Img w' w.heap.size p g (List.replicate 512 0) ∧ Below w.heap.size w w') := New_good 2 w (by omega)
  have B : Hid (∀ W p g, Img W w.heap.size p g (List.replicate 512 0) → Calls Try.prog 17 #[.pointer (some ⟨p, 0, none⟩)] W fun e w' => ∃ A, e = .returned (.slice A 512 512) ∧ Below W.heap.size W w') := fun W p g h => (Bytes_img W h).mono fun e w' ⟨A, h1, _, h3⟩ => ⟨A, by rw [h1, List.length_replicate], h3⟩
  have F : Hid (∀ W : World, Calls Try.prog 10 #[.slice (some ⟨W.heap.size, 0, none⟩) 600 600] (W.alloc (.cells (madeCells #[.int .u8 0] 600) 5)) fun e w' => ∃ p g, e = .returned (.pointer (some ⟨p, 0, none⟩)) ∧ Img w' W.heap.size p g (List.replicate 512 0) ∧ Below W.heap.size W w') := fun W => Of_made W 600 512 (by omega) (by decide) (by omega)
  have K : Hid (∀ (W : World) B p g, Img W B p g (List.replicate 512 0) → Calls Try.prog 16 #[.pointer (some ⟨p, 0, none⟩)] W fun e w' => e = .returned (.int .i64 2) ∧ W = w') := fun W B p g h => Blocks_img (n := 2) W h List.length_replicate
  go_enter Try.func9, Try.ntmps9
  go_wp2_with (first
    | (go_at_call 19; refine (N.out).mono ?_; rintro e w1 ⟨p, g, rfl, HI, hb1⟩)
    | (go_at_call 17; (with_reducible refine (B.out _ p g HI).mono ?_); rintro e w2 ⟨A, rfl, hb2⟩)
    | (go_at_call 10; (with_reducible refine (F.out _).mono ?_); rintro e w4 ⟨p4, g4, rfl, HI4, hb4⟩)
    | (go_at_call 16; (with_reducible refine (K.out _ _ p4 g4 HI4).mono ?_); rintro e w5 ⟨rfl, rfl⟩))
  go_ret
  have h12 := hb1.trans (hb2.mono hb1.size)
  exact ⟨rfl, h12.trans (hb4.mono h12.size)⟩

end Go.Proofs.Ytadoclbalcecpaa
