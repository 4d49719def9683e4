/-
  Layer 8's Detail, Slot, Root, Count.
-/
import Derived.Test.YtolapeocdaknjaaValC
namespace Go.Proofs.Ytolapeocdaknjaa
open Go.RowKit
set_option linter.unusedVariables false
set_option linter.unusedSimpArgs false

theorem zip_bds {ns : List NumS} {vs : List Int} (h : ∀ v ∈ vs, i64b v) : ∀ p ∈ ns.zip vs, i64b p.2 := fun p hp => h p.2 (List.of_mem_zip hp).2

set_option maxHeartbeats 400000 in
theorem Slot_any (w : World) (x f i : Int) (hx : i64b x) (hf : i64b f) (hi : i64b i) :
    Calls Try.prog 13 #[.agg #[.int .i64 x, .int .i64 f, .int .i64 i]] w fun e w' => e = .returned (.string ⟨(slotB x f i).toArray⟩) ∧ Below w.heap.size w w' := by
  have hs1 : w.heap.size < (w.alloc (.cells #[.int .i64 x, .int .i64 f, .int .i64 i] 38)).heap.size := by simp
  have MP := Lib.hid (slot_any (w.alloc (.cells #[.int .i64 x, .int .i64 f, .int .i64 i] 38)) w.heap.size hs1)
  have h1 := heap_alloc_new w (.cells #[.int .i64 x, .int .i64 f, .int .i64 i] 38)
  have hb0 : Below w.heap.size w (w.alloc (.cells #[.int .i64 x, .int .i64 f, .int .i64 i] 38)) := (Below.refl _ _).alloc (Nat.le_refl _) _
  have hz : (w.alloc (.cells #[.int .i64 x, .int .i64 f, .int .i64 i] 38)).heap.size = w.heap.size + 1 := by simp
  have BD : Hid (∀ (W : World) (q : Nat), Below (w.heap.size + 1) (w.alloc (.cells #[.int .i64 x, .int .i64 f, .int .i64 i] 38)) W → numRow W q #[.pointer (some ⟨w.heap.size, 0, none⟩), .int .i64 8, .int .i64 1, .int .i64 14399, .pointer (some ⟨w.heap.size, 1, none⟩), .int .i64 4, .int .i64 0, .int .i64 960, .pointer (some ⟨w.heap.size, 2, none⟩), .int .i64 4, .int .i64 0, .int .i64 960] →
      Calls Try.prog 26 #[.slice (some ⟨q, 0, none⟩) 3 3] W fun e w' => e = .returned (.string ⟨(slotB x f i).toArray⟩) ∧ Below W.heap.size W w') := by
    intro W q hW hr
    refine build_any W q 0 3 3 (slotS.zip [x, f, i]) (fun _ => w.heap.size) oK (nums_new hr rfl (by omega) (by omega) (fit_zip slotS_fit _)) ?_ (zip_bds ?_)
    · intro k hk
      have e0 : W.heap[w.heap.size]? = _ := (hW.block _ (by omega)).trans h1
      have hk' : k < 3 := hk
      rcases (show k = 0 ∨ k = 1 ∨ k = 2 by omega) with rfl | rfl | rfl
      all_goals exact (cell_of_row W w.heap.size _ _ _ _ e0).trans rfl
    · intro v hv
      simp only [List.mem_cons, List.mem_nil_iff, or_false] at hv
      rcases hv with rfl | rfl | rfl <;> assumption
  have H0 := Lib.hid hb0
  have HZ := Lib.hid hz
  clear h1 hb0 hz hs1 hx hf hi
  go_enter Try.func13, Try.ntmps13
  go_wp2_with (first
    | (go_at_call 27; (with_reducible refine (MP.out).mono ?_); rintro e w1 ⟨q, _, rfl, hr, hb1⟩; rw [HZ.out] at hb1; have HR := Lib.hid hr; clear hr)
    | (go_at_call 26; (with_reducible refine (BD.out w1 q hb1 HR.out).mono ?_); rintro e w2 ⟨rfl, hb2⟩))
  go_ret
  exact ⟨rfl, (H0.out.trans (hb1.mono (by omega))).trans (hb2.mono (Nat.le_trans H0.out.size hb1.size))⟩

end Go.Proofs.Ytolapeocdaknjaa
