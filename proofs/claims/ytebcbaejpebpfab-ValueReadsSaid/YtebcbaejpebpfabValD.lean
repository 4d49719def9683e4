/-
  Layer 8's Detail, Slot, Root, Count.
-/
import Derived.Test.YtebcbaejpebpfabValC
namespace Go.Proofs.Ytebcbaejpebpfab
open Go.RowKit
set_option linter.unusedVariables false
set_option linter.unusedSimpArgs false

theorem zip_bds {ns : List NumS} {vs : List Int} (h : ∀ v ∈ vs, i64b v) : ∀ p ∈ ns.zip vs, i64b p.2 := fun p hp => h p.2 (List.of_mem_zip hp).2

set_option maxHeartbeats 400000 in
theorem Detail_any (w : World) (m x d s : Int) (hm : i64b m) (hx : i64b x) (hd : i64b d) (hs : i64b s) :
    Calls Try.prog 9 #[.agg #[.int .i64 m, .int .i64 x, .int .i64 d, .int .i64 s]] w fun e w' => e = .returned (.string ⟨(detB m x d s).toArray⟩) ∧ Below w.heap.size w w' := by
  have hs1 : w.heap.size < (w.alloc (.cells #[.int .i64 m, .int .i64 x, .int .i64 d, .int .i64 s] 23)).heap.size := by simp
  have MP := Lib.hid (detail_any (w.alloc (.cells #[.int .i64 m, .int .i64 x, .int .i64 d, .int .i64 s] 23)) w.heap.size hs1)
  have h1 := heap_alloc_new w (.cells #[.int .i64 m, .int .i64 x, .int .i64 d, .int .i64 s] 23)
  have hb0 : Below w.heap.size w (w.alloc (.cells #[.int .i64 m, .int .i64 x, .int .i64 d, .int .i64 s] 23)) := (Below.refl _ _).alloc (Nat.le_refl _) _
  have hz : (w.alloc (.cells #[.int .i64 m, .int .i64 x, .int .i64 d, .int .i64 s] 23)).heap.size = w.heap.size + 1 := by simp
  have BD : Hid (∀ (W : World) (q : Nat), Below (w.heap.size + 1) (w.alloc (.cells #[.int .i64 m, .int .i64 x, .int .i64 d, .int .i64 s] 23)) W → numRow W q #[.pointer (some ⟨w.heap.size, 0, none⟩), .int .i64 8, .int .i64 0, .int .i64 16384, .pointer (some ⟨w.heap.size, 1, none⟩), .int .i64 8, .int .i64 0, .int .i64 2147483647, .pointer (some ⟨w.heap.size, 2, none⟩), .int .i64 4, .int .i64 0, .int .i64 16777215, .pointer (some ⟨w.heap.size, 3, none⟩), .int .i64 4, .int .i64 0, .int .i64 16777215] →
      Calls Try.prog 28 #[.slice (some ⟨q, 0, none⟩) 4 4] W fun e w' => e = .returned (.string ⟨(detB m x d s).toArray⟩) ∧ Below W.heap.size W w') := by
    intro W q hW hr
    refine build_any W q 0 4 4 (detS.zip [m, x, d, s]) (fun _ => w.heap.size) oK (nums_new hr rfl (by omega) (by omega) (fit_zip detS_fit _)) ?_ (zip_bds ?_)
    · intro k hk
      have e0 : W.heap[w.heap.size]? = _ := (hW.block _ (by omega)).trans h1
      have hk' : k < 4 := hk
      rcases (show k = 0 ∨ k = 1 ∨ k = 2 ∨ k = 3 by omega) with rfl | rfl | rfl | rfl
      all_goals exact (cell_of_row W w.heap.size _ _ _ _ e0).trans rfl
    · intro v hv
      simp only [List.mem_cons, List.mem_nil_iff, or_false] at hv
      rcases hv with rfl | rfl | rfl | rfl <;> assumption
  have H0 := Lib.hid hb0
  have HZ := Lib.hid hz
  clear h1 hb0 hz hs1 hm hx hd hs
  go_enter Try.func9, Try.ntmps9
  go_wp2_with (first
    | (go_at_call 32; (with_reducible refine (MP.out).mono ?_); rintro e w1 ⟨q, _, rfl, hr, hb1⟩; rw [HZ.out] at hb1; have HR := Lib.hid hr; clear hr)
    | (go_at_call 28; (with_reducible refine (BD.out w1 q hb1 HR.out).mono ?_); rintro e w2 ⟨rfl, hb2⟩))
  go_ret
  exact ⟨rfl, (H0.out.trans (hb1.mono (by omega))).trans (hb2.mono (Nat.le_trans H0.out.size hb1.size))⟩

set_option maxHeartbeats 400000 in
theorem Slot_any (w : World) (x f i : Int) (hx : i64b x) (hf : i64b f) (hi : i64b i) :
    Calls Try.prog 11 #[.agg #[.int .i64 x, .int .i64 f, .int .i64 i]] w fun e w' => e = .returned (.string ⟨(slotB x f i).toArray⟩) ∧ Below w.heap.size w w' := by
  have hs1 : w.heap.size < (w.alloc (.cells #[.int .i64 x, .int .i64 f, .int .i64 i] 25)).heap.size := by simp
  have MP := Lib.hid (slot_any (w.alloc (.cells #[.int .i64 x, .int .i64 f, .int .i64 i] 25)) w.heap.size hs1)
  have h1 := heap_alloc_new w (.cells #[.int .i64 x, .int .i64 f, .int .i64 i] 25)
  have hb0 : Below w.heap.size w (w.alloc (.cells #[.int .i64 x, .int .i64 f, .int .i64 i] 25)) := (Below.refl _ _).alloc (Nat.le_refl _) _
  have hz : (w.alloc (.cells #[.int .i64 x, .int .i64 f, .int .i64 i] 25)).heap.size = w.heap.size + 1 := by simp
  have BD : Hid (∀ (W : World) (q : Nat), Below (w.heap.size + 1) (w.alloc (.cells #[.int .i64 x, .int .i64 f, .int .i64 i] 25)) W → numRow W q #[.pointer (some ⟨w.heap.size, 0, none⟩), .int .i64 8, .int .i64 1, .int .i64 14399, .pointer (some ⟨w.heap.size, 1, none⟩), .int .i64 4, .int .i64 0, .int .i64 960, .pointer (some ⟨w.heap.size, 2, none⟩), .int .i64 4, .int .i64 0, .int .i64 960] →
      Calls Try.prog 28 #[.slice (some ⟨q, 0, none⟩) 3 3] W fun e w' => e = .returned (.string ⟨(slotB x f i).toArray⟩) ∧ Below W.heap.size W w') := by
    intro W q hW hr
    refine build_any W q 0 3 3 (slotS.zip [x, f, i]) (fun _ => w.heap.size) oK (nums_new hr rfl (by omega) (by omega) (fit_zip slotS_fit _)) ?_ (zip_bds ?_)
    · intro k hk
      have e0 : W.heap[w.heap.size]? = _ := (hW.block _ (by omega)).trans h1
      have hk' : k < 3 := hk
      rcases (show k = 0 ∨ k = 1 ∨ k = 2 by omega) with rfl | rfl | rfl
      all_goals exact (cell_of_row W w.heap.size _ _ _ _ e0).trans rfl
    · intro v hv
      simp only [List.mem_cons, List.mem_nil_iff, or_false] at hv
      rcases hv with rfl | rfl | rfl <;> assumption
  have H0 := Lib.hid hb0
  have HZ := Lib.hid hz
  clear h1 hb0 hz hs1 hx hf hi
  go_enter Try.func11, Try.ntmps11
  go_wp2_with (first
    | (go_at_call 33; (with_reducible refine (MP.out).mono ?_); rintro e w1 ⟨q, _, rfl, hr, hb1⟩; rw [HZ.out] at hb1; have HR := Lib.hid hr; clear hr)
    | (go_at_call 28; (with_reducible refine (BD.out w1 q hb1 HR.out).mono ?_); rintro e w2 ⟨rfl, hb2⟩))
  go_ret
  exact ⟨rfl, (H0.out.trans (hb1.mono (by omega))).trans (hb2.mono (Nat.le_trans H0.out.size hb1.size))⟩

set_option maxHeartbeats 400000 in
theorem Root_any (w : World) (n : Int) (hn : i64b n) :
    Calls Try.prog 13 #[.int .i64 n] w fun e w' => e = .returned (.string ⟨(rootB n).toArray⟩) ∧ Below w.heap.size w w' := by
  have MP := Lib.hid (root_any (w.alloc (.cells #[.int .i64 n] 3)) w.heap.size 0)
  have h1 := heap_alloc_new w (.cells #[.int .i64 n] 3)
  have hb0 : Below w.heap.size w (w.alloc (.cells #[.int .i64 n] 3)) := (Below.refl _ _).alloc (Nat.le_refl _) _
  have hz : (w.alloc (.cells #[.int .i64 n] 3)).heap.size = w.heap.size + 1 := by simp
  have BD : Hid (∀ (W : World), Below (w.heap.size + 1) (w.alloc (.cells #[.int .i64 n] 3)) W → 
      Calls Try.prog 28 #[.slice (some ⟨W.heap.size, 0, none⟩) 1 1] (W.alloc (.cells #[.pointer (some ⟨w.heap.size, 0, none⟩), .int .i64 4, .int .i64 1, .int .i64 14399] 62)) fun e w' => e = .returned (.string ⟨(rootB n).toArray⟩) ∧ Below W.heap.size W w') := by
    intro W hW
    have hWb : Below W.heap.size W (W.alloc (.cells #[.pointer (some ⟨w.heap.size, 0, none⟩), .int .i64 4, .int .i64 1, .int .i64 14399] 62)) := (Below.refl _ _).alloc (Nat.le_refl _) _
    refine (build_any _ W.heap.size 0 1 1 (rootS.zip [n]) (fun _ => w.heap.size) o0 (nums_new (heap_alloc_new W _) rfl (by omega) (by omega) (fit_zip rootS_fit _)) ?_ (zip_bds ?_)).mono fun e w' h => ⟨h.1, hWb.trans (h.2.mono hWb.size)⟩
    · intro k hk
      have hsz := hW.size
      rw [hz] at hsz
      have e0 : (W.alloc (.cells #[.pointer (some ⟨w.heap.size, 0, none⟩), .int .i64 4, .int .i64 1, .int .i64 14399] 62)).heap[w.heap.size]? = _ := (hWb.block _ (by omega)).trans ((hW.block _ (by omega)).trans h1)
      have hk' : k < 1 := hk
      obtain rfl : k = 0 := by omega
      exact (cell_of_row _ w.heap.size _ _ _ _ e0).trans rfl
    · intro v hv
      simp only [List.mem_cons, List.mem_nil_iff, or_false] at hv
      subst hv
      exact hn
  have H0 := Lib.hid hb0
  have HZ := Lib.hid hz
  clear h1 hb0 hz hn
  go_enter Try.func13, Try.ntmps13
  go_wp2_with (first
    | (go_at_call 34; (with_reducible refine (MP.out).mono ?_); rintro e w1 ⟨rfl, hb1⟩; rw [HZ.out] at hb1)
    | (go_at_call 28; (with_reducible refine (BD.out w1 hb1).mono ?_); rintro e w2 ⟨rfl, hb2⟩))
  go_ret
  exact ⟨rfl, (H0.out.trans (hb1.mono (by omega))).trans (hb2.mono (Nat.le_trans H0.out.size hb1.size))⟩

set_option maxHeartbeats 400000 in
theorem Count_any (w : World) (n : Int) (hn : i64b n) :
    Calls Try.prog 15 #[.int .i64 n] w fun e w' => e = .returned (.string ⟨(countB n).toArray⟩) ∧ Below w.heap.size w w' := by
  have MP := Lib.hid (count_any (w.alloc (.cells #[.int .i64 n] 3)) w.heap.size 0)
  have h1 := heap_alloc_new w (.cells #[.int .i64 n] 3)
  have hb0 : Below w.heap.size w (w.alloc (.cells #[.int .i64 n] 3)) := (Below.refl _ _).alloc (Nat.le_refl _) _
  have hz : (w.alloc (.cells #[.int .i64 n] 3)).heap.size = w.heap.size + 1 := by simp
  have BD : Hid (∀ (W : World), Below (w.heap.size + 1) (w.alloc (.cells #[.int .i64 n] 3)) W → 
      Calls Try.prog 28 #[.slice (some ⟨W.heap.size, 0, none⟩) 1 1] (W.alloc (.cells #[.pointer (some ⟨w.heap.size, 0, none⟩), .int .i64 4, .int .i64 3, .int .i64 2147483647] 62)) fun e w' => e = .returned (.string ⟨(countB n).toArray⟩) ∧ Below W.heap.size W w') := by
    intro W hW
    have hWb : Below W.heap.size W (W.alloc (.cells #[.pointer (some ⟨w.heap.size, 0, none⟩), .int .i64 4, .int .i64 3, .int .i64 2147483647] 62)) := (Below.refl _ _).alloc (Nat.le_refl _) _
    refine (build_any _ W.heap.size 0 1 1 (countS.zip [n]) (fun _ => w.heap.size) o0 (nums_new (heap_alloc_new W _) rfl (by omega) (by omega) (fit_zip countS_fit _)) ?_ (zip_bds ?_)).mono fun e w' h => ⟨h.1, hWb.trans (h.2.mono hWb.size)⟩
    · intro k hk
      have hsz := hW.size
      rw [hz] at hsz
      have e0 : (W.alloc (.cells #[.pointer (some ⟨w.heap.size, 0, none⟩), .int .i64 4, .int .i64 3, .int .i64 2147483647] 62)).heap[w.heap.size]? = _ := (hWb.block _ (by omega)).trans ((hW.block _ (by omega)).trans h1)
      have hk' : k < 1 := hk
      obtain rfl : k = 0 := by omega
      exact (cell_of_row _ w.heap.size _ _ _ _ e0).trans rfl
    · intro v hv
      simp only [List.mem_cons, List.mem_nil_iff, or_false] at hv
      subst hv
      exact hn
  have H0 := Lib.hid hb0
  have HZ := Lib.hid hz
  clear h1 hb0 hz hn
  go_enter Try.func15, Try.ntmps15
  go_wp2_with (first
    | (go_at_call 35; (with_reducible refine (MP.out).mono ?_); rintro e w1 ⟨rfl, hb1⟩; rw [HZ.out] at hb1)
    | (go_at_call 28; (with_reducible refine (BD.out w1 hb1).mono ?_); rintro e w2 ⟨rfl, hb2⟩))
  go_ret
  exact ⟨rfl, (H0.out.trans (hb1.mono (by omega))).trans (hb2.mono (Nat.le_trans H0.out.size hb1.size))⟩

end Go.Proofs.Ytebcbaejpebpfab
