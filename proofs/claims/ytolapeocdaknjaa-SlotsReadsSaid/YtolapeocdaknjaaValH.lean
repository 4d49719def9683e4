/-
  Layer 8's ReadDetail, ReadSlot.
-/
import Derived.Test.YtolapeocdaknjaaValG
namespace Go.Proofs.Ytolapeocdaknjaa
open Go.RowKit
set_option linter.unusedVariables false
set_option linter.unusedSimpArgs false

theorem below_Det {B g : Nat} {w0 w : World} (h : Below B w0 w) (hg : B ≤ g) (v0 v1 v2 v3 : Value) : Below B w0 ((((w.setCell ⟨g, 0, none⟩ v0).setCell ⟨g, 1, none⟩ v1).setCell ⟨g, 2, none⟩ v2).setCell ⟨g, 3, none⟩ v3) := ((((h.setCell (p := ⟨g, 0, none⟩) hg _).setCell (p := ⟨g, 1, none⟩) hg _).setCell (p := ⟨g, 2, none⟩) hg _).setCell (p := ⟨g, 3, none⟩) hg _)

def SltAt (w : World) (g : Nat) (a b c : Int) : Prop := w.heap[g]? = some (.cells #[.int .i64 a, .int .i64 b, .int .i64 c] 38 (0, 0))
theorem SltAt.facts {w : World} {g : Nat} {a b c : Int} (h : SltAt w g a b c) : w.cell? ⟨g, 0, none⟩ = some (.int .i64 a) ∧ w.cell? ⟨g, 1, none⟩ = some (.int .i64 b) ∧ w.cell? ⟨g, 2, none⟩ = some (.int .i64 c) := by
  refine ⟨?_, ?_, ?_⟩
  · rw [cell_of_row w g 0 _ _ _ h]; rfl
  · rw [cell_of_row w g 1 _ _ _ h]; rfl
  · rw [cell_of_row w g 2 _ _ _ h]; rfl
theorem SltAt.store {w : World} {g : Nat} {a b c : Int} (h : SltAt w g a b c) (a' b' c' : Int) : SltAt (((w.setCell ⟨g, 0, none⟩ (.int .i64 a')).setCell ⟨g, 1, none⟩ (.int .i64 b')).setCell ⟨g, 2, none⟩ (.int .i64 c')) g a' b' c' := by
  unfold SltAt
  rw [(heap_setCell_same _ g 2 _ _ _ (heap_setCell_same _ g 1 _ _ _ (heap_setCell_same _ g 0 _ _ _ h)))]
  rfl
theorem results_Slt {fn : Func} {p u : Tmp} (h : fn.results = #[.cell p 38, .tmp u]) (tmps : Array Value) (w : World) (g : Nat) (a b c : Int)
    (hp : tmps.getD p undef = .pointer (some ⟨g, 0, none⟩)) (hg : SltAt w g a b c) : (results fn tmps).run Try.prog w = .ok (.tuple #[.agg #[.int .i64 a, .int .i64 b, .int .i64 c], tmps.getD u undef]) w := by
  rw [results_cell_tmp h, hp]
  simp [asAddr, run_loadVar_row w g _ _ _ _ _ hg Try.underlying38 rfl (by kernel_rfl), Result.andThen]
theorem below_Slt {B g : Nat} {w0 w : World} (h : Below B w0 w) (hg : B ≤ g) (v0 v1 v2 : Value) : Below B w0 (((w.setCell ⟨g, 0, none⟩ v0).setCell ⟨g, 1, none⟩ v1).setCell ⟨g, 2, none⟩ v2) := (((h.setCell (p := ⟨g, 0, none⟩) hg _).setCell (p := ⟨g, 1, none⟩) hg _).setCell (p := ⟨g, 2, none⟩) hg _)

set_option maxHeartbeats 800000 in
theorem ReadSlot_any (w : World) (s : List UInt8) (hs : s.length ≤ 1000) :
    Calls Try.prog 31 #[.string ⟨s.toArray⟩] w fun e w' => e = .returned (.tuple #[.agg #[.int .i64 (rdV s slotS 0), .int .i64 (rdV s slotS 1), .int .i64 (rdV s slotS 2)], .int .i64 (rdE s slotS)]) ∧ Below w.heap.size w w' := by
  obtain ⟨h1, h2, h3⟩ := two_new8 w (.cells #[.int .i64 0, .int .i64 0, .int .i64 0] 38) (.cells #[.int .i64 0, .int .i64 0, .int .i64 0] 38)
  have hz : ((w.alloc (.cells #[.int .i64 0, .int .i64 0, .int .i64 0] 38)).alloc (.cells #[.int .i64 0, .int .i64 0, .int .i64 0] 38)).heap.size = w.heap.size + 2 := by simp
  have MP := Lib.hid (slot_any ((w.alloc (.cells #[.int .i64 0, .int .i64 0, .int .i64 0] 38)).alloc (.cells #[.int .i64 0, .int .i64 0, .int .i64 0] 38)) (w.heap.size + 1) (by rw [hz]; omega))
  have RD : Hid (∀ (W : World) (q : Nat), ((w.alloc (.cells #[.int .i64 0, .int .i64 0, .int .i64 0] 38)).alloc (.cells #[.int .i64 0, .int .i64 0, .int .i64 0] 38)).heap.size ≤ q → Below (w.heap.size + 2) ((w.alloc (.cells #[.int .i64 0, .int .i64 0, .int .i64 0] 38)).alloc (.cells #[.int .i64 0, .int .i64 0, .int .i64 0] 38)) W → numRow W q #[.pointer (some ⟨w.heap.size + 1, 0, none⟩), .int .i64 8, .int .i64 1, .int .i64 14399, .pointer (some ⟨w.heap.size + 1, 1, none⟩), .int .i64 4, .int .i64 0, .int .i64 960, .pointer (some ⟨w.heap.size + 1, 2, none⟩), .int .i64 4, .int .i64 0, .int .i64 960] →
      Calls Try.prog 37 #[.string ⟨s.toArray⟩, .slice (some ⟨q, 0, none⟩) 3 3] W fun e w' => e = .returned (.int .i64 (rdE s slotS)) ∧ Below w.heap.size w w' ∧ SltAt w' w.heap.size 0 0 0 ∧ w'.cell? ⟨w.heap.size + 1, 0, none⟩ = some (.int .i64 (rdV s slotS 0)) ∧ w'.cell? ⟨w.heap.size + 1, 1, none⟩ = some (.int .i64 (rdV s slotS 1)) ∧ w'.cell? ⟨w.heap.size + 1, 2, none⟩ = some (.int .i64 (rdV s slotS 2))) := by
    intro W q hq hW hr
    rw [hz] at hq
    have hWs := hW.size
    rw [hz] at hWs
    have e1 : SltAt W (w.heap.size + 1) 0 0 0 := (hW.block _ (by omega)).trans h2
    have e0 : SltAt W w.heap.size 0 0 0 := (hW.block _ (by omega)).trans h1
    have hT : TgtAt W 3 (fun _ => w.heap.size + 1) oK := ⟨fun k hk => ⟨_, _, e1, hk⟩, fun i j hij hj h => by
        have : i = j := congrArg Addr.off h
        omega⟩
    refine (read_zero W s hs q 3 slotS rfl (by omega) (by omega) slotS_fit (fun _ => w.heap.size + 1) oK hr hT ?_ ?_).mono ?_
    · intro k hk; simp; omega
    · intro k hk
      obtain ⟨y0, y1, y2⟩ := e1.facts
      rcases (show k = 0 ∨ k = 1 ∨ k = 2 by omega) with rfl | rfl | rfl <;> assumption
    · rintro e w' ⟨rfl, hF, hv⟩
      refine ⟨rfl, hF.below (h3.trans (hW.mono (by omega))) ?_, (hF.block w.heap.size (by omega) ?_).trans e0, hv 0 (by omega), hv 1 (by omega), hv 2 (by omega)⟩
      · rintro x ⟨k, hk, rfl⟩
        simp
      · rintro ⟨k, hk, e⟩
        simp at e
  have HZ := Lib.hid hz
  clear h1 h2 h3 hz hs
  generalize rdE s slotS = er at *
  generalize rdV s slotS 0 = q0 at *
  generalize rdV s slotS 1 = q1 at *
  generalize rdV s slotS 2 = q2 at *
  go_enter Try.func31, Try.ntmps31
  go_wp2_with (first
    | (go_at_call 27; (with_reducible refine (MP.out).mono ?_); rintro e w1 ⟨q, hq, rfl, hr, hb1⟩; rw [HZ.out] at hb1; have HQ := Lib.hid hq; have HR := Lib.hid hr; clear hq hr)
    | (go_at_call 37; (with_reducible refine (RD.out w1 q HQ.out hb1 HR.out).mono ?_); rintro e w2 ⟨rfl, hb2, hz0, c0, c1, c2⟩; have HZ0 := Lib.hid hz0; obtain ⟨z0, z1, z2⟩ := hz0.facts; have y0 := Lib.frozen_of_heap hz0 0; have y1 := Lib.frozen_of_heap hz0 1; have y2 := Lib.frozen_of_heap hz0 2; clear hz0))
  refine bodyPost_ret (results_Slt Try.results31 _ _ w.heap.size q0 q1 q2 rfl (HZ0.out.store _ _ _)) rfl ?_
  exact ⟨rfl, below_Slt hb2 (Nat.le_refl _) _ _ _⟩

end Go.Proofs.Ytolapeocdaknjaa
