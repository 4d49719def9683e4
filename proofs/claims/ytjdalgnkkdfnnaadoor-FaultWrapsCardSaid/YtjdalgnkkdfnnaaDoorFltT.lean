/-
  The reference's At.
-/
import Derived.Test.YtjdalgnkkdfnnaaDoorFltLawD
import Derived.Deep.RegionHeld3
import Derived.Deep.RegionLaw
namespace Go.Proofs.YtjdalgnkkdfnnaaDoor
open Go.RowKit
set_option linter.unusedVariables false
set_option linter.unusedSimpArgs false

set_option maxRecDepth 100000 in
theorem refAt_nil (b : Int) (A : Option Addr) (n c : Nat) (w : World) :
    Calls Tryd.prog 15 #[.int .i64 b, .agg #[.slice A n c, .int .i64 0]] w fun e w' => e = .returned (.agg #[.slice none 0 0, .int .i64 0]) ∧ Below w.heap.size w w' := by
  have b1 : Below w.heap.size w (w.alloc (.cells #[.slice A n c, .int .i64 0] 24)) := (Below.refl _ _).alloc (Nat.le_refl _) _
  have h1 := (MapKept.heap_alloc (w.alloc (.cells #[.slice A n c, .int .i64 0] 24)) (.cells #[.slice none 0 0, .int .i64 0] 24)).1
  have hs : (w.alloc (.cells #[.slice A n c, .int .i64 0] 24)).heap.size = w.heap.size + 1 := by simp
  rw [hs] at h1
  have H1 := Lib.hid h1
  have B1 := Lib.hid b1
  clear h1 b1 hs
  go_enter Tryd.func15, Tryd.ntmps15
  go_wp2
  refine bodyPost_ret (results_rf Tryd.results15 _ _ (w.heap.size + 1) (.slice none 0 0) (.int .i64 0) rfl H1.out) rfl ?_
  exact ⟨rfl, B1.out.alloc B1.out.size _⟩

theorem own_one (w W : World) (b : Int) (h : Below (w.heap.size + 1) (w.alloc (.cells #[.int .i64 b] 3)) W) : Hid (W.ownsRow w.heap.size 3 1 (.slice (some ⟨w.heap.size, 0, none⟩) 1 1) 1 [.int .i64 b]) :=
  ⟨rfl, .inr ⟨w.heap.size, 1, #[.int .i64 b], rfl, Nat.le_refl _, (h.block _ (by omega)).trans (MapKept.heap_alloc w _).1, Nat.le_refl _, by decide, rfl, rfl⟩⟩

set_option maxRecDepth 100000 in
set_option maxHeartbeats 4000000 in
theorem refAt_err (b : Int) {A : Option Addr} {n c : Nat} {bs : List Int} {code : Int} (hc : code ≠ 0) (w : World) (hI : Ints w A n c bs) (hn : n ≤ 300) :
    Calls Tryd.prog 15 #[.int .i64 b, .agg #[.slice A n c, .int .i64 code]] w fun e w' => ∃ A2 c2, e = .returned (.agg #[.slice A2 (n + 1) c2, .int .i64 code]) ∧ Ints w' A2 (n + 1) c2 (b :: bs) ∧ Below w.heap.size w w' := by
  have hcb : (code == 0) = false := by simpa using hc
  have hle := hI.le
  have HI := Lib.hid hI
  clear hI hc
  go_enter Tryd.func15, Tryd.ntmps15
  have b1 : Below w.heap.size w (w.alloc (.cells #[.slice A n c, .int .i64 code] 24)) := (Below.refl _ _).alloc (Nat.le_refl _) _
  have b2 : Below w.heap.size w ((w.alloc (.cells #[.slice A n c, .int .i64 code] 24)).alloc (.cells #[.slice none 0 0, .int .i64 0] 24)) := b1.alloc b1.size _
  have hs : (w.alloc (.cells #[.slice A n c, .int .i64 code] 24)).heap.size = w.heap.size + 1 := by simp
  have h0 : ((w.alloc (.cells #[.slice A n c, .int .i64 code] 24)).alloc (.cells #[.slice none 0 0, .int .i64 0] 24)).heap[w.heap.size]? = some (.cells #[.slice A n c, .int .i64 code] 24 (0, 0)) := (Below.heap_alloc _ _ _ (by omega)).trans (MapKept.heap_alloc w _).1
  have h1 := (MapKept.heap_alloc (w.alloc (.cells #[.slice A n c, .int .i64 code] 24)) (.cells #[.slice none 0 0, .int .i64 0] 24)).1
  rw [hs] at h1
  have hsz : ((w.alloc (.cells #[.slice A n c, .int .i64 code] 24)).alloc (.cells #[.slice none 0 0, .int .i64 0] 24)).heap.size = w.heap.size + 2 := by simp
  have H0 := Lib.hid h0
  have H1 := Lib.hid h1
  have B2 := Lib.hid b2
  have HSz := Lib.hid hsz
  have OWN := Lib.hid (fun W => own_one ((w.alloc (.cells #[.slice A n c, .int .i64 code] 24)).alloc (.cells #[.slice none 0 0, .int .i64 0] 24)) W b)
  rw [hsz] at OWN
  have hRw : Hid (∀ W, Below w.heap.size w W → Row W A (i64s bs)) := fun W h => (HI.out.below h).row
  have hBA := Lib.hid (((Below.refl (w.heap.size + 2) ((w.alloc (.cells #[.slice A n c, .int .i64 code] 24)).alloc (.cells #[.slice none 0 0, .int .i64 0] 24))).alloc (by omega) (.cells #[.int .i64 b] 3)).drew)
  clear h0 h1 b1 b2 hs hsz
  go_wp2
  go_region_law (first
    | (refine step_append_row _ rfl (.tmp 10) (.tmp 12) 22 rfl (w.heap.size + 2) 3 (.int .i64 0) 8 Tryd.underlying22 info_i64 rfl (.slice (some ⟨w.heap.size + 2, 0, none⟩) 1 1) 1 [.int .i64 b] rfl (OWN.out _ (Below.refl _ _).drew) (by simp) A (i64s bs) n c rfl (by rw [i64s_length]; exact HI.out.len) (hRw.out _ ((B2.out.alloc B2.out.size _).drew)) (i64s_one _) (by omega) (by omega) ?_
       intro v2 w2 hown2 hs2 hb2
       rw [Nat.add_comm 1 n] at hown2
       have hb3 := hBA.out.trans hb2
       have hp0 := (hb3.block w.heap.size (by omega)).trans H0.out
       have hp1 := (hb3.block (w.heap.size + 1) (by omega)).trans H1.out
       have HP1 := Lib.hid hp1
       have HB3 := Lib.hid (B2.out.trans (hb3.mono (by omega)))
       have k1 : w2.cell? ⟨w.heap.size, 1, none⟩ = some (.int .i64 code) := by rw [cell_of_row w2 w.heap.size 1 _ _ _ hp0]; rfl
       have k2 : w2.cell? ⟨w.heap.size + 1, 0, none⟩ = some (.slice none 0 0) := by rw [cell_of_row w2 (w.heap.size + 1) 0 _ _ _ hp1]; rfl
       have k3 : w2.cell? ⟨w.heap.size + 1, 1, none⟩ = some (.int .i64 0) := by rw [cell_of_row w2 (w.heap.size + 1) 1 _ _ _ hp1]; rfl
       have f0 := Lib.frozen_of_heap hp1 0
       have f1 := Lib.frozen_of_heap hp1 1
       clear hb2 hb3 hp0 hp1
       obtain ⟨A2, c2, hv2, h62, h63⟩ := ownsRow_form hown2.out
       rw [hv2]))
  all_goals go_wp2
  all_goals
    refine bodyPost_ret (results_rf Tryd.results15 _ _ (w.heap.size + 1) (.slice A2 (n + 1) c2) (.int .i64 code) rfl (two_sets HP1.out)) rfl ?_
    have ho : w2.ownsRow (w.heap.size + 2) 3 1 (.slice A2 (n + 1) c2) (n + 1) (i64s (b :: bs)) := by
      have := hown2.out
      rw [hv2] at this
      exact this
    obtain ⟨A3, c3, he, hI⟩ := Ints.of_own ho
    injection he with e1 e2 e3
    subst e1 e3
    refine ⟨A2, c2, rfl, hI.kept2 fun ad e => ?_, (HB3.out.setCell (p := ⟨w.heap.size + 1, 0, none⟩) (by simp) _).setCell (p := ⟨w.heap.size + 1, 1, none⟩) (by simp) _⟩
    have := (own_apart ho ad.block (by rw [e]; rfl)).1
    omega
end Go.Proofs.YtjdalgnkkdfnnaaDoor
