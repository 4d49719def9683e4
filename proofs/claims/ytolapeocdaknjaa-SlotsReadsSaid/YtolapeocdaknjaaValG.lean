/-
  Layer 8's ReadMap, ReadDetail, ReadSlot, ReadRoot, ReadCount.
-/
import Derived.Test.YtolapeocdaknjaaValF
import Derived.Test.YtolapeocdaknjaaValD
import Derived.Laws.ResultCell
import Derived.OwnWalk
namespace Go.Proofs.Ytolapeocdaknjaa
open Go.RowKit
set_option linter.unusedVariables false
set_option linter.unusedSimpArgs false

/-- the number k of what is read; 0 with an error -/
def rdV (s : List UInt8) (ns : List NumS) (k : Nat) : Int := if rdE s ns = 0 then (psI s ns).getD k 0 else 0

theorem rdL_snd {s : List UInt8} {ns : List NumS} {k : Nat} (h : k < (rdL s ns).length) : (rdL s ns)[k].2 = (psI s ns).getD k 0 := by
  rw [← psI_rdL, List.getD_eq_getElem?_getD, List.getElem?_map, List.getElem?_eq_getElem h]
  rfl

theorem read_zero (w : World) (s : List UInt8) (hs : s.length ≤ 1000) (q n : Nat) (ns : List NumS) (hl : ns.length = n) (h0 : 0 < n) (hn : n ≤ 100) (hf : ∀ p ∈ ns, fitN p) (g o : Nat → Nat) (h : numRow w q (numC g o (rdL s ns) 0).toArray) (ht : TgtAt w n g o) (hgb : ∀ k, k < n → g k ≠ q)
    (hz : ∀ k, k < n → w.cell? ⟨g k, o k, none⟩ = some (.int .i64 0)) :
    Calls Try.prog 37 #[.string ⟨s.toArray⟩, .slice (some ⟨q, 0, none⟩) n n] w fun e w' => e = .returned (.int .i64 (rdE s ns)) ∧ Frm (tgtG n g) w w' ∧ ∀ k, k < n → w'.cell? ⟨g k, o k, none⟩ = some (.int .i64 (rdV s ns k)) := by
  refine (read_any w s hs q 0 n n ns g o (nums_new h (by rw [rdL_length]; exact hl) h0 hn (fit_zip hf _)) ht hgb).mono ?_
  rintro e w' ⟨rfl, hF, h1, h2⟩
  refine ⟨rfl, hF, fun k hk => ?_⟩
  by_cases he : rdE s ns = 0
  · have hkl : k < (rdL s ns).length := by rw [rdL_length]; omega
    rw [rdV, if_pos he, ← rdL_snd hkl]
    exact h2 he k hkl
  · rw [rdV, if_neg he]
    have hc := hz k hk
    exact ((h1 he).cell (p := ⟨g k, o k, none⟩) (cell_lt hc)).trans hc

/-! ### one integer in a variable -/
def IntVar (w : World) (g : Nat) (x : Int) : Prop := w.heap[g]? = some (.cells #[.int .i64 x] 3 (0, 0))
theorem IntVar.cell {w : World} {g : Nat} {x : Int} (h : IntVar w g x) : w.cell? ⟨g, 0, none⟩ = some (.int .i64 x) := by rw [cell_of_row w g 0 _ _ _ h]; rfl

end Go.Proofs.Ytolapeocdaknjaa
