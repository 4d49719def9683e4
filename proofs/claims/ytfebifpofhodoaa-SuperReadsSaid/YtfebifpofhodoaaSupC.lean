/-
  Layer 6's Put: the action that gathers the fields.
-/
import Derived.Test.YtfebifpofhodoaaSupB
import Derived.Test.YtfebifpofhodoaaMemG
import Derived.Test.YtfebifpofhodoaaCodeH
namespace Go.Proofs.Ytfebifpofhodoaa
open Go.RowKit
set_option linter.unusedVariables false
set_option linter.unusedSimpArgs false

theorem info_fld : (Try.prog.info? 39).map (fun i => (i.zero, i.size, i.bytes)) = some (some (.agg #[.int .i64 0, .int .i64 0]), 2, 16) := by kernel_rfl

theorem below_of_own {B : Nat} {w w' : World} {r : Option Nat} (h : w.grownBy w' r) (hB : B ≤ w.heap.size) (hr : ∀ k, r = some k → B ≤ k) : Below B w w' :=
  ⟨h.os, h.tape, h.output, h.size, fun k hk => h.block k (by omega) (fun e => by have := hr k e.symm; omega)⟩

/-- the action adds one field -/
structure Added (W W' : World) (B q n : Nat) (l : List (Int × Int)) : Prop where
  bel : Below B W W'
  ptr : Ptrs W W'
  own : ∃ A c, W'.heap[q]? = some (.cells #[.slice A n c] 40 (0, 0)) ∧ W'.ownsRow B 39 2 (.slice A n c) n (flds l)

theorem added_end {w w2 : World} {B q n : Nat} {A A2 : Option Addr} {m c c2 : Nat} {l : List (Int × Int)} {x : Int} {v2 : Value} (hBq : B ≤ q) (hq : w2.heap[q]? = some (.cells #[.slice A m c] 40 (0, 0))) (hp : Ptrs w w2) (hb : Below B w w2)
    (ho : w2.ownsRow B 39 2 v2 n (flds l ++ [.int .i64 4, .int .i64 x])) (hv : v2 = .slice A2 n c2) : Added w (w2.setCell ⟨q, 0, none⟩ (.slice A2 n c2)) B q n (l ++ [(4, x)]) := by
  subst hv
  refine ⟨hb.setCell (p := ⟨q, 0, none⟩) hBq _, hp.trans (Ptrs.set hq (by decide) 0 _), A2, c2, one_setCell hq, ?_⟩
  have e : flds (l ++ [(4, x)]) = flds l ++ [.int .i64 4, .int .i64 x] := by simp [flds]
  rw [e]
  refine ownsRow_setCell_other ho (a := ⟨q, 0, none⟩) (fun e => ?_) _
  obtain ⟨_, cur, hc⟩ := own_apartS ho q e
  rw [hq] at hc
  injection hc with hc
  injection hc with _ h2 _
  exact absurd h2 (by decide)

set_option maxHeartbeats 800000 in
theorem pact_any (w : World) (p k q B : Nat) (x lo hi : Int) (A : Option Addr) (c n : Nat) (l : List (Int × Int)) (hx : w.cell? ⟨p, k, none⟩ = some (.int .i64 x)) (hl : l.length = n)
    (hq : w.heap[q]? = some (.cells #[.slice A n c] 40 (0, 0))) (ho : w.ownsRow B 39 2 (.slice A n c) n (flds l)) (hBq : B ≤ q) (hB : B ≤ w.heap.size) (hn : n ≤ 100) :
    Calls Try.prog 14 #[.pointer (some ⟨p, k, none⟩), .int .i64 lo, .int .i64 hi, .pointer (some ⟨q, 0, none⟩)] w fun e w' => e = .returned (.tuple #[]) ∧ Added w w' B q (n + 1) (l ++ [(4, x)]) := by
  have hc : w.cell? ⟨q, 0, none⟩ = some (.slice A n c) := by rw [cell_of_row w q 0 _ _ _ hq]; rfl
  have hfl : (l ++ [(4, x)]).length = n + 1 := by simp [hl]
  have HO := Lib.hid (fun W (hb : Below w.heap.size w W) => own_keptS ho (fun k h1 h2 => hb.block k h2))
  have HA := Lib.hid (own_apartS ho)
  have HQ := Lib.hid hq
  have HL := Lib.hid hl
  have HF := Lib.hid hfl
  have HW := Lib.hid (fun W (h : Below w.heap.size w W) => (h.block q (block_lt hq)).trans hq)
  have hcA : (w.alloc (.cells #[.int .i64 4, .int .i64 x] 39)).cell? ⟨q, 0, none⟩ = some (.slice A n c) := by
    rw [cell_of_row _ q 0 _ _ _ (HW.out _ ((Below.refl _ _).alloc (Nat.le_refl _) _))]; rfl
  clear ho hq hl hfl
  go_enter Try.func14, Try.ntmps14
  go_wp2
  go_region_law (first
    | (refine step_append_rowG _ rfl (.tmp 7) (.tmp 12) 40 rfl B 39 2 _ 16 Try.underlying40 info_fld rfl (by omega) (.slice A n c) n (flds l) rfl (HO.out _ (((Below.refl _ _).alloc (Nat.le_refl _) _).drew)) (by simp; omega) ⟨w.heap.size, 0, none⟩ [.int .i64 4, .int .i64 x] 1 1 rfl rfl (Row.of_block (t := 39) (fr := (0, 0)) (heap_alloc_new w _)) (by simp [Value.oneCell']) (by omega) (by omega) ?_
       intro v2 w2 hown2 hg2
       have hb1 : Below w.heap.size w (w.alloc (.cells #[.int .i64 4, .int .i64 x] 39)).drew := ((Below.refl _ _).alloc (Nat.le_refl _) _).drew
       have hne : ∀ k, (Value.slice A n c).ownBlock = some k → B ≤ k ∧ ∃ cur, w.heap[k]? = some (.cells cur 39 (0, 0)) := HA.out
       have hq2 := (hg2.out.block q (Nat.lt_of_lt_of_le (block_lt HQ.out) hb1.size) (fun e => by
         obtain ⟨_, cur, hcur⟩ := hne q e.symm
         have h3 := HQ.out
         rw [hcur] at h3
         injection h3 with h3
         injection h3 with _ h4 _
         exact absurd h4 (by decide))).trans (HW.out _ hb1)
       have HQ2 := Lib.hid hq2
       have HP2 : Hid (Ptrs w w2) := fun g cs fr e => by
         by_cases hgo : (Value.slice A n c).ownBlock = some g
         · obtain ⟨_, cur, hcur⟩ := hne g hgo
           rw [hcur] at e
           injection e with e
           injection e with _ e2 _
           exact absurd e2 (by decide)
         · have hlt := block_lt e
           exact (hg2.out.block g (Nat.lt_of_lt_of_le hlt hb1.size) (fun e2 => hgo e2.symm)).trans ((hb1.block g hlt).trans e)
       have HB2 : Hid (Below B w w2) := (hb1.mono hB).trans (below_of_own hg2.out (Nat.le_trans hB hb1.size) (fun k hk => (hne k hk).1))
       have hc2 : w2.cell? ⟨q, 0, none⟩ = some (.slice A n c) := by rw [cell_of_row w2 q 0 _ _ _ hq2]; rfl
       have hf2 := Lib.frozen_of_heap hq2 0
       clear hb1 hne hq2
       obtain ⟨A2, c2, hv2, h62, h63⟩ := ownsRow_form hown2.out
       rw [hv2]))
  all_goals go_wp2
  all_goals go_end0
  all_goals exact ⟨rfl, added_end hBq HQ2.out HP2.out HB2.out hown2.out hv2⟩

/-- the fields with their widths: the version, and the first k -/
def fl (f : Nat → Int) : Nat → List (Int × Int)
  | 0 => [(4, 1)]
  | k + 1 => fl f k ++ [(4, f k)]
theorem fl_length (f : Nat → Int) (k : Nat) : (fl f k).length = k + 1 := by
  induction k with
  | zero => rfl
  | succ k ih => simp [fl, ih]

/-- what Put's action keeps -/
structure PutI (w0 w : World) (p q B : Nat) (f : Nat → Int) (k : Nat) : Prop where
  bel : Below w0.heap.size w0 w
  sup : SupAt w p f
  low : B ≤ w.heap.size
  own : ∃ A c, w.heap[q]? = some (.cells #[.slice A (k + 1) c] 40 (0, 0)) ∧ w.ownsRow B 39 2 (.slice A (k + 1) c) (k + 1) (flds (fl f k))

theorem callF14 (args : Array Value) (W : World) : (callFunc 14 args).run Try.prog W = .ok (.enter 14 args) W := by kernel_rfl

theorem put_visit {w0 w : World} {p q B : Nat} {f : Nat → Int} (h0 : w0.heap.size ≤ B) (hBq : B ≤ q) (hpB : p < B) (h : PutI w0 w p q B f 0) :
    Calls Try.prog 13 #[.pointer (some ⟨p, 0, none⟩), .func (.func 14) #[] #[.pointer (some ⟨q, 0, none⟩)]] w fun e w' => e = .returned (.tuple #[]) ∧ PutI w0 w' p q B f 11 := by
  refine visit_any w p 14 (.pointer (some ⟨q, 0, none⟩)) (f 4) callF14 (fun k W => PutI w0 W p q B f k) (fun k W _ hI => hI.sup.cell (by omega)) ?_ ?_ h
  · intro k W W' hI hb
    obtain ⟨A, c, h1, h2⟩ := hI.own
    exact ⟨hI.bel.trans (hb.mono hI.bel.size), (hb.block p (block_lt hI.sup)).trans hI.sup, Nat.le_trans hI.low hb.size, A, c, (hb.block q (block_lt h1)).trans h1, own_keptS h2 (fun k _ hk => hb.block k hk)⟩
  · intro k W hk hI
    obtain ⟨A, c, h1, h2⟩ := hI.own
    refine (pact_any W p k q B (f k) _ _ A c (k + 1) (fl f k) (hI.sup.cell hk) (fl_length f k) h1 h2 hBq hI.low (by omega)).mono ?_
    rintro e W' ⟨rfl, hA⟩
    refine ⟨rfl, ⟨hI.bel.trans (hA.bel.mono h0), (hA.bel.block p hpB).trans hI.sup, Nat.le_trans hI.low hA.bel.size, hA.own⟩, hA.ptr⟩

end Go.Proofs.Ytfebifpofhodoaa
