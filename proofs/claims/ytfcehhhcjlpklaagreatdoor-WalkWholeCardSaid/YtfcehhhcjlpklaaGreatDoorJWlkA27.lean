/-
  Joined: SpnC, SpnD, SpnE, SpnF.
-/
import Derived.RangeFuncBox
import Derived.RangeFuncLeaves
import Derived.RangeFuncCalls
import Derived.Shelf.Abstract
import Derived.OwnWalkIn
import Derived.TacticsInMore
import Derived.LoopNIn
import Derived.LoopIn
import Derived.Test.YtfcehhhcjlpklaaGreatDoorJWlkA25
import Derived.RangeFuncNested
import Derived.Maps.AppendAt
import Derived.Test.YtfcehhhcjlpklaaGreatDoorJWlkA03
/-
  Layer 13: the iterator over the indices and the spans of children.
-/
namespace Go.Proofs.YtfcehhhcjlpklaaGreatDoor
open Go.RowKit Go.Shelf
set_option linter.unusedVariables false
set_option linter.unusedSimpArgs false
attribute [local go_sem] Oper.semAt_some

/-- what a round is handed: an index, and that child's span -/
def encS13 (hi : Int) (L : List Int) (k : Nat) : Array Value := #[.int .i64 (k : Int), .agg #[.int .i64 (L.getD k 0), .int .i64 (end13 hi L k)]]

/-- what a round keeps: all below n₀, and the two variables of the iterator -/
def KpS13 (n₀ Bc Bs : Nat) (W W' : World) : Prop := Below n₀ W W' ∧ W'.heap[Bc]? = W.heap[Bc]? ∧ W'.heap[Bs]? = W.heap[Bs]?
theorem KpS13.refl (n₀ Bc Bs : Nat) (W : World) : KpS13 n₀ Bc Bs W W := ⟨Below.refl _ _, rfl, rfl⟩
theorem KpS13.trans {n₀ Bc Bs : Nat} {A B C : World} (h : KpS13 n₀ Bc Bs A B) (k : KpS13 n₀ Bc Bs B C) : KpS13 n₀ Bc Bs A C := ⟨h.1.trans k.1, k.2.1.trans h.2.1, k.2.2.trans h.2.2⟩
theorem KpS13.put {n₀ Bc Bs : Nat} {w : World} (hn : n₀ ≤ w.heap.size) (hB : Bc < w.heap.size) (hC : Bs < w.heap.size) (W : World) (l : Nat) (o o' : Obj) (hl : w.heap.size ≤ l) (h : W.heap[l]? = some o) (h1 : o.isCells = false) (h2 : o.isWalk = false) : KpS13 n₀ Bc Bs W (W.putObj l o') :=
  ⟨belowK_b hn W l o o' hl h h1 h2, World.putObj_heap_other (by omega), World.putObj_heap_other (by omega)⟩

set_option maxRecDepth 100000 in
set_option maxHeartbeats 2000000 in
theorem child1_in (l Bc Bs n₀ : Nat) (A : Option Addr) (n c : Nat) (L : List Int) (lo hi : Int) (J Jx : List Nat → World → Prop)
    (hY : ∀ (pre : List Nat) (x : Nat) W, J pre W → pre.length < n → YieldAt Fence.wide 0 Tryz.prog l (encS13 hi L x) W fun e W' =>
      (e = .returned (.bool true) ∧ J (pre ++ [x]) W' ∧ KpS13 n₀ Bc Bs W W') ∨ (e = .returned (.bool false) ∧ Jx (pre ++ [x]) W'))
    (W : World) (hc : Boxed W Bc 26 (.slice A n c)) (hs : SpnAt W Bs lo hi)
    (hI : Ints W A n c L) (hIn : 0 < L.length → ∀ ad, A = some ad → ad.block < n₀) (h0 : J [] W) :
    CallsIn Fence.wide 1 Tryz.prog 120 #[.func (.yield l) #[] #[], .pointer (some ⟨Bc, 0, none⟩), .pointer (some ⟨Bs, 0, none⟩)] W fun e W' => (∃ v, e = .returned v) ∧
      ((∃ ys, ys = List.range n ∧ J ys W') ∨ (∃ pre, (∃ k, k ≤ n ∧ pre = List.range k) ∧ Jx pre W')) := by
  have hlen := hI.len
  have hcap := hI.cap
  have hle := hI.le
  have ROW : Hid (∀ W', Below n₀ W W' → ∀ k, (hk : k < L.length) → ∃ b off, A = some ⟨b, off, none⟩ ∧ W'.cell? ⟨b, off + k, none⟩ = some (.int .i64 L[k])) := fun W' hb k hk => by
    obtain ⟨b, off, e, _, hc⟩ := hI.row.lit (by rw [i64s_length]; omega)
    have := hc k _ (i64s_at L k hk)
    exact ⟨b, off, e, (hb.cell (p := ⟨b, off + k, none⟩) (by exact hIn (by omega) ⟨b, off, Option.none⟩ e)).trans this⟩
  have HY := Lib.hid hY
  have hcc := hc.cell
  have HB : Hid (∀ W', KpS13 n₀ Bc Bs W W' → Boxed W' Bc 26 (.slice A n c) ∧ SpnAt W' Bs lo hi) := fun W' h => ⟨h.2.1.trans hc, h.2.2.trans hs⟩
  clear hI hIn hY hc hs
  refine callsIn_of_wp Tryz.func120 rfl trivial ?_ rfl
  simp only [Tryz.ntmps120, List.size_toArray, List.length_cons, List.length_nil, Nat.reduceAdd, Nat.reduceSub, Array.replicate_succ, Array.replicate_zero, List.push_toArray, List.append_toArray, List.nil_append, List.cons_append]
  gi_wp2
  gi_loopw [9] (fun i wr => ∃ k : Nat, k ≤ n ∧ i = .int .i64 k ∧ Hid (J (List.range k) wr) ∧ Hid (KpS13 n₀ Bc Bs W wr))
    (fun i _ => n - (intOf i).toNat)
  case atStart => exact ⟨0, Nat.zero_le _, rfl, h0, KpS13.refl _ _ _ _⟩
  case round =>
    obtain ⟨k, hk, rfl, hJs, hnx⟩ := hrel
    by_cases hlt : k < n
    · obtain ⟨b, off, hA, hcx⟩ := ROW.out wr hnx.out.1 k (by omega)
      obtain ⟨hb1, hb2⟩ := HB.out wr hnx.out
      have hq0 := hb1.cell
      have hq1 := hb2.c0
      have hq2 := hb2.c1
      have HYk := HY.out (List.range k) k wr hJs.out (by rw [List.length_range]; exact hlt)
      have e0 : L.getD k 0 = L[k]'(by omega) := by rw [List.getD_eq_getElem?_getD, List.getElem?_eq_getElem (by omega)]; rfl
      by_cases hnext : k + 1 < n
      · obtain ⟨b', off', hA', hcy⟩ := ROW.out wr hnx.out.1 (k + 1) (by omega)
        have e1 : end13 hi L k = L[k + 1]'(by omega) := by rw [end13_next (by omega), List.getD_eq_getElem?_getD, List.getElem?_eq_getElem (by omega)]; rfl
        rw [encS13, e0, e1] at HYk
        rw [hA] at hA'
        injection hA' with hA'
        injection hA' with hA1 hA2
        subst hA1; subst hA2
        obtain ⟨fn, tmps, assign, body, hy, hR⟩ := HYk
        clear e0 e1 hb1 hb2
        generalize L[k]'(by omega) = x at *
        generalize L[k + 1]'(by omega) = y at *
        subst hA
        gi_wp2
        refine hR.mono ?_
        rintro e W3 (⟨rfl, hJ3, hk3⟩ | ⟨rfl, hJx3⟩)
        · gi_wp2
          go_roundw
          case rel => exact ⟨k + 1, by omega, by simp, by rw [List.range_succ]; exact hJ3, hnx.out.trans hk3⟩
          case measure => simp [intOf]; omega
        · gi_wp2
          refine bodyPost_ret (results_none rfl _ _ _) rfl ?_
          exact ⟨⟨_, rfl⟩, .inr ⟨_, ⟨k + 1, by omega, List.range_succ.symm⟩, hJx3⟩⟩
      · have e1 : end13 hi L k = hi := end13_last (by omega)
        rw [encS13, e0, e1] at HYk
        obtain ⟨fn, tmps, assign, body, hy, hR⟩ := HYk
        clear e0 e1 hb1 hb2
        generalize L[k]'(by omega) = x at *
        subst hA
        gi_wp2
        refine hR.mono ?_
        rintro e W3 (⟨rfl, hJ3, hk3⟩ | ⟨rfl, hJx3⟩)
        · gi_wp2
          go_roundw
          case rel => exact ⟨k + 1, by omega, by simp, by rw [List.range_succ]; exact hJ3, hnx.out.trans hk3⟩
          case measure => simp [intOf]; omega
        · gi_wp2
          refine bodyPost_ret (results_none rfl _ _ _) rfl ?_
          exact ⟨⟨_, rfl⟩, .inr ⟨_, ⟨k + 1, by omega, List.range_succ.symm⟩, hJx3⟩⟩
    · obtain rfl : k = n := by omega
      gi_wp2
      go_end0
      exact ⟨⟨_, rfl⟩, .inl ⟨_, rfl, hJs.out⟩⟩

theorem child_stops (Bc Bs n₀ : Nat) (A : Option Addr) (n c : Nat) (L : List Int) (lo hi : Int) (w : World) (hn : n₀ ≤ w.heap.size)
    (hc : Boxed w Bc 26 (.slice A n c)) (hs : SpnAt w Bs lo hi)
    (hI : Ints w A n c L) (hIn : 0 < L.length → ∀ ad, A = some ad → ad.block < n₀) :
    SeqStopsK Fence.wide 1 Tryz.prog 120 #[.pointer (some ⟨Bc, 0, none⟩), .pointer (some ⟨Bs, 0, none⟩)] (encS13 hi L) (KpS13 n₀ Bc Bs) (fun ys => ys = List.range n) (fun pre => ∃ k, k ≤ n ∧ pre = List.range k) n w := fun l J Jx W hW _ _ hY h0 =>
  child1_in l Bc Bs n₀ A n c L lo hi J Jx hY W ((hW.block Bc hc.lt).trans hc) (hs.later hW) (hI.below hW) hIn h0

set_option maxHeartbeats 1000000 in
theorem children_any13 (lo hi : Int) (A : Option Addr) (n c : Nat) (w : World) :
    Calls Tryz.prog 99 #[spnV lo hi, .slice A n c] w fun e w' => e = .returned (.func (.func 120) #[] #[.pointer (some ⟨w.heap.size + 1, 0, none⟩), .pointer (some ⟨w.heap.size, 0, none⟩)]) ∧ w' = (w.alloc (.cells #[.int .i64 lo, .int .i64 hi] 63)).alloc (.cells #[.slice A n c] 26) := by
  go_enter Tryz.func99, Tryz.ntmps99
  go_wp2
  go_ret
  exact ⟨by simp, rfl⟩

end Go.Proofs.YtfcehhhcjlpklaaGreatDoor

/-
  Layer 13: Split.
-/
namespace Go.Proofs.YtfcehhhcjlpklaaGreatDoor
open Go.RowKit Go.Shelf
set_option linter.unusedVariables false
set_option linter.unusedSimpArgs false
attribute [local go_sem] Oper.semAt_some

theorem info_span13 : (Tryz.prog.info? 63).map (fun i => (i.zero, i.size, i.bytes)) = some (some (spnV 0 0), 2, 16) := by kernel_rfl

theorem spnAt_own {β : Type} (B : Nat) (f : β → Int × Int) : Own (fun s W => SpnAt W B (f s).1 (f s).2) := fun s X Y row hs hg hrow => by
  refine (hg.block B hs.lt ?_).trans hs
  intro e
  obtain ⟨o, ho, hc⟩ := hrow B e.symm
  rw [show X.heap[B]? = _ from hs] at ho
  cases ho; cases hc

/-- what the loop's body keeps: the spans collected, all below as it was -/
def Col13 (w : World) (B g n : Nat) (hi : Int) (L : List Int) (pre : List Nat) (W : World) : Prop :=
  (∃ v, Boxed W B 135 v ∧ W.ownsRow (w.heap.size + 1) 63 2 v pre.length (pair64 (pre.map (chd13 hi L))) ∧ v = .slice (some ⟨g, 0, none⟩) pre.length n) ∧ (Below w.heap.size w W ∧ B + 3 ≤ W.heap.size)
theorem Col13.own (w : World) (B g n : Nat) (hi : Int) (L : List Int) (C : Nat) (hC : w.heap.size ≤ C) : OwnFrom C (Col13 w B g n hi L) :=
  OwnFrom.and (Own.from (holdsRow_own (w.heap.size + 1) B 135 63 2 (fun pre : List Nat => pre.length) (fun pre => pair64 (pre.map (chd13 hi L))) (fun pre v => v = .slice (some ⟨g, 0, none⟩) pre.length n)) _)
    (OwnFrom.and (ownFrom_below (Nat.le_refl _) hC) (fun s X Y row hs hg hr => Nat.le_trans hs hg.size))

theorem Col13.step {w W w1 : World} {B g n Bc Bs : Nat} {hi : Int} {L : List Int} {pre : List Nat} {x : Nat} {v : Value} {tmp : Obj}
    (hv : Boxed W B 135 v) (hrow : W.ownsRow (w.heap.size + 1) 63 2 v pre.length (pair64 (pre.map (chd13 hi L)))) (hve : v = .slice (some ⟨g, 0, none⟩) pre.length n) (hB : Below w.heap.size w W) (hBl : w.heap.size + 1 ≤ B) (hsz : w.heap.size + 1 ≤ W.heap.size)
    (hB3 : B + 3 ≤ W.heap.size) (hc : Bc < W.heap.size) (hs : Bs < W.heap.size) (hcg : Bc ≠ g) (hsg : Bs ≠ g) (hcB : Bc ≠ B) (hsB : Bs ≠ B)
    (hown' : w1.ownsRow (w.heap.size + 1) 63 2 (.slice (some ⟨g, 0, none⟩) (pre.length + 1) n) (pre.length + 1) (pair64 (pre.map (chd13 hi L)) ++ [.int .i64 (L.getD x 0), .int .i64 (end13 hi L x)])) (hgrow : (W.alloc tmp).grownBy w1 (some g)) (C : Nat) :
    Boxed w1 B 135 v ∧ KeepsFrom C W (w1.setCell ⟨B, 0, none⟩ (.slice (some ⟨g, 0, none⟩) (pre.length + 1) n)) ∧ KpS13 (w.heap.size + 1) Bc Bs W (w1.setCell ⟨B, 0, none⟩ (.slice (some ⟨g, 0, none⟩) (pre.length + 1) n)) ∧ Col13 w B g n hi L (pre ++ [x]) (w1.setCell ⟨B, 0, none⟩ (.slice (some ⟨g, 0, none⟩) (pre.length + 1) n)) := by
  obtain ⟨hv1, hv2, hr2, hk2, hb2⟩ := hv.appended (by decide) hrow hsz hBl hown' (by subst hve; exact hgrow)
  have blk : ∀ q, q < W.heap.size → q ≠ g → q ≠ B → (w1.setCell ⟨B, 0, none⟩ (.slice (some ⟨g, 0, none⟩) (pre.length + 1) n)).heap[q]? = W.heap[q]? := fun q h1 h2 h3 => by
    rw [heap_setCell_other _ _ q _ h3, hgrow.block q (by rw [World.size_alloc]; omega) (fun e => h2 (by cases e; rfl))]
    exact Below.heap_alloc W _ q h1
  refine ⟨hv1, hk2.from _, ⟨hb2, blk Bc hc hcg hcB, blk Bs hs hsg hsB⟩, ⟨_, hv2, ?_, by rw [List.length_append]; rfl⟩, hB.trans (hb2.mono (by omega)), Nat.le_trans hB3 hb2.size⟩
  rw [List.map_append, List.length_append]
  exact (pair64_snoc _ (chd13 hi L x)).symm ▸ hr2

theorem cell_two_new13 (w : World) (x y : Value) (t : TypeId) : ∀ j u, [x, y][j]? = some u → (w.alloc (.cells #[x, y] t)).cell? ((⟨w.heap.size, 0, none⟩ : Addr).add j) = some u := fun j u h => by
  have := cells_new w #[x, y] t
  exact this j u (by simpa using h)

theorem ownsRow_wholeS0 {w : World} {base size : Nat} {e : TypeId} {g m n : Nat} {xs : List Value} (h : w.ownsRow base e size (.slice (some ⟨g, 0, none⟩) m n) m xs) : g < w.heap.size := by
  rcases h.2 with ⟨hv, _⟩ | ⟨g', cap, cur, hv, _, hh, _⟩
  · cases hv
  · injection hv with h1
    injection h1 with h1
    injection h1 with h1
    subst h1
    exact block_lt hh

set_option maxRecDepth 100000 in
set_option maxHeartbeats 2000000 in
theorem Split_good13 {A : Option Addr} {n c : Nat} {L : List Int} (lo hi : Int) (w : World) (h : Ints w A n c L) (hn : n ≤ 1000000) (hf : fit13 lo hi L = 0) :
    Calls Tryz.prog 72 #[spnV lo hi, .slice A n c] w fun e w' => ∃ A' c', e = .returned (.slice A' n c') ∧ Prs w' A' n c' (spl13 lo hi L) ∧ Below w.heap.size w w' ∧ Newer w.heap.size A' := by
  rw [spl13_ok hf, h.len]
  have hw0 := SpnAt.new w lo hi
  have hb0 := (Below.refl w.heap.size w).alloc (Nat.le_refl _) (.cells #[.int .i64 lo, .int .i64 hi] 63)
  have a0 := hw0.c0
  have a1 := hw0.c1
  have FT := Lib.hid (Fits_any13 lo hi _ (h.below hb0))
  rw [hf] at FT
  have HB0 := Lib.hid hb0
  have HW0 := Lib.hid hw0
  have HI := Lib.hid h
  have hcap := h.cap
  have hmost := h.most
  have hsz0 : w.heap.size + 1 = (w.alloc (.cells #[.int .i64 lo, .int .i64 hi] 63)).heap.size := by simp
  obtain ⟨i0, hi0, hz0, hz1, hz2⟩ := info_parts info_span13
  clear h hw0 hb0 hf
  refine (callsIn_wide (n := 2)).1 ?_
  refine callsIn_of_wp_marks Tryz.func72 rfl trivial ?_ rfl
  simp only [Tryz.ntmps72, List.size_toArray, List.length_cons, List.length_nil, Nat.reduceAdd, Nat.reduceSub, Array.replicate_succ, Array.replicate_zero, List.push_toArray, List.append_toArray, List.nil_append, List.cons_append]
  gi_wp2_with (first
    | (refine ⟨trivial, ?_⟩; gi_at_call 71; refine (callsIn_wide.2 FT.out).mono ?_; rintro e w1 ⟨rfl, hb1⟩; have HB1 := Lib.hid (HB0.out.trans (hb1.mono HB0.out.size)); have hs1 : w.heap.size + 1 ≤ w1.heap.size := Nat.le_trans (Nat.le_of_eq hsz0) hb1.size; have hw1 := HW0.out.later hb1; have b0 := hw1.c0; have b1 := hw1.c1; have HW1 := Lib.hid hw1; clear hw1 hb1 a0 a1)
    | (gi_at_make; refine wpListIn_make_own _ rfl _ _ _ rfl (w.heap.size + 1) 63 i0 _ 2 Tryz.underlying135 hi0 hz0 hz1 .i64 .i64 _ n rfl rfl rfl (by rw [hz2]; omega) (by simp only [maxLen]; omega) hs1 ?_; intro w2 hown2 hg2; have hw2 : SpnAt w2 w.heap.size lo hi := (hg2.block _ HW1.out.lt (by simp)).trans HW1.out; have hw3 := hw2.later ((Below.refl _ w2).alloc (Nat.le_refl _) (.cells #[.slice (some ⟨w1.heap.size, 0, none⟩) 0 n] 135)); have d0 := hw3.c0; have d1 := hw3.c1; have HW2 := Lib.hid hw2; have HO2 := Lib.hid hown2; have hb2 := below_of_grown hg2 (by simp); have HB2 := Lib.hid (HB1.out.trans (hb2.mono HB1.out.size)); have hs2 := hb2.size; clear hw2 hw3 hown2 hg2 hb2 b0 b1)
    | (refine ⟨trivial, ?_⟩; gi_at_call 99; refine (callsIn_wide.2 (children_any13 _ _ _ _ _ _)).mono ?_; rintro e w' ⟨rfl, rfl⟩))
  clear FT d0 d1
  obtain ⟨g, hg⟩ : ∃ g, g = w1.heap.size := ⟨_, rfl⟩
  obtain ⟨B, hB⟩ : ∃ B, B = w2.heap.size := ⟨_, rfl⟩
  have hO3 : w2.ownsRow (w.heap.size + 1) 63 2 (.slice (some ⟨g, 0, none⟩) 0 n) 0 [] := by rw [hg]; exact HO2.out
  have hgB : g < B := by
    have := ownsRow_wholeS0 hO3
    rw [hB]; exact this
  have hBl : w.heap.size + 1 ≤ B := by omega
  obtain ⟨W0, hW0⟩ : ∃ W0, (((w2.alloc (.cells #[.slice (some ⟨w1.heap.size, 0, none⟩) 0 n] 135)).alloc (.cells #[.int .i64 lo, .int .i64 hi] 63)).alloc (.cells #[.slice A n c] 26)) = W0 := ⟨_, rfl⟩
  have hsz : W0.heap.size = B + 3 := by rw [← hW0, hB]; simp
  have bV : Boxed W0 B 135 (.slice (some ⟨g, 0, none⟩) 0 n) := by rw [← hW0, hB, hg]; exact ((Boxed.new w2 _ _).alloc _).alloc _
  have bS : SpnAt W0 (B + 1) lo hi := by
    have := SpnAt.new (w2.alloc (.cells #[.slice (some ⟨w1.heap.size, 0, none⟩) 0 n] 135)) lo hi
    rw [World.size_alloc] at this
    rw [← hW0, hB]; exact this.later ((Below.refl _ _).alloc (Nat.le_refl _) _)
  have bC : Boxed W0 (B + 2) 26 (.slice A n c) := by
    have := Boxed.new ((w2.alloc (.cells #[.slice (some ⟨w1.heap.size, 0, none⟩) 0 n] 135)).alloc (.cells #[.int .i64 lo, .int .i64 hi] 63)) 26 (.slice A n c)
    rw [World.size_alloc, World.size_alloc] at this
    rw [← hW0, hB]; exact this
  have hO4 : W0.ownsRow (w.heap.size + 1) 63 2 (.slice (some ⟨g, 0, none⟩) 0 n) 0 [] := by rw [← hW0]; exact ((hO3.alloc _).alloc _).alloc _
  have hB0 : Below w.heap.size w W0 := by rw [← hW0]; exact ((HB2.out.alloc HB2.out.size _).alloc (by simp; omega) _).alloc (by simp; omega) _
  have e2 : w2.heap.size + 1 + 1 = B + 2 := by rw [hB]
  have e1 : w2.heap.size + 1 = B + 1 := by rw [hB]
  rw [← hg] at hW0
  simp only [← hg]
  simp only [hW0]
  simp only [e2, e1, ← hB]
  clear hW0 e1 e2 hO3 HO2 HW2 HB2 hB hg hs1 hs2
  have hst := child_stops (B + 2) (B + 1) (w.heap.size + 1) A n c L lo hi W0 (by omega) bC bS (HI.out.below hB0)
    (fun h0 ad e => by
      obtain ⟨b, off, e2, hl, _⟩ := HI.out.row.lit (by rw [i64s_length]; exact h0)
      rw [e] at e2
      cases e2; exact Nat.lt_succ_of_lt hl)
  have HST := Lib.hid hst
  clear hst
  refine wpIn_rangeFunc_ownH rfl (Nat.le_succ 1) (gf := 120) (lb := #[.pointer (some ⟨B + 2, 0, none⟩), .pointer (some ⟨B + 1, 0, none⟩)]) rfl trivial (enters_of Tryz.func120 (by kernel_rfl) rfl)
    HST.out KpS13.trans (KpS13.put (by omega) (by omega) (by omega)) (Below.refl _ _) (fun _ => rfl)
    (Col13 w B g n hi L)
    (fun _ _ _ => False)
    (Col13.own _ _ _ _ _ _ _ (by omega))
    (fun _ _ _ _ _ hs _ _ => hs)
    ⟨⟨_, bV, hO4, rfl⟩, hB0, by omega⟩
    (fun x a' W => ∃ Bx, SpnAt W Bx (L.getD x 0) (end13 hi L x) ∧ a' = { tmps := #[spnV lo hi, .slice A n c, .pointer (some ⟨w.heap.size, 0, none⟩), undef, .slice none 0 0, .pointer (some ⟨B, 0, none⟩), undef, .pointer (some ⟨Bx, 0, none⟩), .agg #[.int .i64 lo, .int .i64 hi], .slice A n c, .int .i64 0, .bool false, .slice A n c, .int .i64 n, .slice (some ⟨g, 0, none⟩) 0 n, .agg #[.int .i64 lo, .int .i64 hi], .slice A n c, .func (.func 120) #[] #[.pointer (some ⟨B + 2, 0, none⟩), .pointer (some ⟨B + 1, 0, none⟩)], .int .i64 (x : Int), .agg #[.int .i64 (L.getD x 0), .int .i64 (end13 hi L x)], undef, undef, undef, undef, undef], defers := [] })
    (fun x a' s X Y row hs hg hr => by
      obtain ⟨Bx, e1, e2⟩ := hs
      exact ⟨Bx, spnAt_own Bx (fun _ : Unit => (L.getD x 0, end13 hi L x)) () X Y row e1 hg (fun r e => (hr r e).2), e2⟩) ?assign ?body ?done ?stop
  case assign =>
    rintro l pre x W K ⟨⟨v, hv, hrow, hve⟩, hbb, hbs⟩ hK
    have hal := (Below.refl W.heap.size W).alloc (Nat.le_refl _) (.cells #[.int .i64 (L.getD x 0), .int .i64 (end13 hi L x)] 63)
    have hfin := hK { tmps := #[spnV lo hi, .slice A n c, .pointer (some ⟨w.heap.size, 0, none⟩), undef, .slice none 0 0, .pointer (some ⟨B, 0, none⟩), undef, .pointer (some ⟨W.heap.size, 0, none⟩), .agg #[.int .i64 lo, .int .i64 hi], .slice A n c, .int .i64 0, .bool false, .slice A n c, .int .i64 n, .slice (some ⟨g, 0, none⟩) 0 n, .agg #[.int .i64 lo, .int .i64 hi], .slice A n c, .func (.func 120) #[] #[.pointer (some ⟨B + 2, 0, none⟩), .pointer (some ⟨B + 1, 0, none⟩)], .int .i64 (x : Int), .agg #[.int .i64 (L.getD x 0), .int .i64 (end13 hi L x)], undef, undef, undef, undef, undef], defers := [] }
      (W.alloc (.cells #[.int .i64 (L.getD x 0), .int .i64 (end13 hi L x)] 63)) ((KeepsOthers.alloc _ _).from _) ⟨hal.mono (by omega), hal.block _ (by omega), hal.block _ (by omega)⟩
      ⟨⟨v, hv.alloc _, hrow.alloc _, hve⟩, hbb.trans (hal.mono hbb.size), Nat.le_trans hbs hal.size⟩ ⟨W.heap.size, SpnAt.new W _ _, rfl⟩
    have HFIN := Lib.hid hfin
    unfold encS13
    clear hK hfin hal
    generalize L.getD x 0 = x0 at *
    generalize end13 hi L x = y0 at *
    gi_wp2
    exact HFIN.out
  case body =>
    rintro l pre x a' W hl hr ⟨⟨v, hv, hrow, rfl⟩, hbb, hbs⟩ ⟨Bx, hbx, rfl⟩ hlt
    have hc := hv.cell
    have hx0 := hbx.c0
    have hx1 := hbx.c1
    have ST : Hid (∀ w1 tmp, w1.ownsRow (w.heap.size + 1) 63 2 (.slice (some ⟨g, 0, none⟩) (pre.length + 1) n) (pre.length + 1) (pair64 (pre.map (chd13 hi L)) ++ [.int .i64 (L.getD x 0), .int .i64 (end13 hi L x)]) → (W.alloc tmp).grownBy w1 (some g) → _) := fun w1 tmp h1 h2 => Col13.step (Bc := B + 2) (Bs := B + 1) hv hrow rfl hbb hBl (by omega) hbs (by omega) (by omega) (by omega) (by omega) (by omega) (by omega) h1 h2 W0.heap.size
    clear hbx
    generalize L.getD x 0 = x0 at *
    generalize end13 hi L x = y0 at *
    generalize pre.map (chd13 hi L) = PR at *
    gi_wp2_with (gi_at_builtin; refine wpListIn_append_fits _ rfl _ _ 135 rfl (w.heap.size + 1) 63 i0 2 Tryz.underlying135 hi0 hz1 g pre.length n _ rfl (hrow.alloc _) ⟨W.heap.size, 0, none⟩ 1 1 [.int .i64 x0, .int .i64 y0] rfl rfl (cell_two_new13 _ _ _ _) (by simp [Value.oneCell']) (by omega) ?_; intro w1 hown' hgrow; obtain ⟨hv1, hk2, hp2, hC2⟩ := ST.out _ _ hown' hgrow; have hc1 := hv1.cell; have hf1 := hv1.frozen)
    exact ⟨hk2, hp2, hC2⟩
  case done =>
    rintro D ys W hD rfl ⟨⟨v, hv, hrow, rfl⟩, hbb, hbs⟩ hK
    have hc := hv.cell
    rw [List.length_range] at hrow hc
    have hr2 := ownsRow_putObj hrow (.deferred none) hK rfl
    obtain ⟨A2, c2, he2, hP⟩ := Prs.of_own hr2
    injection he2 with he3 he4 he5
    subst he3; subst he5
    have HP := Lib.hid hP
    have HN : Hid (Newer w.heap.size (some ⟨g, 0, none⟩)) := (Newer.of_own hrow).mono (by omega)
    have HBB : Hid (Below w.heap.size w (W.putObj D (.deferred none))) := hbb.trans (belowK_b (w := w) (Nat.le_refl _) W D _ _ (by omega) hK rfl rfl)
    clear hP hrow hr2
    gi_wp2
    refine ⟨by simp, .inl ⟨_, _, rfl, run_takeDeferred hK, ?_⟩⟩
    exact ⟨_, results_tmp rfl _ _ _, _, _, rfl, HP.out, HBB.out, HN.out⟩
  case stop =>
    rintro D c pre W _ _ h _
    exact h.elim

end Go.Proofs.YtfcehhhcjlpklaaGreatDoor

/-
  Layer 13: Child.
-/
namespace Go.Proofs.YtfcehhhcjlpklaaGreatDoor
open Go.RowKit Go.Shelf
set_option linter.unusedVariables false
set_option linter.unusedSimpArgs false
attribute [local go_sem] Oper.semAt_some

theorem boxed_other13 {W : World} {B q : Nat} {t : TypeId} {v : Value} (h : Boxed W B t v) (hne : B ≠ q) (j : Nat) (u : Value) : Boxed (W.setCell ⟨q, j, none⟩ u) B t v := (heap_setCell_other _ _ B _ hne).trans h

/-- Child's own variables: the span, the index, the two results -/
structure Chd13 (w W : World) (lo hi i a b e : Int) : Prop where
  s : SpnAt W w.heap.size lo hi
  ix : Boxed W (w.heap.size + 1) 3 (.int .i64 i)
  res : SpnAt W (w.heap.size + 2) a b
  err : Boxed W (w.heap.size + 3) 50 (.int .i64 e)
  bel : Below w.heap.size w W
theorem Chd13.later {w W W' : World} {lo hi i a b e : Int} (h : Chd13 w W lo hi i a b e) (hb : Below W.heap.size W W') : Chd13 w W' lo hi i a b e :=
  ⟨h.s.later hb, (hb.block _ h.ix.lt).trans h.ix, h.res.later hb, (hb.block _ h.err.lt).trans h.err, h.bel.trans (hb.mono h.bel.size)⟩
theorem Chd13.start (w : World) (lo hi i : Int) : Chd13 w ((((w.alloc (.cells #[.int .i64 lo, .int .i64 hi] 63)).alloc (.cells #[.int .i64 i] 3)).alloc (.cells #[.int .i64 0, .int .i64 0] 63)).alloc (.cells #[.int .i64 0] 50)) lo hi i 0 0 0 := by
  have b1 := (Below.refl w.heap.size w).alloc (Nat.le_refl _) (.cells #[.int .i64 lo, .int .i64 hi] 63)
  have h1 := SpnAt.new w lo hi
  generalize hw1 : w.alloc (.cells #[.int .i64 lo, .int .i64 hi] 63) = w1 at *
  have s1 : w1.heap.size = w.heap.size + 1 := by rw [← hw1]; simp
  have b2 := (Below.refl w1.heap.size w1).alloc (Nat.le_refl _) (.cells #[.int .i64 i] 3)
  have h2 := Boxed.new w1 3 (.int .i64 i)
  generalize hw2 : w1.alloc (.cells #[.int .i64 i] 3) = w2 at *
  have s2 : w2.heap.size = w.heap.size + 2 := by rw [← hw2]; simp [s1]
  have b3 := (Below.refl w2.heap.size w2).alloc (Nat.le_refl _) (.cells #[.int .i64 0, .int .i64 0] 63)
  have h3 := SpnAt.new w2 0 0
  generalize hw3 : w2.alloc (.cells #[.int .i64 0, .int .i64 0] 63) = w3 at *
  have s3 : w3.heap.size = w.heap.size + 3 := by rw [← hw3]; simp [s2]
  have b4 := (Below.refl w3.heap.size w3).alloc (Nat.le_refl _) (.cells #[.int .i64 0] 50)
  have h4 := Boxed.new w3 50 (.int .i64 0)
  generalize hw4 : w3.alloc (.cells #[.int .i64 0] 50) = w4 at *
  rw [s1] at h2; rw [s2] at h3; rw [s3] at h4
  exact ⟨((h1.later b2).later b3).later b4, (b4.block _ (by omega)).trans ((b3.block _ (by omega)).trans h2), h3.later b4, h4, ((b1.trans (b2.mono (by omega))).trans (b3.mono (by omega))).trans (b4.mono (by omega))⟩
theorem Chd13.store {w W : World} {lo hi i a b e : Int} (h : Chd13 w W lo hi i a b e) (a' b' e' : Int) :
    Chd13 w (((W.setCell ⟨w.heap.size + 2, 0, none⟩ (.int .i64 a')).setCell ⟨w.heap.size + 2, 1, none⟩ (.int .i64 b')).setCell ⟨w.heap.size + 3, 0, none⟩ (.int .i64 e')) lo hi i a' b' e' := by
  refine ⟨((h.s.other (by omega) _ _).other (by omega) _ _).other (by omega) _ _, boxed_other13 (boxed_other13 (boxed_other13 h.ix (by omega) _ _) (by omega) _ _) (by omega) _ _, (h.res.set a' b').other (by omega) _ _, Boxed.set _ (boxed_other13 (boxed_other13 h.err (by omega) _ _) (by omega) _ _), ?_⟩
  exact ((h.bel.setCell (p := ⟨w.heap.size + 2, 0, none⟩) (by simp) _).setCell (p := ⟨w.heap.size + 2, 1, none⟩) (by simp) _).setCell (p := ⟨w.heap.size + 3, 0, none⟩) (by simp) _
theorem Chd13.facts {w W : World} {lo hi i a b e : Int} (h : Chd13 w W lo hi i a b e) :
    (W.cell? ⟨w.heap.size, 0, none⟩ = some (.int .i64 lo) ∧ W.cell? ⟨w.heap.size, 1, none⟩ = some (.int .i64 hi) ∧ W.cell? ⟨w.heap.size + 1, 0, none⟩ = some (.int .i64 i)) ∧
    (W.cell? ⟨w.heap.size + 2, 0, none⟩ = some (.int .i64 a) ∧ W.cell? ⟨w.heap.size + 2, 1, none⟩ = some (.int .i64 b) ∧ W.frozen? ⟨w.heap.size + 2, 0, none⟩ = false ∧ W.frozen? ⟨w.heap.size + 2, 1, none⟩ = false) ∧
    W.cell? ⟨w.heap.size + 3, 0, none⟩ = some (.int .i64 e) ∧ W.frozen? ⟨w.heap.size + 3, 0, none⟩ = false :=
  ⟨⟨h.s.c0, h.s.c1, h.ix.cell⟩, ⟨h.res.c0, h.res.c1, h.res.f0 0, h.res.f0 1⟩, h.err.cell, h.err.frozen⟩

theorem Chd13.own (w : World) (lo hi i : Int) {β : Type} (f : β → Int × Int × Int) (C : Nat) (hC : w.heap.size ≤ C) : OwnFrom C (fun (s : β) W => Chd13 w W lo hi i (f s).1 (f s).2.1 (f s).2.2) := fun s X Y row hs hg hr =>
  ⟨spnAt_own _ (fun _ : Unit => (lo, hi)) () X Y row hs.s hg (fun r e => (hr r e).2), boxed_own _ _ (fun _ : Unit => Value.int .i64 i) () X Y row hs.ix hg (fun r e => (hr r e).2), spnAt_own _ (fun _ : Unit => ((f s).1, (f s).2.1)) () X Y row hs.res hg (fun r e => (hr r e).2),
    boxed_own _ _ (fun _ : Unit => Value.int .i64 (f s).2.2) () X Y row hs.err hg (fun r e => (hr r e).2), ownFrom_below (β := Unit) (w₀ := w) (Nat.le_refl _) hC () X Y row hs.bel hg hr⟩

theorem Chd13.put {w W : World} {lo hi i a b e : Int} (h : Chd13 w W lo hi i a b e) {D : Nat} {o : Obj} (o' : Obj) (hD : w.heap.size ≤ D) (hl : W.heap[D]? = some o) (hc : o.isCells = false) : Chd13 w (W.putObj D o') lo hi i a b e :=
  OwnFrom.putObj (Chd13.own w lo hi i (fun _ : Unit => (a, b, e)) w.heap.size (Nat.le_refl _)) (s := ()) o' h hD hl hc

end Go.Proofs.YtfcehhhcjlpklaaGreatDoor

/-
  Layer 13: the reference's Child and Split.
-/
namespace Go.Proofs.YtfcehhhcjlpklaaGreatDoor
open Go.RowKit
set_option linter.unusedVariables false
set_option linter.unusedSimpArgs false

theorem res_ct13 {P : Program} {fn : Func} {p q : Tmp} {t1 : TypeId} (h : fn.results = #[.cell p t1, .tmp q]) (tmps : Array Value) (w : World) {a : Addr} {v : Value}
    (hp : tmps.getD p undef = .pointer (some a)) (h1 : (loadVar t1 a).run P w = .ok v w) : (results fn tmps).run P w = .ok (.tuple #[v, tmps.getD q undef]) w := by
  have hp' : tmps[p]?.getD undef = .pointer (some a) := by simpa using hp
  simp [results, h, hp', asAddr, h1, Result.andThen, Sem.run_bind]

/-- the reference's Child's own variables: the span, the result -/
structure RCh13 (w W : World) (lo hi a b : Int) : Prop where
  s : SpnAt W w.heap.size lo hi
  res : SpnAt W (w.heap.size + 1) a b
  bel : Below w.heap.size w W
theorem RCh13.later {w W W' : World} {lo hi a b : Int} (h : RCh13 w W lo hi a b) (hb : Below W.heap.size W W') : RCh13 w W' lo hi a b := ⟨h.s.later hb, h.res.later hb, h.bel.trans (hb.mono h.bel.size)⟩
theorem RCh13.start (w : World) (lo hi : Int) : RCh13 w ((w.alloc (.cells #[.int .i64 lo, .int .i64 hi] 63)).alloc (.cells #[.int .i64 0, .int .i64 0] 63)) lo hi 0 0 := by
  have b1 := (Below.refl w.heap.size w).alloc (Nat.le_refl _) (.cells #[.int .i64 lo, .int .i64 hi] 63)
  have h1 := SpnAt.new w lo hi
  generalize hw1 : w.alloc (.cells #[.int .i64 lo, .int .i64 hi] 63) = w1 at *
  have s1 : w1.heap.size = w.heap.size + 1 := by rw [← hw1]; simp
  have b2 := (Below.refl w1.heap.size w1).alloc (Nat.le_refl _) (.cells #[.int .i64 0, .int .i64 0] 63)
  have h2 := SpnAt.new w1 0 0
  rw [s1] at h2
  exact ⟨h1.later b2, h2, b1.trans (b2.mono (by omega))⟩
theorem RCh13.store {w W : World} {lo hi a b : Int} (h : RCh13 w W lo hi a b) (a' b' : Int) :
    RCh13 w ((W.setCell ⟨w.heap.size + 1, 0, none⟩ (.int .i64 a')).setCell ⟨w.heap.size + 1, 1, none⟩ (.int .i64 b')) lo hi a' b' :=
  ⟨(h.s.other (by omega) _ _).other (by omega) _ _, h.res.set a' b', (h.bel.setCell (p := ⟨w.heap.size + 1, 0, none⟩) (by simp) _).setCell (p := ⟨w.heap.size + 1, 1, none⟩) (by simp) _⟩
theorem RCh13.facts {w W : World} {lo hi a b : Int} (h : RCh13 w W lo hi a b) :
    (W.cell? ⟨w.heap.size, 0, none⟩ = some (.int .i64 lo) ∧ W.cell? ⟨w.heap.size, 1, none⟩ = some (.int .i64 hi)) ∧
    (W.cell? ⟨w.heap.size + 1, 0, none⟩ = some (.int .i64 a) ∧ W.cell? ⟨w.heap.size + 1, 1, none⟩ = some (.int .i64 b) ∧ W.frozen? ⟨w.heap.size + 1, 0, none⟩ = false ∧ W.frozen? ⟨w.heap.size + 1, 1, none⟩ = false) :=
  ⟨⟨h.s.c0, h.s.c1⟩, h.res.c0, h.res.c1, h.res.f0 0, h.res.f0 1⟩

set_option maxRecDepth 100000 in
set_option maxHeartbeats 3200000 in
theorem refChild_any13 {A : Option Addr} {n c : Nat} {L : List Int} (lo hi i : Int) (w : World) (h : Ints w A n c L) :
    Calls Tryz.prog 26 #[spnV lo hi, .slice A n c, .int .i64 i] w fun e w' => e = .returned (.tuple #[spnV (ch13 lo hi L i).1 (ch13 lo hi L i).2, .int .i64 (chE13 lo hi L i)]) ∧ Below w.heap.size w w' := by
  have hS := RCh13.start w lo hi
  have FT := Lib.hid (refFits_any13 lo hi _ (h.below hS.bel))
  obtain ⟨⟨a0, a1⟩, a3, a4, a5, a6⟩ := hS.facts
  have HS := Lib.hid hS
  have HI := Lib.hid h
  have hcap := h.cap
  have hmost := h.most
  have hl := h.len
  clear h hS
  by_cases hf : fit13 lo hi L = 0
  · rw [hf] at FT
    by_cases hi0 : i < 0
    · obtain ⟨e1, e2⟩ := chE13_out hf (.inl hi0)
      rw [e1, e2]
      have hd : decide (i < 0) = true := by simpa using hi0
      clear e1 e2 hf
      go_enter Tryz.func26, Tryz.ntmps26
      go_wp2_with (go_at_call 47; (with_reducible refine (FT.out).mono ?_); rintro e w1 ⟨rfl, hb1⟩; have hS1 := HS.out.later hb1; obtain ⟨⟨b0, b1⟩, b3, b4, b5, b6⟩ := hS1.facts; have HS1 := Lib.hid hS1; clear hS1 hb1 a0 a1 a3 a4 a5 a6)
      have hE := HS1.out.store 0 0
      refine bodyPost_ret (res_ct13 Tryz.results26 _ _ (a := ⟨w.heap.size + 1, 0, none⟩) rfl hE.res.load) rfl ?_
      exact ⟨rfl, hE.bel⟩
    · obtain ⟨k, rfl⟩ := Int.eq_ofNat_of_zero_le (Int.not_lt.1 hi0)
      have hd : decide ((k : Int) < 0) = false := by simp
      by_cases hk : k < n
      · obtain ⟨e1, e2⟩ := chE13_in (lo := lo) (hi := hi) hf (show k < L.length by omega)
        rw [e1, e2]
        have hd2 : decide ((n : Int) ≤ (k : Int)) = false := by simp; omega
        have hw : IntKind.i64.wrap ((k : Int) + 1) = ((k + 1 : Nat) : Int) := (IntWalk.i64_in _ (by omega)).trans (by simp)
        have e0 : L.getD k 0 = L[k]'(by omega) := by rw [List.getD_eq_getElem?_getD, List.getElem?_eq_getElem (by omega)]; rfl
        clear e1 e2 hf
        by_cases hn : k + 1 < n
        · have hd3 : (((k + 1 : Nat) : Int) == (n : Int)) = false := by simp; omega
          have e4 : chd13 hi L k = (L[k]'(by omega), L[k + 1]'(by omega)) := by rw [chd13, end13_next (by omega), e0, List.getD_eq_getElem?_getD, List.getElem?_eq_getElem (by omega)]; rfl
          rw [e4]
          obtain ⟨b, off, hA, _, hc⟩ := HI.out.row.lit (by rw [i64s_length]; omega)
          have ck0 := hc k _ (i64s_at L k (by omega))
          have cm0 := hc (k + 1) _ (i64s_at L (k + 1) (by omega))
          clear e0 e4 hc
          generalize L[k]'(by omega) = x at *
          generalize L[k + 1]'(by omega) = y at *
          obtain ⟨m, hm⟩ : ∃ m, k + 1 = m := ⟨_, rfl⟩
          rw [hm] at hd3 hw cm0 hn
          have HM := Lib.hid hm
          subst hA
          have hb : b < w.heap.size := cell_lt ck0
          clear hm hi0
          go_enter Tryz.func26, Tryz.ntmps26
          go_wp2_with (go_at_call 47; (with_reducible refine (FT.out).mono ?_); rintro e w1 ⟨rfl, hb1⟩; have hS1 := HS.out.later hb1; have ck := (hS1.bel.cell (p := ⟨b, off + k, none⟩) hb).trans ck0; have cm := (hS1.bel.cell (p := ⟨b, off + m, none⟩) hb).trans cm0; obtain ⟨⟨b0, b1⟩, b3, b4, b5, b6⟩ := hS1.facts; have HS1 := Lib.hid hS1; clear hS1 hb1 a0 a1 a3 a4 a5 a6 ck0 cm0)
          go_region
          go_wp2
          have hE := (HS1.out.store x y).later (Below.refl _ _).drew
          refine bodyPost_ret (res_ct13 Tryz.results26 _ _ (a := ⟨w.heap.size + 1, 0, none⟩) rfl hE.res.load) rfl ?_
          exact ⟨rfl, hE.bel⟩
        · have hd3 : (((k + 1 : Nat) : Int) == (n : Int)) = true := by simp; omega
          have e4 : chd13 hi L k = (L[k]'(by omega), hi) := by rw [chd13, end13_last (by omega), e0]
          rw [e4]
          obtain ⟨b, off, hA, _, hc⟩ := HI.out.row.lit (by rw [i64s_length]; omega)
          have ck0 := hc k _ (i64s_at L k (by omega))
          clear e0 e4 hc
          generalize L[k]'(by omega) = x at *
          obtain ⟨m, hm⟩ : ∃ m, k + 1 = m := ⟨_, rfl⟩
          rw [hm] at hd3 hw hn
          have HM := Lib.hid hm
          subst hA
          have hb : b < w.heap.size := cell_lt ck0
          clear hm hi0
          go_enter Tryz.func26, Tryz.ntmps26
          go_wp2_with (go_at_call 47; (with_reducible refine (FT.out).mono ?_); rintro e w1 ⟨rfl, hb1⟩; have hS1 := HS.out.later hb1; have ck := (hS1.bel.cell (p := ⟨b, off + k, none⟩) hb).trans ck0; obtain ⟨⟨b0, b1⟩, b3, b4, b5, b6⟩ := hS1.facts; have HS1 := Lib.hid hS1; clear hS1 hb1 a0 a1 a3 a4 a5 a6 ck0)
          go_region
          go_wp2
          have hE := (HS1.out.store x hi).later (Below.refl _ _).drew
          refine bodyPost_ret (res_ct13 Tryz.results26 _ _ (a := ⟨w.heap.size + 1, 0, none⟩) rfl hE.res.load) rfl ?_
          exact ⟨rfl, hE.bel⟩
      · obtain ⟨e1, e2⟩ := chE13_out (i := (k : Int)) hf (.inr (by omega))
        rw [e1, e2]
        have hd2 : decide ((n : Int) ≤ (k : Int)) = true := by simp; omega
        clear e1 e2 hf
        go_enter Tryz.func26, Tryz.ntmps26
        go_wp2_with (go_at_call 47; (with_reducible refine (FT.out).mono ?_); rintro e w1 ⟨rfl, hb1⟩; have hS1 := HS.out.later hb1; obtain ⟨⟨b0, b1⟩, b3, b4, b5, b6⟩ := hS1.facts; have HS1 := Lib.hid hS1; clear hS1 hb1 a0 a1 a3 a4 a5 a6)
        have hE := HS1.out.store 0 0
        refine bodyPost_ret (res_ct13 Tryz.results26 _ _ (a := ⟨w.heap.size + 1, 0, none⟩) rfl hE.res.load) rfl ?_
        exact ⟨rfl, hE.bel⟩
  · obtain ⟨e1, e2⟩ := chE13_bad (i := i) hf
    rw [e1, e2]
    generalize fit13 lo hi L = f at *
    have hne : (f != 0) = true := by simpa using hf
    clear hf e1 e2
    go_enter Tryz.func26, Tryz.ntmps26
    go_wp2_with (go_at_call 47; (with_reducible refine (FT.out).mono ?_); rintro e w1 ⟨rfl, hb1⟩; have hS1 := HS.out.later hb1; obtain ⟨⟨b0, b1⟩, b3, b4, b5, b6⟩ := hS1.facts; have HS1 := Lib.hid hS1; clear hS1 hb1 a0 a1 a3 a4 a5 a6)
    have hE := HS1.out.store 0 0
    refine bodyPost_ret (res_ct13 Tryz.results26 _ _ (a := ⟨w.heap.size + 1, 0, none⟩) rfl hE.res.load) rfl ?_
    exact ⟨rfl, hE.bel⟩

end Go.Proofs.YtfcehhhcjlpklaaGreatDoor
