/-
  Joined: SpnC, SpnD.
-/
import Derived.RangeFuncBox
import Derived.RangeFuncLeaves
import Derived.RangeFuncCalls
import Derived.Shelf.Abstract
import Derived.OwnWalkIn
import Derived.TacticsInMore
import Derived.LoopNIn
import Derived.LoopIn
import Derived.Test.YtnjlganofjkpfaaGreatJBldB32
import Derived.RangeFuncNested
import Derived.Maps.AppendAt
import Derived.Test.YtnjlganofjkpfaaGreatJBldB02
/-
  Layer 13: the iterator over the indices and the spans of children.
-/
namespace Go.Proofs.YtnjlganofjkpfaaGreat
open Go.RowKit Go.Shelf
set_option linter.unusedVariables false
set_option linter.unusedSimpArgs false
attribute [local go_sem] Oper.semAt_some

/-- what a round is handed: an index, and that child's span -/
def encS13 (hi : Int) (L : List Int) (k : Nat) : Array Value := #[.int .i64 (k : Int), .agg #[.int .i64 (L.getD k 0), .int .i64 (end13 hi L k)]]

/-- what a round keeps: all below n₀, and the two variables of the iterator -/
def KpS13 (n₀ Bc Bs : Nat) (W W' : World) : Prop := Below n₀ W W' ∧ W'.heap[Bc]? = W.heap[Bc]? ∧ W'.heap[Bs]? = W.heap[Bs]?
theorem KpS13.refl (n₀ Bc Bs : Nat) (W : World) : KpS13 n₀ Bc Bs W W := ⟨Below.refl _ _, rfl, rfl⟩
theorem KpS13.trans {n₀ Bc Bs : Nat} {A B C : World} (h : KpS13 n₀ Bc Bs A B) (k : KpS13 n₀ Bc Bs B C) : KpS13 n₀ Bc Bs A C := ⟨h.1.trans k.1, k.2.1.trans h.2.1, k.2.2.trans h.2.2⟩
theorem KpS13.put {n₀ Bc Bs : Nat} {w : World} (hn : n₀ ≤ w.heap.size) (hB : Bc < w.heap.size) (hC : Bs < w.heap.size) (W : World) (l : Nat) (o o' : Obj) (hl : w.heap.size ≤ l) (h : W.heap[l]? = some o) (h1 : o.isCells = false) (h2 : o.isWalk = false) : KpS13 n₀ Bc Bs W (W.putObj l o') :=
  ⟨belowK_b hn W l o o' hl h h1 h2, World.putObj_heap_other (by omega), World.putObj_heap_other (by omega)⟩

set_option maxRecDepth 100000 in
set_option maxHeartbeats 2000000 in
theorem child1_in (l Bc Bs n₀ : Nat) (A : Option Addr) (n c : Nat) (L : List Int) (lo hi : Int) (J Jx : List Nat → World → Prop)
    (hY : ∀ (pre : List Nat) (x : Nat) W, J pre W → pre.length < n → YieldAt Fence.wide 0 Tryz.prog l (encS13 hi L x) W fun e W' =>
      (e = .returned (.bool true) ∧ J (pre ++ [x]) W' ∧ KpS13 n₀ Bc Bs W W') ∨ (e = .returned (.bool false) ∧ Jx (pre ++ [x]) W'))
    (W : World) (hc : Boxed W Bc 33 (.slice A n c)) (hs : SpnAt W Bs lo hi)
    (hI : Ints W A n c L) (hIn : 0 < L.length → ∀ ad, A = some ad → ad.block < n₀) (h0 : J [] W) :
    CallsIn Fence.wide 1 Tryz.prog 93 #[.func (.yield l) #[] #[], .pointer (some ⟨Bc, 0, none⟩), .pointer (some ⟨Bs, 0, none⟩)] W fun e W' => (∃ v, e = .returned v) ∧
      ((∃ ys, ys = List.range n ∧ J ys W') ∨ (∃ pre, (∃ k, k ≤ n ∧ pre = List.range k) ∧ Jx pre W')) := by
  have hlen := hI.len
  have hcap := hI.cap
  have hle := hI.le
  have ROW : Hid (∀ W', Below n₀ W W' → ∀ k, (hk : k < L.length) → ∃ b off, A = some ⟨b, off, none⟩ ∧ W'.cell? ⟨b, off + k, none⟩ = some (.int .i64 L[k])) := fun W' hb k hk => by
    obtain ⟨b, off, e, _, hc⟩ := hI.row.lit (by rw [i64s_length]; omega)
    have := hc k _ (i64s_at L k hk)
    exact ⟨b, off, e, (hb.cell (p := ⟨b, off + k, none⟩) (by exact hIn (by omega) ⟨b, off, Option.none⟩ e)).trans this⟩
  have HY := Lib.hid hY
  have hcc := hc.cell
  have HB : Hid (∀ W', KpS13 n₀ Bc Bs W W' → Boxed W' Bc 33 (.slice A n c) ∧ SpnAt W' Bs lo hi) := fun W' h => ⟨h.2.1.trans hc, h.2.2.trans hs⟩
  clear hI hIn hY hc hs
  refine callsIn_of_wp Tryz.func93 rfl trivial ?_ rfl
  simp only [Tryz.ntmps93, List.size_toArray, List.length_cons, List.length_nil, Nat.reduceAdd, Nat.reduceSub, Array.replicate_succ, Array.replicate_zero, List.push_toArray, List.append_toArray, List.nil_append, List.cons_append]
  gi_wp2
  gi_loopw [9] (fun i wr => ∃ k : Nat, k ≤ n ∧ i = .int .i64 k ∧ Hid (J (List.range k) wr) ∧ Hid (KpS13 n₀ Bc Bs W wr))
    (fun i _ => n - (intOf i).toNat)
  case atStart => exact ⟨0, Nat.zero_le _, rfl, h0, KpS13.refl _ _ _ _⟩
  case round =>
    obtain ⟨k, hk, rfl, hJs, hnx⟩ := hrel
    by_cases hlt : k < n
    · obtain ⟨b, off, hA, hcx⟩ := ROW.out wr hnx.out.1 k (by omega)
      obtain ⟨hb1, hb2⟩ := HB.out wr hnx.out
      have hq0 := hb1.cell
      have hq1 := hb2.c0
      have hq2 := hb2.c1
      have HYk := HY.out (List.range k) k wr hJs.out (by rw [List.length_range]; exact hlt)
      have e0 : L.getD k 0 = L[k]'(by omega) := by rw [List.getD_eq_getElem?_getD, List.getElem?_eq_getElem (by omega)]; rfl
      by_cases hnext : k + 1 < n
      · obtain ⟨b', off', hA', hcy⟩ := ROW.out wr hnx.out.1 (k + 1) (by omega)
        have e1 : end13 hi L k = L[k + 1]'(by omega) := by rw [end13_next (by omega), List.getD_eq_getElem?_getD, List.getElem?_eq_getElem (by omega)]; rfl
        rw [encS13, e0, e1] at HYk
        rw [hA] at hA'
        injection hA' with hA'
        injection hA' with hA1 hA2
        subst hA1; subst hA2
        obtain ⟨fn, tmps, assign, body, hy, hR⟩ := HYk
        clear e0 e1 hb1 hb2
        generalize L[k]'(by omega) = x at *
        generalize L[k + 1]'(by omega) = y at *
        subst hA
        gi_wp2
        refine hR.mono ?_
        rintro e W3 (⟨rfl, hJ3, hk3⟩ | ⟨rfl, hJx3⟩)
        · gi_wp2
          go_roundw
          case rel => exact ⟨k + 1, by omega, by simp, by rw [List.range_succ]; exact hJ3, hnx.out.trans hk3⟩
          case measure => simp [intOf]; omega
        · gi_wp2
          refine bodyPost_ret (results_none rfl _ _ _) rfl ?_
          exact ⟨⟨_, rfl⟩, .inr ⟨_, ⟨k + 1, by omega, List.range_succ.symm⟩, hJx3⟩⟩
      · have e1 : end13 hi L k = hi := end13_last (by omega)
        rw [encS13, e0, e1] at HYk
        obtain ⟨fn, tmps, assign, body, hy, hR⟩ := HYk
        clear e0 e1 hb1 hb2
        generalize L[k]'(by omega) = x at *
        subst hA
        gi_wp2
        refine hR.mono ?_
        rintro e W3 (⟨rfl, hJ3, hk3⟩ | ⟨rfl, hJx3⟩)
        · gi_wp2
          go_roundw
          case rel => exact ⟨k + 1, by omega, by simp, by rw [List.range_succ]; exact hJ3, hnx.out.trans hk3⟩
          case measure => simp [intOf]; omega
        · gi_wp2
          refine bodyPost_ret (results_none rfl _ _ _) rfl ?_
          exact ⟨⟨_, rfl⟩, .inr ⟨_, ⟨k + 1, by omega, List.range_succ.symm⟩, hJx3⟩⟩
    · obtain rfl : k = n := by omega
      gi_wp2
      go_end0
      exact ⟨⟨_, rfl⟩, .inl ⟨_, rfl, hJs.out⟩⟩

theorem child_stops (Bc Bs n₀ : Nat) (A : Option Addr) (n c : Nat) (L : List Int) (lo hi : Int) (w : World) (hn : n₀ ≤ w.heap.size)
    (hc : Boxed w Bc 33 (.slice A n c)) (hs : SpnAt w Bs lo hi)
    (hI : Ints w A n c L) (hIn : 0 < L.length → ∀ ad, A = some ad → ad.block < n₀) :
    SeqStopsK Fence.wide 1 Tryz.prog 93 #[.pointer (some ⟨Bc, 0, none⟩), .pointer (some ⟨Bs, 0, none⟩)] (encS13 hi L) (KpS13 n₀ Bc Bs) (fun ys => ys = List.range n) (fun pre => ∃ k, k ≤ n ∧ pre = List.range k) n w := fun l J Jx W hW _ _ hY h0 =>
  child1_in l Bc Bs n₀ A n c L lo hi J Jx hY W ((hW.block Bc hc.lt).trans hc) (hs.later hW) (hI.below hW) hIn h0

set_option maxHeartbeats 1000000 in
theorem children_any13 (lo hi : Int) (A : Option Addr) (n c : Nat) (w : World) :
    Calls Tryz.prog 80 #[spnV lo hi, .slice A n c] w fun e w' => e = .returned (.func (.func 93) #[] #[.pointer (some ⟨w.heap.size + 1, 0, none⟩), .pointer (some ⟨w.heap.size, 0, none⟩)]) ∧ w' = (w.alloc (.cells #[.int .i64 lo, .int .i64 hi] 78)).alloc (.cells #[.slice A n c] 33) := by
  go_enter Tryz.func80, Tryz.ntmps80
  go_wp2
  go_ret
  exact ⟨by simp, rfl⟩

end Go.Proofs.YtnjlganofjkpfaaGreat

/-
  Layer 13: Split.
-/
namespace Go.Proofs.YtnjlganofjkpfaaGreat
open Go.RowKit Go.Shelf
set_option linter.unusedVariables false
set_option linter.unusedSimpArgs false
attribute [local go_sem] Oper.semAt_some

theorem info_span13 : (Tryz.prog.info? 78).map (fun i => (i.zero, i.size, i.bytes)) = some (some (spnV 0 0), 2, 16) := by kernel_rfl

theorem spnAt_own {β : Type} (B : Nat) (f : β → Int × Int) : Own (fun s W => SpnAt W B (f s).1 (f s).2) := fun s X Y row hs hg hrow => by
  refine (hg.block B hs.lt ?_).trans hs
  intro e
  obtain ⟨o, ho, hc⟩ := hrow B e.symm
  rw [show X.heap[B]? = _ from hs] at ho
  cases ho; cases hc

/-- what the loop's body keeps: the spans collected, all below as it was -/
def Col13 (w : World) (B g n : Nat) (hi : Int) (L : List Int) (pre : List Nat) (W : World) : Prop :=
  (∃ v, Boxed W B 118 v ∧ W.ownsRow (w.heap.size + 1) 78 2 v pre.length (pair64 (pre.map (chd13 hi L))) ∧ v = .slice (some ⟨g, 0, none⟩) pre.length n) ∧ (Below w.heap.size w W ∧ B + 3 ≤ W.heap.size)
theorem Col13.own (w : World) (B g n : Nat) (hi : Int) (L : List Int) (C : Nat) (hC : w.heap.size ≤ C) : OwnFrom C (Col13 w B g n hi L) :=
  OwnFrom.and (Own.from (holdsRow_own (w.heap.size + 1) B 118 78 2 (fun pre : List Nat => pre.length) (fun pre => pair64 (pre.map (chd13 hi L))) (fun pre v => v = .slice (some ⟨g, 0, none⟩) pre.length n)) _)
    (OwnFrom.and (ownFrom_below (Nat.le_refl _) hC) (fun s X Y row hs hg hr => Nat.le_trans hs hg.size))

theorem Col13.step {w W w1 : World} {B g n Bc Bs : Nat} {hi : Int} {L : List Int} {pre : List Nat} {x : Nat} {v : Value} {tmp : Obj}
    (hv : Boxed W B 118 v) (hrow : W.ownsRow (w.heap.size + 1) 78 2 v pre.length (pair64 (pre.map (chd13 hi L)))) (hve : v = .slice (some ⟨g, 0, none⟩) pre.length n) (hB : Below w.heap.size w W) (hBl : w.heap.size + 1 ≤ B) (hsz : w.heap.size + 1 ≤ W.heap.size)
    (hB3 : B + 3 ≤ W.heap.size) (hc : Bc < W.heap.size) (hs : Bs < W.heap.size) (hcg : Bc ≠ g) (hsg : Bs ≠ g) (hcB : Bc ≠ B) (hsB : Bs ≠ B)
    (hown' : w1.ownsRow (w.heap.size + 1) 78 2 (.slice (some ⟨g, 0, none⟩) (pre.length + 1) n) (pre.length + 1) (pair64 (pre.map (chd13 hi L)) ++ [.int .i64 (L.getD x 0), .int .i64 (end13 hi L x)])) (hgrow : (W.alloc tmp).grownBy w1 (some g)) (C : Nat) :
    Boxed w1 B 118 v ∧ KeepsFrom C W (w1.setCell ⟨B, 0, none⟩ (.slice (some ⟨g, 0, none⟩) (pre.length + 1) n)) ∧ KpS13 (w.heap.size + 1) Bc Bs W (w1.setCell ⟨B, 0, none⟩ (.slice (some ⟨g, 0, none⟩) (pre.length + 1) n)) ∧ Col13 w B g n hi L (pre ++ [x]) (w1.setCell ⟨B, 0, none⟩ (.slice (some ⟨g, 0, none⟩) (pre.length + 1) n)) := by
  obtain ⟨hv1, hv2, hr2, hk2, hb2⟩ := hv.appended (by decide) hrow hsz hBl hown' (by subst hve; exact hgrow)
  have blk : ∀ q, q < W.heap.size → q ≠ g → q ≠ B → (w1.setCell ⟨B, 0, none⟩ (.slice (some ⟨g, 0, none⟩) (pre.length + 1) n)).heap[q]? = W.heap[q]? := fun q h1 h2 h3 => by
    rw [heap_setCell_other _ _ q _ h3, hgrow.block q (by rw [World.size_alloc]; omega) (fun e => h2 (by cases e; rfl))]
    exact Below.heap_alloc W _ q h1
  refine ⟨hv1, hk2.from _, ⟨hb2, blk Bc hc hcg hcB, blk Bs hs hsg hsB⟩, ⟨_, hv2, ?_, by rw [List.length_append]; rfl⟩, hB.trans (hb2.mono (by omega)), Nat.le_trans hB3 hb2.size⟩
  rw [List.map_append, List.length_append]
  exact (pair64_snoc _ (chd13 hi L x)).symm ▸ hr2

theorem cell_two_new13 (w : World) (x y : Value) (t : TypeId) : ∀ j u, [x, y][j]? = some u → (w.alloc (.cells #[x, y] t)).cell? ((⟨w.heap.size, 0, none⟩ : Addr).add j) = some u := fun j u h => by
  have := cells_new w #[x, y] t
  exact this j u (by simpa using h)

theorem ownsRow_wholeS0 {w : World} {base size : Nat} {e : TypeId} {g m n : Nat} {xs : List Value} (h : w.ownsRow base e size (.slice (some ⟨g, 0, none⟩) m n) m xs) : g < w.heap.size := by
  rcases h.2 with ⟨hv, _⟩ | ⟨g', cap, cur, hv, _, hh, _⟩
  · cases hv
  · injection hv with h1
    injection h1 with h1
    injection h1 with h1
    subst h1
    exact block_lt hh

set_option maxRecDepth 100000 in
set_option maxHeartbeats 2000000 in
theorem Split_good13 {A : Option Addr} {n c : Nat} {L : List Int} (lo hi : Int) (w : World) (h : Ints w A n c L) (hn : n ≤ 1000000) (hf : fit13 lo hi L = 0) :
    Calls Tryz.prog 62 #[spnV lo hi, .slice A n c] w fun e w' => ∃ A' c', e = .returned (.slice A' n c') ∧ Prs w' A' n c' (spl13 lo hi L) ∧ Below w.heap.size w w' ∧ Newer w.heap.size A' := by
  rw [spl13_ok hf, h.len]
  have hw0 := SpnAt.new w lo hi
  have hb0 := (Below.refl w.heap.size w).alloc (Nat.le_refl _) (.cells #[.int .i64 lo, .int .i64 hi] 78)
  have a0 := hw0.c0
  have a1 := hw0.c1
  have FT := Lib.hid (Fits_any13 lo hi _ (h.below hb0))
  rw [hf] at FT
  have HB0 := Lib.hid hb0
  have HW0 := Lib.hid hw0
  have HI := Lib.hid h
  have hcap := h.cap
  have hmost := h.most
  have hsz0 : w.heap.size + 1 = (w.alloc (.cells #[.int .i64 lo, .int .i64 hi] 78)).heap.size := by simp
  obtain ⟨i0, hi0, hz0, hz1, hz2⟩ := info_parts info_span13
  clear h hw0 hb0 hf
  refine (callsIn_wide (n := 2)).1 ?_
  refine callsIn_of_wp_marks Tryz.func62 rfl trivial ?_ rfl
  simp only [Tryz.ntmps62, List.size_toArray, List.length_cons, List.length_nil, Nat.reduceAdd, Nat.reduceSub, Array.replicate_succ, Array.replicate_zero, List.push_toArray, List.append_toArray, List.nil_append, List.cons_append]
  gi_wp2_with (first
    | (refine ⟨trivial, ?_⟩; gi_at_call 61; refine (callsIn_wide.2 FT.out).mono ?_; rintro e w1 ⟨rfl, hb1⟩; have HB1 := Lib.hid (HB0.out.trans (hb1.mono HB0.out.size)); have hs1 : w.heap.size + 1 ≤ w1.heap.size := Nat.le_trans (Nat.le_of_eq hsz0) hb1.size; have hw1 := HW0.out.later hb1; have b0 := hw1.c0; have b1 := hw1.c1; have HW1 := Lib.hid hw1; clear hw1 hb1 a0 a1)
    | (gi_at_make; refine wpListIn_make_own _ rfl _ _ _ rfl (w.heap.size + 1) 78 i0 _ 2 Tryz.underlying118 hi0 hz0 hz1 .i64 .i64 _ n rfl rfl rfl (by rw [hz2]; omega) (by simp only [maxLen]; omega) hs1 ?_; intro w2 hown2 hg2; have hw2 : SpnAt w2 w.heap.size lo hi := (hg2.block _ HW1.out.lt (by simp)).trans HW1.out; have hw3 := hw2.later ((Below.refl _ w2).alloc (Nat.le_refl _) (.cells #[.slice (some ⟨w1.heap.size, 0, none⟩) 0 n] 118)); have d0 := hw3.c0; have d1 := hw3.c1; have HW2 := Lib.hid hw2; have HO2 := Lib.hid hown2; have hb2 := below_of_grown hg2 (by simp); have HB2 := Lib.hid (HB1.out.trans (hb2.mono HB1.out.size)); have hs2 := hb2.size; clear hw2 hw3 hown2 hg2 hb2 b0 b1)
    | (refine ⟨trivial, ?_⟩; gi_at_call 80; refine (callsIn_wide.2 (children_any13 _ _ _ _ _ _)).mono ?_; rintro e w' ⟨rfl, rfl⟩))
  clear FT d0 d1
  obtain ⟨g, hg⟩ : ∃ g, g = w1.heap.size := ⟨_, rfl⟩
  obtain ⟨B, hB⟩ : ∃ B, B = w2.heap.size := ⟨_, rfl⟩
  have hO3 : w2.ownsRow (w.heap.size + 1) 78 2 (.slice (some ⟨g, 0, none⟩) 0 n) 0 [] := by rw [hg]; exact HO2.out
  have hgB : g < B := by
    have := ownsRow_wholeS0 hO3
    rw [hB]; exact this
  have hBl : w.heap.size + 1 ≤ B := by omega
  obtain ⟨W0, hW0⟩ : ∃ W0, (((w2.alloc (.cells #[.slice (some ⟨w1.heap.size, 0, none⟩) 0 n] 118)).alloc (.cells #[.int .i64 lo, .int .i64 hi] 78)).alloc (.cells #[.slice A n c] 33)) = W0 := ⟨_, rfl⟩
  have hsz : W0.heap.size = B + 3 := by rw [← hW0, hB]; simp
  have bV : Boxed W0 B 118 (.slice (some ⟨g, 0, none⟩) 0 n) := by rw [← hW0, hB, hg]; exact ((Boxed.new w2 _ _).alloc _).alloc _
  have bS : SpnAt W0 (B + 1) lo hi := by
    have := SpnAt.new (w2.alloc (.cells #[.slice (some ⟨w1.heap.size, 0, none⟩) 0 n] 118)) lo hi
    rw [World.size_alloc] at this
    rw [← hW0, hB]; exact this.later ((Below.refl _ _).alloc (Nat.le_refl _) _)
  have bC : Boxed W0 (B + 2) 33 (.slice A n c) := by
    have := Boxed.new ((w2.alloc (.cells #[.slice (some ⟨w1.heap.size, 0, none⟩) 0 n] 118)).alloc (.cells #[.int .i64 lo, .int .i64 hi] 78)) 33 (.slice A n c)
    rw [World.size_alloc, World.size_alloc] at this
    rw [← hW0, hB]; exact this
  have hO4 : W0.ownsRow (w.heap.size + 1) 78 2 (.slice (some ⟨g, 0, none⟩) 0 n) 0 [] := by rw [← hW0]; exact ((hO3.alloc _).alloc _).alloc _
  have hB0 : Below w.heap.size w W0 := by rw [← hW0]; exact ((HB2.out.alloc HB2.out.size _).alloc (by simp; omega) _).alloc (by simp; omega) _
  have e2 : w2.heap.size + 1 + 1 = B + 2 := by rw [hB]
  have e1 : w2.heap.size + 1 = B + 1 := by rw [hB]
  rw [← hg] at hW0
  simp only [← hg]
  simp only [hW0]
  simp only [e2, e1, ← hB]
  clear hW0 e1 e2 hO3 HO2 HW2 HB2 hB hg hs1 hs2
  have hst := child_stops (B + 2) (B + 1) (w.heap.size + 1) A n c L lo hi W0 (by omega) bC bS (HI.out.below hB0)
    (fun h0 ad e => by
      obtain ⟨b, off, e2, hl, _⟩ := HI.out.row.lit (by rw [i64s_length]; exact h0)
      rw [e] at e2
      cases e2; exact Nat.lt_succ_of_lt hl)
  have HST := Lib.hid hst
  clear hst
  refine wpIn_rangeFunc_ownH rfl (Nat.le_succ 1) (gf := 93) (lb := #[.pointer (some ⟨B + 2, 0, none⟩), .pointer (some ⟨B + 1, 0, none⟩)]) rfl trivial (enters_of Tryz.func93 (by kernel_rfl) rfl)
    HST.out KpS13.trans (KpS13.put (by omega) (by omega) (by omega)) (Below.refl _ _) (fun _ => rfl)
    (Col13 w B g n hi L)
    (fun _ _ _ => False)
    (Col13.own _ _ _ _ _ _ _ (by omega))
    (fun _ _ _ _ _ hs _ _ => hs)
    ⟨⟨_, bV, hO4, rfl⟩, hB0, by omega⟩
    (fun x a' W => ∃ Bx, SpnAt W Bx (L.getD x 0) (end13 hi L x) ∧ a' = { tmps := #[spnV lo hi, .slice A n c, .pointer (some ⟨w.heap.size, 0, none⟩), undef, .slice none 0 0, .pointer (some ⟨B, 0, none⟩), undef, .pointer (some ⟨Bx, 0, none⟩), .agg #[.int .i64 lo, .int .i64 hi], .slice A n c, .int .i64 0, .bool false, .slice A n c, .int .i64 n, .slice (some ⟨g, 0, none⟩) 0 n, .agg #[.int .i64 lo, .int .i64 hi], .slice A n c, .func (.func 93) #[] #[.pointer (some ⟨B + 2, 0, none⟩), .pointer (some ⟨B + 1, 0, none⟩)], .int .i64 (x : Int), .agg #[.int .i64 (L.getD x 0), .int .i64 (end13 hi L x)], undef, undef, undef, undef, undef], defers := [] })
    (fun x a' s X Y row hs hg hr => by
      obtain ⟨Bx, e1, e2⟩ := hs
      exact ⟨Bx, spnAt_own Bx (fun _ : Unit => (L.getD x 0, end13 hi L x)) () X Y row e1 hg (fun r e => (hr r e).2), e2⟩) ?assign ?body ?done ?stop
  case assign =>
    rintro l pre x W K ⟨⟨v, hv, hrow, hve⟩, hbb, hbs⟩ hK
    have hal := (Below.refl W.heap.size W).alloc (Nat.le_refl _) (.cells #[.int .i64 (L.getD x 0), .int .i64 (end13 hi L x)] 78)
    have hfin := hK { tmps := #[spnV lo hi, .slice A n c, .pointer (some ⟨w.heap.size, 0, none⟩), undef, .slice none 0 0, .pointer (some ⟨B, 0, none⟩), undef, .pointer (some ⟨W.heap.size, 0, none⟩), .agg #[.int .i64 lo, .int .i64 hi], .slice A n c, .int .i64 0, .bool false, .slice A n c, .int .i64 n, .slice (some ⟨g, 0, none⟩) 0 n, .agg #[.int .i64 lo, .int .i64 hi], .slice A n c, .func (.func 93) #[] #[.pointer (some ⟨B + 2, 0, none⟩), .pointer (some ⟨B + 1, 0, none⟩)], .int .i64 (x : Int), .agg #[.int .i64 (L.getD x 0), .int .i64 (end13 hi L x)], undef, undef, undef, undef, undef], defers := [] }
      (W.alloc (.cells #[.int .i64 (L.getD x 0), .int .i64 (end13 hi L x)] 78)) ((KeepsOthers.alloc _ _).from _) ⟨hal.mono (by omega), hal.block _ (by omega), hal.block _ (by omega)⟩
      ⟨⟨v, hv.alloc _, hrow.alloc _, hve⟩, hbb.trans (hal.mono hbb.size), Nat.le_trans hbs hal.size⟩ ⟨W.heap.size, SpnAt.new W _ _, rfl⟩
    have HFIN := Lib.hid hfin
    unfold encS13
    clear hK hfin hal
    generalize L.getD x 0 = x0 at *
    generalize end13 hi L x = y0 at *
    gi_wp2
    exact HFIN.out
  case body =>
    rintro l pre x a' W hl hr ⟨⟨v, hv, hrow, rfl⟩, hbb, hbs⟩ ⟨Bx, hbx, rfl⟩ hlt
    have hc := hv.cell
    have hx0 := hbx.c0
    have hx1 := hbx.c1
    have ST : Hid (∀ w1 tmp, w1.ownsRow (w.heap.size + 1) 78 2 (.slice (some ⟨g, 0, none⟩) (pre.length + 1) n) (pre.length + 1) (pair64 (pre.map (chd13 hi L)) ++ [.int .i64 (L.getD x 0), .int .i64 (end13 hi L x)]) → (W.alloc tmp).grownBy w1 (some g) → _) := fun w1 tmp h1 h2 => Col13.step (Bc := B + 2) (Bs := B + 1) hv hrow rfl hbb hBl (by omega) hbs (by omega) (by omega) (by omega) (by omega) (by omega) (by omega) h1 h2 W0.heap.size
    clear hbx
    generalize L.getD x 0 = x0 at *
    generalize end13 hi L x = y0 at *
    generalize pre.map (chd13 hi L) = PR at *
    gi_wp2_with (gi_at_builtin; refine wpListIn_append_fits _ rfl _ _ 118 rfl (w.heap.size + 1) 78 i0 2 Tryz.underlying118 hi0 hz1 g pre.length n _ rfl (hrow.alloc _) ⟨W.heap.size, 0, none⟩ 1 1 [.int .i64 x0, .int .i64 y0] rfl rfl (cell_two_new13 _ _ _ _) (by simp [Value.oneCell']) (by omega) ?_; intro w1 hown' hgrow; obtain ⟨hv1, hk2, hp2, hC2⟩ := ST.out _ _ hown' hgrow; have hc1 := hv1.cell; have hf1 := hv1.frozen)
    exact ⟨hk2, hp2, hC2⟩
  case done =>
    rintro D ys W hD rfl ⟨⟨v, hv, hrow, rfl⟩, hbb, hbs⟩ hK
    have hc := hv.cell
    rw [List.length_range] at hrow hc
    have hr2 := ownsRow_putObj hrow (.deferred none) hK rfl
    obtain ⟨A2, c2, he2, hP⟩ := Prs.of_own hr2
    injection he2 with he3 he4 he5
    subst he3; subst he5
    have HP := Lib.hid hP
    have HN : Hid (Newer w.heap.size (some ⟨g, 0, none⟩)) := (Newer.of_own hrow).mono (by omega)
    have HBB : Hid (Below w.heap.size w (W.putObj D (.deferred none))) := hbb.trans (belowK_b (w := w) (Nat.le_refl _) W D _ _ (by omega) hK rfl rfl)
    clear hP hrow hr2
    gi_wp2
    refine ⟨by simp, .inl ⟨_, _, rfl, run_takeDeferred hK, ?_⟩⟩
    exact ⟨_, results_tmp rfl _ _ _, _, _, rfl, HP.out, HBB.out, HN.out⟩
  case stop =>
    rintro D c pre W _ _ h _
    exact h.elim

end Go.Proofs.YtnjlganofjkpfaaGreat
