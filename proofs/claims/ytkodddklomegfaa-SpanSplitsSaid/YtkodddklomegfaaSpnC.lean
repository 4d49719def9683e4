/-
  Layer 13: the iterator over the indices and the spans of children.
-/
import Derived.RangeFuncBox
import Derived.RangeFuncLeaves
import Derived.RangeFuncCalls
import Derived.Shelf.Abstract
import Derived.OwnWalkIn
import Derived.TacticsInMore
import Derived.LoopNIn
import Derived.LoopIn
import Derived.Test.YtkodddklomegfaaSpnB
namespace Go.Proofs.Ytkodddklomegfaa
open Go.RowKit Go.Shelf
set_option linter.unusedVariables false
set_option linter.unusedSimpArgs false
attribute [local go_sem] Oper.semAt_some

/-- what a round is handed: an index, and that child's span -/
def encS13 (hi : Int) (L : List Int) (k : Nat) : Array Value := #[.int .i64 (k : Int), .agg #[.int .i64 (L.getD k 0), .int .i64 (end13 hi L k)]]

/-- what a round keeps: all below n₀, and the two variables of the iterator -/
def KpS13 (n₀ Bc Bs : Nat) (W W' : World) : Prop := Below n₀ W W' ∧ W'.heap[Bc]? = W.heap[Bc]? ∧ W'.heap[Bs]? = W.heap[Bs]?
theorem KpS13.refl (n₀ Bc Bs : Nat) (W : World) : KpS13 n₀ Bc Bs W W := ⟨Below.refl _ _, rfl, rfl⟩
theorem KpS13.trans {n₀ Bc Bs : Nat} {A B C : World} (h : KpS13 n₀ Bc Bs A B) (k : KpS13 n₀ Bc Bs B C) : KpS13 n₀ Bc Bs A C := ⟨h.1.trans k.1, k.2.1.trans h.2.1, k.2.2.trans h.2.2⟩
theorem KpS13.put {n₀ Bc Bs : Nat} {w : World} (hn : n₀ ≤ w.heap.size) (hB : Bc < w.heap.size) (hC : Bs < w.heap.size) (W : World) (l : Nat) (o o' : Obj) (hl : w.heap.size ≤ l) (h : W.heap[l]? = some o) (h1 : o.isCells = false) (h2 : o.isWalk = false) : KpS13 n₀ Bc Bs W (W.putObj l o') :=
  ⟨belowK_b hn W l o o' hl h h1 h2, World.putObj_heap_other (by omega), World.putObj_heap_other (by omega)⟩

set_option maxRecDepth 100000 in
set_option maxHeartbeats 2000000 in
theorem child1_in (l Bc Bs n₀ : Nat) (A : Option Addr) (n c : Nat) (L : List Int) (lo hi : Int) (J Jx : List Nat → World → Prop)
    (hY : ∀ (pre : List Nat) (x : Nat) W, J pre W → pre.length < n → YieldAt Fence.wide 0 Try.prog l (encS13 hi L x) W fun e W' =>
      (e = .returned (.bool true) ∧ J (pre ++ [x]) W' ∧ KpS13 n₀ Bc Bs W W') ∨ (e = .returned (.bool false) ∧ Jx (pre ++ [x]) W'))
    (W : World) (hc : Boxed W Bc 24 (.slice A n c)) (hs : SpnAt W Bs lo hi)
    (hI : Ints W A n c L) (hIn : 0 < L.length → ∀ ad, A = some ad → ad.block < n₀) (h0 : J [] W) :
    CallsIn Fence.wide 1 Try.prog 18 #[.func (.yield l) #[] #[], .pointer (some ⟨Bc, 0, none⟩), .pointer (some ⟨Bs, 0, none⟩)] W fun e W' => (∃ v, e = .returned v) ∧
      ((∃ ys, ys = List.range n ∧ J ys W') ∨ (∃ pre, (∃ k, k ≤ n ∧ pre = List.range k) ∧ Jx pre W')) := by
  have hlen := hI.len
  have hcap := hI.cap
  have hle := hI.le
  have ROW : Hid (∀ W', Below n₀ W W' → ∀ k, (hk : k < L.length) → ∃ b off, A = some ⟨b, off, none⟩ ∧ W'.cell? ⟨b, off + k, none⟩ = some (.int .i64 L[k])) := fun W' hb k hk => by
    obtain ⟨b, off, e, _, hc⟩ := hI.row.lit (by rw [i64s_length]; omega)
    have := hc k _ (i64s_at L k hk)
    exact ⟨b, off, e, (hb.cell (p := ⟨b, off + k, none⟩) (by exact hIn (by omega) ⟨b, off, Option.none⟩ e)).trans this⟩
  have HY := Lib.hid hY
  have hcc := hc.cell
  have HB : Hid (∀ W', KpS13 n₀ Bc Bs W W' → Boxed W' Bc 24 (.slice A n c) ∧ SpnAt W' Bs lo hi) := fun W' h => ⟨h.2.1.trans hc, h.2.2.trans hs⟩
  clear hI hIn hY hc hs
  refine callsIn_of_wp Try.func18 rfl trivial ?_ rfl
  simp only [Try.ntmps18, List.size_toArray, List.length_cons, List.length_nil, Nat.reduceAdd, Nat.reduceSub, Array.replicate_succ, Array.replicate_zero, List.push_toArray, List.append_toArray, List.nil_append, List.cons_append]
  gi_wp2
  gi_loopw [9] (fun i wr => ∃ k : Nat, k ≤ n ∧ i = .int .i64 k ∧ Hid (J (List.range k) wr) ∧ Hid (KpS13 n₀ Bc Bs W wr))
    (fun i _ => n - (intOf i).toNat)
  case atStart => exact ⟨0, Nat.zero_le _, rfl, h0, KpS13.refl _ _ _ _⟩
  case round =>
    obtain ⟨k, hk, rfl, hJs, hnx⟩ := hrel
    by_cases hlt : k < n
    · obtain ⟨b, off, hA, hcx⟩ := ROW.out wr hnx.out.1 k (by omega)
      obtain ⟨hb1, hb2⟩ := HB.out wr hnx.out
      have hq0 := hb1.cell
      have hq1 := hb2.c0
      have hq2 := hb2.c1
      have HYk := HY.out (List.range k) k wr hJs.out (by rw [List.length_range]; exact hlt)
      have e0 : L.getD k 0 = L[k]'(by omega) := by rw [List.getD_eq_getElem?_getD, List.getElem?_eq_getElem (by omega)]; rfl
      by_cases hnext : k + 1 < n
      · obtain ⟨b', off', hA', hcy⟩ := ROW.out wr hnx.out.1 (k + 1) (by omega)
        have e1 : end13 hi L k = L[k + 1]'(by omega) := by rw [end13_next (by omega), List.getD_eq_getElem?_getD, List.getElem?_eq_getElem (by omega)]; rfl
        rw [encS13, e0, e1] at HYk
        rw [hA] at hA'
        injection hA' with hA'
        injection hA' with hA1 hA2
        subst hA1; subst hA2
        obtain ⟨fn, tmps, assign, body, hy, hR⟩ := HYk
        clear e0 e1 hb1 hb2
        generalize L[k]'(by omega) = x at *
        generalize L[k + 1]'(by omega) = y at *
        subst hA
        gi_wp2
        refine hR.mono ?_
        rintro e W3 (⟨rfl, hJ3, hk3⟩ | ⟨rfl, hJx3⟩)
        · gi_wp2
          go_roundw
          case rel => exact ⟨k + 1, by omega, by simp, by rw [List.range_succ]; exact hJ3, hnx.out.trans hk3⟩
          case measure => simp [intOf]; omega
        · gi_wp2
          refine bodyPost_ret (results_none rfl _ _ _) rfl ?_
          exact ⟨⟨_, rfl⟩, .inr ⟨_, ⟨k + 1, by omega, List.range_succ.symm⟩, hJx3⟩⟩
      · have e1 : end13 hi L k = hi := end13_last (by omega)
        rw [encS13, e0, e1] at HYk
        obtain ⟨fn, tmps, assign, body, hy, hR⟩ := HYk
        clear e0 e1 hb1 hb2
        generalize L[k]'(by omega) = x at *
        subst hA
        gi_wp2
        refine hR.mono ?_
        rintro e W3 (⟨rfl, hJ3, hk3⟩ | ⟨rfl, hJx3⟩)
        · gi_wp2
          go_roundw
          case rel => exact ⟨k + 1, by omega, by simp, by rw [List.range_succ]; exact hJ3, hnx.out.trans hk3⟩
          case measure => simp [intOf]; omega
        · gi_wp2
          refine bodyPost_ret (results_none rfl _ _ _) rfl ?_
          exact ⟨⟨_, rfl⟩, .inr ⟨_, ⟨k + 1, by omega, List.range_succ.symm⟩, hJx3⟩⟩
    · obtain rfl : k = n := by omega
      gi_wp2
      go_end0
      exact ⟨⟨_, rfl⟩, .inl ⟨_, rfl, hJs.out⟩⟩

theorem child_stops (Bc Bs n₀ : Nat) (A : Option Addr) (n c : Nat) (L : List Int) (lo hi : Int) (w : World) (hn : n₀ ≤ w.heap.size)
    (hc : Boxed w Bc 24 (.slice A n c)) (hs : SpnAt w Bs lo hi)
    (hI : Ints w A n c L) (hIn : 0 < L.length → ∀ ad, A = some ad → ad.block < n₀) :
    SeqStopsK Fence.wide 1 Try.prog 18 #[.pointer (some ⟨Bc, 0, none⟩), .pointer (some ⟨Bs, 0, none⟩)] (encS13 hi L) (KpS13 n₀ Bc Bs) (fun ys => ys = List.range n) (fun pre => ∃ k, k ≤ n ∧ pre = List.range k) n w := fun l J Jx W hW _ _ hY h0 =>
  child1_in l Bc Bs n₀ A n c L lo hi J Jx hY W ((hW.block Bc hc.lt).trans hc) (hs.later hW) (hI.below hW) hIn h0

set_option maxHeartbeats 1000000 in
theorem children_any13 (lo hi : Int) (A : Option Addr) (n c : Nat) (w : World) :
    Calls Try.prog 17 #[spnV lo hi, .slice A n c] w fun e w' => e = .returned (.func (.func 18) #[] #[.pointer (some ⟨w.heap.size + 1, 0, none⟩), .pointer (some ⟨w.heap.size, 0, none⟩)]) ∧ w' = (w.alloc (.cells #[.int .i64 lo, .int .i64 hi] 23)).alloc (.cells #[.slice A n c] 24) := by
  go_enter Try.func17, Try.ntmps17
  go_wp2
  go_ret
  exact ⟨by simp, rfl⟩

end Go.Proofs.Ytkodddklomegfaa
