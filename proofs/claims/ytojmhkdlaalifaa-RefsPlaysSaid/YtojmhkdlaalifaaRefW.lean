/-
  Layer 12: the iterator over the counts that meet a condition.
-/
import Derived.RangeFuncBox
import Derived.RangeFuncLeaves
import Derived.RangeFuncCalls
import Derived.Shelf.Abstract
import Derived.OwnWalkIn
import Derived.TacticsInMore
import Derived.LoopNIn
import Derived.LoopIn
import Derived.Test.YtojmhkdlaalifaaChecked
import Derived.Test.YtojmhkdlaalifaaRefMath
namespace Go.Proofs.Ytojmhkdlaalifaa
open Go.RowKit Go.Shelf
set_option linter.unusedVariables false
set_option linter.unusedSimpArgs false
attribute [local go_sem] Oper.semAt_some

/-- the indices, of the first k, that are kept -/
def keptR12 (p : Nat → Bool) (k : Nat) : List Nat := (List.range k).filter p
theorem keptR12_zero (p : Nat → Bool) : keptR12 p 0 = [] := rfl
theorem keptR12_yes {p : Nat → Bool} {k : Nat} (h : p k = true) : keptR12 p (k + 1) = keptR12 p k ++ [k] := by
  unfold keptR12
  rw [List.range_succ, List.filter_append, fil1R12, if_pos h]
theorem keptR12_no {p : Nat → Bool} {k : Nat} (h : p k = false) : keptR12 p (k + 1) = keptR12 p k := by
  unfold keptR12
  rw [List.range_succ, List.filter_append, fil1R12, if_neg (by rw [h]; decide), List.append_nil]
theorem keptR12_le (p : Nat → Bool) (k : Nat) : (keptR12 p k).length ≤ k := by
  unfold keptR12
  exact Nat.le_trans (List.length_filter_le _ _) (by simp)

/-- what a round keeps: all below n₀, and block Bm -/
def KpR12 (n₀ Bm : Nat) (W W' : World) : Prop := Below n₀ W W' ∧ W'.heap[Bm]? = W.heap[Bm]?
theorem KpR12.refl (n₀ Bm : Nat) (W : World) : KpR12 n₀ Bm W W := ⟨Below.refl _ _, rfl⟩
theorem KpR12.trans {n₀ Bm : Nat} {A B C : World} (h : KpR12 n₀ Bm A B) (k : KpR12 n₀ Bm B C) : KpR12 n₀ Bm A C := ⟨h.1.trans k.1, k.2.trans h.2⟩
theorem KpR12.put {n₀ Bm : Nat} {w : World} (hn : n₀ ≤ w.heap.size) (hB : Bm < w.heap.size) (W : World) (l : Nat) (o o' : Obj) (hl : w.heap.size ≤ l) (h : W.heap[l]? = some o) (h1 : o.isCells = false) (h2 : o.isWalk = false) : KpR12 n₀ Bm W (W.putObj l o') :=
  ⟨belowK_b hn W l o o' hl h h1 h2, World.putObj_heap_other (by omega)⟩

set_option maxRecDepth 100000 in
set_option maxHeartbeats 2000000 in
theorem where1_in (m : Nat) (cap : Value) (p : Nat → Bool) (hm : ∀ args w, (callFunc m args).run Try.prog w = .ok (.enter m args) w)
    (l Bc Bm n₀ : Nat) (A : Option Addr) (len c : Nat) (L : List Int) (J Jx : List Nat → World → Prop)
    (hY : ∀ (pre : List Nat) (x : Nat) W, J pre W → pre.length < len → YieldAt Fence.wide 0 Try.prog l #[.int .i64 (x : Int)] W fun e W' =>
      (e = .returned (.bool true) ∧ J (pre ++ [x]) W' ∧ KpR12 n₀ Bm W W') ∨ (e = .returned (.bool false) ∧ Jx (pre ++ [x]) W'))
    (W : World) (hc : W.cell? ⟨Bc, 0, none⟩ = some (.slice A len c)) (hmm : W.cell? ⟨Bm, 0, none⟩ = some (.func (.func m) #[] #[cap]))
    (hI : Ints W A len c L) (hIn : 0 < L.length → ∀ ad, A = some ad → ad.block < n₀)
    (hmeets : ∀ W' k, (hk : k < L.length) → Below n₀ W W' → Calls Try.prog m #[.int .i64 (k : Int), .int .i64 L[k], cap] W' fun e W2 => e = .returned (.bool (p k)) ∧ W' = W2) (h0 : J [] W) :
    CallsIn Fence.wide 1 Try.prog 28 #[.func (.yield l) #[] #[], .pointer (some ⟨Bc, 0, none⟩), .pointer (some ⟨Bm, 0, none⟩)] W fun e W' => (∃ v, e = .returned v) ∧
      ((∃ ys, ys = keptR12 p len ∧ J ys W') ∨ (∃ pre, True ∧ Jx pre W')) := by
  have hlen := hI.len
  have hcap := hI.cap
  have hle := hI.le
  have ROW : Hid (∀ W', Below n₀ W W' → ∀ k, (hk : k < L.length) → ∃ b off, A = some ⟨b, off, none⟩ ∧ W'.cell? ⟨b, off + k, none⟩ = some (.int .i64 L[k])) := fun W' hb k hk => by
    obtain ⟨b, off, e, _, hc⟩ := hI.row.lit (by rw [i64s_length]; omega)
    have := hc k _ (i64s_at L k hk)
    exact ⟨b, off, e, (hb.cell (p := ⟨b, off + k, none⟩) (by exact hIn (by omega) ⟨b, off, Option.none⟩ e)).trans this⟩
  have MT := Lib.hid hmeets
  have HY := Lib.hid hY
  clear hmeets hI hIn hY
  refine callsIn_of_wp Try.func28 rfl trivial ?_ rfl
  simp only [Try.ntmps28, List.size_toArray, List.length_cons, List.length_nil, Nat.reduceAdd, Nat.reduceSub, Array.replicate_succ, Array.replicate_zero, List.push_toArray, List.append_toArray, List.nil_append, List.cons_append]
  gi_wp2
  gi_loopw [8] (fun i wr => ∃ k : Nat, k ≤ len ∧ i = .int .i64 k ∧ Hid (J (keptR12 p k) wr) ∧ Hid (KpR12 n₀ Bm W wr))
    (fun i _ => len - (intOf i).toNat)
  case atStart => exact ⟨0, Nat.zero_le _, rfl, h0, KpR12.refl _ _ _⟩
  case round =>
    obtain ⟨k, hk, rfl, hJs, hnx⟩ := hrel
    by_cases hlt : k < len
    · obtain ⟨b, off, rfl, hcx⟩ := ROW.out wr hnx.out.1 k (by omega)
      have hm1 : wr.cell? ⟨Bm, 0, none⟩ = some (.func (.func m) #[] #[cap]) := (World.cell?_of_block (a := ⟨Bm, 0, none⟩) hnx.out.2).trans hmm
      have M := Lib.hid (MT.out wr k (by omega) hnx.out.1)
      generalize hx : L[k]'(by omega) = x at *
      cases hp : p k with
      | false =>
        rw [hp] at M
        gi_wp2
        refine ⟨trivial, (callsIn_wide.2 M.out).mono ?_⟩
        rintro e W2 ⟨rfl, rfl⟩
        gi_wp2
        refine ⟨fun _ h => (by cases h), ?_⟩
        gi_wp2
        go_roundw
        case rel => exact ⟨k + 1, by omega, by simp, by rw [keptR12_no hp]; exact hJs, hnx⟩
        case measure => simp [intOf]; omega
      | true =>
        rw [hp] at M
        obtain ⟨fn, tmps, assign, body, hy, hR⟩ := HY.out _ k wr hJs.out (by have := keptR12_le p k; omega)
        gi_wp2
        refine ⟨trivial, (callsIn_wide.2 M.out).mono ?_⟩
        rintro e W2 ⟨rfl, rfl⟩
        gi_wp2
        refine hR.mono ?_
        rintro e W3 (⟨rfl, hJ3, hk3⟩ | ⟨rfl, hJx3⟩)
        · gi_wp2
          go_roundw
          case rel => exact ⟨k + 1, by omega, by simp, by rw [keptR12_yes hp]; exact hJ3, hnx.out.trans hk3⟩
          case measure => simp [intOf]; omega
        · gi_wp2
          refine bodyPost_ret (results_none rfl _ _ _) rfl ?_
          exact ⟨⟨_, rfl⟩, .inr ⟨_, trivial, hJx3⟩⟩
    · obtain rfl : k = len := by omega
      gi_wp2
      go_end0
      exact ⟨⟨_, rfl⟩, .inl ⟨_, rfl, hJs.out⟩⟩

theorem where_stops (m : Nat) (cap : Value) (p : Nat → Bool) (hm : ∀ args w, (callFunc m args).run Try.prog w = .ok (.enter m args) w)
    (Bc Bm n₀ : Nat) (A : Option Addr) (len c : Nat) (L : List Int) (w : World) (hn : n₀ ≤ w.heap.size)
    (hc : w.cell? ⟨Bc, 0, none⟩ = some (.slice A len c)) (hmm : w.cell? ⟨Bm, 0, none⟩ = some (.func (.func m) #[] #[cap]))
    (hI : Ints w A len c L) (hIn : 0 < L.length → ∀ ad, A = some ad → ad.block < n₀)
    (hmeets : ∀ W' k, (hk : k < L.length) → Below n₀ w W' → Calls Try.prog m #[.int .i64 (k : Int), .int .i64 L[k], cap] W' fun e W2 => e = .returned (.bool (p k)) ∧ W' = W2) :
    SeqStopsK Fence.wide 1 Try.prog 28 #[.pointer (some ⟨Bc, 0, none⟩), .pointer (some ⟨Bm, 0, none⟩)] (fun x : Nat => #[Value.int .i64 (x : Int)]) (KpR12 n₀ Bm) (fun ys => ys = keptR12 p len) (fun _ => True) len w := fun l J Jx W hW _ _ hY h0 =>
  where1_in m cap p hm l Bc Bm n₀ A len c L J Jx hY W ((hW.cell (p := ⟨Bc, 0, none⟩) (cell_lt hc)).trans hc) ((hW.cell (p := ⟨Bm, 0, none⟩) (cell_lt hmm)).trans hmm) (hI.below hW) hIn
    (fun W' k hk hb => hmeets W' k hk ((hW.mono hn).trans hb)) h0

set_option maxHeartbeats 1000000 in
theorem where_in (A : Option Addr) (len c : Nat) (m : Nat) (cap : Value) (w : World) :
    Calls Try.prog 25 #[.slice A len c, .func (.func m) #[] #[cap]] w fun e w' => e = .returned (.func (.func 28) #[] #[.pointer (some ⟨w.heap.size, 0, none⟩), .pointer (some ⟨w.heap.size + 1, 0, none⟩)]) ∧ w' = (w.alloc (.cells #[.slice A len c] 22)).alloc (.cells #[.func (.func m) #[] #[cap]] 51) := by
  go_enter Try.func25, Try.ntmps25
  go_wp2
  go_ret
  exact ⟨by simp, rfl⟩

end Go.Proofs.Ytojmhkdlaalifaa
