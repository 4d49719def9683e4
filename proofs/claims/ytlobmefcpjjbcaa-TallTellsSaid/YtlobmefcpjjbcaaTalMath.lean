/-
  Layer 15's mathematics: how keys are laid into nodes, and the levels of a packed tree.
-/
import Derived.Test.YtlobmefcpjjbcaaMem
namespace Go.Proofs.Ytlobmefcpjjbcaa
open Go.RowKit
set_option linter.unusedVariables false
set_option linter.unusedSimpArgs false

/-- how many nodes n keys want, of m keys each -/
def fil15 (n m : Nat) : Nat := (max n 1 - 1) / m + 1
theorem fil15_pos (n m : Nat) : 1 ≤ fil15 n m := Nat.le_add_left 1 _
theorem fil15_le {n m : Nat} (hm : 1 ≤ m) : fil15 n m ≤ max n 1 := by
  have := Nat.div_le_self (max n 1 - 1) m
  unfold fil15
  omega
theorem fil15_lt {k : Nat} (h : 1 < k) : fil15 k 18 < k := by unfold fil15; omega
/-- it is at most j just where j nodes have room -/
theorem fil15_room {n m j : Nat} (hm : 1 ≤ m) (hj : 1 ≤ j) : fil15 n m ≤ j ↔ n ≤ m * j := by
  unfold fil15
  have h1 : (max n 1 - 1) / m + 1 ≤ j ↔ (max n 1 - 1) / m < j := by omega
  rw [h1, Nat.div_lt_iff_lt_mul (by omega)]
  have : 1 ≤ m * j := Nat.mul_pos hm hj
  rw [Nat.mul_comm m j] at *
  omega
theorem fil15_is {n m k : Nat} (hm : 1 ≤ m) (h1 : n - k * m ≤ m) (h2 : k = 0 ∨ k * m < n) : fil15 n m = k + 1 := by
  have e : (k + 1) * m = k * m + m := Nat.succ_mul k m
  have : (max n 1 - 1) / m = k := by
    refine Nat.div_eq_of_lt_le ?_ ?_
    · rcases h2 with rfl | h2 <;> omega
    · rcases h2 with rfl | h2 <;> omega
  unfold fil15
  omega
theorem fil15_mono {n k m : Nat} (h : n ≤ k) : fil15 n m ≤ fil15 k m := by
  have := Nat.div_le_div_right (c := m) (show max n 1 - 1 ≤ max k 1 - 1 by omega)
  unfold fil15
  omega

/-- the keys of node k -/
def el15 (n m k : Nat) : Nat := min (n - k * m) m
/-- how n keys are laid -/
def siz15 (n m : Nat) : List Int := (List.range (fil15 n m)).map fun k => (el15 n m k : Int)
theorem siz15_length (n m : Nat) : (siz15 n m).length = fil15 n m := by simp [siz15]
theorem rest15_succ (n m k : Nat) : n - (k + 1) * m = n - k * m - m := by rw [Nat.succ_mul]; omega
/-- all but the last are full -/
theorem el15_full {n m k : Nat} (hm : 1 ≤ m) (h : k + 1 < fil15 n m) : el15 n m k = m ∧ m < n - k * m := by
  have h1 : ¬ n ≤ m * (k + 1) := fun h2 => by
    have := (fil15_room hm (Nat.succ_le_succ (Nat.zero_le k))).2 h2
    omega
  have e : m * (k + 1) = k * m + m := by rw [Nat.mul_comm, Nat.succ_mul]
  unfold el15
  omega
theorem el15_last {n m k : Nat} (hm : 1 ≤ m) (h : k + 1 = fil15 n m) : el15 n m k = n - k * m ∧ n - k * m ≤ m ∧ (k = 0 ∨ k * m < n) := by
  have h1 : n ≤ m * (k + 1) := (fil15_room hm (Nat.succ_le_succ (Nat.zero_le k))).1 (by omega)
  have e : m * (k + 1) = k * m + m := by rw [Nat.mul_comm, Nat.succ_mul]
  have h3 : k = 0 ∨ k * m < n := by
    by_cases hk : k = 0
    · exact .inl hk
    · right
      have h2 : ¬ n ≤ m * k := fun h2 => by
        have := (fil15_room hm (show 1 ≤ k by omega)).2 h2
        omega
      rw [Nat.mul_comm] at h2
      omega
  unfold el15
  omega
/-- the program's row after k nodes -/
def part15 (n m k : Nat) : List Int := ((List.range k).map fun i => (el15 n m i : Int)) ++ List.replicate (fil15 n m - k) 0
theorem part15_length {n m k : Nat} (h : k ≤ fil15 n m) : (part15 n m k).length = fil15 n m := by simp [part15]; omega
theorem part15_zero (n m : Nat) : part15 n m 0 = List.replicate (fil15 n m) 0 := by simp [part15]
theorem part15_all (n m : Nat) : part15 n m (fil15 n m) = siz15 n m := by simp [part15, siz15]
theorem part15_step {n m k : Nat} (hk : k < fil15 n m) : (part15 n m k).set k (el15 n m k : Int) = part15 n m (k + 1) := by
  have e1 : fil15 n m - k = (fil15 n m - (k + 1)) + 1 := by omega
  rw [part15, List.set_append_right _ _ (by simp), part15, List.range_succ, List.map_append, e1, List.replicate_succ]
  simp
/-- the reference's row after k nodes -/
def head15 (n m k : Nat) : List Int := (List.range k).map fun i => (el15 n m i : Int)
theorem head15_length (n m k : Nat) : (head15 n m k).length = k := by simp [head15]
theorem head15_succ (n m k : Nat) : head15 n m (k + 1) = head15 n m k ++ [(el15 n m k : Int)] := by simp [head15, List.range_succ]
theorem head15_all (n m : Nat) : head15 n m (fil15 n m) = siz15 n m := rfl
/-- sums of the first k -/
theorem head15_sum {n m : Nat} (hm : 1 ≤ m) : ∀ k, k ≤ fil15 n m → (head15 n m k).sum = (n : Int) - ((n - k * m : Nat) : Int)
  | 0, _ => by simp [head15]
  | k + 1, h => by
    rw [head15_succ, List.sum_append, head15_sum hm k (by omega)]
    have e := rest15_succ n m k
    unfold el15
    simp only [List.sum_cons, List.sum_nil]
    omega

/-- the levels above one of k nodes -/
def up15 (k : Nat) : List Int := if h : 1 < k then (fil15 k 18 : Int) :: up15 (fil15 k 18) else []
termination_by k
decreasing_by exact fil15_lt h
theorem up15_one {k : Nat} (h : ¬ 1 < k) : up15 k = [] := by rw [up15, dif_neg h]
theorem up15_more {k : Nat} (h : 1 < k) : up15 k = (fil15 k 18 : Int) :: up15 (fil15 k 18) := by rw [up15, dif_pos h]
/-- the levels of a tree of n entries whose leaves have m -/
def lev15 (n m : Nat) : List Int := (fil15 n m : Int) :: up15 (fil15 n m)

theorem up15_sum : ∀ N k : Nat, k ≤ N → 1 ≤ k → 0 ≤ (up15 k).sum ∧ (up15 k).sum ≤ (k : Int) - 1
  | 0, k, h, h1 => by omega
  | N + 1, k, h, h1 => by
    by_cases hk : 1 < k
    · have h2 := fil15_lt hk
      have h3 := fil15_pos k 18
      obtain ⟨a, b⟩ := up15_sum N (fil15 k 18) (by omega) h3
      rw [up15_more hk, List.sum_cons]
      have h4 : (fil15 k 18 : Int) + (fil15 k 18 : Int) ≤ k := by unfold fil15; omega
      omega
    · rw [up15_one hk]
      simp only [List.sum_nil]
      omega
theorem up15_mono : ∀ N k j : Nat, k ≤ N → k ≤ j → (up15 k).sum ≤ (up15 j).sum
  | 0, k, j, h, hj => by
    rw [up15_one (k := k) (by omega)]
    by_cases h1 : 1 ≤ j
    · exact (up15_sum j j (Nat.le_refl _) h1).1
    · rw [up15_one (by omega)]; exact Int.le_refl _
  | N + 1, k, j, h, hj => by
    by_cases hk : 1 < k
    · have h2 := fil15_lt hk
      have h3 := fil15_mono (m := 18) hj
      have := up15_mono N (fil15 k 18) (fil15 j 18) (by omega) h3
      rw [up15_more hk, up15_more (show 1 < j by omega), List.sum_cons, List.sum_cons]
      omega
    · rw [up15_one hk]
      by_cases h1 : 1 ≤ j
      · exact (up15_sum j j (Nat.le_refl _) h1).1
      · rw [up15_one (by omega)]; exact Int.le_refl _
theorem lev15_sum (n m : Nat) : 1 ≤ (lev15 n m).sum ∧ (lev15 n m).sum ≤ 2 * (fil15 n m : Int) := by
  have h := fil15_pos n m
  have := up15_sum _ _ (Nat.le_refl (fil15 n m)) h
  rw [lev15, List.sum_cons]
  omega
theorem lev15_mono {n k m : Nat} (h : n ≤ k) : (lev15 n m).sum ≤ (lev15 k m).sum := by
  have h1 := fil15_mono (m := m) h
  have := up15_mono _ _ _ (Nat.le_refl (fil15 n m)) h1
  rw [lev15, lev15, List.sum_cons, List.sum_cons]
  omega

theorem up15_length : ∀ N k : Nat, k ≤ N → (up15 k).length ≤ k
  | 0, k, h => by rw [up15_one (by omega)]; exact Nat.zero_le _
  | N + 1, k, h => by
    by_cases hk : 1 < k
    · have h2 := fil15_lt hk
      have := up15_length N (fil15 k 18) (by omega)
      rw [up15_more hk, List.length_cons]
      omega
    · rw [up15_one hk]; exact Nat.zero_le _
theorem lev15_length (n m : Nat) : (lev15 n m).length ≤ fil15 n m + 1 := by
  have := up15_length _ _ (Nat.le_refl (fil15 n m))
  rw [lev15, List.length_cons]
  omega
theorem up15_pos : ∀ N k : Nat, k ≤ N → ∀ x ∈ up15 k, (1 : Int) ≤ x
  | 0, k, h, x, hx => by rw [up15_one (by omega)] at hx; cases hx
  | N + 1, k, h, x, hx => by
    by_cases hk : 1 < k
    · have h2 := fil15_lt hk
      have h3 := fil15_pos k 18
      rw [up15_more hk] at hx
      rcases List.mem_cons.1 hx with rfl | hx
      · omega
      · exact up15_pos N (fil15 k 18) (by omega) x hx
    · rw [up15_one hk] at hx; cases hx
theorem lev15_pos (n m : Nat) : ∀ x ∈ lev15 n m, (1 : Int) ≤ x := fun x hx => by
  rcases List.mem_cons.1 hx with rfl | hx
  · have := fil15_pos n m; omega
  · exact up15_pos _ _ (Nat.le_refl _) x hx
/-- sums of the first k of a list that has no negative number -/
theorem take15_sum : ∀ (L : List Int) (k : Nat), (∀ x ∈ L, (1 : Int) ≤ x) → 0 ≤ (L.take k).sum ∧ (L.take k).sum ≤ L.sum
  | [], k, _ => by simp
  | x :: r, 0, h => by
    have h1 := h x (List.mem_cons_self ..)
    have := take15_sum r r.length (fun y hy => h y (List.mem_cons_of_mem _ hy))
    rw [List.take_of_length_le (Nat.le_refl _)] at this
    rw [List.take_zero, List.sum_cons, List.sum_nil]
    omega
  | x :: r, k + 1, h => by
    have h1 := h x (List.mem_cons_self ..)
    have := take15_sum r k (fun y hy => h y (List.mem_cons_of_mem _ hy))
    rw [List.take_succ_cons, List.sum_cons, List.sum_cons]
    omega
theorem take15_succ {L : List Int} {k : Nat} (h : k < L.length) : (L.take (k + 1)).sum = (L.take k).sum + L[k] := by
  rw [List.take_succ_eq_append_getElem h, List.sum_append, List.sum_cons, List.sum_nil, Int.add_zero]

/-- is there a tree of so many entries, its leaves of m (0: no such tree) -/
def some15 (m : Nat) (n : Int) : Bool := decide (m ≠ 0 ∧ 0 ≤ n ∧ n ≤ 32768)
/-- what Levels, Nodes and Sizes answer -/
def levL15 (m : Nat) (n : Int) : List Int := if some15 m n = true then lev15 n.toNat m else []
theorem levL15_some {m : Nat} {n : Int} (h : some15 m n = true) : levL15 m n = lev15 n.toNat m := if_pos h
theorem levL15_none {m : Nat} {n : Int} (h : some15 m n = false) : levL15 m n = [] := by unfold levL15; rw [h]; rfl
theorem levL15_pos (m : Nat) (n : Int) : ∀ x ∈ levL15 m n, (1 : Int) ≤ x := fun x hx => by
  unfold levL15 at hx
  split at hx
  · exact lev15_pos _ _ x hx
  · cases hx
theorem levL15_few {m : Nat} {n : Int} : (levL15 m n).length ≤ 32769 ∧ (levL15 m n).sum ≤ 65536 := by
  unfold levL15
  split
  · rename_i h
    have h := of_decide_eq_true h
    have h1 := fil15_le (n := n.toNat) (m := m) (by omega)
    have h2 := lev15_length n.toNat m
    have h3 := lev15_sum n.toNat m
    omega
  · simp
def sizL15 (n m : Int) : List Int := if 0 ≤ n ∧ n ≤ 32768 ∧ 1 ≤ m then siz15 n.toNat m.toNat else []

end Go.Proofs.Ytlobmefcpjjbcaa
