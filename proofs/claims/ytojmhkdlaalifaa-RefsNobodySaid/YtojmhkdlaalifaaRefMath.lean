/-
  Layer 12: counts of what was added; the items with at least so many; where two lists differ.
-/
import Derived.Test.YtojmhkdlaalifaaMem
namespace Go.Proofs.Ytojmhkdlaalifaa
open Go.RowKit
set_option linter.unusedVariables false
set_option linter.unusedSimpArgs false

theorem fil1R12 {α : Type} (p : α → Bool) (x : α) : [x].filter p = if p x = true then [x] else [] := by
  cases h : p x <;> simp [List.filter, h]

/-- how often item k stands in l -/
def cntR12 (l : List Int) (k : Nat) : Nat := l.count (k : Int)
/-- all counts of n items -/
def lstR12 (n : Nat) (l : List Int) : List Int := (List.range n).map fun k => (cntR12 l k : Int)
theorem lstR12_length (n : Nat) (l : List Int) : (lstR12 n l).length = n := by simp [lstR12]
theorem lstR12_at {n : Nat} {l : List Int} {k : Nat} (h : k < (lstR12 n l).length) : (lstR12 n l)[k] = (cntR12 l k : Int) := by simp [lstR12]
theorem cntR12_nil (k : Nat) : cntR12 [] k = 0 := rfl
theorem cntR12_le (l : List Int) (k : Nat) : cntR12 l k ≤ l.length := List.count_le_length
theorem lstR12_nil (n : Nat) : lstR12 n [] = List.replicate n 0 := by
  apply List.ext_getElem
  · simp [lstR12]
  · intro j h1 h2
    simp [lstR12, cntR12]
theorem cntR12_push (l : List Int) (x k : Nat) : cntR12 (l ++ [(x : Int)]) k = cntR12 l k + if k = x then 1 else 0 := by
  unfold cntR12
  rw [List.count_append, List.count_singleton]
  by_cases h : k = x
  · subst h; simp
  · rw [if_neg h, if_neg (by simp; omega)]
/-- one more -/
theorem lstR12_push {n : Nat} {l : List Int} {x : Nat} (h : x < n) : lstR12 n (l ++ [(x : Int)]) = (lstR12 n l).set x ((cntR12 l x : Int) + 1) := by
  apply List.ext_getElem
  · simp [lstR12]
  · intro j h1 h2
    rw [lstR12_at, List.getElem_set, cntR12_push]
    by_cases hj : x = j
    · subst hj; simp
    · rw [if_neg hj, lstR12_at, if_neg (fun e => hj e.symm)]; simp
/-- are all of l items? -/
def inR12 (n : Nat) (l : List Int) : Bool := l.all fun x => decide (0 ≤ x) && decide (x < (n : Int))
/-- what is kept of what is added -/
def keepR12 (n : Nat) (l : List Int) : List Int := l.filter fun x => decide (0 ≤ x) && decide (x < (n : Int))
theorem keepR12_le (n : Nat) (l : List Int) : (keepR12 n l).length ≤ l.length := List.length_filter_le _ _
theorem keepR12_mem {n : Nat} {l : List Int} {x : Int} (h : x ∈ keepR12 n l) : 0 ≤ x ∧ x < (n : Int) := by simpa using (List.mem_filter.1 h).2
theorem keepR12_yes {n : Nat} (l : List Int) {x : Nat} (h : x < n) : keepR12 n (l ++ [(x : Int)]) = keepR12 n l ++ [(x : Int)] := by
  rw [keepR12, List.filter_append, fil1R12, if_pos (by simp; omega)]
  rfl
theorem keepR12_no {n : Nat} (l : List Int) {x : Int} (h : x < 0 ∨ (n : Int) ≤ x) : keepR12 n (l ++ [x]) = keepR12 n l := by
  rw [keepR12, List.filter_append, fil1R12, if_neg (by simp; omega), List.append_nil]
  rfl
theorem keepR12_take {n : Nat} {l : List Int} {k : Nat} (hk : k < l.length) : keepR12 n (l.take (k + 1)) = keepR12 n (l.take k ++ [l[k]]) := by
  rw [List.take_succ_eq_append_getElem hk]
/-- the order does not matter -/
theorem cntR12_rev (l : List Int) (k : Nat) : cntR12 l.reverse k = cntR12 l k := by simp [cntR12]
theorem lstR12_perm {n : Nat} {a b : List Int} (h : a.Perm b) : lstR12 n a = lstR12 n b := by
  unfold lstR12 cntR12
  exact List.map_congr_left fun k _ => by rw [h.count_eq]
theorem keepR12_rev (n : Nat) (l : List Int) : (keepR12 n l.reverse).Perm (keepR12 n l) := by
  unfold keepR12
  rw [List.filter_reverse]
  exact List.reverse_perm _
/-- the sum of all counts -/
theorem lstR12_sum {n : Nat} : ∀ {l : List Int}, (∀ x ∈ l, 0 ≤ x ∧ x < (n : Int)) → (lstR12 n l).sum = (l.length : Int)
  | [], _ => by
    rw [lstR12_nil]
    simp
  | x :: l, h => by
    obtain ⟨h1, h2⟩ := h x (List.mem_cons_self)
    obtain ⟨k, rfl⟩ := Int.eq_ofNat_of_zero_le h1
    have hk : k < n := by omega
    have hp : lstR12 n ((k : Int) :: l) = lstR12 n (l ++ [(k : Int)]) := lstR12_perm (List.perm_append_singleton _ _).symm
    have hs : ∀ (L : List Int) (j : Nat) (hj : j < L.length) (v : Int), (L.set j v).sum = L.sum - L[j] + v := by
      intro L
      induction L with
      | nil => intro j hj; cases hj
      | cons a L ih =>
        intro j hj v
        cases j with
        | zero => simp; omega
        | succ j =>
          have := ih j (by simpa using hj) v
          simp only [List.set_cons_succ, List.sum_cons, List.getElem_cons_succ, this]
          omega
    rw [hp, lstR12_push hk, hs _ k (by rw [lstR12_length]; exact hk), lstR12_at, lstR12_sum (fun y hy => h y (List.mem_cons_of_mem _ hy))]
    simp
    omega
/-- the sum of the first k -/
def sumR12 (L : List Int) (k : Nat) : Int := (L.take k).sum
theorem sumR12_succ {L : List Int} {k : Nat} (h : k < L.length) : sumR12 L (k + 1) = sumR12 L k + L[k] := by
  unfold sumR12
  rw [List.take_succ_eq_append_getElem h, List.sum_append]
  simp
theorem sumR12_all (L : List Int) : sumR12 L L.length = L.sum := by simp [sumR12]
/-- the items, of the first k, whose count is at least m -/
def fromR12 (L : List Int) (m : Int) (k : Nat) : List Int := ((List.range k).filter fun j => decide (m ≤ L.getD j 0)).map fun j : Nat => (j : Int)
theorem fromR12_zero (L : List Int) (m : Int) : fromR12 L m 0 = [] := rfl
theorem fromR12_yes {L : List Int} {m : Int} {k : Nat} (hk : k < L.length) (h : m ≤ L[k]) : fromR12 L m (k + 1) = fromR12 L m k ++ [(k : Int)] := by
  unfold fromR12
  rw [List.range_succ, List.filter_append, fil1R12, List.map_append, if_pos (by simpa [List.getD_eq_getElem?_getD, hk] using h)]
  rfl
theorem fromR12_no {L : List Int} {m : Int} {k : Nat} (hk : k < L.length) (h : ¬ m ≤ L[k]) : fromR12 L m (k + 1) = fromR12 L m k := by
  unfold fromR12
  rw [List.range_succ, List.filter_append, fil1R12, List.map_append, if_neg (by simpa [List.getD_eq_getElem?_getD, hk] using h)]
  simp
theorem fromR12_le (L : List Int) (m : Int) (k : Nat) : (fromR12 L m k).length ≤ k := by
  unfold fromR12
  rw [List.length_map]
  exact Nat.le_trans (List.length_filter_le _ _) (by simp)
/-- do two lists differ at i? -/
def difB12 (a b : List Int) (i : Nat) : Bool := !(decide (i < a.length) && decide (i < b.length) && decide (a.getD i 0 = b.getD i 0))
/-- where they differ, of the first k -/
def difR12 (a b : List Int) (k : Nat) : List Int := ((List.range k).filter fun i => difB12 a b i).map fun i : Nat => (i : Int)
def mostR12 (a b : List Int) : Nat := max a.length b.length
theorem difR12_zero (a b : List Int) : difR12 a b 0 = [] := rfl
theorem difR12_yes {a b : List Int} {k : Nat} (h : difB12 a b k = true) : difR12 a b (k + 1) = difR12 a b k ++ [(k : Int)] := by
  unfold difR12
  rw [List.range_succ, List.filter_append, fil1R12, List.map_append, if_pos h]
  rfl
theorem difR12_no {a b : List Int} {k : Nat} (h : difB12 a b k = false) : difR12 a b (k + 1) = difR12 a b k := by
  unfold difR12
  rw [List.range_succ, List.filter_append, fil1R12, List.map_append, if_neg (by rw [h]; decide)]
  simp
theorem difR12_le (a b : List Int) (k : Nat) : (difR12 a b k).length ≤ k := by
  unfold difR12
  rw [List.length_map]
  exact Nat.le_trans (List.length_filter_le _ _) (by simp)
theorem difR12_same (a : List Int) : difR12 a a (mostR12 a a) = [] := by
  have : ∀ k, k ≤ a.length → difR12 a a k = [] := by
    intro k
    induction k with
    | zero => intro _; rfl
    | succ k ih =>
      intro hk
      rw [difR12_no (by simp [difB12]; omega), ih (by omega)]
  exact this _ (by simp [mostR12])

end Go.Proofs.Ytojmhkdlaalifaa
