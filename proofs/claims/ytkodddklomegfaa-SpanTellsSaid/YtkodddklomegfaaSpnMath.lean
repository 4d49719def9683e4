/-
  Layer 13's mathematics: spans, keys that fit, the spans of children.
-/
import Derived.Test.YtkodddklomegfaaMemN
namespace Go.Proofs.Ytkodddklomegfaa
open Go.RowKit
set_option linter.unusedVariables false
set_option linter.unusedSimpArgs false

/-- is a span valid; has it a key -/
def rB13 (lo hi : Int) : Bool := decide (0 ≤ lo) && decide (lo ≤ hi) && decide (hi ≤ 281474976710656)
def hB13 (lo hi k : Int) : Bool := decide (lo ≤ k) && decide (k < hi)
theorem rB13_yes {lo hi : Int} : rB13 lo hi = true ↔ 0 ≤ lo ∧ lo ≤ hi ∧ hi ≤ 281474976710656 := by simp [rB13, and_assoc]
theorem hB13_yes {lo hi k : Int} : hB13 lo hi k = true ↔ lo ≤ k ∧ k < hi := by simp [hB13]

/-- do the keys increase; are all of them in the span -/
def ord13 (L : List Int) : Bool := (List.range (L.length - 1)).all fun j => decide (L.getD j 0 < L.getD (j + 1) 0)
def ins13 (lo hi : Int) (L : List Int) : Bool := L.all (hB13 lo hi)
theorem ord13_yes {L : List Int} : ord13 L = true ↔ ∀ j, j + 1 < L.length → L.getD j 0 < L.getD (j + 1) 0 := by
  simp only [ord13, List.all_eq_true, List.mem_range, decide_eq_true_eq]
  exact ⟨fun h j hj => h j (by omega), fun h j hj => h j (by omega)⟩
theorem ord13_no {L : List Int} {j : Nat} (hj : j + 1 < L.length) (h : L.getD (j + 1) 0 ≤ L.getD j 0) : ord13 L = false := by
  cases hb : ord13 L with
  | false => rfl
  | true => have := ord13_yes.1 hb j hj; omega
theorem ins13_yes {lo hi : Int} {L : List Int} : ins13 lo hi L = true ↔ ∀ j, j < L.length → hB13 lo hi (L.getD j 0) = true := by
  simp only [ins13, List.all_eq_true]
  constructor
  · intro h j hj
    rw [List.getD_eq_getElem?_getD, List.getElem?_eq_getElem hj]
    exact h _ (List.getElem_mem hj)
  · intro h x hx
    obtain ⟨j, hj, rfl⟩ := List.getElem_of_mem hx
    have := h j hj
    rwa [List.getD_eq_getElem?_getD, List.getElem?_eq_getElem hj] at this
theorem ins13_no {lo hi : Int} {L : List Int} {j : Nat} (hj : j < L.length) (h : hB13 lo hi (L.getD j 0) = false) : ins13 lo hi L = false := by
  cases hb : ins13 lo hi L with
  | false => rfl
  | true => rw [ins13_yes.1 hb j hj] at h; cases h

/-- what is wrong with a span, or with the keys in it -/
def fit13 (lo hi : Int) (L : List Int) : Int := if rB13 lo hi = false then 1 else if ord13 L = false then 8 else if ins13 lo hi L = false then 9 else 0
theorem fit13_arg {lo hi : Int} {L : List Int} (h : rB13 lo hi = false) : fit13 lo hi L = 1 := by simp [fit13, h]
theorem fit13_order {lo hi : Int} {L : List Int} (h : rB13 lo hi = true) (h2 : ord13 L = false) : fit13 lo hi L = 8 := by simp [fit13, h, h2]
theorem fit13_key {lo hi : Int} {L : List Int} (h : rB13 lo hi = true) (h2 : ord13 L = true) (h3 : ins13 lo hi L = false) : fit13 lo hi L = 9 := by simp [fit13, h, h2, h3]
theorem fit13_ok {lo hi : Int} {L : List Int} (h : rB13 lo hi = true) (h2 : ord13 L = true) (h3 : ins13 lo hi L = true) : fit13 lo hi L = 0 := by simp [fit13, h, h2, h3]
theorem fit13_zero {lo hi : Int} {L : List Int} (h : fit13 lo hi L = 0) : rB13 lo hi = true ∧ ord13 L = true ∧ ins13 lo hi L = true := by
  unfold fit13 at h
  cases h1 : rB13 lo hi <;> cases h2 : ord13 L <;> cases h3 : ins13 lo hi L <;> simp_all
theorem fit13_cases (lo hi : Int) (L : List Int) : fit13 lo hi L = 0 ∨ fit13 lo hi L = 1 ∨ fit13 lo hi L = 8 ∨ fit13 lo hi L = 9 := by
  unfold fit13
  cases h1 : rB13 lo hi <;> cases h2 : ord13 L <;> cases h3 : ins13 lo hi L <;> simp

/-- where child k ends; all children's spans -/
def end13 (hi : Int) (L : List Int) (k : Nat) : Int := if k + 1 < L.length then L.getD (k + 1) 0 else hi
def chd13 (hi : Int) (L : List Int) (k : Nat) : Int × Int := (L.getD k 0, end13 hi L k)
def spl13 (lo hi : Int) (L : List Int) : List (Int × Int) := if fit13 lo hi L = 0 then (List.range L.length).map (chd13 hi L) else []
theorem end13_next {hi : Int} {L : List Int} {k : Nat} (h : k + 1 < L.length) : end13 hi L k = L.getD (k + 1) 0 := by simp [end13, h]
theorem end13_last {hi : Int} {L : List Int} {k : Nat} (h : ¬ k + 1 < L.length) : end13 hi L k = hi := by simp [end13, h]
theorem spl13_ok {lo hi : Int} {L : List Int} (h : fit13 lo hi L = 0) : spl13 lo hi L = (List.range L.length).map (chd13 hi L) := by simp [spl13, h]
theorem spl13_bad {lo hi : Int} {L : List Int} (h : fit13 lo hi L ≠ 0) : spl13 lo hi L = [] := by simp [spl13, h]
/-- what Child answers -/
def chE13 (lo hi : Int) (L : List Int) (i : Int) : Int := if fit13 lo hi L = 0 then (if 0 ≤ i ∧ i < (L.length : Int) then 0 else 3) else fit13 lo hi L
def ch13 (lo hi : Int) (L : List Int) (i : Int) : Int × Int := if chE13 lo hi L i = 0 then chd13 hi L i.toNat else (0, 0)
theorem chE13_bad {lo hi : Int} {L : List Int} {i : Int} (h : fit13 lo hi L ≠ 0) : chE13 lo hi L i = fit13 lo hi L ∧ ch13 lo hi L i = (0, 0) := by
  have h1 : chE13 lo hi L i = fit13 lo hi L := by simp [chE13, h]
  exact ⟨h1, by simp [ch13, h1, h]⟩
theorem chE13_out {lo hi : Int} {L : List Int} {i : Int} (h : fit13 lo hi L = 0) (hi2 : i < 0 ∨ (L.length : Int) ≤ i) : chE13 lo hi L i = 3 ∧ ch13 lo hi L i = (0, 0) := by
  have h1 : chE13 lo hi L i = 3 := by
    unfold chE13
    rw [if_pos h, if_neg (by omega)]
  exact ⟨h1, by simp [ch13, h1]⟩
theorem chE13_in {lo hi : Int} {L : List Int} {k : Nat} (h : fit13 lo hi L = 0) (hk : k < L.length) : chE13 lo hi L (k : Int) = 0 ∧ ch13 lo hi L (k : Int) = chd13 hi L k := by
  have h1 : chE13 lo hi L (k : Int) = 0 := by
    unfold chE13
    rw [if_pos h, if_pos (by omega)]
  exact ⟨h1, by simp [ch13, h1]⟩

/-- the spans of children stand one behind the other -/
theorem end13_in {lo hi : Int} {L : List Int} {k : Nat} (h : fit13 lo hi L = 0) (hk : k < L.length) : L.getD k 0 < end13 hi L k ∧ end13 hi L k ≤ hi ∧ 0 ≤ L.getD k 0 ∧ lo ≤ L.getD k 0 ∧ hi ≤ 281474976710656 := by
  obtain ⟨h1, h2, h3⟩ := fit13_zero h
  obtain ⟨a1, a2, a3⟩ := rB13_yes.1 h1
  have b := hB13_yes.1 (ins13_yes.1 h3 k hk)
  by_cases hn : k + 1 < L.length
  · rw [end13_next hn]
    have c := hB13_yes.1 (ins13_yes.1 h3 (k + 1) hn)
    have d := ord13_yes.1 h2 k hn
    omega
  · rw [end13_last hn]
    omega
/-- a later child begins no earlier than an earlier one ends -/
theorem end13_le {lo hi : Int} {L : List Int} (h : fit13 lo hi L = 0) {k m : Nat} (hm : k + m + 1 < L.length) : end13 hi L k ≤ L.getD (k + m + 1) 0 := by
  rw [end13_next (by omega)]
  induction m with
  | zero => exact Int.le_refl _
  | succ m ih =>
    have d := ord13_yes.1 (fit13_zero h).2.1 (k + m + 1) hm
    have := ih (by omega)
    have e : k + (m + 1) + 1 = k + m + 1 + 1 := by omega
    rw [e]; omega

/-- how many of the first k children have a key -/
def num13 (hi : Int) (L : List Int) (x : Int) : Nat → Nat
  | 0 => 0
  | k + 1 => num13 hi L x k + if hB13 (chd13 hi L k).1 (chd13 hi L k).2 x then 1 else 0
theorem two13 {a b c x : Int} (h0 : a ≤ b) (h1 : b ≤ c) : ((if a ≤ x ∧ x < b then 1 else 0) + if b ≤ x ∧ x < c then 1 else 0) = if a ≤ x ∧ x < c then 1 else 0 := by
  split <;> split <;> split <;> omega
/-- just those keys from the first one on, below where child k - 1 ends, are in one of the first k -/
theorem num13_is {lo hi : Int} {L : List Int} (h : fit13 lo hi L = 0) (x : Int) : ∀ k, k < L.length → num13 hi L x (k + 1) = if L.getD 0 0 ≤ x ∧ x < end13 hi L k then 1 else 0
  | 0, hk => by simp [num13, chd13, hB13]
  | k + 1, hk => by
    have ih := num13_is h x k (by omega)
    rw [num13, ih]
    have h1 := (end13_in h (show k < L.length by omega)).1
    have h2 := (end13_in h hk).1
    have e1 : end13 hi L k = L.getD (k + 1) 0 := end13_next hk
    have h0 : L.getD 0 0 ≤ L.getD (k + 1) 0 := by
      have := end13_le h (k := 0) (m := k) (by omega)
      have hz := (end13_in h (show 0 < L.length by omega)).1
      rw [show 0 + k + 1 = k + 1 by omega] at this
      omega
    simp only [chd13, hB13_yes, e1]
    exact two13 (x := x) h0 (Int.le_of_lt h2)
theorem num13_all {lo hi : Int} {L : List Int} (h : fit13 lo hi L = 0) (x : Int) (hp : 0 < L.length) : num13 hi L x L.length = if L.getD 0 0 ≤ x ∧ x < hi then 1 else 0 := by
  obtain ⟨k, hk⟩ : ∃ k, L.length = k + 1 := ⟨L.length - 1, by omega⟩
  have := num13_is h x k (by omega)
  rwa [end13_last (by omega), ← hk] at this
theorem num13_le (hi : Int) (L : List Int) (x : Int) : ∀ k, num13 hi L x k ≤ k
  | 0 => Nat.le_refl _
  | k + 1 => by
    have := num13_le hi L x k
    rw [num13]
    split <;> omega

/-! ### spans in memory -/
theorem pair64_length (l : List (Int × Int)) : (pair64 l).length = l.length * 2 := by
  induction l with
  | nil => rfl
  | cons x r ih =>
    have : (pair64 (x :: r)).length = 2 + (pair64 r).length := by simp [pair64]; omega
    rw [this, ih, List.length_cons]; omega
theorem pair64_snoc (a : List (Int × Int)) (x : Int × Int) : pair64 (a ++ [x]) = pair64 a ++ [.int .i64 x.1, .int .i64 x.2] := by simp [pair64]
theorem pair64_one (l : List (Int × Int)) : ∀ u ∈ pair64 l, u.oneCell' = true := by
  intro u hu
  simp only [pair64, List.mem_flatMap, List.mem_cons, List.not_mem_nil, or_false] at hu
  obtain ⟨x, _, rfl | rfl⟩ := hu <;> rfl
theorem pair64_at : ∀ (l : List (Int × Int)) (k : Nat) (h : k < l.length), (pair64 l)[k * 2]? = some (.int .i64 l[k].1) ∧ (pair64 l)[k * 2 + 1]? = some (.int .i64 l[k].2)
  | x :: r, 0, _ => ⟨rfl, rfl⟩
  | x :: r, k + 1, h => by
    have := pair64_at r k (by simpa using h)
    rw [show (k + 1) * 2 = k * 2 + 1 + 1 by omega]
    simpa [pair64] using this

/-- a slice of structs of two integers -/
structure Prs (w : World) (A : Option Addr) (n c : Nat) (l : List (Int × Int)) : Prop where
  len : l.length = n
  cap : n ≤ c
  most : c ≤ 9223372036854775807
  row : Row w A (pair64 l)
theorem Prs.below {w w' : World} {A : Option Addr} {n c : Nat} {l : List (Int × Int)} (h : Prs w A n c l) (hb : Below w.heap.size w w') : Prs w' A n c l := ⟨h.len, h.cap, h.most, h.row.below hb⟩
theorem Prs.nil (w : World) (c : Nat) (A : Option Addr) (hc : c ≤ 9223372036854775807) : Prs w A 0 c [] := ⟨rfl, Nat.zero_le _, hc, Row.nil _ _⟩
theorem Prs.of_own {w : World} {base : Nat} {e : TypeId} {n : Nat} {v : Value} {l : List (Int × Int)} (h : w.ownsRow base e 2 v n (pair64 l)) : ∃ A c, v = .slice A n c ∧ Prs w A n c l := by
  obtain ⟨A, c, rfl, h1, h2⟩ := ownsRow_form h
  have hl : l.length = n := by have := h.1; rw [pair64_length] at this; omega
  exact ⟨A, c, rfl, hl, h1, by simpa [maxLen] using h2, Row.of_own h⟩
theorem Prs.at_ {w : World} {A : Option Addr} {n c : Nat} {l : List (Int × Int)} (h : Prs w A n c l) {k : Nat} (hk : k < n) :
    ∃ b off, A = some ⟨b, off, none⟩ ∧ w.cell? ⟨b, off + k * 2, none⟩ = some (.int .i64 (l[k]'(by rw [h.len]; exact hk)).1) ∧ w.cell? ⟨b, off + (k * 2 + 1), none⟩ = some (.int .i64 (l[k]'(by rw [h.len]; exact hk)).2) := by
  have hl := h.len
  obtain ⟨b, off, e, _, hc⟩ := h.row.lit (by rw [pair64_length]; omega)
  obtain ⟨h0, h1⟩ := pair64_at l k (by omega)
  exact ⟨b, off, e, hc _ _ h0, hc _ _ h1⟩

end Go.Proofs.Ytkodddklomegfaa
