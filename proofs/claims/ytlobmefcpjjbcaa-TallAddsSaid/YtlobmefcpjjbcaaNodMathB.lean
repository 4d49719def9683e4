/-
  Layer 7's mathematics, second part: the loops' steps, and the head of an encoding as Unpack gives it.
-/
import Derived.Test.YtlobmefcpjjbcaaNodMath
namespace Go.Proofs.Ytlobmefcpjjbcaa
open Go.RowKit
set_option linter.unusedVariables false
set_option linter.unusedSimpArgs false

/-! ### Get of a width that lies within the bytes -/
theorem get_in {l : List UInt8} {wd : Int} (i : Nat) (hw : isW wd = true) (hi : i + wd.toNat ≤ l.length) :
    (leN ((l.drop i).take wd.toNat) < 9223372036854775808 → getE l i wd = 0 ∧ getN l i wd = (leN ((l.drop i).take wd.toNat) : Int)) ∧ (9223372036854775808 ≤ leN ((l.drop i).take wd.toNat) → getE l i wd = 2 ∧ getN l i wd = 0) := by
  have hb : 1 ≤ wd ∧ wd ≤ 8 := by rcases isW_cases hw with h | h | h | h <;> omega
  have hr : roomE l.length i wd = 0 := by
    simp only [roomE, hw]
    simp
    omega
  have hp : part l i wd = (l.drop i).take wd.toNat := by simp [part]
  constructor
  · intro h
    have he : getE l i wd = 0 := by rw [getE, if_pos hr, hp, if_neg (by omega)]
    exact ⟨he, by rw [getN, if_pos he, hp]⟩
  · intro h
    have he : getE l i wd = 2 := by rw [getE, if_pos hr, hp, if_pos h]
    exact ⟨he, by rw [getN, if_neg (by rw [he]; omega)]⟩

theorem small_le {l : List UInt8} {k : Nat} (hk : k ≤ 4) (hl : l.length ≤ k) : leN l < 9223372036854775808 := by
  have := leN_lt l
  have h2 : 256 ^ l.length ≤ 256 ^ 4 := Nat.pow_le_pow_right (by omega) (by omega)
  omega

/-- the head's six integers -/
theorem unp_head {b : List UInt8} (h : b.length = 244) :
    unpE b 0 [1, 1, 2, 2, 2, 4] = 0 ∧ unpN b [1, 1, 2, 2, 2, 4] = [((b.getD 0 0).toNat : Int), treeR b, (cntR b : Int), (at2 b 4 : Int), (at2 b 6 : Int), (leN ((b.drop 8).take 4) : Int)] := by
  have g : ∀ (i : Nat) (wd : Int), isW wd = true → wd.toNat ≤ 4 → i + wd.toNat ≤ 244 → getE b i wd = 0 ∧ getN b i wd = (leN ((b.drop i).take wd.toNat) : Int) := fun i wd hw h4 hi =>
    (get_in i hw (by omega)).1 (small_le h4 (by rw [List.length_take]; omega))
  have g0 := g 0 1 (by decide) (by decide) (by decide)
  have g1 := g 1 1 (by decide) (by decide) (by decide)
  have g2 := g 2 2 (by decide) (by decide) (by decide)
  have g4 := g 4 2 (by decide) (by decide) (by decide)
  have g6 := g 6 2 (by decide) (by decide) (by decide)
  have g8 := g 8 4 (by decide) (by decide) (by decide)
  have e0 : (leN ((b.drop 0).take (1 : Int).toNat) : Int) = ((b.getD 0 0).toNat : Int) := by
    match b, h with
    | x :: r, _ => simp [leN]
  have e1 : (leN ((b.drop 1).take (1 : Int).toNat) : Int) = treeR b := by
    match b, h with
    | x :: y :: r, _ => simp [leN, treeR]
  rw [e0] at g0
  rw [e1] at g1
  have u : unpE b 0 [1, 1, 2, 2, 2, 4] = 0 := by
    have a0 : getE b 0 1 = 0 := g0.1
    have a1 : getE b (0 + 1) 1 = 0 := g1.1
    have a2 : getE b (0 + 1 + 1) 2 = 0 := g2.1
    have a4 : getE b (0 + 1 + 1 + 2) 2 = 0 := g4.1
    have a6 : getE b (0 + 1 + 1 + 2 + 2) 2 = 0 := g6.1
    have a8 : getE b (0 + 1 + 1 + 2 + 2 + 2) 4 = 0 := g8.1
    simp only [unpE, a0, a1, a2, a4, a6, a8, if_true]
  refine ⟨u, ?_⟩
  rw [unpN, if_pos u]
  have a0 : getN b 0 1 = _ := g0.2
  have a1 : getN b (0 + 1) 1 = _ := g1.2
  have a2 : getN b (0 + 1 + 1) 2 = _ := g2.2
  have a4 : getN b (0 + 1 + 1 + 2) 2 = _ := g4.2
  have a6 : getN b (0 + 1 + 1 + 2 + 2) 2 = _ := g6.2
  have a8 : getN b (0 + 1 + 1 + 2 + 2 + 2) 4 = _ := g8.2
  simp only [unpL, a0, a1, a2, a4, a6, a8]
  rfl

/-- a key as Get gives it -/
theorem get_key {b : List UInt8} (i : Nat) (hi : 12 + 8 * i + 8 ≤ b.length) :
    (keyR b i < 9223372036854775808 → getE b ((12 + 8 * i : Nat) : Int) 8 = 0 ∧ getN b ((12 + 8 * i : Nat) : Int) 8 = (keyR b i : Int)) ∧ (9223372036854775808 ≤ keyR b i → getE b ((12 + 8 * i : Nat) : Int) 8 = 2 ∧ getN b ((12 + 8 * i : Nat) : Int) 8 = 0) :=
  get_in (wd := 8) (12 + 8 * i) (by decide) hi

/-! ### the loops over the keys -/
/-- the key ahead of place i -/
def prevK (p : Int) (l : List Int) (i : Nat) : Int := if i = 0 then p else l.getD (i - 1) 0

theorem upFrom_append : ∀ {p : Int} {a b : List Int}, upFrom p (a ++ b) = (upFrom p a && upFrom (prevK p a a.length) b)
  | p, [], b => by simp [upFrom, prevK]
  | p, x :: r, b => by
    have ih := upFrom_append (p := x) (a := r) (b := b)
    simp only [List.cons_append, upFrom, ih]
    have e : prevK p (x :: r) (x :: r).length = prevK x r r.length := by
      simp only [prevK, List.length_cons, Nat.add_one_ne_zero, if_false, Nat.add_sub_cancel]
      by_cases h : r.length = 0
      · rw [if_pos h, h]; rfl
      · rw [if_neg h]
        obtain ⟨m, hm⟩ := Nat.exists_eq_succ_of_ne_zero h
        rw [hm]
        simp
    rw [e]; simp only [Bool.and_assoc]

theorem prevK_take {p : Int} {l : List Int} {i : Nat} (hi : i ≤ l.length) : prevK p (l.take i) (l.take i).length = prevK p l i := by
  have hl : (l.take i).length = i := by rw [List.length_take]; omega
  rw [hl]
  simp only [prevK]
  split
  · rfl
  · rw [List.getD_eq_getElem?_getD, List.getD_eq_getElem?_getD, List.getElem?_take, if_pos (by omega)]

/-- one more key -/
theorem upFrom_step {p : Int} {l : List Int} {i : Nat} (hi : i < l.length) : upFrom p (l.take (i + 1)) = (upFrom p (l.take i) && (decide (prevK p l i < l[i]) && decide (l[i] ≤ maxK))) := by
  rw [List.take_succ_eq_append_getElem hi, upFrom_append, prevK_take (by omega)]
  simp [upFrom]

theorem upFrom_take {p : Int} {l : List Int} (i : Nat) (h : upFrom p (l.take i) = false) : upFrom p l = false := by
  rw [← List.take_append_drop i l, upFrom_append, h, Bool.false_and]

theorem keyErr_append : ∀ {p : Int} {a b : List Nat}, keyErr p (a ++ b) = if keyErr p a = 0 then keyErr (prevK p (a.map fun k : Nat => (k : Int)) a.length) b else keyErr p a
  | p, [], b => by simp [keyErr, prevK]
  | p, x :: r, b => by
    have ih := keyErr_append (p := (x : Int)) (a := r) (b := b)
    have e : prevK p ((x :: r).map fun k : Nat => (k : Int)) (x :: r).length = prevK (x : Int) (r.map fun k : Nat => (k : Int)) r.length := by
      simp only [prevK, List.length_cons, Nat.add_one_ne_zero, if_false, Nat.add_sub_cancel, List.map_cons]
      by_cases h : r.length = 0
      · rw [if_pos h, h]; rfl
      · rw [if_neg h]
        obtain ⟨m, hm⟩ := Nat.exists_eq_succ_of_ne_zero h
        rw [hm]
        simp
    simp only [List.cons_append, keyErr, e]
    split
    · simp
    · split
      · simp
      · exact ih

/-- one more key: what the loop of Read finds -/
theorem keyErr_step {p : Int} {l : List Nat} {i : Nat} (hi : i < l.length) (h : keyErr p (l.take i) = 0) :
    keyErr p (l.take (i + 1)) = if maxK < (l[i] : Int) then 2 else if (l[i] : Int) ≤ prevK p (l.map fun k : Nat => (k : Int)) i then 8 else 0 := by
  rw [List.take_succ_eq_append_getElem hi, keyErr_append, if_pos h]
  have e : prevK p ((l.take i).map fun k : Nat => (k : Int)) (l.take i).length = prevK p (l.map fun k : Nat => (k : Int)) i := by
    have := prevK_take (p := p) (l := l.map fun k : Nat => (k : Int)) (i := i) (by simpa using Nat.le_of_lt hi)
    rw [← List.map_take, List.length_map] at this
    exact this
  rw [e]
  simp [keyErr]

theorem keyErr_take {p : Int} {l : List Nat} (i : Nat) (h : keyErr p (l.take i) ≠ 0) : keyErr p l = keyErr p (l.take i) := by
  conv => lhs; rw [← List.take_append_drop i l, keyErr_append, if_neg h]

end Go.Proofs.Ytlobmefcpjjbcaa
