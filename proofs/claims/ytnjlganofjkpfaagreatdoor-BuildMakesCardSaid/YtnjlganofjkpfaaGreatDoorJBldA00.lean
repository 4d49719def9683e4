/-
  Joined: RegS.
-/
import Derived.Deep.RegionHeld3
/-
  A region that draws its order: operations that a guard strikes, all at once.
-/
namespace Go.Proofs.YtnjlganofjkpfaaGreatDoor
set_option linter.unusedVariables false
set_option linter.unusedSimpArgs false

/-- is it the value of a slot that nobody has written -/
def undefB : Value → Bool
  | .tuple l => l.size == 0
  | _ => false
theorem undefB_eq {v : Value} (h : undefB v = true) : v = undef := by
  unfold undefB at h
  split at h
  · rename_i l
    rw [beq_iff_eq] at h
    rw [Array.eq_empty_of_size_eq_zero h]
    rfl
  · cases h

/-- operation j is struck, and its slot has not been written -/
def strikeAt (ops : Array Oper) (tm : Array Value) (j : Nat) : Bool :=
  match ops[j]? with
  | none => false
  | some o => !(Region.wanted o (yielded ops tm)) && (match o.dst with
    | none => true
    | some d => match tm[d]? with
      | none => true
      | some v => undefB v)
/-- each of them may be taken first, one behind the other -/
def strikeFree (md : Region.Mode) (ops : Array Oper) : List Nat → Array Bool → Bool
  | [], _ => true
  | j :: js, listed => (Region.ready md ops listed).contains j && Region.free md ops listed j && strikeFree md ops js (listed.setIfInBounds j true)

section
variable {P : Program} {ops : Array Oper} {Q : Exit → Act → World → Prop} {md : Region.Mode} {S : World → Prop}

theorem put_undef {a : Act} {d : Option Tmp} (h : (match d with
    | none => true
    | some d => match a.tmps[d]? with
      | none => true
      | some v => undefB v) = true) : a.put d undef = a := by
  cases d with
  | none => rfl
  | some d =>
    simp only at h
    have : a.tmps.setIfInBounds d undef = a.tmps := by
      apply Array.ext_getElem?
      intro i
      rw [Array.getElem?_setIfInBounds]
      split
      · rename_i e
        subst e
        split
        · rename_i hlt
          have e1 : a.tmps[d]? = some a.tmps[d] := Array.getElem?_eq_getElem hlt
          rw [e1] at h ⊢
          rw [undefB_eq h]
        · rename_i hlt
          rw [Array.getElem?_eq_none (by omega)]
      · rfl
    simp only [Act.put, this]

theorem wpAnyH_strikes (js : List Nat) (hs : Region.noSelect ops = true) (hQ : ∀ (d : Tmp) c a w, Q (.panic c) (a.put (some d) undef) w → Q (.panic c) a w) {fuel : Nat} {a : Act} {w : World} (hS : S w) :
    ∀ {n : Nat} {listed : Array Bool}, js.length = n → strikeFree md ops js listed = true → js.all (strikeAt ops a.tmps) = true →
      wpAnyH P md ops Q S fuel (js.foldl (fun l j => l.setIfInBounds j true) listed) a w → wpAnyH P md ops Q S (fuel + n) listed a w := by
  induction js with
  | nil => intro n listed hn _ _ h; subst hn; exact h
  | cons j js ih =>
    intro n listed hn hc ht h
    simp only [strikeFree, Bool.and_eq_true] at hc
    obtain ⟨⟨h1, h2⟩, h3⟩ := hc
    rw [List.all_cons, Bool.and_eq_true] at ht
    obtain ⟨ht, h4⟩ := ht
    unfold strikeAt at ht
    split at ht
    · cases ht
    · rename_i o ho
      rw [Bool.and_eq_true] at ht
      have hp : a.put o.dst undef = a := put_undef ht.2
      obtain rfl : n = js.length + 1 := by rw [← hn]; rfl
      refine wpAnyH_take (i := j) (v := undef) ho hs h2 h1 (fun c a w h => by
        cases hd : o.dst with
        | none => rw [hd] at h; exact h
        | some d => rw [hd] at h; exact hQ d c a w h) (Or.inr ⟨by simpa using ht.1, rfl⟩) hS ?_
      rw [hp]
      exact ih rfl h3 h4 h

/-- these operations, with their slots, are struck one behind the other -/
def strikesOk (ops : Array Oper) : List (Nat × Tmp) → Array Value → Bool
  | [], _ => true
  | j :: r, tm => (match ops[j.1]? with
    | some o => (match o.dst with
      | some d => d == j.2
      | none => false) && !(Region.wanted o (yielded ops tm))
    | none => false) && strikesOk ops r (tm.setIfInBounds j.2 undef)

theorem wpAnyH_strikesD (js : List (Nat × Tmp)) (hs : Region.noSelect ops = true) (hQ : ∀ (d : Tmp) c a w, Q (.panic c) (a.put (some d) undef) w → Q (.panic c) a w) {fuel : Nat} {w : World} (hS : S w) :
    ∀ {n : Nat} {listed : Array Bool} {a : Act}, js.length = n → strikeFree md ops (js.map (·.1)) listed = true → strikesOk ops js a.tmps = true →
      wpAnyH P md ops Q S fuel (js.foldl (fun l j => l.setIfInBounds j.1 true) listed) (js.foldl (fun a j => a.put (some j.2) undef) a) w → wpAnyH P md ops Q S (fuel + n) listed a w := by
  induction js with
  | nil => intro n listed a hn _ _ h; subst hn; exact h
  | cons j js ih =>
    intro n listed a hn hc ht h
    simp only [List.map_cons, strikeFree, Bool.and_eq_true] at hc
    obtain ⟨⟨h1, h2⟩, h3⟩ := hc
    simp only [strikesOk, Bool.and_eq_true] at ht
    obtain ⟨ht, h4⟩ := ht
    obtain rfl : n = js.length + 1 := by rw [← hn]; rfl
    split at ht
    · rename_i o ho
      rw [Bool.and_eq_true] at ht
      obtain ⟨hd, hw⟩ := ht
      have hd2 : o.dst = some j.2 := by
        split at hd
        · rename_i d e
          rw [e, beq_iff_eq.1 hd]
        · cases hd
      refine wpAnyH_take (i := j.1) (v := undef) ho hs h2 h1 (fun c a w h => by rw [hd2] at h; exact hQ _ c a w h) (Or.inr ⟨by simpa using hw, rfl⟩) hS ?_
      rw [hd2]
      exact ih rfl h3 h4 h
    · cases ht

/-- 'wpAnyH_take' with the slot written out -/
theorem wpAnyH_takeD {i : Nat} {oi : Oper} {d : Option Tmp} {v : Value} {fuel : Nat} {listed : Array Bool} {a : Act} {w : World} (hi : ops[i]? = some oi) (hd : oi.dst = d)
    (hs : Region.noSelect ops = true) (hf : Region.free md ops listed i = true) (hr : (Region.ready md ops listed).contains i = true)
    (hQ : ∀ c a w, Q (.panic c) (a.put d v) w → Q (.panic c) a w) (hy : YieldsIf P ops S oi v a) (hS : S w)
    (h : wpAnyH P md ops Q S fuel (listed.setIfInBounds i true) (a.put d v) w) : wpAnyH P md ops Q S (fuel + 1) listed a w := by
  subst hd
  exact wpAnyH_take hi hs hf hr hQ hy hS h
end

end Go.Proofs.YtnjlganofjkpfaaGreatDoor
