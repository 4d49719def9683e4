/-
  Joined: MemR.
-/
import Derived.Test.YtoacgoelhidmbaaJTly03
import Derived.Test.YtoacgoelhidmbaaJTly15
/-
  Rows of one's own: a cell read, stored; what else stands when another row grows. A row of rows of integers.
-/
namespace Go.Proofs.Ytoacgoelhidmbaa
open Go.RowKit
set_option linter.unusedVariables false
set_option linter.unusedSimpArgs false

section
variable {w X Y : World} {b b2 g : Nat} {e e2 : TypeId} {size s s2 n n2 c : Nat} {xs xs2 : List Value} {v v2 : Value}
theorem rowR_set (h : w.ownsRow b e size (.slice (some ⟨g, 0, none⟩) n c) n xs) {j : Nat} (hj : j < n * size) (u : Value) : (w.setCell ⟨g, j, none⟩ u).ownsRow b e size (.slice (some ⟨g, 0, none⟩) n c) n (xs.set j u) := by
  rcases h.2 with ⟨hv, _⟩ | ⟨g', cap, cur, hv, hg, hh, h1, h2, h3, h4⟩
  · cases hv
  · cases hv
    refine ⟨by rw [List.length_set]; exact h.1, .inr ⟨g, c, cur.setIfInBounds j u, rfl, hg, heap_setCell_same w g j _ _ _ hh, h1, h2, by simp [h3], ?_⟩⟩
    rw [Array.toList_setIfInBounds, List.take_set, h4]
theorem rowR_free (h : w.ownsRow b e size (.slice (some ⟨g, 0, none⟩) n c) n xs) (j : Nat) : w.frozen? ⟨g, j, none⟩ = false := by
  rcases h.2 with ⟨hv, _⟩ | ⟨g', cap, cur, hv, hg, hh, _⟩
  · cases hv
  · cases hv
    exact frozen_of_row w g j _ _ hh
theorem rowR_at (h : w.ownsRow b e size (.slice (some ⟨g, 0, none⟩) n c) n xs) {j : Nat} {u : Value} (hv : xs[j]? = some u) : w.cell? ⟨g, j, none⟩ = some u := by
  obtain ⟨ad, e, hc⟩ := (Row.of_own h) j u hv
  cases e
  simpa [Addr.add_lit] using hc
theorem rowR_form {A : Option Addr} (h : w.ownsRow b e size (.slice A n c) n xs) (hn : 0 < n) : ∃ g, A = some ⟨g, 0, none⟩ ∧ b ≤ g ∧ g < w.heap.size := by
  rcases h.2 with ⟨_, h0⟩ | ⟨g', cap, cur, hv, hg, hh, _⟩
  · omega
  · cases hv
    exact ⟨_, rfl, hg, block_lt hh⟩
/-- another row, of another type, has grown -/
theorem rowR_grown (h : X.ownsRow b e s v n xs) (h2 : X.ownsRow b2 e2 s2 v2 n2 xs2) (hne : e ≠ e2) (hg : X.grownBy Y v2.ownBlock) : Y.ownsRow b e s v n xs := by
  refine ⟨h.1, ?_⟩
  rcases h.2 with hn | ⟨g, cap, cur, hv, hgb, hh, rest⟩
  · exact .inl hn
  · refine .inr ⟨g, cap, cur, hv, hgb, (hg.block g (block_lt hh) (fun e' => ?_)).trans hh, rest⟩
    obtain ⟨_, cur2, hc⟩ := own_apartS h2 g e'.symm
    rw [hh] at hc
    injection hc with hc
    injection hc with _ e3 _
    exact hne e3
/-- another row, in another block, has grown -/
theorem rowR_two (h : X.ownsRow b e s v n xs) (hne : ∀ g, v.ownBlock = some g → v2.ownBlock ≠ some g) (hg : X.grownBy Y v2.ownBlock) : Y.ownsRow b e s v n xs := by
  refine ⟨h.1, ?_⟩
  rcases h.2 with hn | ⟨g, cap, cur, hv, hgb, hh, rest⟩
  · exact .inl hn
  · refine .inr ⟨g, cap, cur, hv, hgb, (hg.block g (block_lt hh) (fun e' => ?_)).trans hh, rest⟩
    subst hv
    exact hne g rfl e'.symm
/-- rows of other types lie in other blocks -/
theorem rowR_ne (h : X.ownsRow b e s v n xs) (h2 : X.ownsRow b2 e2 s2 v2 n2 xs2) (hne : e ≠ e2) {k : Nat} (hk : v.ownBlock = some k) : v2.ownBlock ≠ some k := fun hk2 => by
  obtain ⟨_, c1, h3⟩ := own_apartS h k hk
  obtain ⟨_, c2, h4⟩ := own_apartS h2 k hk2
  rw [h3] at h4
  injection h4 with h4
  injection h4 with _ e3 _
  exact hne e3
end

/-- a row of rows of integers: address, capacity, numbers -/
abbrev RowM := Option Addr × Nat × List Int
def rowMV (x : RowM) : Value := .slice x.1 x.2.2.length x.2.1
structure OwnM (W : World) (b : Nat) (V : Value) (n : Nat) (L : List RowM) : Prop where
  row : W.ownsRow b 22 1 V n (L.map rowMV)
  each : ∀ k (h : k < L.length), W.ownsRow b 3 1 (rowMV L[k]) L[k].2.2.length (i64s L[k].2.2)
  two : ∀ i j (hi : i < L.length) (hj : j < L.length), i ≠ j → ∀ g, (rowMV L[i]).ownBlock = some g → (rowMV L[j]).ownBlock ≠ some g
section
variable {W X Y : World} {b n : Nat} {V : Value} {L : List RowM}
theorem OwnM.len (h : OwnM W b V n L) : L.length = n := by have := h.row.1; rw [List.length_map] at this; omega
theorem OwnM.nil (W : World) (b : Nat) : OwnM W b (.slice none 0 0) 0 [] := ⟨World.ownsRow_nil _ _ _ _, fun k h => absurd h (Nat.not_lt_zero _), fun i j h => absurd h (Nat.not_lt_zero _)⟩
theorem OwnM.later (h : OwnM X b V n L) (hb : Below X.heap.size X Y) : OwnM Y b V n L :=
  ⟨own_keptS h.row fun k _ hk => hb.block k hk, fun k hk => own_keptS (h.each k hk) fun j _ hj => hb.block j hj, h.two⟩
/-- a row of another type has grown -/
theorem OwnM.grown {b2 s2 n2 : Nat} {e2 : TypeId} {v2 : Value} {xs2 : List Value} (h : OwnM X b V n L) (h2 : X.ownsRow b2 e2 s2 v2 n2 xs2) (h3 : 22 ≠ e2) (h4 : 3 ≠ e2) (hg : X.grownBy Y v2.ownBlock) : OwnM Y b V n L :=
  ⟨rowR_grown h.row h2 h3 hg, fun k hk => rowR_grown (h.each k hk) h2 h4 hg, h.two⟩
/-- a row with nothing in it is appended -/
theorem OwnM.snoc (h : OwnM X b V n L) {g cap : Nat} (hO : Y.ownsRow b 22 1 (.slice (some ⟨g, 0, none⟩) (n + 1) cap) (n + 1) (L.map rowMV ++ [.slice none 0 0])) (hg : X.grownBy Y V.ownBlock) : OwnM Y b (.slice (some ⟨g, 0, none⟩) (n + 1) cap) (n + 1) (L ++ [(none, 0, [])]) := by
  have hl := h.len
  refine ⟨by rw [List.map_append]; exact hO, fun k hk => ?_, fun i j hi hj hij q hq => ?_⟩
  · by_cases hkl : k < L.length
    · rw [List.getElem_append_left hkl]
      exact rowR_grown (h.each k hkl) h.row (by decide) hg
    · obtain rfl : k = L.length := by simp at hk; omega
      rw [List.getElem_concat_length rfl]
      exact World.ownsRow_nil _ _ _ _
  · by_cases hjl : j < L.length
    · by_cases hil : i < L.length
      · rw [List.getElem_append_left hil] at hq
        rw [List.getElem_append_left hjl]
        exact h.two i j hil hjl hij q hq
      · obtain rfl : i = L.length := by simp at hi; omega
        rw [List.getElem_concat_length rfl] at hq
        cases hq
    · obtain rfl : j = L.length := by simp at hj; omega
      rw [List.getElem_concat_length rfl]
      intro hq2
      cases hq2
/-- the last row has grown, and is stored -/
theorem OwnM.push {L' : List RowM} {x : RowM} {g c : Nat} (h : OwnM X b (.slice (some ⟨g, 0, none⟩) n c) n (L' ++ [x])) {z : Int} {g7 cap : Nat} (hO : Y.ownsRow b 3 1 (.slice (some ⟨g7, 0, none⟩) (x.2.2.length + 1) cap) (x.2.2.length + 1) (i64s x.2.2 ++ [.int .i64 z])) (hg : X.grownBy Y (rowMV x).ownBlock) (hat : (rowMV x).ownBlock = some g7 ∨ g7 = X.heap.size) :
    OwnM (Y.setCell ⟨g, L'.length, none⟩ (.slice (some ⟨g7, 0, none⟩) (x.2.2.length + 1) cap)) b (.slice (some ⟨g, 0, none⟩) n c) n (L' ++ [(some ⟨g7, 0, none⟩, cap, x.2.2 ++ [z])]) := by
  have hl := h.len
  have hlast := h.each L'.length (by simp)
  rw [List.getElem_concat_length rfl] at hlast
  have hrow : Y.ownsRow b 22 1 (.slice (some ⟨g, 0, none⟩) n c) n ((L' ++ [x]).map rowMV) := rowR_grown h.row hlast (by decide) hg
  have hg7 : g7 ≠ g := fun e => by
    subst e
    exact rowR_ne hO hrow (by decide) (k := g7) rfl rfl
  have hset := rowR_set hrow (j := L'.length) (by simp at hl; omega) (.slice (some ⟨g7, 0, none⟩) (x.2.2.length + 1) cap)
  refine ⟨?_, fun k hk => ?_, fun i j hi hj hij q hq => ?_⟩
  · have e : ((L' ++ [x]).map rowMV).set L'.length (.slice (some ⟨g7, 0, none⟩) (x.2.2.length + 1) cap) = (L' ++ [((some ⟨g7, 0, none⟩, cap, x.2.2 ++ [z]) : RowM)]).map rowMV := by
      rw [List.map_append, List.map_append, List.set_append_right _ _ (by simp)]
      simp [rowMV]
    rw [← e]
    exact hset
  · by_cases hkl : k < L'.length
    · rw [List.getElem_append_left hkl]
      have hk0 := h.each k (by simp; omega)
      have h2 := h.two k L'.length (by simp; omega) (by simp) (by omega)
      rw [List.getElem_append_left hkl] at hk0 h2
      rw [List.getElem_concat_length rfl] at h2
      have hk1 := rowR_two hk0 h2 hg
      exact ownsRow_setCell_other (a := ⟨g, L'.length, none⟩) hk1 (fun e => rowR_ne hk1 hrow (by decide) e rfl) _
    · obtain rfl : k = L'.length := by simp at hk; omega
      rw [List.getElem_concat_length rfl]
      have : (i64s x.2.2 ++ [.int .i64 z]) = i64s (x.2.2 ++ [z]) := by simp [i64s]
      rw [this] at hO
      have hO2 : Y.ownsRow b 3 1 (rowMV (some ⟨g7, 0, none⟩, cap, x.2.2 ++ [z])) (x.2.2 ++ [z]).length (i64s (x.2.2 ++ [z])) := by
        simpa [rowMV] using hO
      exact ownsRow_setCell_other (a := ⟨g, L'.length, none⟩) hO2 (fun e => by injection e with e; exact hg7 e) _
  · have hX : ∀ u (hu : u < L'.length) g', (rowMV L'[u]).ownBlock = some g' → g' ≠ g7 := fun u hu g' hq e => by
      have hk0 := h.each u (by simp; omega)
      rw [List.getElem_append_left hu] at hk0
      rcases hat with hat | hat
      · have h2 := h.two u L'.length (by simp; omega) (by simp) (by omega) g' (by rw [List.getElem_append_left hu]; exact hq)
        rw [List.getElem_concat_length rfl] at h2
        exact h2 (by rw [hat, e])
      · obtain ⟨_, cur, hc⟩ := own_apartS hk0 g' hq
        have := block_lt hc
        omega
    by_cases hil : i < L'.length
    · rw [List.getElem_append_left hil] at hq
      by_cases hjl : j < L'.length
      · rw [List.getElem_append_left hjl]
        have := h.two i j (by simp; omega) (by simp; omega) hij q (by rw [List.getElem_append_left hil]; exact hq)
        rwa [List.getElem_append_left hjl] at this
      · obtain rfl : j = L'.length := by simp at hj; omega
        rw [List.getElem_concat_length rfl]
        intro e
        injection e with e
        exact hX i hil q hq e.symm
    · obtain rfl : i = L'.length := by simp at hi; omega
      rw [List.getElem_concat_length rfl] at hq
      injection hq with hq
      have hjl : j < L'.length := by simp at hj; omega
      rw [List.getElem_append_left hjl]
      intro e
      exact hX j hjl q e hq.symm
/-- read as a slice of slices -/
theorem OwnM.mat (h : OwnM W b V n L) : ∃ A c, V = .slice A n c ∧ Mat W A n c (L.map (·.2.2)) := by
  obtain ⟨A, c, rfl, h1, h2⟩ := ownsRow_form h.row
  have hl := h.len
  refine ⟨A, c, rfl, by simp [hl], h1, by simpa [maxLen] using h2, fun k hk => ?_⟩
  have hkL : k < L.length := by simpa using hk
  obtain ⟨ad, e, hc⟩ := (Row.of_own h.row) k (rowMV L[k]) (by simp [hkL])
  have he := h.each k hkL
  obtain ⟨A', c', e', h3, h4⟩ := ownsRow_form he
  rw [List.getElem_map]
  refine ⟨ad, L[k].1, L[k].2.2.length, L[k].2.1, e, hc, rfl, ?_, ?_, Row.of_own he⟩
  · unfold rowMV at e'; injection e' with _ _ e3; omega
  · unfold rowMV at e'; injection e' with _ _ e3; rw [e3]; simpa [maxLen] using h4
end
end Go.Proofs.Ytoacgoelhidmbaa
