/-
  fault.find's parts: the two looks, and what an error wraps.
-/
import Derived.Test.YtjdalgnkkdfnnaaDoorFltF
namespace Go.Proofs.YtjdalgnkkdfnnaaDoor
open Go.RowKit
set_option linter.unusedVariables false
set_option linter.unusedSimpArgs false

/-- Code's look, where something is wrapped -/
theorem lookC_cov {l : List Node} (hl : Wraps l) (c : Nat) (w : World) (hg : ErrT w) :
    Calls Tryd.prog 31 #[shown l, .pointer (some ⟨c, 0, none⟩)] w fun e w' => e = .returned (.bool false) ∧ Below w.heap.size w w' := by
  have C := as_cov hl ⟨c, 0, none⟩ w hg
  generalize shown l = v at *
  go_enter Tryd.func31, Tryd.ntmps31
  go_wp2_with (go_at_call 20; refine C.mono ?_; rintro e w1 ⟨rfl, b1⟩)
  go_ret
  exact ⟨rfl, b1⟩

theorem lookC_num (n : Int) (l : List Node) (c : Nat) (old : Value) (w : World) (hg : ErrT w) (hc : w.cell? ⟨c, 0, none⟩ = some old) (hf : w.frozen? ⟨c, 0, none⟩ = false) :
    Calls Tryd.prog 31 #[shown (.num n :: l), .pointer (some ⟨c, 0, none⟩)] w fun e w' => e = .returned (.bool true) ∧ ∃ w1, w' = w1.setCell ⟨c, 0, none⟩ (.int .i64 n) ∧ Below w.heap.size w w1 := by
  have C := as_num n ⟨c, 0, none⟩ old w hg hc hf
  simp only [shown]
  clear hg hc hf
  go_enter Tryd.func31, Tryd.ntmps31
  go_wp2_with (go_at_call 20; refine C.mono ?_; rintro e w1 ⟨rfl, b1⟩)
  go_ret
  exact ⟨rfl, b1⟩

/-- Is's look -/
theorem lookI_cov {l : List Node} (hl : Wraps l) (c : Nat) (n : Int) (w : World) (hc : w.cell? ⟨c, 0, none⟩ = some (.int .i64 n)) :
    Calls Tryd.prog 28 #[shown l, .pointer (some ⟨c, 0, none⟩)] w fun e w' => e = .returned (.bool false) ∧ Below w.heap.size w w' := by
  have C := is_cov hl n w
  generalize shown l = v at *
  go_enter Tryd.func28, Tryd.ntmps28
  go_wp2_with (go_at_call 29; refine C.mono ?_; rintro e w1 ⟨rfl, b1⟩)
  go_ret
  exact ⟨rfl, b1⟩

theorem lookI_num (m : Int) (l : List Node) (c : Nat) (n : Int) (w : World) (hc : w.cell? ⟨c, 0, none⟩ = some (.int .i64 n)) :
    Calls Tryd.prog 28 #[shown (.num m :: l), .pointer (some ⟨c, 0, none⟩)] w fun e w' => e = .returned (.bool (m == n)) ∧ w = w' := by
  have C := is_num m n w
  simp only [shown]
  go_enter Tryd.func28, Tryd.ntmps28
  go_wp2_with (go_at_call 29; refine C.mono ?_; rintro e w1 ⟨rfl, rfl⟩)
  go_ret
  exact ⟨rfl, rfl⟩

theorem wrapped_any {x : Node} {l : List Node} {w : World} (hl : Wraps (x :: l)) (hg : Good w (x :: l)) :
    Calls Tryd.prog 42 #[val (x :: l)] w fun e w' => ∃ g, e = .returned (.slice (some ⟨g, 0, none⟩) 1 1) ∧ Below w.heap.size w w' ∧ w'.heap[g]? = some (.cells #[val l] 27 (0, 0)) := by
  cases x with
  | flt b p =>
    refine (wrapped_flt hg).mono ?_
    rintro e w' ⟨rfl, rfl⟩
    exact ⟨_, rfl, (Below.refl _ _).alloc (Nat.le_refl _) _, (MapKept.heap_alloc w _).1⟩
  | oth =>
    refine (wrapped_oth w).mono ?_
    rintro e w' ⟨g, rfl, h1, h2, h3⟩
    exact ⟨g, rfl, h1, h3⟩
  | num n => exact hl.elim

/-- the number that an error is or wraps -/
def ans : List Node → Option Int
  | [] => none
  | .num n :: _ => some n
  | _ :: l => ans l
theorem ans_wraps {x : Node} {l : List Node} (hl : Wraps (x :: l)) : ans (x :: l) = ans l := by
  cases x with
  | flt b p => rfl
  | oth => rfl
  | num n => exact hl.elim

theorem one_src {w : World} {g : Nat} {v : Value} {t : TypeId} (h : w.heap[g]? = some (.cells #[v] t (0, 0))) : ∀ j u, [v][j]? = some u → w.cell? ((⟨g, 0, none⟩ : Addr).add j) = some u := fun j u hj => by
  match j, hj with
  | 0, hj =>
    simp at hj
    subst hj
    show w.cell? ⟨g, 0, none⟩ = _
    rw [cell_of_row _ g 0 _ _ _ h]; rfl
theorem one_is {v : Value} (h : IsI v) : ∀ u ∈ [v], u.oneCell' = true := fun u hu => by
  simp at hu
  subst hu
  rcases h with rfl | ⟨t, u, rfl⟩ <;> rfl

/-- a slice's length -/
def lenOf : Value → Nat
  | .slice _ n _ => n
  | _ => 0

/-- the loop of find: what is left lies in block g, one error at most; what has been visited in block m -/
structure Run (w0 wr : World) (m g k : Nat) (s : List Node) (N : Nat) : Prop where
  bel : Below w0.heap.size w0 wr
  bg : w0.heap.size ≤ g
  bm : w0.heap.size ≤ m
  ne : m ≠ g
  row : ∃ x, wr.heap[g]? = some (.cells #[x] 27 (0, 0)) ∧ (k = 1 → x = val s)
  seen : Seen wr m s
  good : Good wr s
  num : count wr m + s.length = N
  k : k = 1 ∨ (k = 0 ∧ s = [])

theorem Run.lt {w0 wr : World} {m g k : Nat} {s : List Node} {N : Nat} (h : Run w0 wr m g k s N) : m < wr.heap.size ∧ g < wr.heap.size := by
  obtain ⟨x, hx, _⟩ := h.row
  obtain ⟨es, c, hm, _⟩ := h.seen.ex
  exact ⟨block_lt hm, block_lt hx⟩

/-- a step that only makes memory -/
theorem Run.later {w0 wr w' : World} {m g k : Nat} {s : List Node} {N : Nat} (h : Run w0 wr m g k s N) (hb : Below wr.heap.size wr w') : Run w0 w' m g k s N := by
  obtain ⟨x, hx, hk⟩ := h.row
  exact ⟨h.bel.trans (hb.mono h.bel.size), h.bg, h.bm, h.ne, ⟨x, (hb.block g h.lt.2).trans hx, hk⟩, h.seen.later hb, h.good.below hb, by rw [count_same (hb.block m h.lt.1)]; exact h.num, h.k⟩

/-- the next one is taken off -/
theorem Run.take {w0 wr : World} {m g k : Nat} {s : List Node} {N : Nat} (h : Run w0 wr m g k s N) (hs : s = []) : Run w0 wr m g 0 s N := by
  obtain ⟨x, hx, hk⟩ := h.row
  exact ⟨h.bel, h.bg, h.bm, h.ne, ⟨x, hx, fun e => by cases e⟩, h.seen, h.good, h.num, .inr ⟨rfl, hs⟩⟩

/-- the error has been visited: what it wraps is to come -/
structure Mid (w0 wr : World) (m g : Nat) (x : Node) (s : List Node) (N : Nat) : Prop where
  bel : Below w0.heap.size w0 wr
  bg : w0.heap.size ≤ g
  bm : w0.heap.size ≤ m
  ne : m ≠ g
  row : ∃ y, wr.heap[g]? = some (.cells #[y] 27 (0, 0))
  seen : Seen wr m s
  good : Good wr (x :: s)
  num : count wr m + s.length = N

theorem Mid.lt {w0 wr : World} {m g : Nat} {x : Node} {s : List Node} {N : Nat} (h : Mid w0 wr m g x s N) : m < wr.heap.size ∧ g < wr.heap.size := by
  obtain ⟨x, hx⟩ := h.row
  obtain ⟨es, c, hm, _⟩ := h.seen.ex
  exact ⟨block_lt hm, block_lt hx⟩
theorem Mid.later {w0 wr w' : World} {m g : Nat} {x : Node} {s : List Node} {N : Nat} (h : Mid w0 wr m g x s N) (hb : Below wr.heap.size wr w') : Mid w0 w' m g x s N := by
  obtain ⟨y, hx⟩ := h.row
  exact ⟨h.bel.trans (hb.mono h.bel.size), h.bg, h.bm, h.ne, ⟨y, (hb.block g h.lt.2).trans hx⟩, h.seen.later hb, h.good.below hb, by rw [count_same (hb.block m h.lt.1)]; exact h.num⟩

theorem Run.enter {w0 wr w' : World} {m g k : Nat} {x : Node} {s : List Node} {N : Nat} (h : Run w0 wr m g k (x :: s) N) (hk : KeptMap m wr w') (hs : Seen w' m s) (hn : count w' m = count wr m + 1) : Mid w0 w' m g x s N := by
  obtain ⟨y, hx, _⟩ := h.row
  exact ⟨h.bel.trans (hk.below h.bm h.bel.size), h.bg, h.bm, h.ne, ⟨y, (hk.block g h.lt.2 (Ne.symm h.ne)).trans hx⟩, hs, h.good.same (hk.keeps h.seen), by have := h.num; simp only [List.length_cons] at this; omega⟩

/-- the row that append writes into -/
theorem Mid.own {w0 wr : World} {m g : Nat} {x : Node} {s : List Node} {N : Nat} (h : Mid w0 wr m g x s N) : wr.ownsRow w0.heap.size 27 1 (.slice (some ⟨g, 0, none⟩) 0 1) 0 [] := by
  obtain ⟨y, hx⟩ := h.row
  exact ⟨rfl, .inr ⟨g, 1, _, rfl, h.bg, hx, by omega, by simp [maxLen], rfl, rfl⟩⟩

/-- what append leaves -/
theorem Mid.put {w0 wr w' : World} {m g k : Nat} {x : Node} {s : List Node} {N : Nat} {xs : List Value} (h : Mid w0 wr m g x s N) (hg : wr.grownBy w' (some g)) (ho : w'.ownsRow w0.heap.size 27 1 (.slice (some ⟨g, 0, none⟩) k 1) k xs)
    (hk : (k = 1 ∧ xs = [val s]) ∨ (k = 0 ∧ s = [])) : Run w0 w' m g k s N := by
  obtain ⟨es, c, hm, _⟩ := h.seen.ex
  obtain ⟨y, hy⟩ := h.row
  have hK : Keeps wr w' := .of_grown hg (fun c e => by rw [hy] at e; cases e)
  have hmm : w'.heap[m]? = wr.heap[m]? := hg.block m h.lt.1 (fun e => h.ne (by injection e))
  obtain ⟨q, hq, hc⟩ : ∃ q, w'.heap[g]? = some (.cells #[q] 27 (0, 0)) ∧ (k = 1 → q = val s) := by
    rcases ho.2 with ⟨hv, _⟩ | ⟨g2, cap, cur, hv, hg2, hcur, hkc, hcm, hsz, htk⟩
    · cases hv
    · injection hv with h1 h2 h3
      injection h1 with h1
      injection h1 with h1
      subst h1 h3
      obtain ⟨q, rfl⟩ : ∃ q, cur = #[q] := by
        match cur, hsz with
        | ⟨[q]⟩, _ => exact ⟨q, rfl⟩
      refine ⟨q, hcur, fun e => ?_⟩
      rcases hk with ⟨rfl, rfl⟩ | ⟨rfl, _⟩
      · simpa using htk
      · cases e
  refine ⟨h.bel.trans ⟨hg.os, hg.tape, hg.output, hg.size, fun i hi => hg.block i (by have := h.bel.size; omega) (fun e => by injection e with e; have := h.bg; omega)⟩, h.bg, h.bm, h.ne, ⟨q, hq, hc⟩, h.seen.same hmm hK, h.good.tail.same hK, by rw [count_same hmm]; exact h.num, ?_⟩
  rcases hk with ⟨h1, _⟩ | h2
  · exact .inl h1
  · exact .inr h2
end Go.Proofs.YtjdalgnkkdfnnaaDoor
