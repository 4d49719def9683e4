/-
  Joined: Mem, MemB, MemC, MemE, MemF, MemG, Newer, RefMath, TalMath.
-/
import Derived.WalkKit
import Derived.WalkSpells
import Derived.WalkLawsBesides
import Derived.Lib.Hide
import Derived.Deep.Draws
import Derived.OwnWalk
import Derived.Laws.CopyOwn
import Derived.Laws.Rows
/-
  Words for memory, of our own: a row of cells that a slice value reads; nothing here names the program.
-/
namespace Go.Proofs.Ytcmehjjaologpaa
open Go.RowKit
set_option linter.unusedVariables false
set_option linter.unusedSimpArgs false

theorem addr_add_block (a : Addr) (n : Nat) : (a.add n).block = a.block := by unfold Addr.add; split <;> rfl
theorem addr_add_add (a : Addr) (i j : Nat) : (a.add i).add j = a.add (i + j) := by
  unfold Addr.add
  by_cases hi : i = 0 <;> by_cases hj : j = 0 <;> simp [hi, hj, Nat.add_assoc]

/-- the cells from A on read xs -/
def Row (w : World) (A : Option Addr) (xs : List Value) : Prop :=
  ∀ k v, xs[k]? = some v → ∃ ad, A = some ad ∧ w.cell? (ad.add k) = some v

theorem Row.nil (w : World) (A : Option Addr) : Row w A [] := fun k v h => by simp at h

theorem cell_lt {w : World} {a : Addr} {v : Value} (h : w.cell? a = some v) : a.block < w.heap.size := World.block_lt_of_cell? w a h

theorem Row.below {w w' : World} {A : Option Addr} {xs : List Value} (h : Row w A xs) (hb : Below w.heap.size w w') : Row w' A xs := fun k v hk => by
  obtain ⟨ad, e, hc⟩ := h k v hk
  exact ⟨ad, e, (hb.cell (cell_lt hc)).trans hc⟩

theorem Row.drop {w : World} {A : Option Addr} {xs : List Value} (h : Row w A xs) (m : Nat) : Row w (A.map (·.add m)) (xs.drop m) := fun k v hk => by
  rw [List.getElem?_drop] at hk
  obtain ⟨ad, rfl, hc⟩ := h _ v hk
  exact ⟨_, rfl, by rw [addr_add_add]; exact hc⟩

theorem Row.take {w : World} {A : Option Addr} {xs : List Value} (h : Row w A xs) (m : Nat) : Row w A (xs.take m) := fun k v hk => by
  rw [List.getElem?_take] at hk
  split at hk
  · exact h k v hk
  · cases hk

/-- the address of a row that is not empty, taken apart -/
theorem Row.lit {w : World} {A : Option Addr} {xs : List Value} (h : Row w A xs) (hp : 0 < xs.length) :
    ∃ b off, A = some ⟨b, off, none⟩ ∧ b < w.heap.size ∧ ∀ k v, xs[k]? = some v → w.cell? ⟨b, off + k, none⟩ = some v := by
  obtain ⟨ad, rfl, hc⟩ := h 0 _ (List.getElem?_eq_getElem hp)
  obtain ⟨b, off, spot⟩ := ad
  have hspot : spot = none := by simpa [Addr.add] using World.cell?_spot hc
  subst hspot
  refine ⟨b, off, rfl, by simpa [Addr.add] using cell_lt hc, fun k v hk => ?_⟩
  obtain ⟨ad', e, hc'⟩ := h k v hk
  cases e
  rwa [Addr.add_lit] at hc'

/-- a whole block as a row -/
theorem Row.of_block {w : World} {g : Nat} {xs : List Value} {t : TypeId} {fr : Nat × Nat} (h : w.heap[g]? = some (.cells xs.toArray t fr)) : Row w (some ⟨g, 0, none⟩) xs := fun k v hk => by
  refine ⟨_, rfl, ?_⟩
  rw [Addr.add_lit, Nat.zero_add, cell_of_row _ _ _ _ t fr h]
  simpa using hk

/-- a row of the call's own that fills its block -/
theorem ownsRow_whole {w : World} {base : Nat} {e : TypeId} {g n : Nat} {xs : List Value} (h : w.ownsRow base e 1 (.slice (some ⟨g, 0, none⟩) n n) n xs) : w.heap[g]? = some (.cells xs.toArray e (0, 0)) := by
  rcases h.2 with ⟨hv, _⟩ | ⟨g', cap, cur, hv, _, hh, _, _, hs, ht⟩
  · cases hv
  · injection hv with h1 h2 h3
    injection h1 with h1
    injection h1 with h1
    subst h1; subst h3
    rw [hh, ← ht, List.take_of_length_le (by simp [hs])]

theorem block_lt {w : World} {g : Nat} {o : Obj} (h : w.heap[g]? = some o) : g < w.heap.size := (Array.getElem?_eq_some_iff.1 h).1

theorem below_of_grown {w w' : World} {row : Option Nat} (hg : w.grownBy w' row) (hr : ∀ k, row = some k → w.heap.size ≤ k) : Below w.heap.size w w' :=
  (Below.refl _ _).grown hg (Nat.le_refl _) hr

theorem Row.at_ {w : World} {ad : Addr} {xs : List Value} (h : Row w (some ad) xs) {k : Nat} {v : Value} (hk : xs[k]? = some v) : w.cell? (ad.add k) = some v := by
  obtain ⟨ad', e, hc⟩ := h k v hk
  cases e
  exact hc

/-- a row of the call's own -/
theorem Row.of_own {w : World} {base : Nat} {e : TypeId} {size n m c : Nat} {A : Option Addr} {xs : List Value} (h : w.ownsRow base e size (.slice A m c) n xs) : Row w A xs := by
  intro k v hk
  rcases h.2 with ⟨hv, hn⟩ | ⟨g, cap, cur, hv, _⟩
  · have : xs = [] := List.eq_nil_of_length_eq_zero (by rw [h.1, hn]; simp)
    subst this
    simp at hk
  · have hA : A = some ⟨g, 0, none⟩ := by injection hv
    subst hA
    exact ⟨_, rfl, h.cells (g := g) rfl k v hk⟩

theorem ownsRow_form {w : World} {base : Nat} {e : TypeId} {size n : Nat} {v : Value} {xs : List Value} (h : w.ownsRow base e size v n xs) : ∃ A c, v = .slice A n c ∧ n ≤ c ∧ c ≤ maxLen := by
  rcases h.2 with ⟨rfl, rfl⟩ | ⟨g, cap, cur, rfl, _, _, h1, h2, _⟩
  · exact ⟨none, 0, rfl, Nat.le_refl _, Nat.zero_le _⟩
  · exact ⟨_, _, rfl, h1, h2⟩

/-- bytes as cells -/
def u8s (l : List UInt8) : List Value := l.map fun b => .int .u8 (b.toNat : Int)
theorem u8s_length (l : List UInt8) : (u8s l).length = l.length := by simp [u8s]
theorem u8s_at (l : List UInt8) (k : Nat) (h : k < l.length) : (u8s l)[k]? = some (.int .u8 (l[k].toNat : Int)) := by simp [u8s, h]

/-- integers as cells -/
def i64s (l : List Int) : List Value := l.map fun b => .int .i64 b
theorem i64s_length (l : List Int) : (i64s l).length = l.length := by simp [i64s]
theorem i64s_append (l r : List Int) : i64s (l ++ r) = i64s l ++ i64s r := by simp [i64s]
theorem i64s_one (l : List Int) : ∀ u ∈ i64s l, u.oneCell' = true := by
  intro u hu
  obtain ⟨_, _, rfl⟩ := List.mem_map.1 hu
  rfl
theorem i64s_at (l : List Int) (k : Nat) (h : k < l.length) : (i64s l)[k]? = some (.int .i64 l[k]) := by simp [i64s, h]

/-- a slice of bytes -/
structure Bytes8 (w : World) (A : Option Addr) (n c : Nat) (l : List UInt8) : Prop where
  len : l.length = n
  cap : n ≤ c
  most : c ≤ 9223372036854775807
  row : Row w A (u8s l)

theorem Bytes8.below {w w' : World} {A : Option Addr} {n c : Nat} {l : List UInt8} (h : Bytes8 w A n c l) (hb : Below w.heap.size w w') : Bytes8 w' A n c l := ⟨h.len, h.cap, h.most, h.row.below hb⟩
theorem Bytes8.le {w : World} {A : Option Addr} {n c : Nat} {l : List UInt8} (h : Bytes8 w A n c l) : n ≤ 9223372036854775807 := Nat.le_trans h.cap h.most
theorem Bytes8.nil (w : World) : Bytes8 w none 0 0 [] := ⟨rfl, Nat.le_refl _, Nat.zero_le _, Row.nil _ _⟩
theorem Bytes8.of_own {w : World} {base : Nat} {e : TypeId} {n : Nat} {v : Value} {l : List UInt8} (h : w.ownsRow base e 1 v n (u8s l)) : ∃ A c, v = .slice A n c ∧ Bytes8 w A n c l := by
  obtain ⟨A, c, rfl, h1, h2⟩ := ownsRow_form h
  refine ⟨A, c, rfl, by have := h.1; rw [u8s_length] at this; simpa using this, h1, by simpa [maxLen] using h2, Row.of_own h⟩

/-- a slice of integers -/
structure Ints (w : World) (A : Option Addr) (n c : Nat) (l : List Int) : Prop where
  len : l.length = n
  cap : n ≤ c
  most : c ≤ 9223372036854775807
  row : Row w A (i64s l)

theorem Ints.below {w w' : World} {A : Option Addr} {n c : Nat} {l : List Int} (h : Ints w A n c l) (hb : Below w.heap.size w w') : Ints w' A n c l := ⟨h.len, h.cap, h.most, h.row.below hb⟩
theorem Ints.le {w : World} {A : Option Addr} {n c : Nat} {l : List Int} (h : Ints w A n c l) : n ≤ 9223372036854775807 := Nat.le_trans h.cap h.most
theorem Ints.nil (w : World) : Ints w none 0 0 [] := ⟨rfl, Nat.le_refl _, Nat.zero_le _, Row.nil _ _⟩
theorem Ints.of_own {w : World} {base : Nat} {e : TypeId} {n : Nat} {v : Value} {l : List Int} (h : w.ownsRow base e 1 v n (i64s l)) : ∃ A c, v = .slice A n c ∧ Ints w A n c l := by
  obtain ⟨A, c, rfl, h1, h2⟩ := ownsRow_form h
  refine ⟨A, c, rfl, by have := h.1; rw [i64s_length] at this; simpa using this, h1, by simpa [maxLen] using h2, Row.of_own h⟩

theorem cells_new (w : World) (cs : Array Value) (t : TypeId) : ∀ j u, cs.toList[j]? = some u → (w.alloc (.cells cs t)).cell? ((⟨w.heap.size, 0, none⟩ : Addr).add j) = some u := by
  intro j u hu
  rw [Addr.add_lit, Nat.zero_add, cell_of_row _ _ _ cs t (0, 0) (heap_alloc_new w _)]
  simpa using hu

/-- append of new elements of one cell each, onto a row of the call's own: what was owned is hidden, what is owned is hidden -/
theorem wpList_append_new {P : Program} (w : World) {ops : Array Oper} {rest : List Oper} {o : Oper} {a : Act} {Q : Exit → Act → World → Prop} (hgd : o.guard = none) (s x : Operand) (t : TypeId)
    (ho : o.op = .call { callee := .builtin .append, args := #[s, x], argTypes := #[t, t] })
    (base : Nat) (e te : TypeId) (z : Value) (bytes : Nat) (ht : P.underlying t = some (.slice e)) (hi : (P.info? e).map (fun i => (i.zero, i.size, i.bytes)) = some (some z, 1, bytes)) (hzs : z.cells.size = 1)
    (v : Value) (n : Nat) (xs : List Value) (hs : a.eval s = v) (hown : Hid (w.ownsRow base e 1 v n xs)) (hb : base ≤ w.heap.size)
    (news : List Value) (m c : Nat) (hx : a.eval x = .slice (some ⟨w.heap.size, 0, none⟩) m c) (hl : news.length = m) (h1 : ∀ u ∈ news, u.oneCell' = true)
    (hn : (n + m) * bytes ≤ 140737488355328) (hby : 1 ≤ bytes)
    (h : ∀ v' w', Hid (w'.ownsRow base e 1 v' (n + m) (xs ++ news)) → base ≤ w'.heap.size → Below base w w' → wpList P ops Q rest (a.put o.dst v') w') :
    wpList P ops Q (o :: rest) a (w.alloc (.cells news.toArray te)) := by
  obtain ⟨i0, hi0, hz0, hz1, hz2⟩ := info_parts hi
  have hnm : n + m ≤ 140737488355328 := Nat.le_trans (Nat.le_mul_of_pos_right _ (by omega)) hn
  refine wpList_append_own _ hgd s x t ho base e i0 z 1 bytes ht hi0 hz0 hz1 hz2 hzs (by omega) v n xs hs (hown.out.alloc _) ⟨w.heap.size, 0, none⟩ m c news hx (by rw [hl]; simp)
    (by have := cells_new w news.toArray te; simpa using this) h1 (by simp only [maxLen]; omega) hn (by simp; omega) ?_
  intro v' w' hown' hg _
  have hbw : Below base w w' := ((Below.refl _ _).alloc hb _).grown hg (by simp; omega) (fun k hk => (hown.out.lt k hk).1)
  exact h v' w' hown' (Nat.le_trans hb hbw.size) hbw

theorem below_drewN {B : Nat} {a w : World} (h : Below B a w) (n : Nat) : Below B a (w.drewN n) := ⟨h.os, h.tape, h.output, h.size, h.block⟩

theorem ret_int {k : IntKind} {a b : Int} (h : a = b) : Ending.returned (.int k a) = .returned (.int k b) := by rw [h]
end Go.Proofs.Ytcmehjjaologpaa

/-
  Words for memory, second part: append of a row, whatever its address.
-/
namespace Go.Proofs.Ytcmehjjaologpaa
open Go.RowKit
set_option linter.unusedVariables false
set_option linter.unusedSimpArgs false

theorem run_append_none_any {P : Program} (w : World) (base : Nat) (t ty e : TypeId) (i : TypeInfo) (size : Nat) (ht : P.underlying t = some (.slice e)) (hi : P.info? e = some i)
    (v : Value) (n : Nat) (xs : List Value) (hown : w.ownsRow base e size v n xs) (c : Nat) :
    (Builtin.append_ #[t, t] ty #[v, .slice none 0 c]).run P w = .ok v w := by
  rcases hown.2 with ⟨rfl, rfl⟩ | ⟨g, cap, cur, rfl, _, _, hnc, _⟩
  · simp [Builtin.append_, run_underlying ht, sizeOf, typeInfo, hi, Builtin.lenOf, Builtin.firstCells]
  · simp [Builtin.append_, run_underlying ht, sizeOf, typeInfo, hi, Builtin.lenOf, Builtin.firstCells, hnc, storeCells]

/-- append of a row, whatever its address, onto a row of the call's own -/
theorem wp_append_row {P : Program} (w : World) {o : Oper} {a : Act} {K : Act → World → Prop} {Q : Exit → Act → World → Prop} (s x : Operand) (t : TypeId)
    (ho : o.op = .call { callee := .builtin .append, args := #[s, x], argTypes := #[t, t] })
    (base : Nat) (e : TypeId) (z : Value) (bytes : Nat) (ht : P.underlying t = some (.slice e)) (hi : (P.info? e).map (fun i => (i.zero, i.size, i.bytes)) = some (some z, 1, bytes)) (hzs : z.cells.size = 1)
    (v : Value) (n : Nat) (xs : List Value) (hs : a.eval s = v) (hown : Hid (w.ownsRow base e 1 v n xs)) (hb : base ≤ w.heap.size)
    (ao : Option Addr) (news : List Value) (m c : Nat) (hx : a.eval x = .slice ao m c) (hl : news.length = m) (hr : Row w ao news) (h1 : ∀ u ∈ news, u.oneCell' = true)
    (hn : (n + m) * bytes ≤ 140737488355328) (hby : 1 ≤ bytes)
    (h : ∀ v' w', Hid (w'.ownsRow base e 1 v' (n + m) (xs ++ news)) → base ≤ w'.heap.size → Below base w w' → K (a.put o.dst v') w') :
    o.wp P a w K Q := by
  obtain ⟨i0, hi0, hz0, hz1, hz2⟩ := info_parts hi
  have hnm : n + m ≤ 140737488355328 := Nat.le_trans (Nat.le_mul_of_pos_right _ (by omega)) hn
  cases ao with
  | some ad =>
    refine wp_append_own _ s x t ho base e i0 z 1 bytes ht hi0 hz0 hz1 hz2 hzs (by omega) v n xs hs hown.out ad m c news hx (by rw [hl]; simp)
      (fun j u hj => hr.at_ hj) h1 (by simp only [maxLen]; omega) hn hb ?_
    intro v' w' hown' hg _
    have hbw : Below base w w' := (Below.refl _ _).grown hg hb (fun k hk => (hown.out.lt k hk).1)
    exact h v' w' hown' (Nat.le_trans hb hbw.size) hbw
  | none =>
    have hnews : news = [] := by
      match news, hr with
      | [], _ => rfl
      | y :: r, hr => obtain ⟨ad, e, _⟩ := hr 0 y rfl; cases e
    subst hnews
    obtain rfl : m = 0 := by simpa using hl.symm
    have hrun := run_append_none_any (P := P) w base t o.type e i0 1 ht hi0 v n xs hown.out c
    unfold Oper.wp
    simp [execOp, ho, resolve, invoke, builtin, hs, hx, hrun, Result.andThen]
    exact h v w (by simpa using hown) hb (Below.refl _ _)

theorem wpList_append_row {P : Program} (w : World) {ops : Array Oper} {rest : List Oper} {o : Oper} {a : Act} {Q : Exit → Act → World → Prop} (hgd : o.guard = none) (s x : Operand) (t : TypeId)
    (ho : o.op = .call { callee := .builtin .append, args := #[s, x], argTypes := #[t, t] })
    (base : Nat) (e : TypeId) (z : Value) (bytes : Nat) (ht : P.underlying t = some (.slice e)) (hi : (P.info? e).map (fun i => (i.zero, i.size, i.bytes)) = some (some z, 1, bytes)) (hzs : z.cells.size = 1)
    (v : Value) (n : Nat) (xs : List Value) (hs : a.eval s = v) (hown : Hid (w.ownsRow base e 1 v n xs)) (hb : base ≤ w.heap.size)
    (ao : Option Addr) (news : List Value) (m c : Nat) (hx : a.eval x = .slice ao m c) (hl : news.length = m) (hr : Row w ao news) (h1 : ∀ u ∈ news, u.oneCell' = true)
    (hn : (n + m) * bytes ≤ 140737488355328) (hby : 1 ≤ bytes)
    (h : ∀ v' w', Hid (w'.ownsRow base e 1 v' (n + m) (xs ++ news)) → base ≤ w'.heap.size → Below base w w' → wpList P ops Q rest (a.put o.dst v') w') :
    wpList P ops Q (o :: rest) a w :=
  wpList_plain hgd fun _ hK => wp_append_row w s x t ho base e z bytes ht hi hzs v n xs hs hown hb ao news m c hx hl hr h1 hn hby fun v' w' h2 h3 h4 => hK _ _ (h v' w' h2 h3 h4)

theorem own_below {w w' : World} {base : Nat} {e : TypeId} {size n : Nat} {v : Value} {xs : List Value} (h : Hid (w.ownsRow base e size v n xs)) (hb : Below w.heap.size w w') : Hid (w'.ownsRow base e size v n xs) := by
  refine ⟨h.1, ?_⟩
  rcases h.2 with hn | ⟨g, cap, cur, hv, hg, hh, rest⟩
  · exact .inl hn
  · exact .inr ⟨g, cap, cur, hv, hg, (hb.block g (block_lt hh)).trans hh, rest⟩

end Go.Proofs.Ytcmehjjaologpaa

/-
  Words for memory, third part: append of elements of several cells.
-/
namespace Go.Proofs.Ytcmehjjaologpaa
open Go.RowKit
set_option linter.unusedVariables false
set_option linter.unusedSimpArgs false

/-- append of a row of elements of 'size' cells each, whatever its address -/
theorem wpList_append_rowS {P : Program} (w : World) {ops : Array Oper} {rest : List Oper} {o : Oper} {a : Act} {Q : Exit → Act → World → Prop} (hgd : o.guard = none) (s x : Operand) (t : TypeId)
    (ho : o.op = .call { callee := .builtin .append, args := #[s, x], argTypes := #[t, t] })
    (base : Nat) (e : TypeId) (size : Nat) (z : Value) (bytes : Nat) (ht : P.underlying t = some (.slice e)) (hi : (P.info? e).map (fun i => (i.zero, i.size, i.bytes)) = some (some z, size, bytes)) (hzs : z.cells.size = size) (hsz : 0 < size)
    (v : Value) (n : Nat) (xs : List Value) (hs : a.eval s = v) (hown : Hid (w.ownsRow base e size v n xs)) (hb : base ≤ w.heap.size)
    (ao : Option Addr) (news : List Value) (m c : Nat) (hx : a.eval x = .slice ao m c) (hl : news.length = m * size) (hr : Row w ao news) (h1 : ∀ u ∈ news, u.oneCell' = true)
    (hn : (n + m) * bytes ≤ 140737488355328) (hby : 1 ≤ bytes)
    (h : ∀ v' w', Hid (w'.ownsRow base e size v' (n + m) (xs ++ news)) → base ≤ w'.heap.size → Below base w w' → wpList P ops Q rest (a.put o.dst v') w') :
    wpList P ops Q (o :: rest) a w := by
  obtain ⟨i0, hi0, hz0, hz1, hz2⟩ := info_parts hi
  have hnm : n + m ≤ 140737488355328 := Nat.le_trans (Nat.le_mul_of_pos_right _ (by omega)) hn
  cases ao with
  | some ad =>
    refine wpList_append_own _ hgd s x t ho base e i0 z size bytes ht hi0 hz0 hz1 hz2 hzs hsz v n xs hs hown.out ad m c news hx hl
      (fun j u hj => hr.at_ hj) h1 (by simp only [maxLen]; omega) hn hb ?_
    intro v' w' hown' hg _
    have hbw : Below base w w' := (Below.refl _ _).grown hg hb (fun k hk => (hown.out.lt k hk).1)
    exact h v' w' hown' (Nat.le_trans hb hbw.size) hbw
  | none =>
    have hnews : news = [] := by
      match news, hr with
      | [], _ => rfl
      | y :: r, hr => obtain ⟨ad, e, _⟩ := hr 0 y rfl; cases e
    subst hnews
    obtain rfl : m = 0 := by
      rcases Nat.eq_zero_or_pos m with h0 | h0
      · exact h0
      · have := Nat.mul_pos h0 hsz; simp at hl; omega
    refine wpList_plain hgd fun K hK => ?_
    have hrun := run_append_none_any (P := P) w base t o.type e i0 size ht hi0 v n xs hown.out c
    unfold Oper.wp
    simp [execOp, ho, resolve, invoke, builtin, hs, hx, hrun, Result.andThen]
    exact hK _ _ (h v w (by simpa using hown) hb (Below.refl _ _))

end Go.Proofs.Ytcmehjjaologpaa

/-
  Words for memory, fifth part: a slice of slices of bytes.
-/
namespace Go.Proofs.Ytcmehjjaologpaa
open Go.RowKit
set_option linter.unusedVariables false
set_option linter.unusedSimpArgs false

/-- a slice of slices of bytes -/
structure Pcs (w : World) (A : Option Addr) (n c : Nat) (ll : List (List UInt8)) : Prop where
  len : ll.length = n
  cap : n ≤ c
  most : c ≤ 9223372036854775807
  row : ∀ k (h : k < ll.length), ∃ ad A' m c', A = some ad ∧ w.cell? (ad.add k) = some (.slice A' m c') ∧ Bytes8 w A' m c' ll[k]

theorem Pcs.below {w w' : World} {A : Option Addr} {n c : Nat} {ll : List (List UInt8)} (h : Pcs w A n c ll) (hb : Below w.heap.size w w') : Pcs w' A n c ll :=
  ⟨h.len, h.cap, h.most, fun k hk => by
    obtain ⟨ad, A', m, c', e, hc, hB⟩ := h.row k hk
    exact ⟨ad, A', m, c', e, (hb.cell (cell_lt hc)).trans hc, hB.below hb⟩⟩

theorem Pcs.nil (w : World) : Pcs w none 0 0 [] := ⟨rfl, Nat.le_refl _, Nat.zero_le _, fun k h => by simp at h⟩

theorem Pcs.lit {w : World} {A : Option Addr} {n c : Nat} {ll : List (List UInt8)} (h : Pcs w A n c ll) (hp : 0 < n) :
    ∃ b off, A = some ⟨b, off, none⟩ ∧ b < w.heap.size ∧ ∀ k (h : k < ll.length), ∃ A' m c', w.cell? ⟨b, off + k, none⟩ = some (.slice A' m c') ∧ Bytes8 w A' m c' ll[k] := by
  obtain ⟨ad, A', m, c', rfl, hc, _⟩ := h.row 0 (by rw [h.len]; exact hp)
  obtain ⟨b, off, spot⟩ := ad
  have hspot : spot = none := by simpa [Addr.add] using World.cell?_spot hc
  subst hspot
  refine ⟨b, off, rfl, by simpa [Addr.add] using cell_lt hc, fun k hk => ?_⟩
  obtain ⟨ad', A', m, c', e, hc', hB⟩ := h.row k hk
  cases e
  rw [Addr.add_lit] at hc'
  exact ⟨A', m, c', hc', hB⟩

/-- bytes in a row of their own -/
theorem Bytes8.new (w : World) (l : List UInt8) (t : TypeId) (fr : Nat × Nat) (h : l.length ≤ 9223372036854775807) : Bytes8 (w.alloc (.cells (u8s l).toArray t fr)) (some ⟨w.heap.size, 0, none⟩) l.length l.length l :=
  ⟨rfl, Nat.le_refl _, h, Row.of_block (heap_alloc_new w _)⟩

end Go.Proofs.Ytcmehjjaologpaa

/-
  append onto a row of the call's own, all else kept: not only what lies below a bound.
-/
namespace Go.Proofs.Ytcmehjjaologpaa
open Go.RowKit
set_option linter.unusedVariables false
set_option linter.unusedSimpArgs false

end Go.Proofs.Ytcmehjjaologpaa

/-
  append onto a row of the call's own in a region that draws its order, elements of several cells, all other blocks kept.
-/
namespace Go.Proofs.Ytcmehjjaologpaa
open Go.RowKit
set_option linter.unusedVariables false
set_option linter.unusedSimpArgs false

theorem own_apartS {w : World} {base size : Nat} {e : TypeId} {v : Value} {n : Nat} {xs : List Value} (h : w.ownsRow base e size v n xs) : ∀ k, v.ownBlock = some k → base ≤ k ∧ ∃ cur, w.heap[k]? = some (.cells cur e (0, 0)) := fun k hk => by
  rcases h.2 with ⟨rfl, _⟩ | ⟨g, cap, cur, rfl, hg, hh, _⟩
  · cases hk
  · have hk : some g = some k := hk
    injection hk with hk
    subst hk
    exact ⟨hg, cur, hh⟩

theorem own_keptS {w w' : World} {base size : Nat} {e : TypeId} {v : Value} {n : Nat} {xs : List Value} (h : w.ownsRow base e size v n xs) (hk : ∀ k, base ≤ k → k < w.heap.size → w'.heap[k]? = w.heap[k]?) : w'.ownsRow base e size v n xs := by
  refine ⟨h.1, ?_⟩
  rcases h.2 with hn | ⟨g, cap, cur, hv, hg, hh, rest⟩
  · exact .inl hn
  · exact .inr ⟨g, cap, cur, hv, hg, (hk g hg (block_lt hh)).trans hh, rest⟩
end Go.Proofs.Ytcmehjjaologpaa

/-
  A slice whose block lies above a bound: nothing below the bound reaches it.
-/
namespace Go.Proofs.Ytcmehjjaologpaa
open Go.RowKit
set_option linter.unusedVariables false
set_option linter.unusedSimpArgs false

def Newer (B : Nat) (A : Option Addr) : Prop := ∀ ad, A = some ad → B ≤ ad.block
theorem Newer.mono {B B' : Nat} {A : Option Addr} (h : Newer B A) (hb : B' ≤ B) : Newer B' A := fun ad e => Nat.le_trans hb (h ad e)
theorem Newer.nil (B : Nat) : Newer B none := fun ad e => by cases e
theorem Newer.of_own {w : World} {base : Nat} {e : TypeId} {size n m c : Nat} {A : Option Addr} {xs : List Value} (h : w.ownsRow base e size (.slice A m c) n xs) : Newer base A := by
  intro ad e
  subst e
  rcases h.2 with ⟨hv, _⟩ | ⟨g, cap, cur, hv, hg, _⟩
  · cases hv
  · injection hv with h1
    injection h1 with h1
    rw [h1]; exact hg
theorem Row.newer {w w' : World} {A : Option Addr} {l : List Value} {B : Nat} (h : Row w A l) (hA : Newer B A) (hk : ∀ k, B ≤ k → w'.heap[k]? = w.heap[k]?) : Row w' A l := fun k v e => by
  obtain ⟨ad, ea, hc⟩ := h k v e
  refine ⟨ad, ea, ?_⟩
  have hb : (ad.add k).block = ad.block := addr_add_block ad k
  exact (World.cell?_of_block (w := w) (hk _ (by rw [hb]; exact hA ad ea))).trans hc
theorem Ints.newer {w w' : World} {A : Option Addr} {n c : Nat} {l : List Int} {B : Nat} (h : Ints w A n c l) (hA : Newer B A) (hk : ∀ k, B ≤ k → w'.heap[k]? = w.heap[k]?) : Ints w' A n c l := ⟨h.len, h.cap, h.most, h.row.newer hA hk⟩

end Go.Proofs.Ytcmehjjaologpaa

/-
  Layer 12: counts of what was added; the items with at least so many; where two lists differ.
-/
namespace Go.Proofs.Ytcmehjjaologpaa
open Go.RowKit
set_option linter.unusedVariables false
set_option linter.unusedSimpArgs false

theorem fil1R12 {α : Type} (p : α → Bool) (x : α) : [x].filter p = if p x = true then [x] else [] := by
  cases h : p x <;> simp [List.filter, h]

/-- how often item k stands in l -/
def cntR12 (l : List Int) (k : Nat) : Nat := l.count (k : Int)
/-- all counts of n items -/
def lstR12 (n : Nat) (l : List Int) : List Int := (List.range n).map fun k => (cntR12 l k : Int)
theorem lstR12_length (n : Nat) (l : List Int) : (lstR12 n l).length = n := by simp [lstR12]
theorem lstR12_at {n : Nat} {l : List Int} {k : Nat} (h : k < (lstR12 n l).length) : (lstR12 n l)[k] = (cntR12 l k : Int) := by simp [lstR12]
theorem cntR12_le (l : List Int) (k : Nat) : cntR12 l k ≤ l.length := List.count_le_length
theorem lstR12_nil (n : Nat) : lstR12 n [] = List.replicate n 0 := by
  apply List.ext_getElem
  · simp [lstR12]
  · intro j h1 h2
    simp [lstR12, cntR12]
theorem cntR12_push (l : List Int) (x k : Nat) : cntR12 (l ++ [(x : Int)]) k = cntR12 l k + if k = x then 1 else 0 := by
  unfold cntR12
  rw [List.count_append, List.count_singleton]
  by_cases h : k = x
  · subst h; simp
  · rw [if_neg h, if_neg (by simp; omega)]
/-- one more -/
theorem lstR12_push {n : Nat} {l : List Int} {x : Nat} (h : x < n) : lstR12 n (l ++ [(x : Int)]) = (lstR12 n l).set x ((cntR12 l x : Int) + 1) := by
  apply List.ext_getElem
  · simp [lstR12]
  · intro j h1 h2
    rw [lstR12_at, List.getElem_set, cntR12_push]
    by_cases hj : x = j
    · subst hj; simp
    · rw [if_neg hj, lstR12_at, if_neg (fun e => hj e.symm)]; simp
/-- what is kept of what is added -/
def keepR12 (n : Nat) (l : List Int) : List Int := l.filter fun x => decide (0 ≤ x) && decide (x < (n : Int))
theorem keepR12_le (n : Nat) (l : List Int) : (keepR12 n l).length ≤ l.length := List.length_filter_le _ _
theorem keepR12_yes {n : Nat} (l : List Int) {x : Nat} (h : x < n) : keepR12 n (l ++ [(x : Int)]) = keepR12 n l ++ [(x : Int)] := by
  rw [keepR12, List.filter_append, fil1R12, if_pos (by simp; omega)]
  rfl
theorem keepR12_no {n : Nat} (l : List Int) {x : Int} (h : x < 0 ∨ (n : Int) ≤ x) : keepR12 n (l ++ [x]) = keepR12 n l := by
  rw [keepR12, List.filter_append, fil1R12, if_neg (by simp; omega), List.append_nil]
  rfl
end Go.Proofs.Ytcmehjjaologpaa

/-
  Layer 15's mathematics: how keys are laid into nodes, and the levels of a packed tree.
-/
namespace Go.Proofs.Ytcmehjjaologpaa
open Go.RowKit
set_option linter.unusedVariables false
set_option linter.unusedSimpArgs false

/-- how many nodes n keys want, of m keys each -/
def fil15 (n m : Nat) : Nat := (max n 1 - 1) / m + 1
theorem fil15_pos (n m : Nat) : 1 ≤ fil15 n m := Nat.le_add_left 1 _
theorem fil15_le {n m : Nat} (hm : 1 ≤ m) : fil15 n m ≤ max n 1 := by
  have := Nat.div_le_self (max n 1 - 1) m
  unfold fil15
  omega
theorem fil15_lt {k : Nat} (h : 1 < k) : fil15 k 18 < k := by unfold fil15; omega
theorem fil15_is {n m k : Nat} (hm : 1 ≤ m) (h1 : n - k * m ≤ m) (h2 : k = 0 ∨ k * m < n) : fil15 n m = k + 1 := by
  have e : (k + 1) * m = k * m + m := Nat.succ_mul k m
  have : (max n 1 - 1) / m = k := by
    refine Nat.div_eq_of_lt_le ?_ ?_
    · rcases h2 with rfl | h2 <;> omega
    · rcases h2 with rfl | h2 <;> omega
  unfold fil15
  omega
theorem fil15_mono {n k m : Nat} (h : n ≤ k) : fil15 n m ≤ fil15 k m := by
  have := Nat.div_le_div_right (c := m) (show max n 1 - 1 ≤ max k 1 - 1 by omega)
  unfold fil15
  omega

/-- the keys of node k -/
def el15 (n m k : Nat) : Nat := min (n - k * m) m
/-- how n keys are laid -/
def siz15 (n m : Nat) : List Int := (List.range (fil15 n m)).map fun k => (el15 n m k : Int)
theorem rest15_succ (n m k : Nat) : n - (k + 1) * m = n - k * m - m := by rw [Nat.succ_mul]; omega
/-- the reference's row after k nodes -/
def head15 (n m k : Nat) : List Int := (List.range k).map fun i => (el15 n m i : Int)
theorem head15_length (n m k : Nat) : (head15 n m k).length = k := by simp [head15]
theorem head15_succ (n m k : Nat) : head15 n m (k + 1) = head15 n m k ++ [(el15 n m k : Int)] := by simp [head15, List.range_succ]
theorem head15_all (n m : Nat) : head15 n m (fil15 n m) = siz15 n m := rfl
/-- the levels above one of k nodes -/
def up15 (k : Nat) : List Int := if h : 1 < k then (fil15 k 18 : Int) :: up15 (fil15 k 18) else []
termination_by k
decreasing_by exact fil15_lt h
theorem up15_one {k : Nat} (h : ¬ 1 < k) : up15 k = [] := by rw [up15, dif_neg h]
theorem up15_more {k : Nat} (h : 1 < k) : up15 k = (fil15 k 18 : Int) :: up15 (fil15 k 18) := by rw [up15, dif_pos h]
/-- the levels of a tree of n entries whose leaves have m -/
def lev15 (n m : Nat) : List Int := (fil15 n m : Int) :: up15 (fil15 n m)

theorem up15_sum : ∀ N k : Nat, k ≤ N → 1 ≤ k → 0 ≤ (up15 k).sum ∧ (up15 k).sum ≤ (k : Int) - 1
  | 0, k, h, h1 => by omega
  | N + 1, k, h, h1 => by
    by_cases hk : 1 < k
    · have h2 := fil15_lt hk
      have h3 := fil15_pos k 18
      obtain ⟨a, b⟩ := up15_sum N (fil15 k 18) (by omega) h3
      rw [up15_more hk, List.sum_cons]
      have h4 : (fil15 k 18 : Int) + (fil15 k 18 : Int) ≤ k := by unfold fil15; omega
      omega
    · rw [up15_one hk]
      simp only [List.sum_nil]
      omega
theorem up15_mono : ∀ N k j : Nat, k ≤ N → k ≤ j → (up15 k).sum ≤ (up15 j).sum
  | 0, k, j, h, hj => by
    rw [up15_one (k := k) (by omega)]
    by_cases h1 : 1 ≤ j
    · exact (up15_sum j j (Nat.le_refl _) h1).1
    · rw [up15_one (by omega)]; exact Int.le_refl _
  | N + 1, k, j, h, hj => by
    by_cases hk : 1 < k
    · have h2 := fil15_lt hk
      have h3 := fil15_mono (m := 18) hj
      have := up15_mono N (fil15 k 18) (fil15 j 18) (by omega) h3
      rw [up15_more hk, up15_more (show 1 < j by omega), List.sum_cons, List.sum_cons]
      omega
    · rw [up15_one hk]
      by_cases h1 : 1 ≤ j
      · exact (up15_sum j j (Nat.le_refl _) h1).1
      · rw [up15_one (by omega)]; exact Int.le_refl _
theorem lev15_sum (n m : Nat) : 1 ≤ (lev15 n m).sum ∧ (lev15 n m).sum ≤ 2 * (fil15 n m : Int) := by
  have h := fil15_pos n m
  have := up15_sum _ _ (Nat.le_refl (fil15 n m)) h
  rw [lev15, List.sum_cons]
  omega
theorem lev15_mono {n k m : Nat} (h : n ≤ k) : (lev15 n m).sum ≤ (lev15 k m).sum := by
  have h1 := fil15_mono (m := m) h
  have := up15_mono _ _ _ (Nat.le_refl (fil15 n m)) h1
  rw [lev15, lev15, List.sum_cons, List.sum_cons]
  omega

theorem up15_length : ∀ N k : Nat, k ≤ N → (up15 k).length ≤ k
  | 0, k, h => by rw [up15_one (by omega)]; exact Nat.zero_le _
  | N + 1, k, h => by
    by_cases hk : 1 < k
    · have h2 := fil15_lt hk
      have := up15_length N (fil15 k 18) (by omega)
      rw [up15_more hk, List.length_cons]
      omega
    · rw [up15_one hk]; exact Nat.zero_le _
theorem lev15_length (n m : Nat) : (lev15 n m).length ≤ fil15 n m + 1 := by
  have := up15_length _ _ (Nat.le_refl (fil15 n m))
  rw [lev15, List.length_cons]
  omega
theorem up15_pos : ∀ N k : Nat, k ≤ N → ∀ x ∈ up15 k, (1 : Int) ≤ x
  | 0, k, h, x, hx => by rw [up15_one (by omega)] at hx; cases hx
  | N + 1, k, h, x, hx => by
    by_cases hk : 1 < k
    · have h2 := fil15_lt hk
      have h3 := fil15_pos k 18
      rw [up15_more hk] at hx
      rcases List.mem_cons.1 hx with rfl | hx
      · omega
      · exact up15_pos N (fil15 k 18) (by omega) x hx
    · rw [up15_one hk] at hx; cases hx
theorem lev15_pos (n m : Nat) : ∀ x ∈ lev15 n m, (1 : Int) ≤ x := fun x hx => by
  rcases List.mem_cons.1 hx with rfl | hx
  · have := fil15_pos n m; omega
  · exact up15_pos _ _ (Nat.le_refl _) x hx
/-- sums of the first k of a list that has no negative number -/
theorem take15_sum : ∀ (L : List Int) (k : Nat), (∀ x ∈ L, (1 : Int) ≤ x) → 0 ≤ (L.take k).sum ∧ (L.take k).sum ≤ L.sum
  | [], k, _ => by simp
  | x :: r, 0, h => by
    have h1 := h x (List.mem_cons_self ..)
    have := take15_sum r r.length (fun y hy => h y (List.mem_cons_of_mem _ hy))
    rw [List.take_of_length_le (Nat.le_refl _)] at this
    rw [List.take_zero, List.sum_cons, List.sum_nil]
    omega
  | x :: r, k + 1, h => by
    have h1 := h x (List.mem_cons_self ..)
    have := take15_sum r k (fun y hy => h y (List.mem_cons_of_mem _ hy))
    rw [List.take_succ_cons, List.sum_cons, List.sum_cons]
    omega
theorem take15_succ {L : List Int} {k : Nat} (h : k < L.length) : (L.take (k + 1)).sum = (L.take k).sum + L[k] := by
  rw [List.take_succ_eq_append_getElem h, List.sum_append, List.sum_cons, List.sum_nil, Int.add_zero]

/-- is there a tree of so many entries, its leaves of m (0: no such tree) -/
def some15 (m : Nat) (n : Int) : Bool := decide (m ≠ 0 ∧ 0 ≤ n ∧ n ≤ 32768)
/-- what Levels, Nodes and Sizes answer -/
def levL15 (m : Nat) (n : Int) : List Int := if some15 m n = true then lev15 n.toNat m else []
theorem levL15_some {m : Nat} {n : Int} (h : some15 m n = true) : levL15 m n = lev15 n.toNat m := if_pos h
theorem levL15_none {m : Nat} {n : Int} (h : some15 m n = false) : levL15 m n = [] := by unfold levL15; rw [h]; rfl
theorem levL15_pos (m : Nat) (n : Int) : ∀ x ∈ levL15 m n, (1 : Int) ≤ x := fun x hx => by
  unfold levL15 at hx
  split at hx
  · exact lev15_pos _ _ x hx
  · cases hx
theorem levL15_few {m : Nat} {n : Int} : (levL15 m n).length ≤ 32769 ∧ (levL15 m n).sum ≤ 65536 := by
  unfold levL15
  split
  · rename_i h
    have h := of_decide_eq_true h
    have h1 := fil15_le (n := n.toNat) (m := m) (by omega)
    have h2 := lev15_length n.toNat m
    have h3 := lev15_sum n.toNat m
    omega
  · simp
end Go.Proofs.Ytcmehjjaologpaa
