/-
  Joined: Mem, MemB, MemC, MemE, MemF, MemG, MapI, Newer.
-/
import Derived.WalkKit
import Derived.WalkSpells
import Derived.WalkLawsBesides
import Derived.Lib.Hide
import Derived.Deep.Draws
import Derived.OwnWalk
import Derived.Laws.CopyOwn
import Derived.Laws.Rows
import Derived.MapKept
import Derived.Maps.OwnSet
/-
  Words for memory, of our own: a row of cells that a slice value reads; nothing here names the program.
-/
namespace Go.Proofs.Ytoacgoelhidmbaa
open Go.RowKit
set_option linter.unusedVariables false
set_option linter.unusedSimpArgs false

theorem addr_add_block (a : Addr) (n : Nat) : (a.add n).block = a.block := by unfold Addr.add; split <;> rfl
theorem addr_add_add (a : Addr) (i j : Nat) : (a.add i).add j = a.add (i + j) := by
  unfold Addr.add
  by_cases hi : i = 0 <;> by_cases hj : j = 0 <;> simp [hi, hj, Nat.add_assoc]

/-- the cells from A on read xs -/
def Row (w : World) (A : Option Addr) (xs : List Value) : Prop :=
  ∀ k v, xs[k]? = some v → ∃ ad, A = some ad ∧ w.cell? (ad.add k) = some v

theorem Row.nil (w : World) (A : Option Addr) : Row w A [] := fun k v h => by simp at h

theorem cell_lt {w : World} {a : Addr} {v : Value} (h : w.cell? a = some v) : a.block < w.heap.size := World.block_lt_of_cell? w a h

theorem Row.below {w w' : World} {A : Option Addr} {xs : List Value} (h : Row w A xs) (hb : Below w.heap.size w w') : Row w' A xs := fun k v hk => by
  obtain ⟨ad, e, hc⟩ := h k v hk
  exact ⟨ad, e, (hb.cell (cell_lt hc)).trans hc⟩

theorem Row.drop {w : World} {A : Option Addr} {xs : List Value} (h : Row w A xs) (m : Nat) : Row w (A.map (·.add m)) (xs.drop m) := fun k v hk => by
  rw [List.getElem?_drop] at hk
  obtain ⟨ad, rfl, hc⟩ := h _ v hk
  exact ⟨_, rfl, by rw [addr_add_add]; exact hc⟩

theorem Row.take {w : World} {A : Option Addr} {xs : List Value} (h : Row w A xs) (m : Nat) : Row w A (xs.take m) := fun k v hk => by
  rw [List.getElem?_take] at hk
  split at hk
  · exact h k v hk
  · cases hk

/-- the address of a row that is not empty, taken apart -/
theorem Row.lit {w : World} {A : Option Addr} {xs : List Value} (h : Row w A xs) (hp : 0 < xs.length) :
    ∃ b off, A = some ⟨b, off, none⟩ ∧ b < w.heap.size ∧ ∀ k v, xs[k]? = some v → w.cell? ⟨b, off + k, none⟩ = some v := by
  obtain ⟨ad, rfl, hc⟩ := h 0 _ (List.getElem?_eq_getElem hp)
  obtain ⟨b, off, spot⟩ := ad
  have hspot : spot = none := by simpa [Addr.add] using World.cell?_spot hc
  subst hspot
  refine ⟨b, off, rfl, by simpa [Addr.add] using cell_lt hc, fun k v hk => ?_⟩
  obtain ⟨ad', e, hc'⟩ := h k v hk
  cases e
  rwa [Addr.add_lit] at hc'

/-- a whole block as a row -/
theorem Row.of_block {w : World} {g : Nat} {xs : List Value} {t : TypeId} {fr : Nat × Nat} (h : w.heap[g]? = some (.cells xs.toArray t fr)) : Row w (some ⟨g, 0, none⟩) xs := fun k v hk => by
  refine ⟨_, rfl, ?_⟩
  rw [Addr.add_lit, Nat.zero_add, cell_of_row _ _ _ _ t fr h]
  simpa using hk

/-- a row of the call's own that fills its block -/
theorem ownsRow_whole {w : World} {base : Nat} {e : TypeId} {g n : Nat} {xs : List Value} (h : w.ownsRow base e 1 (.slice (some ⟨g, 0, none⟩) n n) n xs) : w.heap[g]? = some (.cells xs.toArray e (0, 0)) := by
  rcases h.2 with ⟨hv, _⟩ | ⟨g', cap, cur, hv, _, hh, _, _, hs, ht⟩
  · cases hv
  · injection hv with h1 h2 h3
    injection h1 with h1
    injection h1 with h1
    subst h1; subst h3
    rw [hh, ← ht, List.take_of_length_le (by simp [hs])]

theorem block_lt {w : World} {g : Nat} {o : Obj} (h : w.heap[g]? = some o) : g < w.heap.size := (Array.getElem?_eq_some_iff.1 h).1

theorem below_of_grown {w w' : World} {row : Option Nat} (hg : w.grownBy w' row) (hr : ∀ k, row = some k → w.heap.size ≤ k) : Below w.heap.size w w' :=
  (Below.refl _ _).grown hg (Nat.le_refl _) hr

theorem Row.at_ {w : World} {ad : Addr} {xs : List Value} (h : Row w (some ad) xs) {k : Nat} {v : Value} (hk : xs[k]? = some v) : w.cell? (ad.add k) = some v := by
  obtain ⟨ad', e, hc⟩ := h k v hk
  cases e
  exact hc

/-- a row of the call's own -/
theorem Row.of_own {w : World} {base : Nat} {e : TypeId} {size n m c : Nat} {A : Option Addr} {xs : List Value} (h : w.ownsRow base e size (.slice A m c) n xs) : Row w A xs := by
  intro k v hk
  rcases h.2 with ⟨hv, hn⟩ | ⟨g, cap, cur, hv, _⟩
  · have : xs = [] := List.eq_nil_of_length_eq_zero (by rw [h.1, hn]; simp)
    subst this
    simp at hk
  · have hA : A = some ⟨g, 0, none⟩ := by injection hv
    subst hA
    exact ⟨_, rfl, h.cells (g := g) rfl k v hk⟩

theorem ownsRow_form {w : World} {base : Nat} {e : TypeId} {size n : Nat} {v : Value} {xs : List Value} (h : w.ownsRow base e size v n xs) : ∃ A c, v = .slice A n c ∧ n ≤ c ∧ c ≤ maxLen := by
  rcases h.2 with ⟨rfl, rfl⟩ | ⟨g, cap, cur, rfl, _, _, h1, h2, _⟩
  · exact ⟨none, 0, rfl, Nat.le_refl _, Nat.zero_le _⟩
  · exact ⟨_, _, rfl, h1, h2⟩

/-- bytes as cells -/
def u8s (l : List UInt8) : List Value := l.map fun b => .int .u8 (b.toNat : Int)
theorem u8s_length (l : List UInt8) : (u8s l).length = l.length := by simp [u8s]
theorem u8s_append (l r : List UInt8) : u8s (l ++ r) = u8s l ++ u8s r := by simp [u8s]
theorem u8s_drop (l : List UInt8) (m : Nat) : (u8s l).drop m = u8s (l.drop m) := by simp [u8s]
theorem u8s_take (l : List UInt8) (m : Nat) : (u8s l).take m = u8s (l.take m) := by simp [u8s]
theorem u8s_one (l : List UInt8) : ∀ u ∈ u8s l, u.oneCell' = true := by
  intro u hu
  obtain ⟨_, _, rfl⟩ := List.mem_map.1 hu
  rfl
theorem u8s_at (l : List UInt8) (k : Nat) (h : k < l.length) : (u8s l)[k]? = some (.int .u8 (l[k].toNat : Int)) := by simp [u8s, h]

/-- integers as cells -/
def i64s (l : List Int) : List Value := l.map fun b => .int .i64 b
theorem i64s_length (l : List Int) : (i64s l).length = l.length := by simp [i64s]
theorem i64s_append (l r : List Int) : i64s (l ++ r) = i64s l ++ i64s r := by simp [i64s]
theorem i64s_one (l : List Int) : ∀ u ∈ i64s l, u.oneCell' = true := by
  intro u hu
  obtain ⟨_, _, rfl⟩ := List.mem_map.1 hu
  rfl
theorem i64s_at (l : List Int) (k : Nat) (h : k < l.length) : (i64s l)[k]? = some (.int .i64 l[k]) := by simp [i64s, h]

/-- a slice of bytes -/
structure Bytes8 (w : World) (A : Option Addr) (n c : Nat) (l : List UInt8) : Prop where
  len : l.length = n
  cap : n ≤ c
  most : c ≤ 9223372036854775807
  row : Row w A (u8s l)

theorem Bytes8.below {w w' : World} {A : Option Addr} {n c : Nat} {l : List UInt8} (h : Bytes8 w A n c l) (hb : Below w.heap.size w w') : Bytes8 w' A n c l := ⟨h.len, h.cap, h.most, h.row.below hb⟩
theorem Bytes8.le {w : World} {A : Option Addr} {n c : Nat} {l : List UInt8} (h : Bytes8 w A n c l) : n ≤ 9223372036854775807 := Nat.le_trans h.cap h.most
theorem Bytes8.nil (w : World) : Bytes8 w none 0 0 [] := ⟨rfl, Nat.le_refl _, Nat.zero_le _, Row.nil _ _⟩
theorem Bytes8.of_own {w : World} {base : Nat} {e : TypeId} {n : Nat} {v : Value} {l : List UInt8} (h : w.ownsRow base e 1 v n (u8s l)) : ∃ A c, v = .slice A n c ∧ Bytes8 w A n c l := by
  obtain ⟨A, c, rfl, h1, h2⟩ := ownsRow_form h
  refine ⟨A, c, rfl, by have := h.1; rw [u8s_length] at this; simpa using this, h1, by simpa [maxLen] using h2, Row.of_own h⟩

/-- a slice of integers -/
structure Ints (w : World) (A : Option Addr) (n c : Nat) (l : List Int) : Prop where
  len : l.length = n
  cap : n ≤ c
  most : c ≤ 9223372036854775807
  row : Row w A (i64s l)

theorem Ints.below {w w' : World} {A : Option Addr} {n c : Nat} {l : List Int} (h : Ints w A n c l) (hb : Below w.heap.size w w') : Ints w' A n c l := ⟨h.len, h.cap, h.most, h.row.below hb⟩
theorem Ints.le {w : World} {A : Option Addr} {n c : Nat} {l : List Int} (h : Ints w A n c l) : n ≤ 9223372036854775807 := Nat.le_trans h.cap h.most
theorem Ints.nil (w : World) : Ints w none 0 0 [] := ⟨rfl, Nat.le_refl _, Nat.zero_le _, Row.nil _ _⟩
theorem Ints.of_own {w : World} {base : Nat} {e : TypeId} {n : Nat} {v : Value} {l : List Int} (h : w.ownsRow base e 1 v n (i64s l)) : ∃ A c, v = .slice A n c ∧ Ints w A n c l := by
  obtain ⟨A, c, rfl, h1, h2⟩ := ownsRow_form h
  refine ⟨A, c, rfl, by have := h.1; rw [i64s_length] at this; simpa using this, h1, by simpa [maxLen] using h2, Row.of_own h⟩

theorem cells_new (w : World) (cs : Array Value) (t : TypeId) : ∀ j u, cs.toList[j]? = some u → (w.alloc (.cells cs t)).cell? ((⟨w.heap.size, 0, none⟩ : Addr).add j) = some u := by
  intro j u hu
  rw [Addr.add_lit, Nat.zero_add, cell_of_row _ _ _ cs t (0, 0) (heap_alloc_new w _)]
  simpa using hu

/-- append of new elements of one cell each, onto a row of the call's own: what was owned is hidden, what is owned is hidden -/
theorem wpList_append_new {P : Program} (w : World) {ops : Array Oper} {rest : List Oper} {o : Oper} {a : Act} {Q : Exit → Act → World → Prop} (hgd : o.guard = none) (s x : Operand) (t : TypeId)
    (ho : o.op = .call { callee := .builtin .append, args := #[s, x], argTypes := #[t, t] })
    (base : Nat) (e te : TypeId) (z : Value) (bytes : Nat) (ht : P.underlying t = some (.slice e)) (hi : (P.info? e).map (fun i => (i.zero, i.size, i.bytes)) = some (some z, 1, bytes)) (hzs : z.cells.size = 1)
    (v : Value) (n : Nat) (xs : List Value) (hs : a.eval s = v) (hown : Hid (w.ownsRow base e 1 v n xs)) (hb : base ≤ w.heap.size)
    (news : List Value) (m c : Nat) (hx : a.eval x = .slice (some ⟨w.heap.size, 0, none⟩) m c) (hl : news.length = m) (h1 : ∀ u ∈ news, u.oneCell' = true)
    (hn : (n + m) * bytes ≤ 140737488355328) (hby : 1 ≤ bytes)
    (h : ∀ v' w', Hid (w'.ownsRow base e 1 v' (n + m) (xs ++ news)) → base ≤ w'.heap.size → Below base w w' → wpList P ops Q rest (a.put o.dst v') w') :
    wpList P ops Q (o :: rest) a (w.alloc (.cells news.toArray te)) := by
  obtain ⟨i0, hi0, hz0, hz1, hz2⟩ := info_parts hi
  have hnm : n + m ≤ 140737488355328 := Nat.le_trans (Nat.le_mul_of_pos_right _ (by omega)) hn
  refine wpList_append_own _ hgd s x t ho base e i0 z 1 bytes ht hi0 hz0 hz1 hz2 hzs (by omega) v n xs hs (hown.out.alloc _) ⟨w.heap.size, 0, none⟩ m c news hx (by rw [hl]; simp)
    (by have := cells_new w news.toArray te; simpa using this) h1 (by simp only [maxLen]; omega) hn (by simp; omega) ?_
  intro v' w' hown' hg _
  have hbw : Below base w w' := ((Below.refl _ _).alloc hb _).grown hg (by simp; omega) (fun k hk => (hown.out.lt k hk).1)
  exact h v' w' hown' (Nat.le_trans hb hbw.size) hbw

theorem below_drewN {B : Nat} {a w : World} (h : Below B a w) (n : Nat) : Below B a (w.drewN n) := ⟨h.os, h.tape, h.output, h.size, h.block⟩

theorem ret_int {k : IntKind} {a b : Int} (h : a = b) : Ending.returned (.int k a) = .returned (.int k b) := by rw [h]
theorem ret_bool {a b : Bool} (h : a = b) : Ending.returned (.bool a) = .returned (.bool b) := by rw [h]

end Go.Proofs.Ytoacgoelhidmbaa

/-
  Words for memory, second part: append of a row, whatever its address.
-/
namespace Go.Proofs.Ytoacgoelhidmbaa
open Go.RowKit
set_option linter.unusedVariables false
set_option linter.unusedSimpArgs false

theorem run_append_none_any {P : Program} (w : World) (base : Nat) (t ty e : TypeId) (i : TypeInfo) (size : Nat) (ht : P.underlying t = some (.slice e)) (hi : P.info? e = some i)
    (v : Value) (n : Nat) (xs : List Value) (hown : w.ownsRow base e size v n xs) (c : Nat) :
    (Builtin.append_ #[t, t] ty #[v, .slice none 0 c]).run P w = .ok v w := by
  rcases hown.2 with ⟨rfl, rfl⟩ | ⟨g, cap, cur, rfl, _, _, hnc, _⟩
  · simp [Builtin.append_, run_underlying ht, sizeOf, typeInfo, hi, Builtin.lenOf, Builtin.firstCells]
  · simp [Builtin.append_, run_underlying ht, sizeOf, typeInfo, hi, Builtin.lenOf, Builtin.firstCells, hnc, storeCells]

/-- append of a row, whatever its address, onto a row of the call's own -/
theorem wp_append_row {P : Program} (w : World) {o : Oper} {a : Act} {K : Act → World → Prop} {Q : Exit → Act → World → Prop} (s x : Operand) (t : TypeId)
    (ho : o.op = .call { callee := .builtin .append, args := #[s, x], argTypes := #[t, t] })
    (base : Nat) (e : TypeId) (z : Value) (bytes : Nat) (ht : P.underlying t = some (.slice e)) (hi : (P.info? e).map (fun i => (i.zero, i.size, i.bytes)) = some (some z, 1, bytes)) (hzs : z.cells.size = 1)
    (v : Value) (n : Nat) (xs : List Value) (hs : a.eval s = v) (hown : Hid (w.ownsRow base e 1 v n xs)) (hb : base ≤ w.heap.size)
    (ao : Option Addr) (news : List Value) (m c : Nat) (hx : a.eval x = .slice ao m c) (hl : news.length = m) (hr : Row w ao news) (h1 : ∀ u ∈ news, u.oneCell' = true)
    (hn : (n + m) * bytes ≤ 140737488355328) (hby : 1 ≤ bytes)
    (h : ∀ v' w', Hid (w'.ownsRow base e 1 v' (n + m) (xs ++ news)) → base ≤ w'.heap.size → Below base w w' → K (a.put o.dst v') w') :
    o.wp P a w K Q := by
  obtain ⟨i0, hi0, hz0, hz1, hz2⟩ := info_parts hi
  have hnm : n + m ≤ 140737488355328 := Nat.le_trans (Nat.le_mul_of_pos_right _ (by omega)) hn
  cases ao with
  | some ad =>
    refine wp_append_own _ s x t ho base e i0 z 1 bytes ht hi0 hz0 hz1 hz2 hzs (by omega) v n xs hs hown.out ad m c news hx (by rw [hl]; simp)
      (fun j u hj => hr.at_ hj) h1 (by simp only [maxLen]; omega) hn hb ?_
    intro v' w' hown' hg _
    have hbw : Below base w w' := (Below.refl _ _).grown hg hb (fun k hk => (hown.out.lt k hk).1)
    exact h v' w' hown' (Nat.le_trans hb hbw.size) hbw
  | none =>
    have hnews : news = [] := by
      match news, hr with
      | [], _ => rfl
      | y :: r, hr => obtain ⟨ad, e, _⟩ := hr 0 y rfl; cases e
    subst hnews
    obtain rfl : m = 0 := by simpa using hl.symm
    have hrun := run_append_none_any (P := P) w base t o.type e i0 1 ht hi0 v n xs hown.out c
    unfold Oper.wp
    simp [execOp, ho, resolve, invoke, builtin, hs, hx, hrun, Result.andThen]
    exact h v w (by simpa using hown) hb (Below.refl _ _)

theorem wpList_append_row {P : Program} (w : World) {ops : Array Oper} {rest : List Oper} {o : Oper} {a : Act} {Q : Exit → Act → World → Prop} (hgd : o.guard = none) (s x : Operand) (t : TypeId)
    (ho : o.op = .call { callee := .builtin .append, args := #[s, x], argTypes := #[t, t] })
    (base : Nat) (e : TypeId) (z : Value) (bytes : Nat) (ht : P.underlying t = some (.slice e)) (hi : (P.info? e).map (fun i => (i.zero, i.size, i.bytes)) = some (some z, 1, bytes)) (hzs : z.cells.size = 1)
    (v : Value) (n : Nat) (xs : List Value) (hs : a.eval s = v) (hown : Hid (w.ownsRow base e 1 v n xs)) (hb : base ≤ w.heap.size)
    (ao : Option Addr) (news : List Value) (m c : Nat) (hx : a.eval x = .slice ao m c) (hl : news.length = m) (hr : Row w ao news) (h1 : ∀ u ∈ news, u.oneCell' = true)
    (hn : (n + m) * bytes ≤ 140737488355328) (hby : 1 ≤ bytes)
    (h : ∀ v' w', Hid (w'.ownsRow base e 1 v' (n + m) (xs ++ news)) → base ≤ w'.heap.size → Below base w w' → wpList P ops Q rest (a.put o.dst v') w') :
    wpList P ops Q (o :: rest) a w :=
  wpList_plain hgd fun _ hK => wp_append_row w s x t ho base e z bytes ht hi hzs v n xs hs hown hb ao news m c hx hl hr h1 hn hby fun v' w' h2 h3 h4 => hK _ _ (h v' w' h2 h3 h4)

theorem own_below {w w' : World} {base : Nat} {e : TypeId} {size n : Nat} {v : Value} {xs : List Value} (h : Hid (w.ownsRow base e size v n xs)) (hb : Below w.heap.size w w') : Hid (w'.ownsRow base e size v n xs) := by
  refine ⟨h.1, ?_⟩
  rcases h.2 with hn | ⟨g, cap, cur, hv, hg, hh, rest⟩
  · exact .inl hn
  · exact .inr ⟨g, cap, cur, hv, hg, (hb.block g (block_lt hh)).trans hh, rest⟩

end Go.Proofs.Ytoacgoelhidmbaa

/-
  Words for memory, third part: append of elements of several cells.
-/
namespace Go.Proofs.Ytoacgoelhidmbaa
open Go.RowKit
set_option linter.unusedVariables false
set_option linter.unusedSimpArgs false

end Go.Proofs.Ytoacgoelhidmbaa

/-
  Words for memory, fifth part: a slice of slices of bytes.
-/
namespace Go.Proofs.Ytoacgoelhidmbaa
open Go.RowKit
set_option linter.unusedVariables false
set_option linter.unusedSimpArgs false

/-- a slice of slices of bytes -/
structure Pcs (w : World) (A : Option Addr) (n c : Nat) (ll : List (List UInt8)) : Prop where
  len : ll.length = n
  cap : n ≤ c
  most : c ≤ 9223372036854775807
  row : ∀ k (h : k < ll.length), ∃ ad A' m c', A = some ad ∧ w.cell? (ad.add k) = some (.slice A' m c') ∧ Bytes8 w A' m c' ll[k]

theorem Pcs.below {w w' : World} {A : Option Addr} {n c : Nat} {ll : List (List UInt8)} (h : Pcs w A n c ll) (hb : Below w.heap.size w w') : Pcs w' A n c ll :=
  ⟨h.len, h.cap, h.most, fun k hk => by
    obtain ⟨ad, A', m, c', e, hc, hB⟩ := h.row k hk
    exact ⟨ad, A', m, c', e, (hb.cell (cell_lt hc)).trans hc, hB.below hb⟩⟩

theorem Pcs.nil (w : World) : Pcs w none 0 0 [] := ⟨rfl, Nat.le_refl _, Nat.zero_le _, fun k h => by simp at h⟩

theorem Pcs.lit {w : World} {A : Option Addr} {n c : Nat} {ll : List (List UInt8)} (h : Pcs w A n c ll) (hp : 0 < n) :
    ∃ b off, A = some ⟨b, off, none⟩ ∧ b < w.heap.size ∧ ∀ k (h : k < ll.length), ∃ A' m c', w.cell? ⟨b, off + k, none⟩ = some (.slice A' m c') ∧ Bytes8 w A' m c' ll[k] := by
  obtain ⟨ad, A', m, c', rfl, hc, _⟩ := h.row 0 (by rw [h.len]; exact hp)
  obtain ⟨b, off, spot⟩ := ad
  have hspot : spot = none := by simpa [Addr.add] using World.cell?_spot hc
  subst hspot
  refine ⟨b, off, rfl, by simpa [Addr.add] using cell_lt hc, fun k hk => ?_⟩
  obtain ⟨ad', A', m, c', e, hc', hB⟩ := h.row k hk
  cases e
  rw [Addr.add_lit] at hc'
  exact ⟨A', m, c', hc', hB⟩

/-- bytes in a row of their own -/
theorem Bytes8.new (w : World) (l : List UInt8) (t : TypeId) (fr : Nat × Nat) (h : l.length ≤ 9223372036854775807) : Bytes8 (w.alloc (.cells (u8s l).toArray t fr)) (some ⟨w.heap.size, 0, none⟩) l.length l.length l :=
  ⟨rfl, Nat.le_refl _, h, Row.of_block (heap_alloc_new w _)⟩

end Go.Proofs.Ytoacgoelhidmbaa

/-
  append onto a row of the call's own, all else kept: not only what lies below a bound.
-/
namespace Go.Proofs.Ytoacgoelhidmbaa
open Go.RowKit
set_option linter.unusedVariables false
set_option linter.unusedSimpArgs false

theorem own_apart {w : World} {base : Nat} {e : TypeId} {v : Value} {n : Nat} {xs : List Value} (h : w.ownsRow base e 1 v n xs) : ∀ k, v.ownBlock = some k → base ≤ k ∧ ∃ cur, w.heap[k]? = some (.cells cur e (0, 0)) := fun k hk => by
  rcases h.2 with ⟨rfl, _⟩ | ⟨g, cap, cur, rfl, hg, hh, _⟩
  · cases hk
  · have hk : some g = some k := hk
    injection hk with hk
    subst hk
    exact ⟨hg, cur, hh⟩

end Go.Proofs.Ytoacgoelhidmbaa

/-
  append onto a row of the call's own in a region that draws its order, elements of several cells, all other blocks kept.
-/
namespace Go.Proofs.Ytoacgoelhidmbaa
open Go.RowKit
set_option linter.unusedVariables false
set_option linter.unusedSimpArgs false

theorem step_append_rowG {P : Program} (w : World) {ops : Array Oper} {o : Oper} {a : Act} {K : Act → World → Prop} {Q : Exit → Act → World → Prop} {E : Prop} (hgd : o.guard = none) (s x : Operand) (t : TypeId)
    (ho : o.op = .call { callee := .builtin .append, args := #[s, x], argTypes := #[t, t] })
    (base : Nat) (e : TypeId) (size : Nat) (z : Value) (bytes : Nat) (ht : P.underlying t = some (.slice e)) (hi : (P.info? e).map (fun i => (i.zero, i.size, i.bytes)) = some (some z, size, bytes)) (hzs : z.cells.size = size) (hsz : 0 < size)
    (v : Value) (n : Nat) (xs : List Value) (hs : a.eval s = v) (hown : Hid (w.ownsRow base e size v n xs)) (hb : base ≤ w.heap.size)
    (ad : Addr) (news : List Value) (m c : Nat) (hx : a.eval x = .slice (some ad) m c) (hl : news.length = m * size) (hr : Row w (some ad) news) (h1 : ∀ u ∈ news, u.oneCell' = true)
    (hn : (n + m) * bytes ≤ 140737488355328) (hby : 1 ≤ bytes)
    (h : ∀ v' w', Hid (w'.ownsRow base e size v' (n + m) (xs ++ news)) → Hid (w.grownBy w' v.ownBlock) → K (a.put o.dst v') w') :
    if Region.wanted o (yielded ops a.tmps) = true then Oper.wp P o a w K Q else E := by
  have hw : Region.wanted o (yielded ops a.tmps) = true := by simp [Region.wanted, hgd]
  rw [if_pos hw]
  obtain ⟨i0, hi0, hz0, hz1, hz2⟩ := info_parts hi
  have hnm : n + m ≤ 140737488355328 := Nat.le_trans (Nat.le_mul_of_pos_right _ (by omega)) hn
  refine wp_append_own _ s x t ho base e i0 z size bytes ht hi0 hz0 hz1 hz2 hzs hsz v n xs hs hown.out ad m c news hx hl
    (fun j u hj => hr.at_ hj) h1 (by simp only [maxLen]; omega) hn hb ?_
  intro v' w' hown' hg _
  exact h v' w' hown' hg

theorem own_apartS {w : World} {base size : Nat} {e : TypeId} {v : Value} {n : Nat} {xs : List Value} (h : w.ownsRow base e size v n xs) : ∀ k, v.ownBlock = some k → base ≤ k ∧ ∃ cur, w.heap[k]? = some (.cells cur e (0, 0)) := fun k hk => by
  rcases h.2 with ⟨rfl, _⟩ | ⟨g, cap, cur, rfl, hg, hh, _⟩
  · cases hk
  · have hk : some g = some k := hk
    injection hk with hk
    subst hk
    exact ⟨hg, cur, hh⟩

theorem own_keptS {w w' : World} {base size : Nat} {e : TypeId} {v : Value} {n : Nat} {xs : List Value} (h : w.ownsRow base e size v n xs) (hk : ∀ k, base ≤ k → k < w.heap.size → w'.heap[k]? = w.heap[k]?) : w'.ownsRow base e size v n xs := by
  refine ⟨h.1, ?_⟩
  rcases h.2 with hn | ⟨g, cap, cur, hv, hg, hh, rest⟩
  · exact .inl hn
  · exact .inr ⟨g, cap, cur, hv, hg, (hk g hg (block_lt hh)).trans hh, rest⟩
end Go.Proofs.Ytoacgoelhidmbaa

/-
  A map with integer keys in memory: what it holds is a plain function of the key. Looked up, stored into, deleted from.
-/
namespace Go.Proofs.Ytoacgoelhidmbaa
open Go.RowKit
set_option linter.unusedVariables false
set_option linter.unusedSimpArgs false

/-- block M is a map that holds F -/
structure MapI (W : World) (M : Nat) (F : Int → Option Value) : Prop where
  ex : ∃ es c, W.heap[M]? = some (.map es c) ∧ MapKept.Stamped es c ∧ (∀ x ∈ es.toList, MapKept.IsKey (.int .i64) x.key) ∧ ∀ k v, F k = some v ↔ ∃ x ∈ es.toList, x.key = .int .i64 k ∧ x.val = v

section
variable {W X Y : World} {M : Nat} {F : Int → Option Value} {P : Program}
theorem MapI.new (W : World) : MapI (W.alloc (.map #[] 0)) W.heap.size (fun _ => none) :=
  ⟨#[], 0, (MapKept.heap_alloc W _).1, MapKept.stamped_empty 0, by simp, by simp⟩
theorem MapI.lt (h : MapI W M F) : M < W.heap.size := by
  obtain ⟨es, c, hb, _⟩ := h.ex
  exact block_lt hb
theorem MapI.same (h : MapI X M F) (hb : Y.heap[M]? = X.heap[M]?) : MapI Y M F := by
  obtain ⟨es, c, h1, h2⟩ := h.ex
  exact ⟨es, c, hb.trans h1, h2⟩
theorem MapI.later (h : MapI X M F) (hb : Below X.heap.size X Y) : MapI Y M F := h.same (hb.block M h.lt)
theorem MapI.grown {g : Option Nat} (h : MapI X M F) (hg : X.grownBy Y g) (hne : g ≠ some M) : MapI Y M F := h.same (hg.block M h.lt fun e => hne e.symm)
/-- a row of one's own is no map -/
theorem MapI.not_own {b s n : Nat} {e : TypeId} {v : Value} {xs : List Value} (h : MapI W M F) (h2 : W.ownsRow b e s v n xs) : v.ownBlock ≠ some M := fun he => by
  obtain ⟨es, c, h1, _⟩ := h.ex
  obtain ⟨_, cur, h3⟩ := own_apartS h2 M he
  rw [h1] at h3
  cases h3
theorem MapI.setCell {p : Addr} {u : Value} (h : MapI W M F) (hne : p.block ≠ M) : MapI (W.setCell p u) M F := h.same (heap_setCell_other W p M u (fun e => hne e.symm))

theorem keyI_at {es : Array MapEntry} {c : Nat} (hs : MapKept.Stamped es c) {i j : Nat} {x y : MapEntry} (hi : es.toList[i]? = some x) (hj : es.toList[j]? = some y) (hk : x.key = y.key) : i = j := by
  obtain ⟨_, _, hn⟩ := hs
  have h1 : (es.toList.map (·.key))[i]? = some x.key := by rw [List.getElem?_map, hi]; rfl
  have h2 : (es.toList.map (·.key))[j]? = some x.key := by rw [List.getElem?_map, hj, hk]; rfl
  obtain ⟨p1, q1⟩ := List.getElem?_eq_some_iff.1 h1
  obtain ⟨p2, q2⟩ := List.getElem?_eq_some_iff.1 h2
  exact (List.getElem_inj hn).1 (q1.trans q2.symm)

variable {mty kt et : TypeId}
/-- v, ok := m[k] -/
theorem MapI.look (h : MapI W M F) (hm : P.underlying mty = some (.map kt et)) (hd : P.underlying kt = some (.int .i64)) {z : Value} (hz : (zeroValue et).run P W = .ok z W) (k : Int) :
    (Instr.lookup mty (.map (some M)) (.int .i64 k) true).run P W = .ok (.tuple #[(F k).getD z, .bool (F k).isSome]) W := by
  obtain ⟨es, c, hb, hs, hks, hF⟩ := h.ex
  have hk : MapKept.IsKey (.int .i64) (.int .i64 k) := rfl
  rcases MapKept.findNow_spec hk es.toList 0 hks with ⟨h1, h2⟩ | ⟨j, e, h1, h2, h3⟩
  · have hn : F k = none := by
      cases hf : F k with
      | none => rfl
      | some v =>
        obtain ⟨x, hx, hxk, _⟩ := (hF k v).1 hf
        exact absurd hxk (h2 x hx)
    rw [hn]
    simp [Instr.lookup, run_underlying hm, MapKept.run_getObj_map hb, MapKept.run_checkKey hd hk, MapKept.run_findKey hd h1, hz, Result.andThen]
  · have hn : F k = some e.val := (hF k e.val).2 ⟨e, List.mem_of_getElem? h2, h3, rfl⟩
    rw [hn]
    simp [Instr.lookup, run_underlying hm, MapKept.run_getObj_map hb, MapKept.run_checkKey hd hk, MapKept.run_findKey hd h1, Result.andThen]

/-- m[k] = v -/
theorem MapI.put (h : MapI W M F) (hm : P.underlying mty = some (.map kt et)) (hd : P.underlying kt = some (.int .i64)) (k : Int) (v : Value) :
    ∃ W', (Instr.mapUpdate mty (.map (some M)) (.int .i64 k) v).run P W = .ok () W' ∧ MapI W' M (fun j => if j = k then some v else F j) ∧ W.grownBy W' (some M) := by
  obtain ⟨es, c, hb, hs, hks, hF⟩ := h.ex
  have hk : MapKept.IsKey (.int .i64) (.int .i64 k) := rfl
  rcases MapKept.findNow_spec hk es.toList 0 hks with ⟨h1, h2⟩ | ⟨j, e, h1, h2, h3⟩
  · refine ⟨{ W with heap := W.heap.setIfInBounds M (.map (es.push { key := .int .i64 k, val := v, born := c }) (c + 1)) }, by simp [Instr.mapUpdate, run_underlying hm, MapKept.run_getObj_map hb, MapKept.run_checkKey hd hk, MapKept.run_findKey hd h1, MapKept.run_setObj_map _ hb, Result.andThen], ⟨_, _, (MapKept.heap_set hb).1, MapKept.stamped_push hs h2, fun x hx => ?_, fun q u => ?_⟩, ⟨rfl, rfl, rfl, by simp, fun q hq hne => (MapKept.heap_set hb).2 q (fun e => hne (by rw [e]))⟩⟩
    · simp only [Array.toList_push, List.mem_append, List.mem_singleton] at hx
      rcases hx with hx | rfl
      · exact hks x hx
      · exact hk
    · simp only [Array.toList_push, List.mem_append, List.mem_singleton]
      by_cases hq : q = k
      · subst hq
        rw [if_pos rfl]
        constructor
        · intro e; injection e with e; exact ⟨_, .inr rfl, rfl, e⟩
        · rintro ⟨x, hx | rfl, hx1, hx2⟩
          · exact absurd hx1 (h2 x hx)
          · exact congrArg some hx2
      · rw [if_neg hq, hF q u]
        constructor
        · rintro ⟨x, hx, hx2⟩; exact ⟨x, .inl hx, hx2⟩
        · rintro ⟨x, hx | rfl, hx1, hx2⟩
          · exact ⟨x, hx, hx1, hx2⟩
          · injection hx1 with _ hx1; exact absurd hx1.symm hq
  · have hj : es[j]? = some e := by simpa using h2
    have hlt : j < es.size := (Array.getElem?_eq_some_iff.1 hj).1
    have hkey : ∀ e', es[j]? = some e' → ({ e' with key := .int .i64 k, val := v } : MapEntry).key = e'.key := fun e' he' => by rw [hj] at he'; cases he'; exact h3.symm
    have hmem : ∀ x, x ∈ (es.modify j fun e => { e with key := .int .i64 k, val := v }).toList ↔ x = { e with key := .int .i64 k, val := v } ∨ ∃ i, i ≠ j ∧ es.toList[i]? = some x := fun x => by
      rw [List.mem_iff_getElem?]
      constructor
      · rintro ⟨i, hi⟩
        rw [Array.getElem?_toList, Array.getElem?_modify] at hi
        by_cases hij : j = i
        · subst hij
          rw [if_pos rfl, hj] at hi
          simp only [Option.map_some] at hi
          injection hi with hi
          exact .inl hi.symm
        · rw [if_neg hij] at hi
          exact .inr ⟨i, fun e => hij e.symm, by rw [Array.getElem?_toList]; exact hi⟩
      · rintro (rfl | ⟨i, hij, hi⟩)
        · exact ⟨j, by rw [Array.getElem?_toList, Array.getElem?_modify, if_pos rfl, hj]; rfl⟩
        · refine ⟨i, ?_⟩
          rw [Array.getElem?_toList] at hi ⊢
          rw [Array.getElem?_modify, if_neg (fun e => hij e.symm)]
          exact hi
    refine ⟨{ W with heap := W.heap.setIfInBounds M (.map (es.modify j fun e => { e with key := .int .i64 k, val := v }) c) }, by simp [Instr.mapUpdate, run_underlying hm, MapKept.run_getObj_map hb, MapKept.run_checkKey hd hk, MapKept.run_findKey hd h1, hj, h3, MapKept.run_keyThatStays hk, MapKept.run_setObj_map _ hb, Result.andThen], ⟨_, _, (MapKept.heap_set hb).1, MapKept.stamped_modify hs _ _ (fun _ _ => rfl) (fun e' _ he' => hkey e' he'), MapKept.isKey_modify hks _ _ hkey, fun q u => ?_⟩, ⟨rfl, rfl, rfl, by simp, fun q hq hne => (MapKept.heap_set hb).2 q (fun e => hne (by rw [e]))⟩⟩
    by_cases hq : q = k
    · subst hq
      rw [if_pos rfl]
      constructor
      · intro e; injection e with e; exact ⟨_, (hmem _).2 (.inl rfl), rfl, e⟩
      · rintro ⟨x, hx, hx1, hx2⟩
        rcases (hmem x).1 hx with rfl | ⟨i, hij, hi⟩
        · exact congrArg some hx2
        · exact absurd (keyI_at hs hi h2 (hx1.trans h3.symm)) hij
    · rw [if_neg hq, hF q u]
      constructor
      · rintro ⟨x, hx, hx1, hx2⟩
        obtain ⟨i, hi⟩ := List.mem_iff_getElem?.1 hx
        refine ⟨x, (hmem x).2 (.inr ⟨i, fun e => ?_, hi⟩), hx1, hx2⟩
        subst e
        rw [h2] at hi
        injection hi with hi
        subst hi
        rw [h3] at hx1
        injection hx1 with _ hx1
        exact hq hx1.symm
      · rintro ⟨x, hx, hx1, hx2⟩
        rcases (hmem x).1 hx with rfl | ⟨i, hij, hi⟩
        · injection hx1 with _ hx1; exact absurd hx1.symm hq
        · exact ⟨x, List.mem_of_getElem? hi, hx1, hx2⟩

/-- delete(m, k) -/
theorem MapI.drop (h : MapI W M F) (hm : P.underlying mty = some (.map kt et)) (hd : P.underlying kt = some (.int .i64)) (ty : TypeId) (k : Int) :
    ∃ W', (Builtin.delete_ #[mty, kt] ty #[.map (some M), .int .i64 k]).run P W = .ok (.tuple #[]) W' ∧ MapI W' M (fun j => if j = k then none else F j) ∧ W.grownBy W' (some M) := by
  obtain ⟨es, c, hb, hs, hks, hF⟩ := h.ex
  have hk : MapKept.IsKey (.int .i64) (.int .i64 k) := rfl
  rcases MapKept.findNow_spec hk es.toList 0 hks with ⟨h1, h2⟩ | ⟨j, e, h1, h2, h3⟩
  · refine ⟨{ W with heap := W.heap.setIfInBounds M (.map es c) }, by simp [Builtin.delete_, run_underlying hm, MapKept.run_getObj_map hb, MapKept.run_checkKey hd hk, MapKept.run_findKey hd h1, MapKept.run_setObj_map _ hb, Result.andThen], ⟨_, _, (MapKept.heap_set hb).1, hs, hks, fun q u => ?_⟩, ⟨rfl, rfl, rfl, by simp, fun q hq hne => (MapKept.heap_set hb).2 q (fun e => hne (by rw [e]))⟩⟩
    by_cases hq : q = k
    · subst hq
      rw [if_pos rfl]
      constructor
      · intro e; cases e
      · rintro ⟨x, hx, hx1, _⟩; exact absurd hx1 (h2 x hx)
    · rw [if_neg hq, hF q u]
  · have he : (es.eraseIdxIfInBounds j).toList = es.toList.eraseIdx j := by
      have hlt : j < es.size := (Array.getElem?_eq_some_iff.1 (by simpa using h2 : es[j]? = some e)).1
      unfold Array.eraseIdxIfInBounds
      rw [dif_pos hlt, Array.toList_eraseIdx]
    refine ⟨{ W with heap := W.heap.setIfInBounds M (.map (es.eraseIdxIfInBounds j) c) }, by simp [Builtin.delete_, run_underlying hm, MapKept.run_getObj_map hb, MapKept.run_checkKey hd hk, MapKept.run_findKey hd h1, MapKept.run_setObj_map _ hb, Result.andThen], ⟨_, _, (MapKept.heap_set hb).1, MapKept.stamped_erase hs _, fun x hx => ?_, fun q u => ?_⟩, ⟨rfl, rfl, rfl, by simp, fun q hq hne => (MapKept.heap_set hb).2 q (fun e => hne (by rw [e]))⟩⟩
    · rw [he] at hx
      exact hks x (List.mem_of_mem_eraseIdx hx)
    · rw [he]
      by_cases hq : q = k
      · subst hq
        rw [if_pos rfl]
        constructor
        · intro e; cases e
        · rintro ⟨x, hx, hx1, _⟩
          obtain ⟨i, hij, hi⟩ := List.mem_eraseIdx_iff_getElem?.1 hx
          exact absurd (keyI_at hs hi h2 (hx1.trans h3.symm)) hij
      · rw [if_neg hq, hF q u]
        constructor
        · rintro ⟨x, hx, hx1, hx2⟩
          obtain ⟨i, hi⟩ := List.mem_iff_getElem?.1 hx
          refine ⟨x, List.mem_eraseIdx_iff_getElem?.2 ⟨i, fun e => ?_, hi⟩, hx1, hx2⟩
          subst e
          rw [h2] at hi
          injection hi with hi
          subst hi
          rw [h3] at hx1
          injection hx1 with _ hx1
          exact hq hx1.symm
        · rintro ⟨x, hx, hx1, hx2⟩
          exact ⟨x, List.mem_of_mem_eraseIdx hx, hx1, hx2⟩
end

/-! ### at the operation, for the walk -/
section
variable {P : Program} (w : World) {ops : Array Oper} {rest : List Oper} {o : Oper} {a : Act} {Q : Exit → Act → World → Prop} {M : Nat} {F : Int → Option Value}
theorem wpList_lookI (hg : o.guard = none) (m x : Operand) (t : TypeId) (hop : o.op = Op.lookup t m x true)
    (ke e : TypeId) (ht : P.underlying t = some (.map ke e)) (hd : P.underlying ke = some (.int .i64)) (z : Value) (hz : (zeroValue e).run P w = .ok z w) (k : Int)
    (hm : a.eval m = .map (some M)) (hx : a.eval x = .int .i64 k) (h : Hid (MapI w M F)) (u : Value) (b : Bool) (hu : (F k).getD z = u) (hb : (F k).isSome = b)
    (hK : wpList P ops Q rest (a.put o.dst (.tuple #[u, .bool b])) w) : wpList P ops Q (o :: rest) a w := by
  subst hu hb
  refine wpList_plain hg fun K' hK' => ?_
  unfold Oper.wp
  simp [execOp, hop, hm, hx, h.out.look ht hd hz k, Result.andThen]
  exact hK' _ _ hK
theorem wpList_putI (hg : o.guard = none) (m x v : Operand) (t : TypeId) (hop : o.op = Op.mapUpdate t m x v)
    (ke e : TypeId) (ht : P.underlying t = some (.map ke e)) (hd : P.underlying ke = some (.int .i64)) (k : Int) (u : Value)
    (hm : a.eval m = .map (some M)) (hx : a.eval x = .int .i64 k) (hv : a.eval v = u) (h : Hid (MapI w M F))
    (hK : ∀ w', Hid (MapI w' M (fun j => if j = k then some u else F j)) → Hid (w.grownBy w' (some M)) → wpList P ops Q rest (a.put o.dst undef) w') : wpList P ops Q (o :: rest) a w := by
  refine wpList_plain hg fun K' hK' => ?_
  obtain ⟨w', hrun, r1, r2⟩ := h.out.put ht hd k u
  unfold Oper.wp
  simp [execOp, hop, hm, hx, hv, hrun, Result.andThen]
  exact hK' _ _ (hK w' r1 r2)
theorem wpList_dropI (hg : o.guard = none) (m x : Operand) (t ke : TypeId) (hop : o.op = Op.call { callee := Callee.builtin Builtin.delete, args := #[m, x], argTypes := #[t, ke] })
    (e : TypeId) (ht : P.underlying t = some (.map ke e)) (hd : P.underlying ke = some (.int .i64)) (k : Int)
    (hm : a.eval m = .map (some M)) (hx : a.eval x = .int .i64 k) (h : Hid (MapI w M F))
    (hK : ∀ w', Hid (MapI w' M (fun j => if j = k then none else F j)) → Hid (w.grownBy w' (some M)) → wpList P ops Q rest (a.put o.dst (.tuple #[])) w') : wpList P ops Q (o :: rest) a w := by
  refine wpList_plain hg fun K' hK' => ?_
  obtain ⟨w', hrun, r1, r2⟩ := h.out.drop ht hd o.type k
  unfold Oper.wp
  simp [execOp, hop, resolve, invoke, builtin, hm, hx, hrun, Result.andThen]
  exact hK' _ _ (hK w' r1 r2)
end
end Go.Proofs.Ytoacgoelhidmbaa

/-
  A slice whose block lies above a bound: nothing below the bound reaches it.
-/
namespace Go.Proofs.Ytoacgoelhidmbaa
open Go.RowKit
set_option linter.unusedVariables false
set_option linter.unusedSimpArgs false

def Newer (B : Nat) (A : Option Addr) : Prop := ∀ ad, A = some ad → B ≤ ad.block
theorem Newer.mono {B B' : Nat} {A : Option Addr} (h : Newer B A) (hb : B' ≤ B) : Newer B' A := fun ad e => Nat.le_trans hb (h ad e)
theorem Newer.nil (B : Nat) : Newer B none := fun ad e => by cases e
theorem Newer.of_own {w : World} {base : Nat} {e : TypeId} {size n m c : Nat} {A : Option Addr} {xs : List Value} (h : w.ownsRow base e size (.slice A m c) n xs) : Newer base A := by
  intro ad e
  subst e
  rcases h.2 with ⟨hv, _⟩ | ⟨g, cap, cur, hv, hg, _⟩
  · cases hv
  · injection hv with h1
    injection h1 with h1
    rw [h1]; exact hg
end Go.Proofs.Ytoacgoelhidmbaa
