/-
  Joined: Mem, MemB, MemC, MemE, MemF, MemG, RunMath, RunChk.
-/
import Derived.WalkKit
import Derived.WalkSpells
import Derived.WalkLawsBesides
import Derived.Lib.Hide
import Derived.Deep.Draws
import Derived.OwnWalk
import Derived.Laws.CopyOwn
import Derived.Laws.Rows
/-
  Words for memory, of our own: a row of cells that a slice value reads; nothing here names the program.
-/
namespace Go.Proofs.Ytccippplpcjaiaa
open Go.RowKit
set_option linter.unusedVariables false
set_option linter.unusedSimpArgs false

theorem addr_add_add (a : Addr) (i j : Nat) : (a.add i).add j = a.add (i + j) := by
  unfold Addr.add
  by_cases hi : i = 0 <;> by_cases hj : j = 0 <;> simp [hi, hj, Nat.add_assoc]

/-- the cells from A on read xs -/
def Row (w : World) (A : Option Addr) (xs : List Value) : Prop :=
  ∀ k v, xs[k]? = some v → ∃ ad, A = some ad ∧ w.cell? (ad.add k) = some v

theorem Row.nil (w : World) (A : Option Addr) : Row w A [] := fun k v h => by simp at h

theorem cell_lt {w : World} {a : Addr} {v : Value} (h : w.cell? a = some v) : a.block < w.heap.size := World.block_lt_of_cell? w a h

theorem Row.below {w w' : World} {A : Option Addr} {xs : List Value} (h : Row w A xs) (hb : Below w.heap.size w w') : Row w' A xs := fun k v hk => by
  obtain ⟨ad, e, hc⟩ := h k v hk
  exact ⟨ad, e, (hb.cell (cell_lt hc)).trans hc⟩

theorem Row.drop {w : World} {A : Option Addr} {xs : List Value} (h : Row w A xs) (m : Nat) : Row w (A.map (·.add m)) (xs.drop m) := fun k v hk => by
  rw [List.getElem?_drop] at hk
  obtain ⟨ad, rfl, hc⟩ := h _ v hk
  exact ⟨_, rfl, by rw [addr_add_add]; exact hc⟩

theorem Row.take {w : World} {A : Option Addr} {xs : List Value} (h : Row w A xs) (m : Nat) : Row w A (xs.take m) := fun k v hk => by
  rw [List.getElem?_take] at hk
  split at hk
  · exact h k v hk
  · cases hk

/-- the address of a row that is not empty, taken apart -/
theorem Row.lit {w : World} {A : Option Addr} {xs : List Value} (h : Row w A xs) (hp : 0 < xs.length) :
    ∃ b off, A = some ⟨b, off, none⟩ ∧ b < w.heap.size ∧ ∀ k v, xs[k]? = some v → w.cell? ⟨b, off + k, none⟩ = some v := by
  obtain ⟨ad, rfl, hc⟩ := h 0 _ (List.getElem?_eq_getElem hp)
  obtain ⟨b, off, spot⟩ := ad
  have hspot : spot = none := by simpa [Addr.add] using World.cell?_spot hc
  subst hspot
  refine ⟨b, off, rfl, by simpa [Addr.add] using cell_lt hc, fun k v hk => ?_⟩
  obtain ⟨ad', e, hc'⟩ := h k v hk
  cases e
  rwa [Addr.add_lit] at hc'

/-- a whole block as a row -/
theorem Row.of_block {w : World} {g : Nat} {xs : List Value} {t : TypeId} {fr : Nat × Nat} (h : w.heap[g]? = some (.cells xs.toArray t fr)) : Row w (some ⟨g, 0, none⟩) xs := fun k v hk => by
  refine ⟨_, rfl, ?_⟩
  rw [Addr.add_lit, Nat.zero_add, cell_of_row _ _ _ _ t fr h]
  simpa using hk

theorem block_lt {w : World} {g : Nat} {o : Obj} (h : w.heap[g]? = some o) : g < w.heap.size := (Array.getElem?_eq_some_iff.1 h).1

theorem Row.at_ {w : World} {ad : Addr} {xs : List Value} (h : Row w (some ad) xs) {k : Nat} {v : Value} (hk : xs[k]? = some v) : w.cell? (ad.add k) = some v := by
  obtain ⟨ad', e, hc⟩ := h k v hk
  cases e
  exact hc

/-- a row of the call's own -/
theorem Row.of_own {w : World} {base : Nat} {e : TypeId} {size n m c : Nat} {A : Option Addr} {xs : List Value} (h : w.ownsRow base e size (.slice A m c) n xs) : Row w A xs := by
  intro k v hk
  rcases h.2 with ⟨hv, hn⟩ | ⟨g, cap, cur, hv, _⟩
  · have : xs = [] := List.eq_nil_of_length_eq_zero (by rw [h.1, hn]; simp)
    subst this
    simp at hk
  · have hA : A = some ⟨g, 0, none⟩ := by injection hv
    subst hA
    exact ⟨_, rfl, h.cells (g := g) rfl k v hk⟩

theorem ownsRow_form {w : World} {base : Nat} {e : TypeId} {size n : Nat} {v : Value} {xs : List Value} (h : w.ownsRow base e size v n xs) : ∃ A c, v = .slice A n c ∧ n ≤ c ∧ c ≤ maxLen := by
  rcases h.2 with ⟨rfl, rfl⟩ | ⟨g, cap, cur, rfl, _, _, h1, h2, _⟩
  · exact ⟨none, 0, rfl, Nat.le_refl _, Nat.zero_le _⟩
  · exact ⟨_, _, rfl, h1, h2⟩

/-- bytes as cells -/
def u8s (l : List UInt8) : List Value := l.map fun b => .int .u8 (b.toNat : Int)
theorem u8s_length (l : List UInt8) : (u8s l).length = l.length := by simp [u8s]
theorem u8s_at (l : List UInt8) (k : Nat) (h : k < l.length) : (u8s l)[k]? = some (.int .u8 (l[k].toNat : Int)) := by simp [u8s, h]

/-- integers as cells -/
def i64s (l : List Int) : List Value := l.map fun b => .int .i64 b
theorem i64s_length (l : List Int) : (i64s l).length = l.length := by simp [i64s]
theorem i64s_at (l : List Int) (k : Nat) (h : k < l.length) : (i64s l)[k]? = some (.int .i64 l[k]) := by simp [i64s, h]

/-- a slice of bytes -/
structure Bytes8 (w : World) (A : Option Addr) (n c : Nat) (l : List UInt8) : Prop where
  len : l.length = n
  cap : n ≤ c
  most : c ≤ 9223372036854775807
  row : Row w A (u8s l)

theorem Bytes8.below {w w' : World} {A : Option Addr} {n c : Nat} {l : List UInt8} (h : Bytes8 w A n c l) (hb : Below w.heap.size w w') : Bytes8 w' A n c l := ⟨h.len, h.cap, h.most, h.row.below hb⟩
theorem Bytes8.nil (w : World) : Bytes8 w none 0 0 [] := ⟨rfl, Nat.le_refl _, Nat.zero_le _, Row.nil _ _⟩
theorem Bytes8.of_own {w : World} {base : Nat} {e : TypeId} {n : Nat} {v : Value} {l : List UInt8} (h : w.ownsRow base e 1 v n (u8s l)) : ∃ A c, v = .slice A n c ∧ Bytes8 w A n c l := by
  obtain ⟨A, c, rfl, h1, h2⟩ := ownsRow_form h
  refine ⟨A, c, rfl, by have := h.1; rw [u8s_length] at this; simpa using this, h1, by simpa [maxLen] using h2, Row.of_own h⟩

/-- a slice of integers -/
structure Ints (w : World) (A : Option Addr) (n c : Nat) (l : List Int) : Prop where
  len : l.length = n
  cap : n ≤ c
  most : c ≤ 9223372036854775807
  row : Row w A (i64s l)

theorem Ints.below {w w' : World} {A : Option Addr} {n c : Nat} {l : List Int} (h : Ints w A n c l) (hb : Below w.heap.size w w') : Ints w' A n c l := ⟨h.len, h.cap, h.most, h.row.below hb⟩
theorem Ints.nil (w : World) : Ints w none 0 0 [] := ⟨rfl, Nat.le_refl _, Nat.zero_le _, Row.nil _ _⟩
theorem Ints.of_own {w : World} {base : Nat} {e : TypeId} {n : Nat} {v : Value} {l : List Int} (h : w.ownsRow base e 1 v n (i64s l)) : ∃ A c, v = .slice A n c ∧ Ints w A n c l := by
  obtain ⟨A, c, rfl, h1, h2⟩ := ownsRow_form h
  refine ⟨A, c, rfl, by have := h.1; rw [i64s_length] at this; simpa using this, h1, by simpa [maxLen] using h2, Row.of_own h⟩

theorem below_drewN {B : Nat} {a w : World} (h : Below B a w) (n : Nat) : Below B a (w.drewN n) := ⟨h.os, h.tape, h.output, h.size, h.block⟩

end Go.Proofs.Ytccippplpcjaiaa

/-
  Words for memory, second part: append of a row, whatever its address.
-/
namespace Go.Proofs.Ytccippplpcjaiaa
open Go.RowKit
set_option linter.unusedVariables false
set_option linter.unusedSimpArgs false

end Go.Proofs.Ytccippplpcjaiaa

/-
  Words for memory, third part: append of elements of several cells.
-/
namespace Go.Proofs.Ytccippplpcjaiaa
open Go.RowKit
set_option linter.unusedVariables false
set_option linter.unusedSimpArgs false

end Go.Proofs.Ytccippplpcjaiaa

/-
  Words for memory, fifth part: a slice of slices of bytes.
-/
namespace Go.Proofs.Ytccippplpcjaiaa
open Go.RowKit
set_option linter.unusedVariables false
set_option linter.unusedSimpArgs false

/-- a slice of slices of bytes -/
structure Pcs (w : World) (A : Option Addr) (n c : Nat) (ll : List (List UInt8)) : Prop where
  len : ll.length = n
  cap : n ≤ c
  most : c ≤ 9223372036854775807
  row : ∀ k (h : k < ll.length), ∃ ad A' m c', A = some ad ∧ w.cell? (ad.add k) = some (.slice A' m c') ∧ Bytes8 w A' m c' ll[k]

theorem Pcs.below {w w' : World} {A : Option Addr} {n c : Nat} {ll : List (List UInt8)} (h : Pcs w A n c ll) (hb : Below w.heap.size w w') : Pcs w' A n c ll :=
  ⟨h.len, h.cap, h.most, fun k hk => by
    obtain ⟨ad, A', m, c', e, hc, hB⟩ := h.row k hk
    exact ⟨ad, A', m, c', e, (hb.cell (cell_lt hc)).trans hc, hB.below hb⟩⟩

theorem Pcs.nil (w : World) : Pcs w none 0 0 [] := ⟨rfl, Nat.le_refl _, Nat.zero_le _, fun k h => by simp at h⟩

theorem Pcs.lit {w : World} {A : Option Addr} {n c : Nat} {ll : List (List UInt8)} (h : Pcs w A n c ll) (hp : 0 < n) :
    ∃ b off, A = some ⟨b, off, none⟩ ∧ b < w.heap.size ∧ ∀ k (h : k < ll.length), ∃ A' m c', w.cell? ⟨b, off + k, none⟩ = some (.slice A' m c') ∧ Bytes8 w A' m c' ll[k] := by
  obtain ⟨ad, A', m, c', rfl, hc, _⟩ := h.row 0 (by rw [h.len]; exact hp)
  obtain ⟨b, off, spot⟩ := ad
  have hspot : spot = none := by simpa [Addr.add] using World.cell?_spot hc
  subst hspot
  refine ⟨b, off, rfl, by simpa [Addr.add] using cell_lt hc, fun k hk => ?_⟩
  obtain ⟨ad', A', m, c', e, hc', hB⟩ := h.row k hk
  cases e
  rw [Addr.add_lit] at hc'
  exact ⟨A', m, c', hc', hB⟩

/-- bytes in a row of their own -/
theorem Bytes8.new (w : World) (l : List UInt8) (t : TypeId) (fr : Nat × Nat) (h : l.length ≤ 9223372036854775807) : Bytes8 (w.alloc (.cells (u8s l).toArray t fr)) (some ⟨w.heap.size, 0, none⟩) l.length l.length l :=
  ⟨rfl, Nat.le_refl _, h, Row.of_block (heap_alloc_new w _)⟩

end Go.Proofs.Ytccippplpcjaiaa

/-
  append onto a row of the call's own, all else kept: not only what lies below a bound.
-/
namespace Go.Proofs.Ytccippplpcjaiaa
open Go.RowKit
set_option linter.unusedVariables false
set_option linter.unusedSimpArgs false

end Go.Proofs.Ytccippplpcjaiaa

/-
  append onto a row of the call's own in a region that draws its order, elements of several cells, all other blocks kept.
-/
namespace Go.Proofs.Ytccippplpcjaiaa
open Go.RowKit
set_option linter.unusedVariables false
set_option linter.unusedSimpArgs false

theorem step_append_rowG {P : Program} (w : World) {ops : Array Oper} {o : Oper} {a : Act} {K : Act → World → Prop} {Q : Exit → Act → World → Prop} {E : Prop} (hgd : o.guard = none) (s x : Operand) (t : TypeId)
    (ho : o.op = .call { callee := .builtin .append, args := #[s, x], argTypes := #[t, t] })
    (base : Nat) (e : TypeId) (size : Nat) (z : Value) (bytes : Nat) (ht : P.underlying t = some (.slice e)) (hi : (P.info? e).map (fun i => (i.zero, i.size, i.bytes)) = some (some z, size, bytes)) (hzs : z.cells.size = size) (hsz : 0 < size)
    (v : Value) (n : Nat) (xs : List Value) (hs : a.eval s = v) (hown : Hid (w.ownsRow base e size v n xs)) (hb : base ≤ w.heap.size)
    (ad : Addr) (news : List Value) (m c : Nat) (hx : a.eval x = .slice (some ad) m c) (hl : news.length = m * size) (hr : Row w (some ad) news) (h1 : ∀ u ∈ news, u.oneCell' = true)
    (hn : (n + m) * bytes ≤ 140737488355328) (hby : 1 ≤ bytes)
    (h : ∀ v' w', Hid (w'.ownsRow base e size v' (n + m) (xs ++ news)) → Hid (w.grownBy w' v.ownBlock) → K (a.put o.dst v') w') :
    if Region.wanted o (yielded ops a.tmps) = true then Oper.wp P o a w K Q else E := by
  have hw : Region.wanted o (yielded ops a.tmps) = true := by simp [Region.wanted, hgd]
  rw [if_pos hw]
  obtain ⟨i0, hi0, hz0, hz1, hz2⟩ := info_parts hi
  have hnm : n + m ≤ 140737488355328 := Nat.le_trans (Nat.le_mul_of_pos_right _ (by omega)) hn
  refine wp_append_own _ s x t ho base e i0 z size bytes ht hi0 hz0 hz1 hz2 hzs hsz v n xs hs hown.out ad m c news hx hl
    (fun j u hj => hr.at_ hj) h1 (by simp only [maxLen]; omega) hn hb ?_
  intro v' w' hown' hg _
  exact h v' w' hown' hg

theorem own_apartS {w : World} {base size : Nat} {e : TypeId} {v : Value} {n : Nat} {xs : List Value} (h : w.ownsRow base e size v n xs) : ∀ k, v.ownBlock = some k → base ≤ k ∧ ∃ cur, w.heap[k]? = some (.cells cur e (0, 0)) := fun k hk => by
  rcases h.2 with ⟨rfl, _⟩ | ⟨g, cap, cur, rfl, hg, hh, _⟩
  · cases hk
  · have hk : some g = some k := hk
    injection hk with hk
    subst hk
    exact ⟨hg, cur, hh⟩

theorem own_keptS {w w' : World} {base size : Nat} {e : TypeId} {v : Value} {n : Nat} {xs : List Value} (h : w.ownsRow base e size v n xs) (hk : ∀ k, base ≤ k → k < w.heap.size → w'.heap[k]? = w.heap[k]?) : w'.ownsRow base e size v n xs := by
  refine ⟨h.1, ?_⟩
  rcases h.2 with hn | ⟨g, cap, cur, hv, hg, hh, rest⟩
  · exact .inl hn
  · exact .inr ⟨g, cap, cur, hv, hg, (hk g hg (block_lt hh)).trans hh, rest⟩
end Go.Proofs.Ytccippplpcjaiaa

/-
  Layer 19's mathematics: runs of mappings, mappings of runs, runs joined.
-/
namespace Go.Proofs.Ytccippplpcjaiaa
open Go.RowKit
set_option linter.unusedVariables false
set_option linter.unusedSimpArgs false

/-- a mapping: virtual block, data block, time; a run: the first of either, how many, time -/
abbrev Map19 := Int × Int × Int
structure Run19 where
  v : Int
  b : Int
  n : Int
  t : Int
deriving DecidableEq
/-- does a run, does a mapping go on with a run -/
def cont19 (a b : Run19) : Prop := a.v + a.n = b.v ∧ a.b + a.n = b.b ∧ a.t = b.t
def goes19 (a : Run19) (x : Map19) : Prop := a.v + a.n = x.1 ∧ a.b + a.n = x.2.1 ∧ a.t = x.2.2
instance (a b : Run19) : Decidable (cont19 a b) := inferInstanceAs (Decidable (_ ∧ _ ∧ _))
instance (a : Run19) (x : Map19) : Decidable (goes19 a x) := inferInstanceAs (Decidable (_ ∧ _ ∧ _))
def one19 (x : Map19) : Run19 := ⟨x.1, x.2.1, 1, x.2.2⟩
/-- a run joined with runs, behind the last; a mapping -/
def addR19 (out : List Run19) (r : Run19) : List Run19 :=
  match out.getLast? with
  | none => [r]
  | some a => if cont19 a r then out.dropLast ++ [⟨a.v, a.b, a.n + r.n, a.t⟩] else out ++ [r]
def addM19 (out : List Run19) (x : Map19) : List Run19 := addR19 out (one19 x)
def of19 (l : List Map19) : List Run19 := l.foldl addM19 []
def merge19 (l : List Run19) : List Run19 := l.foldl addR19 []
/-- a run's mappings -/
def exp19 (r : Run19) : List Map19 := (List.range r.n.toNat).map fun k : Nat => (r.v + (k : Int), r.b + (k : Int), r.t)
def maps19 (l : List Run19) : List Map19 := l.flatMap exp19
theorem maps19_append (a b : List Run19) : maps19 (a ++ b) = maps19 a ++ maps19 b := by unfold maps19; rw [List.flatMap_append]
theorem maps19_one (r : Run19) : maps19 [r] = exp19 r := by unfold maps19; rw [List.flatMap_singleton]
theorem of19_snoc (l : List Map19) (x : Map19) : of19 (l ++ [x]) = addM19 (of19 l) x := by unfold of19; rw [List.foldl_append]; rfl
theorem merge19_snoc (l : List Run19) (r : Run19) : merge19 (l ++ [r]) = addR19 (merge19 l) r := by unfold merge19; rw [List.foldl_append]; rfl
theorem addR19_nil (r : Run19) : addR19 [] r = [r] := rfl
theorem addR19_yes {o : List Run19} {a r : Run19} (h : cont19 a r) : addR19 (o ++ [a]) r = o ++ [⟨a.v, a.b, a.n + r.n, a.t⟩] := by
  simp [addR19, h]
theorem addR19_no {o : List Run19} {a r : Run19} (h : ¬ cont19 a r) : addR19 (o ++ [a]) r = o ++ [a] ++ [r] := by
  simp [addR19, h]
/-- every list is empty or has a last -/
theorem last19 {α : Type} (l : List α) : l = [] ∨ ∃ o a, l = o ++ [a] := by
  rcases List.eq_nil_or_concat l with h | ⟨o, a, h⟩
  · exact .inl h
  · exact .inr ⟨o, a, by rw [h, List.concat_eq_append]⟩

/-- runs of one or more -/
def Pos19 (l : List Run19) : Prop := ∀ r ∈ l, 1 ≤ r.n
theorem exp19_join {a r : Run19} (h : cont19 a r) (ha : 1 ≤ a.n) (hr : 1 ≤ r.n) : exp19 ⟨a.v, a.b, a.n + r.n, a.t⟩ = exp19 a ++ exp19 r := by
  obtain ⟨h1, h2, h3⟩ := h
  obtain ⟨N, hN⟩ := Int.eq_ofNat_of_zero_le (show 0 ≤ a.n by omega)
  obtain ⟨M, hM⟩ := Int.eq_ofNat_of_zero_le (show 0 ≤ r.n by omega)
  unfold exp19
  simp only [hN, hM, Int.toNat_natCast]
  rw [show ((N : Int) + (M : Int)).toNat = N + M by omega, List.range_add, List.map_append, List.map_map]
  congr 1
  refine List.map_congr_left fun k _ => ?_
  simp only [Function.comp]
  rw [hN] at h1 h2
  push_cast
  refine Prod.ext (by simp; omega) (Prod.ext (by simp; omega) (by simpa using h3))
theorem addR19_pos {out : List Run19} {r : Run19} (h : Pos19 out) (hr : 1 ≤ r.n) : Pos19 (addR19 out r) := by
  rcases last19 out with rfl | ⟨o, a, rfl⟩
  · intro x hx
    rw [addR19_nil] at hx
    rw [List.mem_singleton.1 hx]; exact hr
  · have ha := h a (by simp)
    by_cases hc : cont19 a r
    · rw [addR19_yes hc]
      intro x hx
      rcases List.mem_append.1 hx with hx | hx
      · exact h x (List.mem_append_left _ hx)
      · rw [List.mem_singleton.1 hx]; show 1 ≤ a.n + r.n; omega
    · rw [addR19_no hc]
      intro x hx
      rcases List.mem_append.1 hx with hx | hx
      · exact h x hx
      · rw [List.mem_singleton.1 hx]; exact hr
theorem addR19_maps {out : List Run19} {r : Run19} (h : Pos19 out) (hr : 1 ≤ r.n) : maps19 (addR19 out r) = maps19 out ++ exp19 r := by
  rcases last19 out with rfl | ⟨o, a, rfl⟩
  · rw [addR19_nil, maps19_one]; rfl
  · have ha := h a (by simp)
    by_cases hc : cont19 a r
    · rw [addR19_yes hc, maps19_append, maps19_append, maps19_one, maps19_one, exp19_join hc ha hr, List.append_assoc]
    · rw [addR19_no hc, maps19_append, maps19_one]
theorem merge19_pos : ∀ {l : List Run19}, Pos19 l → Pos19 (merge19 l) := fun {l} hp => by
  induction h : l.length generalizing l with
  | zero => rw [List.eq_nil_of_length_eq_zero h]; exact fun x hx => by cases hx
  | succ k ih =>
    rcases last19 l with rfl | ⟨o, a, rfl⟩
    · simp at h
    · rw [merge19_snoc]
      exact addR19_pos (ih (fun x hx => hp x (List.mem_append_left _ hx)) (by simpa using h)) (hp a (by simp))
/-- joined runs have the same mappings -/
theorem merge19_maps : ∀ {l : List Run19}, Pos19 l → maps19 (merge19 l) = maps19 l := fun {l} hp => by
  induction h : l.length generalizing l with
  | zero => rw [List.eq_nil_of_length_eq_zero h]; rfl
  | succ k ih =>
    rcases last19 l with rfl | ⟨o, a, rfl⟩
    · simp at h
    · have hpo : Pos19 o := fun x hx => hp x (List.mem_append_left _ hx)
      rw [merge19_snoc, addR19_maps (merge19_pos hpo) (hp a (by simp)), ih hpo (by simpa using h), maps19_append, maps19_one]
/-- and are no more -/
theorem addR19_length (out : List Run19) (r : Run19) : (addR19 out r).length ≤ out.length + 1 := by
  rcases last19 out with rfl | ⟨o, a, rfl⟩
  · simp [addR19_nil]
  · by_cases hc : cont19 a r
    · rw [addR19_yes hc]; simp
    · rw [addR19_no hc]; simp
/-- one run's mappings, one after the other, are the run joined -/
theorem fold19_exp (r : Run19) : ∀ (k : Nat) (out : List Run19), ((List.range (k + 1)).map fun j : Nat => ((r.v + (j : Int), r.b + (j : Int), r.t) : Map19)).foldl addM19 out = addR19 out ⟨r.v, r.b, (k : Int) + 1, r.t⟩
  | 0, out => by
    show addM19 out (r.v + ((0 : Nat) : Int), r.b + ((0 : Nat) : Int), r.t) = _
    unfold addM19 one19
    simp
  | k + 1, out => by
    rw [List.range_succ, List.map_append, List.foldl_append, fold19_exp r k out]
    show addM19 (addR19 out _) (r.v + ((k + 1 : Nat) : Int), r.b + ((k + 1 : Nat) : Int), r.t) = _
    unfold addM19
    have hr1 : cont19 (⟨r.v, r.b, (k : Int) + 1, r.t⟩ : Run19) (one19 (r.v + ((k + 1 : Nat) : Int), r.b + ((k + 1 : Nat) : Int), r.t)) := ⟨by simp [one19], by simp [one19], rfl⟩
    rcases last19 out with rfl | ⟨o, a, rfl⟩
    · rw [addR19_nil, addR19_nil]
      refine (addR19_yes (o := []) hr1).trans ?_
      simp [one19]
    · by_cases hc : a.v + a.n = r.v ∧ a.b + a.n = r.b ∧ a.t = r.t
      · rw [addR19_yes (r := ⟨r.v, r.b, (k : Int) + 1, r.t⟩) hc, addR19_yes (r := ⟨r.v, r.b, ((k + 1 : Nat) : Int) + 1, r.t⟩) hc]
        obtain ⟨h1, h2, h3⟩ := hc
        have hc2 : cont19 (⟨a.v, a.b, a.n + ((k : Int) + 1), a.t⟩ : Run19) (one19 (r.v + ((k + 1 : Nat) : Int), r.b + ((k + 1 : Nat) : Int), r.t)) := ⟨by show a.v + (a.n + ((k : Int) + 1)) = r.v + ((k + 1 : Nat) : Int); push_cast; omega, by show a.b + (a.n + ((k : Int) + 1)) = r.b + ((k + 1 : Nat) : Int); push_cast; omega, h3⟩
        refine (addR19_yes hc2).trans ?_
        have e : a.n + ((k : Int) + 1) + 1 = a.n + (((k + 1 : Nat) : Int) + 1) := by push_cast; omega
        show o ++ [(⟨a.v, a.b, a.n + ((k : Int) + 1) + 1, a.t⟩ : Run19)] = _
        rw [e]
      · rw [addR19_no (r := ⟨r.v, r.b, (k : Int) + 1, r.t⟩) hc, addR19_no (r := ⟨r.v, r.b, ((k + 1 : Nat) : Int) + 1, r.t⟩) hc]
        refine (addR19_yes hr1).trans ?_
        show o ++ [a] ++ [(⟨r.v, r.b, (k : Int) + 1 + 1, r.t⟩ : Run19)] = _
        rw [show (((k + 1 : Nat) : Int) + 1) = (k : Int) + 1 + 1 by push_cast; omega]
theorem exp19_fold {r : Run19} (hr : 1 ≤ r.n) (out : List Run19) : (exp19 r).foldl addM19 out = addR19 out r := by
  obtain ⟨k, hk⟩ : ∃ k : Nat, r.n = (k : Int) + 1 := ⟨(r.n - 1).toNat, by omega⟩
  have e : r.n.toNat = k + 1 := by omega
  unfold exp19
  rw [e, fold19_exp r k out, ← hk]
/-- joined runs are the runs of their mappings -/
theorem merge19_of : ∀ {l : List Run19}, Pos19 l → merge19 l = of19 (maps19 l) := fun {l} hp => by
  have key : ∀ (l : List Run19) (out : List Run19), Pos19 l → l.foldl addR19 out = (maps19 l).foldl addM19 out := fun l => by
    induction l with
    | nil => intro out _; rfl
    | cons r t ih =>
      intro out hp
      have e : maps19 (r :: t) = exp19 r ++ maps19 t := by unfold maps19; rw [List.flatMap_cons]
      rw [List.foldl_cons, e, List.foldl_append, exp19_fold (hp r (by simp))]
      exact ih _ fun x hx => hp x (List.mem_cons_of_mem _ hx)
  exact key l [] hp

end Go.Proofs.Ytccippplpcjaiaa

/-
  Layer 19's mathematics: whether runs may be; runs and mappings one by one, as loops meet them.
-/
namespace Go.Proofs.Ytccippplpcjaiaa
open Go.RowKit
set_option linter.unusedVariables false
set_option linter.unusedSimpArgs false

/-! ### a run's mappings -/
theorem exp19_mem {r : Run19} {x : Map19} : x ∈ exp19 r ↔ ∃ k : Nat, (k : Int) < r.n ∧ x = (r.v + (k : Int), r.b + (k : Int), r.t) := by
  unfold exp19
  rw [List.mem_map]
  constructor
  · rintro ⟨k, hk, rfl⟩
    exact ⟨k, by have := List.mem_range.1 hk; omega, rfl⟩
  · rintro ⟨k, hk, rfl⟩
    exact ⟨k, List.mem_range.2 (by omega), rfl⟩
theorem exp19_length (r : Run19) : (exp19 r).length = r.n.toNat := by simp [exp19]
theorem exp19_rises (r : Run19) : (exp19 r).Pairwise fun a b => a.1 < b.1 := by
  unfold exp19
  rw [List.pairwise_map]
  refine List.Pairwise.imp ?_ List.pairwise_lt_range
  intro a b h
  show r.v + (a : Int) < r.v + (b : Int)
  omega
theorem maps19_cons (r : Run19) (l : List Run19) : maps19 (r :: l) = exp19 r ++ maps19 l := by unfold maps19; rw [List.flatMap_cons]
theorem maps19_take {l : List Run19} {k : Nat} (h : k < l.length) : maps19 (l.take (k + 1)) = maps19 (l.take k) ++ exp19 l[k] := by
  rw [List.take_succ_eq_append_getElem h, maps19_append, maps19_one]
theorem exp19_take {r : Run19} {k : Nat} (h : (k : Int) < r.n) : (exp19 r).take (k + 1) = (exp19 r).take k ++ [(r.v + (k : Int), r.b + (k : Int), r.t)] := by
  have hl : k < (exp19 r).length := by rw [exp19_length]; omega
  rw [List.take_succ_eq_append_getElem hl]
  simp [exp19]
theorem exp19_all {r : Run19} {k : Nat} (h : r.n ≤ (k : Int)) : (exp19 r).take k = exp19 r := List.take_of_length_le (by rw [exp19_length]; omega)

/-! ### what Check answers -/
/-- is a run in range, so many mappings standing ahead of it -/
def runR19 (all : Int) (r : Run19) : Bool := decide (1 ≤ r.n ∧ 0 ≤ r.v ∧ r.v + r.n - 1 ≤ 281474976710655 ∧ 0 ≤ r.b ∧ r.b + r.n ≤ 65536 ∧ 0 ≤ r.t ∧ r.t ≤ 16777215 ∧ all + r.n ≤ 16384)
theorem runR19_yes {all : Int} {r : Run19} : runR19 all r = true ↔ 1 ≤ r.n ∧ 0 ≤ r.v ∧ r.v + r.n - 1 ≤ 281474976710655 ∧ 0 ≤ r.b ∧ r.b + r.n ≤ 65536 ∧ 0 ≤ r.t ∧ r.t ≤ 16777215 ∧ all + r.n ≤ 16384 := by simp [runR19]
def chkE19 : Int → Option Run19 → List Run19 → Int
  | _, _, [] => 0
  | all, p, r :: l => if runR19 all r = false then 2 else if (∃ a, p = some a ∧ r.v < a.v + a.n) then 17 else chkE19 (all + r.n) (some r) l
theorem chk19_cons {all : Int} {p : Option Run19} {r : Run19} {l : List Run19} : chkE19 all p (r :: l) = 0 ↔ runR19 all r = true ∧ (∀ a, p = some a → a.v + a.n ≤ r.v) ∧ chkE19 (all + r.n) (some r) l = 0 := by
  rw [chkE19]
  by_cases h1 : runR19 all r = false
  · rw [if_pos h1]
    constructor
    · intro h; cases h
    · rintro ⟨h, _⟩; rw [h1] at h; cases h
  · rw [if_neg h1]
    by_cases h2 : ∃ a, p = some a ∧ r.v < a.v + a.n
    · rw [if_pos h2]
      constructor
      · intro h; cases h
      · rintro ⟨_, h, _⟩
        obtain ⟨a, e, h3⟩ := h2
        have := h a e
        omega
    · rw [if_neg h2]
      constructor
      · intro h
        refine ⟨by simpa using h1, fun a e => ?_, h⟩
        by_cases h3 : a.v + a.n ≤ r.v
        · exact h3
        · exact absurd ⟨a, e, by omega⟩ h2
      · rintro ⟨_, _, h⟩; exact h
theorem chk19_pos : ∀ {l : List Run19} {all : Int} {p : Option Run19}, chkE19 all p l = 0 → Pos19 l
  | [], _, _, _ => fun x hx => by cases hx
  | r :: l, all, p, h => fun x hx => by
    obtain ⟨h1, _, h3⟩ := chk19_cons.1 h
    rcases List.mem_cons.1 hx with rfl | hx
    · exact (runR19_yes.1 h1).1
    · exact chk19_pos h3 x hx
/-- a mapping in range -/
def InR19 (x : Map19) : Prop := 0 ≤ x.1 ∧ x.1 ≤ 281474976710655 ∧ 0 ≤ x.2.1 ∧ x.2.1 < 65536 ∧ 0 ≤ x.2.2 ∧ x.2.2 ≤ 16777215
/-- mappings in range, their virtual blocks rise, they are not too many -/
def Good19 (l : List Map19) : Prop := (∀ x ∈ l, InR19 x) ∧ (l.Pairwise fun a b => a.1 < b.1) ∧ l.length ≤ 16384
theorem chk19_iff : ∀ {l : List Run19} {all : Int} {p : Option Run19}, Pos19 l → all ≤ 16384 →
    (chkE19 all p l = 0 ↔ (∀ x ∈ maps19 l, InR19 x) ∧ ((maps19 l).Pairwise fun a b => a.1 < b.1) ∧ (∀ a, p = some a → ∀ x ∈ maps19 l, a.v + a.n ≤ x.1) ∧ all + ((maps19 l).length : Int) ≤ 16384)
  | [], all, p, _, ha => by
    have e : maps19 [] = [] := rfl
    rw [e]
    constructor
    · intro _; exact ⟨fun x hx => (List.not_mem_nil hx).elim, List.Pairwise.nil, fun a _ x hx => (List.not_mem_nil hx).elim, by simpa using ha⟩
    · intro _; rfl
  | r :: l, all, p, hp, ha => by
    have hr : 1 ≤ r.n := hp r (by simp)
    have hl : Pos19 l := fun x hx => hp x (List.mem_cons_of_mem _ hx)
    have hlen : ((exp19 r).length : Int) = r.n := by rw [exp19_length]; omega
    have h0 : ((r.v + ((0 : Nat) : Int), r.b + ((0 : Nat) : Int), r.t) : Map19) ∈ exp19 r := exp19_mem.2 ⟨0, by omega, rfl⟩
    have h1 : ((r.v + ((r.n.toNat - 1 : Nat) : Int), r.b + ((r.n.toNat - 1 : Nat) : Int), r.t) : Map19) ∈ exp19 r := exp19_mem.2 ⟨r.n.toNat - 1, by omega, rfl⟩
    have eN : ((r.n.toNat - 1 : Nat) : Int) = r.n - 1 := by omega
    rw [chk19_cons, maps19_cons, List.pairwise_append, List.length_append]
    constructor
    · rintro ⟨a1, a2, a3⟩
      obtain ⟨b1, b2, b3, b4, b5, b6, b7, b8⟩ := runR19_yes.1 a1
      obtain ⟨c1, c2, c3, c4⟩ := (chk19_iff hl b8).1 a3
      refine ⟨fun x hx => ?_, ⟨exp19_rises r, c2, fun x hx y hy => ?_⟩, fun a e x hx => ?_, by push_cast; omega⟩
      · rcases List.mem_append.1 hx with hx | hx
        · obtain ⟨k, hk, rfl⟩ := exp19_mem.1 hx
          unfold InR19
          dsimp only
          omega
        · exact c1 x hx
      · obtain ⟨k, hk, rfl⟩ := exp19_mem.1 hx
        have := c3 r rfl y hy
        dsimp only
        omega
      · have := a2 a e
        rcases List.mem_append.1 hx with hx | hx
        · obtain ⟨k, hk, rfl⟩ := exp19_mem.1 hx
          dsimp only
          omega
        · have := c3 r rfl x hx
          omega
    · rintro ⟨a1, ⟨_, a2, a3⟩, a4, a5⟩
      push_cast at a5
      have d0 := a1 _ (List.mem_append_left _ h0)
      have d1 := a1 _ (List.mem_append_left _ h1)
      unfold InR19 at d0 d1
      dsimp only at d0 d1
      rw [eN] at d1
      have hb8 : all + r.n ≤ 16384 := by omega
      refine ⟨runR19_yes.2 ⟨hr, by omega, by omega, by omega, by omega, by omega, by omega, hb8⟩, fun a e => ?_, (chk19_iff hl hb8).2 ⟨fun x hx => a1 x (List.mem_append_right _ hx), a2, fun a e x hx => ?_, by omega⟩⟩
      · have := a4 a e _ (List.mem_append_left _ h0)
        dsimp only at this
        omega
      · obtain rfl := Option.some.inj e
        have := a3 _ h1 x hx
        dsimp only at this
        rw [eN] at this
        omega
theorem chk19_good {l : List Run19} (hp : Pos19 l) : chkE19 0 none l = 0 ↔ Good19 (maps19 l) := by
  rw [chk19_iff hp (by decide)]
  unfold Good19
  constructor
  · rintro ⟨a, b, _, c⟩; exact ⟨a, b, by omega⟩
  · rintro ⟨a, b, c⟩; exact ⟨a, b, fun a e => absurd e (by simp), by omega⟩
/-- joined runs may be if these may -/
theorem merge19_chk {l : List Run19} (h : chkE19 0 none l = 0) : chkE19 0 none (merge19 l) = 0 := by
  have hp := chk19_pos h
  rw [chk19_good (merge19_pos hp), merge19_maps hp]
  exact (chk19_good hp).1 h

/-! ### Check's loop -/
/-- how many mappings runs have -/
def all19 (l : List Run19) : Int := (l.map Run19.n).sum
theorem all19_take {l : List Run19} {k : Nat} (h : k < l.length) : all19 (l.take (k + 1)) = all19 (l.take k) + l[k].n := by
  rw [List.take_succ_eq_append_getElem h]
  unfold all19
  rw [List.map_append, List.sum_append]
  simp only [List.map_cons, List.map_nil, List.sum_cons, List.sum_nil, Int.add_zero]
def zero19 : Run19 := ⟨0, 0, 0, 0⟩
/-- what is wrong with run k -/
def runAt19 (all : Int) (p : Option Run19) (l : List Run19) (k : Nat) : Int :=
  if runR19 (all + all19 (l.take k)) (l.getD k zero19) = false then 2 else if ∃ a, (if k = 0 then p else some (l.getD (k - 1) zero19)) = some a ∧ (l.getD k zero19).v < a.v + a.n then 17 else 0
theorem runAt19_succ (all : Int) (p : Option Run19) (r : Run19) (l : List Run19) (k : Nat) : runAt19 all p (r :: l) (k + 1) = runAt19 (all + r.n) (some r) l k := by
  unfold runAt19
  have e : all + all19 ((r :: l).take (k + 1)) = all + r.n + all19 (l.take k) := by
    rw [List.take_succ_cons]
    simp only [all19, List.map_cons, List.sum_cons]
    omega
  rw [e]
  cases k with
  | zero => simp
  | succ k => simp
theorem runAt19_zero (all : Int) (p : Option Run19) (r : Run19) (l : List Run19) : runAt19 all p (r :: l) 0 = if runR19 all r = false then 2 else if (∃ a, p = some a ∧ r.v < a.v + a.n) then 17 else 0 := by
  simp [runAt19, all19]
theorem chk19_bad : ∀ {l : List Run19} {all : Int} {p : Option Run19} {k : Nat}, k < l.length → (∀ j, j < k → runAt19 all p l j = 0) → runAt19 all p l k ≠ 0 → chkE19 all p l = runAt19 all p l k
  | [], _, _, _, h, _, _ => by simp at h
  | r :: l, all, p, 0, _, _, hb => by
    rw [runAt19_zero] at hb ⊢
    rw [chkE19]
    by_cases h1 : runR19 all r = false
    · rw [if_pos h1, if_pos h1]
    · rw [if_neg h1] at hb ⊢
      rw [if_neg h1]
      by_cases h2 : ∃ a, p = some a ∧ r.v < a.v + a.n
      · rw [if_pos h2, if_pos h2]
      · rw [if_neg h2] at hb; exact absurd rfl hb
  | r :: l, all, p, k + 1, h, hg, hb => by
    have h0 := hg 0 (by omega)
    rw [runAt19_zero] at h0
    rw [runAt19_succ] at hb ⊢
    rw [chkE19]
    split at h0
    · cases h0
    · rename_i h1
      split at h0
      · cases h0
      · rename_i h2
        rw [if_neg h1, if_neg h2]
        exact chk19_bad (by simpa using h) (fun j hj => by rw [← runAt19_succ]; exact hg (j + 1) (by omega)) hb
theorem chk19_ok : ∀ {l : List Run19} {all : Int} {p : Option Run19}, (∀ j, j < l.length → runAt19 all p l j = 0) → chkE19 all p l = 0
  | [], _, _, _ => rfl
  | r :: l, all, p, hg => by
    have h0 := hg 0 (by simp)
    rw [runAt19_zero] at h0
    rw [chkE19]
    split at h0
    · cases h0
    · rename_i h1
      split at h0
      · cases h0
      · rename_i h2
        rw [if_neg h1, if_neg h2]
        exact chk19_ok fun j hj => by rw [← runAt19_succ]; exact hg (j + 1) (by simpa using hj)

/-! ### the reference's runs -/
def zeroM19 : Map19 := (0, 0, 0)
/-- a whole piece of mappings that go on is one run more, if the last run does not go on -/
theorem of19_piece {l : List Map19} {i k : Nat} {v b t : Int} (h : i + (k + 1) ≤ l.length) (hj : ∀ j, j < k + 1 → l.getD (i + j) zeroM19 = (v + (j : Int), b + (j : Int), t))
    (hc : ∀ a, (of19 (l.take i)).getLast? = some a → ¬ cont19 a ⟨v, b, (k : Int) + 1, t⟩) : of19 (l.take (i + (k + 1))) = of19 (l.take i) ++ [⟨v, b, (k : Int) + 1, t⟩] := by
  have e : l.take (i + (k + 1)) = l.take i ++ (List.range (k + 1)).map fun j : Nat => ((v + (j : Int), b + (j : Int), t) : Map19) := by
    apply List.ext_getElem
    · simp; omega
    · intro m h1 h2
      have hm : m < i + (k + 1) := by simp at h1; omega
      by_cases hmi : m < i
      · rw [List.getElem_append_left (by simp; omega)]
        simp
      · rw [List.getElem_append_right (by simp; omega)]
        have := hj (m - i) (by omega)
        rw [List.getD_eq_getElem?_getD, List.getElem?_eq_getElem (by omega)] at this
        simp only [Option.getD_some, show i + (m - i) = m by omega] at this
        simp only [List.getElem_take, List.getElem_map, List.getElem_range, List.length_take, show min i l.length = i by omega]
        exact this
  rw [e]
  unfold of19 at hc ⊢
  rw [List.foldl_append, fold19_exp ⟨v, b, (k : Int) + 1, t⟩ k]
  rcases last19 ((l.take i).foldl addM19 []) with hn | ⟨o, a, hn⟩
  · rw [hn]; rfl
  · rw [hn] at hc ⊢
    exact addR19_no (hc a (by simp))
end Go.Proofs.Ytccippplpcjaiaa
