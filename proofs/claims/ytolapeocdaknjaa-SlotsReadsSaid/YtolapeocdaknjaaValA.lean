/-
  Layer 8's numbers in memory; build.
-/
import Derived.Test.YtolapeocdaknjaaValMath
import Derived.Test.YtolapeocdaknjaaRegS
import Derived.Test.YtolapeocdaknjaaInfo
import Derived.Test.YtolapeocdaknjaaMemB
import Derived.LoopTactic
import Derived.BigQuiet
import Derived.Deep.RegionHeld3
namespace Go.Proofs.Ytolapeocdaknjaa
open Go.RowKit
set_option linter.unusedVariables false
set_option linter.unusedSimpArgs false

/-- the numbers of a value in memory: k's pointer leads to block g k, cell o k -/
structure NumsAt (w : World) (b off n c : Nat) (l : List (NumS × Int)) (g o : Nat → Nat) : Prop where
  len : l.length = n
  pos : 0 < n
  small : n ≤ 100
  cap : n ≤ c
  most : c ≤ 9223372036854775807
  lt : b < w.heap.size
  fit : ∀ p ∈ l, fitN p.1
  row : ∀ k (h : k < l.length), w.cell? ⟨b, off + k * 4, none⟩ = some (.pointer (some ⟨g k, o k, none⟩)) ∧ w.cell? ⟨b, off + k * 4 + 1, none⟩ = some (.int .i64 (l[k].1.1 : Int)) ∧
    w.cell? ⟨b, off + k * 4 + 2, none⟩ = some (.int .i64 l[k].1.2.1) ∧ w.cell? ⟨b, off + k * 4 + 3, none⟩ = some (.int .i64 l[k].1.2.2)
theorem NumsAt.later {w w' : World} {b off n c : Nat} {l : List (NumS × Int)} {g o : Nat → Nat} (h : NumsAt w b off n c l g o) (hb : w.heap.size ≤ w'.heap.size) (he : w'.heap[b]? = w.heap[b]?) : NumsAt w' b off n c l g o :=
  ⟨h.len, h.pos, h.small, h.cap, h.most, Nat.lt_of_lt_of_le h.lt hb, h.fit, fun k hk => by
    obtain ⟨h0, h1, h2, h3⟩ := h.row k hk
    exact ⟨(World.cell?_of_block (w := w) (a := ⟨b, off + k * 4, none⟩) he).trans h0, (World.cell?_of_block (w := w) (a := ⟨b, off + k * 4 + 1, none⟩) he).trans h1, (World.cell?_of_block (w := w) (a := ⟨b, off + k * 4 + 2, none⟩) he).trans h2, (World.cell?_of_block (w := w) (a := ⟨b, off + k * 4 + 3, none⟩) he).trans h3⟩⟩
/-- the values that the pointers lead to -/
def ValsAt (w : World) (l : List (NumS × Int)) (g o : Nat → Nat) : Prop := ∀ k (h : k < l.length), w.cell? ⟨g k, o k, none⟩ = some (.int .i64 l[k].2)

theorem holds_any8 (w : World) (p : Value) (hp : p.oneCell' = true) (wd lo hi n : Int) (r : Bool) (hr : inB n lo hi = r) :
    Calls Try.prog 36 #[.agg #[p, .int .i64 wd, .int .i64 lo, .int .i64 hi], .int .i64 n] w fun e w' => e = .returned (.bool r) ∧ Below w.heap.size w w' := by
  by_cases h : lo ≤ n
  · go_enter Try.func36, Try.ntmps36
    go_wp2
    go_ret
    exact ⟨ret_bool (by rw [← hr, inB, decide_eq_true h, Bool.true_and]), (Below.refl _ _).alloc (Nat.le_refl _) _⟩
  · go_enter Try.func36, Try.ntmps36
    go_wp2
    go_ret
    exact ⟨ret_bool (by rw [← hr, inB, decide_eq_false (by omega), Bool.false_and]), (Below.refl _ _).alloc (Nat.le_refl _) _⟩

theorem two_new8 (w : World) (o1 o2 : Obj) : ((w.alloc o1).alloc o2).heap[w.heap.size]? = some o1 ∧ ((w.alloc o1).alloc o2).heap[w.heap.size + 1]? = some o2 ∧ Below w.heap.size w ((w.alloc o1).alloc o2) := by
  have h1 := heap_alloc_new w o1
  have h2 := heap_alloc_new (w.alloc o1) o2
  have b1 : Below w.heap.size w (w.alloc o1) := (Below.refl _ _).alloc (Nat.le_refl _) _
  have b2 : Below (w.alloc o1).heap.size (w.alloc o1) ((w.alloc o1).alloc o2) := (Below.refl _ _).alloc (Nat.le_refl _) _
  have hs : (w.alloc o1).heap.size = w.heap.size + 1 := by simp
  rw [hs] at h2
  exact ⟨(b2.block _ (by omega)).trans h1, h2, b1.trans (b2.mono (by omega))⟩

/-- a number in a variable -/
def NumVar (W : World) (q : Nat) (p : Value) (wd lo hi : Int) : Prop := W.heap[q]? = some (.cells #[p, .int .i64 wd, .int .i64 lo, .int .i64 hi] 73 (0, 0))
theorem NumVar.later {w w' : World} {q B : Nat} {p : Value} {wd lo hi : Int} (h : NumVar w q p wd lo hi) (hb : Below B w w') (hq : q < B) : NumVar w' q p wd lo hi := (hb.block q hq).trans h
theorem NumVar.facts {w : World} {q : Nat} {p : Value} {wd lo hi : Int} (h : NumVar w q p wd lo hi) : w.cell? ⟨q, 0, none⟩ = some p ∧ w.cell? ⟨q, 1, none⟩ = some (.int .i64 wd) ∧ w.cell? ⟨q, 2, none⟩ = some (.int .i64 lo) ∧ w.cell? ⟨q, 3, none⟩ = some (.int .i64 hi) := by
  refine ⟨?_, ?_, ?_, ?_⟩
  · rw [cell_of_row w q 0 _ _ _ h]; rfl
  · rw [cell_of_row w q 1 _ _ _ h]; rfl
  · rw [cell_of_row w q 2 _ _ _ h]; rfl
  · rw [cell_of_row w q 3 _ _ _ h]; rfl

theorem flds_new {W : World} {gg : Nat} {t : TypeId} {a x : Int} (h : W.heap[gg]? = some (.cells #[.int .i64 a, .int .i64 x] t (0, 0))) (ha : i64b a) (hx : i64b x) : Flds W (some ⟨gg, 0, none⟩) 1 1 [(a, x)] :=
  ⟨rfl, Nat.le_refl _, by omega, Row.of_block h, fun p hp => by
    rw [List.mem_singleton] at hp
    subst hp
    exact ⟨ha, hx⟩⟩

/-- Pack of one number of eight bytes -/
theorem pack_one (x : Nat) (hx : x < 9223372036854775808) (W : World) (gg : Nat) (t : TypeId) (h : W.heap[gg]? = some (.cells #[.int .i64 8, .int .i64 (x : Int)] t (0, 0))) :
    Calls Try.prog 35 #[.slice (some ⟨gg, 0, none⟩) 1 1] W fun e w' => ∃ b' o' c', e = .returned (.tuple #[.slice (some ⟨b', o', none⟩) 8 c', .int .i64 0]) ∧ 8 ≤ c' ∧ c' ≤ 9223372036854775807 ∧ Bytes8 w' (some ⟨b', o', none⟩) 8 c' (encN 8 x) ∧ Below W.heap.size W w' := by
  refine (Pack_any _ 1 1 _ W (flds_new h (by simp only [i64b]; omega) (by simp only [i64b]; omega)) (by omega)).mono ?_
  rintro e w' ⟨A', m, c', rfl, hB, hb⟩
  have e0 : packE [((8 : Int), (x : Int))] = 0 := by simp [packE, isW, fitsB]
  rw [packB, if_pos e0] at hB
  have e1 : encs [((8 : Int), (x : Int))] = encN 8 x := by simp [encs]
  rw [e1] at hB
  obtain rfl : 8 = m := by have := hB.len; rw [encN_length] at this; exact this
  obtain ⟨b', o', rfl, _, _⟩ := hB.row.lit (by rw [u8s_length, hB.len]; omega)
  exact ⟨b', o', c', by rw [e0], hB.cap, hB.most, hB, hb⟩
theorem pack_neg (x : Int) (hx : x < 0) (hx2 : -9223372036854775808 ≤ x) (W : World) (gg : Nat) (t : TypeId) (h : W.heap[gg]? = some (.cells #[.int .i64 8, .int .i64 x] t (0, 0))) :
    Calls Try.prog 35 #[.slice (some ⟨gg, 0, none⟩) 1 1] W fun e w' => ∃ A' m c', e = .returned (.tuple #[.slice A' m c', .int .i64 2]) ∧ Below W.heap.size W w' := by
  refine (Pack_any _ 1 1 _ W (flds_new h (by simp only [i64b]; omega) (by simp only [i64b]; omega)) (by omega)).mono ?_
  rintro e w' ⟨A', m, c', rfl, hB, hb⟩
  have e0 : packE [((8 : Int), x)] = 2 := by simp [packE, isW, fitsB]; omega
  exact ⟨A', m, c', by rw [e0], hb⟩

end Go.Proofs.Ytolapeocdaknjaa
