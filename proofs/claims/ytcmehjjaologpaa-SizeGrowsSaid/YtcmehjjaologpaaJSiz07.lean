/-
  Joined: ImgA, MemL, RefA, RefB, RefR, RefS.
-/
import Derived.Test.YtcmehjjaologpaaChecked
import Derived.Deep.DeepMust
import Derived.Outline
import Derived.Lib.Builder
import Derived.Test.YtcmehjjaologpaaJSiz02
import Derived.Test.YtcmehjjaologpaaJSiz01
import Derived.Test.YtcmehjjaologpaaJSiz05
/-
  Layer 3's image in memory; New.
-/
namespace Go.Proofs.Ytcmehjjaologpaa
open Go.RowKit
set_option linter.unusedVariables false
set_option linter.unusedSimpArgs false

/-- as w, but for block g -/
structure Kept (g : Nat) (w w' : World) : Prop where
  os : w'.os = w.os
  tape : w'.tape = w.tape
  output : w'.output = w.output
  size : w'.heap.size = w.heap.size
  block : ∀ k, k ≠ g → w'.heap[k]? = w.heap[k]?

theorem Kept.below {g B : Nat} {w w' : World} (h : Kept g w w') (hB : B ≤ g) : Below B w w' := ⟨h.os, h.tape, h.output, by rw [h.size]; exact Nat.le_refl _, fun k hk => h.block k (by omega)⟩
theorem Kept.refl (g : Nat) (w : World) : Kept g w w := ⟨rfl, rfl, rfl, rfl, fun _ _ => rfl⟩
theorem Kept.trans {g : Nat} {a b c : World} (h : Kept g a b) (k : Kept g b c) : Kept g a c := ⟨k.os.trans h.os, k.tape.trans h.tape, k.output.trans h.output, k.size.trans h.size, fun i hi => (k.block i hi).trans (h.block i hi)⟩

/-- an address, if any, lies from block B on -/
def Fresh (B : Nat) (A : Option Addr) : Prop := ∀ ad, A = some ad → B ≤ ad.block
theorem Fresh.mono {B B' : Nat} {A : Option Addr} (h : Fresh B A) (hb : B' ≤ B) : Fresh B' A := fun ad e => Nat.le_trans hb (h ad e)
theorem Fresh.of_own {w : World} {base : Nat} {e : TypeId} {size n m c : Nat} {A : Option Addr} {xs : List Value} (h : w.ownsRow base e size (.slice A m c) n xs) : Fresh base A := by
  intro ad e
  subst e
  rcases h.2 with ⟨hv, _⟩ | ⟨g, cap, cur, hv, hg, _⟩
  · cases hv
  · injection hv with h1
    injection h1 with h1
    rw [h1]; exact hg
end Go.Proofs.Ytcmehjjaologpaa

/-
  Bytes in a block of their own: one byte read, one byte stored; the same for integers.
-/
namespace Go.Proofs.Ytcmehjjaologpaa
open Go.RowKit
set_option linter.unusedVariables false
set_option linter.unusedSimpArgs false

theorem Own8.cell {w : World} {B g : Nat} {l : List UInt8} (h : Own8 w B g l) {j : Nat} (hj : j < l.length) : w.cell? ⟨g, j, none⟩ = some (.int .u8 (l[j].toNat : Int)) := by
  rw [cell_of_row w g j _ 5 (0, 0) h.blk]
  have := u8s_at l j hj
  simpa using this
theorem Own8.free {w : World} {B g : Nat} {l : List UInt8} (h : Own8 w B g l) (j : Nat) : w.frozen? ⟨g, j, none⟩ = false := frozen_of_row w g j _ 5 h.blk
theorem Own8.set {w : World} {B g : Nat} {l : List UInt8} (h : Own8 w B g l) (j v : Nat) (hv : v < 256) : Own8 (w.setCell ⟨g, j, none⟩ (.int .u8 (v : Int))) B g (l.set j (UInt8.ofNat v)) := by
  refine ⟨h.low, ?_⟩
  rw [heap_setCell_same w g j _ 5 _ h.blk]
  have e : u8s (l.set j (UInt8.ofNat v)) = (u8s l).set j (.int .u8 (v : Int)) := by
    simp only [u8s, List.map_set]
    rw [UInt8.toNat_ofNat', Nat.mod_eq_of_lt hv]
  rw [e]
  simp

/-- integers in a block of their own, from block B on, that may be written -/
structure OwnI (w : World) (B g : Nat) (l : List Int) : Prop where
  low : B ≤ g
  blk : w.heap[g]? = some (.cells (i64s l).toArray 3 (0, 0))
theorem OwnI.lt {w : World} {B g : Nat} {l : List Int} (h : OwnI w B g l) : g < w.heap.size := block_lt h.blk
theorem OwnI.below {w w' : World} {B C g : Nat} {l : List Int} (h : OwnI w B g l) (hb : Below C w w') (hg : g < C) : OwnI w' B g l := ⟨h.low, (hb.block g hg).trans h.blk⟩
theorem OwnI.later {w w' : World} {B g : Nat} {l : List Int} (h : OwnI w B g l) (hb : Below w.heap.size w w') : OwnI w' B g l := h.below hb h.lt
theorem OwnI.ints {w : World} {B g n : Nat} {l : List Int} (h : OwnI w B g l) (hn : l.length = n) (hl : n ≤ 9223372036854775807) : Ints w (some ⟨g, 0, none⟩) n n l := ⟨hn, Nat.le_refl _, hl, Row.of_block h.blk⟩
theorem OwnI.cell {w : World} {B g : Nat} {l : List Int} (h : OwnI w B g l) {j : Nat} (hj : j < l.length) : w.cell? ⟨g, j, none⟩ = some (.int .i64 l[j]) := by
  rw [cell_of_row w g j _ 3 (0, 0) h.blk]
  have := i64s_at l j hj
  simpa using this
theorem OwnI.free {w : World} {B g : Nat} {l : List Int} (h : OwnI w B g l) (j : Nat) : w.frozen? ⟨g, j, none⟩ = false := frozen_of_row w g j _ 3 h.blk
theorem OwnI.set {w : World} {B g : Nat} {l : List Int} (h : OwnI w B g l) (j : Nat) (v : Int) : OwnI (w.setCell ⟨g, j, none⟩ (.int .i64 v)) B g (l.set j v) := by
  refine ⟨h.low, ?_⟩
  rw [heap_setCell_same w g j _ 3 _ h.blk]
  have e : i64s (l.set j v) = (i64s l).set j (.int .i64 v) := by simp only [i64s, List.map_set]
  rw [e]
  simp
theorem zeros_i64 (n : Nat) : (madeCells #[Value.int .i64 0] n).toList = i64s (List.replicate n 0) := by
  apply List.ext_getElem
  · simp [madeCells, i64s]
  · intro i h1 h2
    have e : i % 1 = 0 := Nat.mod_one i
    simp [madeCells, i64s, e]
/-- integers just made -/
theorem own_zerosI {w : World} {base g n : Nat} (h : w.ownsRow base 3 1 (.slice (some ⟨g, 0, none⟩) n n) n (madeCells (Value.int .i64 0).cells (n * 1)).toList) (hB : base ≤ g) : OwnI w base g (List.replicate n 0) := by
  have h1 := ownsRow_whole h
  have e : (madeCells (Value.int .i64 0).cells (n * 1)).toList = i64s (List.replicate n 0) := by rw [Nat.mul_one]; exact zeros_i64 n
  rw [e] at h1
  exact ⟨hB, h1⟩

end Go.Proofs.Ytcmehjjaologpaa

/-
  Layer 12's counter in memory; New, own, Len, has, Count, Add.
-/
namespace Go.Proofs.Ytcmehjjaologpaa
open Go.RowKit
set_option linter.unusedVariables false
set_option linter.unusedSimpArgs false

/-- a counter at block p, its counts in block g -/
structure Cnt (w : World) (B p g : Nat) (L : List Int) : Prop where
  bp : B ≤ p
  ne : p ≠ g
  hp : w.heap[p]? = some (.cells #[.pointer (some ⟨p, 0, none⟩), .slice (some ⟨g, 0, none⟩) L.length L.length] 63 (0, 0))
  hg : OwnI w B g L
  most : L.length ≤ 65536

theorem Cnt.plt {w : World} {B p g : Nat} {L : List Int} (h : Cnt w B p g L) : p < w.heap.size := block_lt h.hp
theorem Cnt.glt {w : World} {B p g : Nat} {L : List Int} (h : Cnt w B p g L) : g < w.heap.size := h.hg.lt
theorem Cnt.below {w w' : World} {B C p g : Nat} {L : List Int} (h : Cnt w B p g L) (hb : Below C w w') (h1 : p < C) (h2 : g < C) : Cnt w' B p g L :=
  ⟨h.bp, h.ne, (hb.block p h1).trans h.hp, h.hg.below hb h2, h.most⟩
theorem Cnt.later {w w' : World} {B p g : Nat} {L : List Int} (h : Cnt w B p g L) (hb : Below w.heap.size w w') : Cnt w' B p g L := h.below hb h.plt h.glt
theorem Cnt.cell0 {w : World} {B p g : Nat} {L : List Int} (h : Cnt w B p g L) : w.cell? ⟨p, 0, none⟩ = some (.pointer (some ⟨p, 0, none⟩)) := by
  rw [cell_of_row w p 0 _ _ _ h.hp]; rfl
theorem Cnt.cell1 {w : World} {B p g : Nat} {L : List Int} (h : Cnt w B p g L) : w.cell? ⟨p, 1, none⟩ = some (.slice (some ⟨g, 0, none⟩) L.length L.length) := by
  rw [cell_of_row w p 1 _ _ _ h.hp]; rfl
theorem Cnt.ints {w : World} {B p g : Nat} {L : List Int} (h : Cnt w B p g L) : Ints w (some ⟨g, 0, none⟩) L.length L.length L := h.hg.ints rfl (by have := h.most; omega)

/-- what own tells of a pointer: nil, a Refs that New did not return, a counter -/
def Own12 (w : World) (v : Value) (A : Option Addr) (n : Nat) (L : List Int) : Prop :=
  (v = .pointer none ∧ A = none ∧ n = 0 ∧ L = []) ∨ (∃ p, v = .pointer (some ⟨p, 0, none⟩) ∧ w.cell? ⟨p, 0, none⟩ = some (.pointer none) ∧ A = none ∧ n = 0 ∧ L = []) ∨
  (∃ B p g, v = .pointer (some ⟨p, 0, none⟩) ∧ A = some ⟨g, 0, none⟩ ∧ n = L.length ∧ Cnt w B p g L)
theorem Own12.below {w w' : World} {v : Value} {A : Option Addr} {n : Nat} {L : List Int} (h : Own12 w v A n L) (hb : Below w.heap.size w w') : Own12 w' v A n L := by
  rcases h with h | ⟨p, h1, h2, h3⟩ | ⟨B, p, g, h1, h2, h3, h4⟩
  · exact .inl h
  · exact .inr (.inl ⟨p, h1, (hb.cell (p := ⟨p, 0, none⟩) (cell_lt h2)).trans h2, h3⟩)
  · exact .inr (.inr ⟨B, p, g, h1, h2, h3, h4.later hb⟩)
theorem Own12.ints {w : World} {v : Value} {A : Option Addr} {n : Nat} {L : List Int} (h : Own12 w v A n L) : Ints w A n n L := by
  rcases h with ⟨_, rfl, rfl, rfl⟩ | ⟨p, _, _, rfl, rfl, rfl⟩ | ⟨B, p, g, _, rfl, rfl, h4⟩
  · exact Ints.nil w
  · exact Ints.nil w
  · exact h4.ints
theorem Own12.most {w : World} {v : Value} {A : Option Addr} {n : Nat} {L : List Int} (h : Own12 w v A n L) : n ≤ 65536 := by
  rcases h with ⟨_, rfl, rfl, rfl⟩ | ⟨p, _, _, rfl, rfl, rfl⟩ | ⟨B, p, g, _, rfl, rfl, h4⟩
  · omega
  · omega
  · exact h4.most
theorem Own12.of_cnt {w : World} {B p g : Nat} {L : List Int} (h : Cnt w B p g L) : Own12 w (.pointer (some ⟨p, 0, none⟩)) (some ⟨g, 0, none⟩) L.length L := .inr (.inr ⟨B, p, g, rfl, rfl, rfl, h⟩)
theorem Own12.zero {w : World} {p : Nat} (h : w.cell? ⟨p, 0, none⟩ = some (.pointer none)) : Own12 w (.pointer (some ⟨p, 0, none⟩)) none 0 [] := .inr (.inl ⟨p, rfl, h, rfl, rfl, rfl⟩)

theorem neq_same12 (ad : Addr) (w : World) : (binOp .neq 56 (.pointer (some ad)) (.pointer (some ad))).run Try.prog w = .ok (.bool false) w := by
  obtain ⟨j, hj⟩ : ∃ j, Try.prog.info? 63 = some j := Option.isSome_iff_exists.1 (by kernel_rfl)
  exact Lib.run_neq_ptr_same w ad Try.underlying56 hj
theorem neq_nil_ptr12 (ad : Addr) (w : World) : (binOp .neq 56 (.pointer none) (.pointer (some ad))).run Try.prog w = .ok (.bool true) w := by
  have h : ∀ d : Nat, (Op.equalIn (d + 1) 56 (.pointer none) (.pointer (some ad))).run Try.prog w = .ok false w := fun d => by
    simp [Op.equalIn, run_underlying Try.underlying56]
  simp only [binOp]
  simp [Op.equal, Op.maxDepth, h 9999]

set_option maxRecDepth 100000 in
theorem own12_any {v : Value} {A : Option Addr} {n : Nat} {L : List Int} (w : World) (h : Own12 w v A n L) : Calls Try.prog 48 #[v] w fun e w' => e = .returned (.slice A n n) ∧ w = w' := by
  rcases h with ⟨rfl, rfl, rfl, rfl⟩ | ⟨p, rfl, h0, rfl, rfl, rfl⟩ | ⟨B, p, g, rfl, rfl, rfl, h⟩
  · go_enter Try.func48, Try.ntmps48
    go_wp2
    go_ret
    exact ⟨rfl, rfl⟩
  · have kn := neq_nil_ptr12 ⟨p, 0, none⟩ w
    go_enter Try.func48, Try.ntmps48
    go_wp2
    go_ret
    exact ⟨rfl, rfl⟩
  · have h0 := h.cell0
    have h1 := h.cell1
    have kn := neq_same12 ⟨p, 0, none⟩ w
    clear h
    go_enter Try.func48, Try.ntmps48
    go_wp2
    go_ret
    exact ⟨rfl, rfl⟩

set_option maxRecDepth 100000 in
theorem Len12_any {v : Value} {A : Option Addr} {n : Nat} {L : List Int} (w : World) (h : Own12 w v A n L) : Calls Try.prog 50 #[v] w fun e w' => e = .returned (.int .i64 (n : Int)) ∧ w = w' := by
  have O := Lib.hid (own12_any w h)
  clear h
  go_enter Try.func50, Try.ntmps50
  go_wp2_with (go_at_call 48; (with_reducible refine (O.out).mono ?_); rintro e w' ⟨rfl, rfl⟩)
  go_ret
  exact ⟨rfl, rfl⟩

/-- is there an item k? -/
def hasB12 (n : Nat) (k : Int) : Bool := decide (0 ≤ k) && decide (k < (n : Int))
theorem hasB12_yes {n : Nat} {k : Int} (h : hasB12 n k = true) : 0 ≤ k ∧ k < (n : Int) := by simpa [hasB12] using h
theorem hasB12_no {n : Nat} {k : Int} (h : hasB12 n k = false) : k < 0 ∨ (n : Int) ≤ k := by
  have : ¬ (0 ≤ k ∧ k < (n : Int)) := fun hh => by rw [show hasB12 n k = true by simpa [hasB12] using hh] at h; cases h
  omega

set_option maxRecDepth 100000 in
theorem has12_any {v : Value} {A : Option Addr} {n : Nat} {L : List Int} (k : Int) (w : World) (h : Own12 w v A n L) : Calls Try.prog 47 #[v, .int .i64 k] w fun e w' => e = .returned (.bool (hasB12 n k)) ∧ w = w' := by
  have O := Lib.hid (Len12_any w h)
  have hn := h.most
  clear h
  obtain ⟨r, hr⟩ : ∃ r, hasB12 n k = r := ⟨_, rfl⟩
  rw [hr]
  unfold hasB12 at hr
  by_cases h0 : 0 ≤ k
  · have hd : decide (0 ≤ k) = true := by simpa using h0
    rw [hd, Bool.true_and] at hr
    go_enter Try.func47, Try.ntmps47
    go_wp2_with (go_at_call 50; (with_reducible refine (O.out).mono ?_); rintro e w' ⟨rfl, rfl⟩)
    go_ret
    exact ⟨rfl, rfl⟩
  · have hd : decide (0 ≤ k) = false := by simpa using h0
    rw [hd, Bool.false_and] at hr
    subst hr
    go_enter Try.func47, Try.ntmps47
    go_wp2_with (go_at_call 50; (with_reducible refine (O.out).mono ?_); rintro e w' ⟨rfl, rfl⟩)
    go_ret
    exact ⟨rfl, rfl⟩

set_option maxRecDepth 100000 in
theorem Add12_bad {A : Option Addr} {n p : Nat} {L : List Int} (k : Int) (w : World) (h : Own12 w (.pointer (some ⟨p, 0, none⟩)) A n L) (hk : hasB12 n k = false) : Calls Try.prog 41 #[.pointer (some ⟨p, 0, none⟩), .int .i64 k] w fun e w' => e = .returned (.tuple #[.int .i64 0, .int .i64 3]) ∧ w = w' := by
  have O := Lib.hid (has12_any k w h)
  rw [hk] at O
  clear h hk
  go_enter Try.func41, Try.ntmps41
  go_wp2_with (go_at_call 47; (with_reducible refine (O.out).mono ?_); rintro e w' ⟨rfl, rfl⟩)
  go_ret2
  exact ⟨rfl, rfl⟩

set_option maxRecDepth 100000 in
set_option maxHeartbeats 800000 in
theorem Add12_good {B p g : Nat} {L : List Int} (k : Nat) (w : World) (h : Cnt w B p g L) (hk : k < L.length) (hx : -9223372036854775808 ≤ L[k] ∧ L[k] ≤ 9223372036854775806) :
    Calls Try.prog 41 #[.pointer (some ⟨p, 0, none⟩), .int .i64 (k : Int)] w fun e w' => e = .returned (.tuple #[.int .i64 (L[k] + 1), .int .i64 0]) ∧ Cnt w' B p g (L.set k (L[k] + 1)) ∧ Kept g w w' := by
  have O := Lib.hid (has12_any k w (Own12.of_cnt h))
  rw [show hasB12 L.length (k : Int) = true by simp [hasB12]; omega] at O
  have c1 := h.cell1
  have ck := h.hg.cell hk
  have fk := h.hg.free k
  have hm := h.most
  have hne := h.ne
  have FIN : Hid (Cnt (w.setCell ⟨g, k, none⟩ (.int .i64 (L[k] + 1))) B p g (L.set k (L[k] + 1)) ∧ Kept g w (w.setCell ⟨g, k, none⟩ (.int .i64 (L[k] + 1)))) := by
    refine ⟨⟨h.bp, h.ne, ?_, h.hg.set k _, by rw [List.length_set]; exact h.most⟩, ⟨rfl, rfl, rfl, ?_, fun q hq => Below.heap_setCell _ _ _ q hq⟩⟩
    · rw [heap_setCell_other w ⟨g, k, none⟩ p _ hne, List.length_set]; exact h.hp
    · simp [World.setCell]
  have c1' : (w.setCell ⟨g, k, none⟩ (.int .i64 (L[k] + 1))).cell? ⟨p, 1, none⟩ = some (.slice (some ⟨g, 0, none⟩) L.length L.length) := by
    have := FIN.out.1.cell1
    rwa [List.length_set] at this
  have ck' : (w.setCell ⟨g, k, none⟩ (.int .i64 (L[k] + 1))).cell? ⟨g, k, none⟩ = some (.int .i64 (L[k] + 1)) := by
    have := FIN.out.1.hg.cell (j := k) (by rw [List.length_set]; exact hk)
    simpa using this
  have hwr : wrap64 (L[k] + 1) = L[k] + 1 := by unfold wrap64; omega
  generalize hL2 : L.set k (L[k] + 1) = L2 at *
  clear hL2 h
  generalize hxx : L[k] = x at *
  clear hxx
  generalize L.length = n at *
  go_enter Try.func41, Try.ntmps41
  go_wp2_with (go_at_call 47; (with_reducible refine (O.out).mono ?_); rintro e w' ⟨rfl, rfl⟩)
  go_ret2
  exact ⟨rfl, FIN.out⟩

theorem build_refs (A : Option Addr) (n c : Nat) (w : World) : (Instr.build 63 #[(1, .slice A n c)]).run Try.prog w = .ok (.agg #[.pointer none, .slice A n c]) w := run_build w _ _ _ (by kernel_rfl)

set_option maxRecDepth 100000 in
set_option maxHeartbeats 800000 in
theorem New12_good (n : Nat) (w : World) (hn : n ≤ 65536) :
    Calls Try.prog 40 #[.int .i64 (n : Int)] w fun e w' => ∃ p g, e = .returned (.tuple #[.pointer (some ⟨p, 0, none⟩), .int .i64 0]) ∧ Cnt w' w.heap.size p g (List.replicate n 0) ∧ Below w.heap.size w w' := by
  obtain ⟨i0, hi0, hz0, hz1, hz2⟩ := info_parts info_i64
  have kb := build_refs
  go_enter Try.func40, Try.ntmps40
  go_wp2_with (at_make; go_must (refine wpList_make_full w rfl (.tmp 11) (.tmp 11) _ rfl w.heap.size 3 i0 _ 1 Try.underlying42 hi0 hz0 hz1 .i64 .i64 _ _ n rfl rfl rfl rfl (by rw [hz2]; omega) (by simp only [maxLen]; omega) (Nat.le_refl _) ?_; intro w1 hown1 hg1; have hb1 := below_of_grown hg1 (by simp); have HO1 := Lib.hid hown1; clear hown1))
  go_ret2
  have HI := own_zerosI HO1.out (Nat.le_refl _)
  have hl := HI.lt
  refine ⟨_, _, rfl, ⟨hb1.size, by omega, ?_, HI.below (Below.alloc (Below.refl w1.heap.size w1) (Nat.le_refl _) _) hl, by rw [List.length_replicate]; exact hn⟩, hb1.alloc hb1.size _⟩
  rw [List.length_replicate]
  exact heap_alloc_new w1 _

end Go.Proofs.Ytcmehjjaologpaa

/-
  Layer 12: List, Total.
-/
namespace Go.Proofs.Ytcmehjjaologpaa
open Go.RowKit
set_option linter.unusedVariables false
set_option linter.unusedSimpArgs false

set_option maxRecDepth 100000 in
set_option maxHeartbeats 800000 in
theorem List12_any {v : Value} {A : Option Addr} {n : Nat} {L : List Int} (w : World) (h : Own12 w v A n L) :
    Calls Try.prog 42 #[v] w fun e w' => ∃ A' c', e = .returned (.slice A' n c') ∧ Ints w' A' n c' L ∧ Below w.heap.size w w' ∧ Newer w.heap.size A' := by
  have O := Lib.hid (own12_any w h)
  have HI := Lib.hid h.ints
  have hm := h.most
  clear h
  go_enter Try.func42, Try.ntmps42
  go_wp2_with (first
    | (go_at_call 48; (with_reducible refine (O.out).mono ?_); rintro e w' ⟨rfl, rfl⟩)
    | (at_builtin; go_must (refine wpList_append_row _ rfl _ _ 42 rfl w.heap.size 3 (.int .i64 0) 8 Try.underlying42 info_i64 rfl (.slice none 0 0) 0 [] rfl (World.ownsRow_nil _ _ _ _) (Nat.le_refl _) A (i64s L) n _ rfl (by rw [i64s_length]; exact HI.out.len) HI.out.row (i64s_one _) (by omega) (by omega) ?_; intro v2 w2 hown2 hs2 hb2; obtain ⟨A2, c2, hv2, HB2⟩ := Ints.of_own (n := n) (l := L) (by simpa using hown2.out); rw [hv2]; have hf2 : Hid (Newer w.heap.size A2) := Newer.of_own (by rw [← hv2]; exact hown2.out); clear hown2)))
  go_ret
  exact ⟨A2, c2, rfl, HB2, hb2, hf2.out⟩

end Go.Proofs.Ytcmehjjaologpaa

/-
  Layer 12: the reference's counter; its New, Count, Add.
-/
namespace Go.Proofs.Ytcmehjjaologpaa
open Go.RowKit
set_option linter.unusedVariables false
set_option linter.unusedSimpArgs false

/-- how often k stands in l -/
def occ12 (l : List Int) (k : Int) : Nat := l.count k
end Go.Proofs.Ytcmehjjaologpaa

/-
  Layer 12: the reference's List, From, Differ.
-/
namespace Go.Proofs.Ytcmehjjaologpaa
open Go.RowKit
set_option linter.unusedVariables false
set_option linter.unusedSimpArgs false

end Go.Proofs.Ytcmehjjaologpaa
