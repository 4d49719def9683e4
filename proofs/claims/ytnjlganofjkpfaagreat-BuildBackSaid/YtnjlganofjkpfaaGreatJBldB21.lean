/-
  Joined: AlcA, BitE, BitF.
-/
import Derived.LaidEqlPtr
import Derived.Laws.Small
import Derived.Deep.Quiet
import Derived.Deep.QuietTactic
import Derived.BigQuiet
import Derived.Deep.RegionHeld3
import Derived.Test.YtnjlganofjkpfaaGreatJBldB12
import Derived.Test.YtnjlganofjkpfaaGreatJBldB02
import Derived.Deep.AppendLies
import Derived.IntWalk
import Derived.Test.YtnjlganofjkpfaaGreatJBldB16
import Derived.Test.YtnjlganofjkpfaaGreatJBldB17
import Derived.Test.YtnjlganofjkpfaaGreatJBldB11
/-
  Layer 16's allocator in memory: made, rest, Left, Used, Image, next, take, Next, Ahead.
-/
namespace Go.Proofs.YtnjlganofjkpfaaGreat
open Go.RowKit
set_option linter.unusedVariables false
set_option linter.unusedSimpArgs false

/-! ### integers, cut -/
theorem size_int16 (V : World) : (sizeOf 3).run Tryz.prog V = .ok 1 V := by
  obtain ⟨i0, hi0, _, hz1, _⟩ := info_parts info_i64
  simp [sizeOf, typeInfo, hi0, hz1]
theorem elem_int16 : Tryz.prog.elem 33 = 3 := by kernel_rfl
/-- from element t on -/
theorem cut_from16 {w : World} {A : Option Addr} {n c : Nat} {l : List Int} (h : Ints w A n c l) {t : Nat} (ht : t ≤ n) :
    ∃ A2, (∀ V, (Instr.slice 33 (.slice A n c) (some (.int .i64 (t : Int))) none none).run Tryz.prog V = .ok (.slice A2 (n - t) (c - t)) V) ∧ Ints w A2 (n - t) (c - t) (l.drop t) ∧ ∀ ad, A2 = some ad → ∃ ad', A = some ad' ∧ ad.block = ad'.block := by
  have hlen := h.len
  have hcap := h.cap
  have hmost := h.most
  refine ⟨if c = t then A else A.map (·.add t), fun V => ?_, ⟨by simp [hlen], by omega, by omega, ?_⟩, fun ad e => ?_⟩
  · rw [run_slice_l (P := Tryz.prog) (w := V) (t := 33) (a := A) (len := n) (cap := c) (ht := by rw [elem_int16]; exact Tryz.underlying33) (kl := .i64) (l := (t : Int)) (h0 := by omega) (h1 := by omega), elem_int16, size_int16]
    simp only [Result.andThen, sliced, Int.toNat_natCast, Nat.mul_one]
  · have := h.row.cut (m := t) (c := c) (by rw [i64s_length]; omega)
    simpa [i64s] using this
  · split at e
    · exact ⟨ad, e, rfl⟩
    · cases A with
      | none => simp at e
      | some a => exact ⟨a, rfl, by simp at e; rw [← e]; exact addr_add_block a t⟩
/-! ### an allocator -/
/-- an allocator at block p: over the image at block m, of the blocks l, t of them taken -/
structure Alc (w : World) (base p m : Nat) (A : Option Addr) (n c : Nat) (l : List Int) (t : Nat) : Prop where
  bp : base ≤ p
  hp : w.heap[p]? = some (.cells #[.pointer (some ⟨p, 0, none⟩), .pointer (some ⟨m, 0, none⟩), .slice A n c, .int .i64 (t : Int)] 59 (0, 0))
  ints : Ints w A n c l
  le : t ≤ n
  low : ∀ ad, A = some ad → base ≤ ad.block ∧ ad.block < p
section
variable {w w' : World} {base p m : Nat} {A : Option Addr} {n c : Nat} {l : List Int} {t : Nat}
theorem Alc.plt (h : Alc w base p m A n c l t) : p < w.heap.size := block_lt h.hp
theorem Alc.cell0 (h : Alc w base p m A n c l t) : w.cell? ⟨p, 0, none⟩ = some (.pointer (some ⟨p, 0, none⟩)) := by rw [cell_of_row w p 0 _ _ _ h.hp]; rfl
theorem Alc.cell1 (h : Alc w base p m A n c l t) : w.cell? ⟨p, 1, none⟩ = some (.pointer (some ⟨m, 0, none⟩)) := by rw [cell_of_row w p 1 _ _ _ h.hp]; rfl
theorem Alc.cell2 (h : Alc w base p m A n c l t) : w.cell? ⟨p, 2, none⟩ = some (.slice A n c) := by rw [cell_of_row w p 2 _ _ _ h.hp]; rfl
theorem Alc.cell3 (h : Alc w base p m A n c l t) : w.cell? ⟨p, 3, none⟩ = some (.int .i64 (t : Int)) := by rw [cell_of_row w p 3 _ _ _ h.hp]; rfl
theorem Alc.free3 (h : Alc w base p m A n c l t) : w.frozen? ⟨p, 3, none⟩ = false := frozen_of_row w p 3 _ _ h.hp
theorem Alc.mov (h : Alc w base p m A n c l t) (hb : w'.heap[p]? = w.heap[p]?) (hA : ∀ ad, A = some ad → w'.heap[ad.block]? = w.heap[ad.block]?) : Alc w' base p m A n c l t :=
  ⟨h.bp, hb.trans h.hp, ⟨h.ints.len, h.ints.cap, h.ints.most, fun k v e => by
    obtain ⟨ad, ea, hc⟩ := h.ints.row k v e
    refine ⟨ad, ea, ?_⟩
    have hbk : (ad.add k).block = ad.block := addr_add_block ad k
    exact (World.cell?_of_block (w := w) (by rw [hbk]; exact hA ad ea)).trans hc⟩, h.le, h.low⟩
theorem Alc.later (h : Alc w base p m A n c l t) (hb : Below w.heap.size w w') : Alc w' base p m A n c l t := ⟨h.bp, (hb.block p h.plt).trans h.hp, h.ints.below hb, h.le, h.low⟩
/-- a write to one block below base -/
theorem Alc.grown {g : Nat} (h : Alc w base p m A n c l t) (hk : w.grownBy w' (some g)) (hg : g < base) : Alc w' base p m A n c l t := by
  have hbp := h.bp
  refine ⟨h.bp, (hk.block p h.plt (fun e => by injection e; omega)).trans h.hp, ⟨h.ints.len, h.ints.cap, h.ints.most, fun k v e => ?_⟩, h.le, h.low⟩
  obtain ⟨ad, ea, hc⟩ := h.ints.row k v e
  refine ⟨ad, ea, ?_⟩
  have hbk : (ad.add k).block = ad.block := addr_add_block ad k
  have := (h.low ad ea).1
  exact (World.cell?_of_block (w := w) (hk.block _ (cell_lt hc) (fun e => by rw [hbk] at e; injection e; omega))).trans hc
theorem Alc.take1 (h : Alc w base p m A n c l t) (ht : t < n) : Alc (w.setCell ⟨p, 3, none⟩ (.int .i64 ((t : Int) + 1))) base p m A n c l (t + 1) := by
  refine ⟨h.bp, ?_, ⟨h.ints.len, h.ints.cap, h.ints.most, fun k v e => ?_⟩, ht, h.low⟩
  · rw [heap_setCell_same w p 3 _ _ _ h.hp]
    rfl
  · obtain ⟨ad, ea, hc⟩ := h.ints.row k v e
    refine ⟨ad, ea, ?_⟩
    have hbk : (ad.add k).block = ad.block := addr_add_block ad k
    exact (World.cell?_of_block (w := w) (heap_setCell_other _ _ _ _ (by rw [hbk]; exact Nat.ne_of_lt (h.low ad ea).2))).trans hc
theorem Alc.take_grown (h : Alc w base p m A n c l t) (v : Value) : w.grownBy (w.setCell ⟨p, 3, none⟩ v) (some p) := ⟨rfl, rfl, rfl, by simp [World.setCell], fun k _ hne => Below.heap_setCell _ _ _ k (fun e => hne (by rw [e]))⟩
end

/-- nobody: nil, or an Alloc that no constructor returned -/
def No16 (w : World) (v : Value) : Prop := v = .pointer none ∨ ∃ p, v = .pointer (some ⟨p, 0, none⟩) ∧ w.cell? ⟨p, 0, none⟩ = some (.pointer none)
theorem No16.later {w w' : World} {v : Value} (h : No16 w v) (hb : Below w.heap.size w w') : No16 w' v := by
  rcases h with h | ⟨p, h1, h2⟩
  · exact .inl h
  · exact .inr ⟨p, h1, (hb.cell (p := ⟨p, 0, none⟩) (cell_lt h2)).trans h2⟩

theorem eql_same16 (ad : Addr) (w : World) : (binOp .eql 27 (.pointer (some ad)) (.pointer (some ad))).run Tryz.prog w = .ok (.bool true) w := by
  obtain ⟨j, hj⟩ : ∃ j, Tryz.prog.info? 59 = some j := Option.isSome_iff_exists.1 (by kernel_rfl)
  exact run_eql_ptr_same w ad Tryz.underlying27 hj
section
variable {w : World} {base p m : Nat} {A : Option Addr} {n c : Nat} {l : List Int} {t : Nat}
set_option maxRecDepth 100000 in
theorem made_yes16 (h : Alc w base p m A n c l t) : Calls Tryz.prog 21 #[.pointer (some ⟨p, 0, none⟩)] w fun e w' => e = .returned (.bool true) ∧ w = w' := by
  have h0 := h.cell0
  have kn := eql_same16 ⟨p, 0, none⟩ w
  clear h
  go_enter Tryz.func21, Tryz.ntmps21
  go_wp2
  go_ret
  exact ⟨rfl, rfl⟩

set_option maxRecDepth 100000 in
theorem rest16 (h : Alc w base p m A n c l t) :
    Calls Tryz.prog 29 #[.pointer (some ⟨p, 2, none⟩)] w fun e w' => ∃ A2, e = .returned (.slice A2 (n - t) (c - t)) ∧ Ints w' A2 (n - t) (c - t) (l.drop t) ∧ Below w.heap.size w w' := by
  obtain ⟨A2, hs, hi, ha⟩ := cut_from16 h.ints h.le
  have h2 := h.cell2
  have h3 := h.cell3
  have h2d := h2
  have h3d := h3
  have hle := h.le
  rw [← World.cell?_drew] at h2d h3d
  have hn := h.ints.le
  have HI := Lib.hid hi
  clear h hi ha
  generalize n - t = n2 at *
  generalize c - t = c2 at *
  go_enter Tryz.func29, Tryz.ntmps29
  go_wp2
  go_quiet (fail)
  go_wp2
  go_ret
  exact ⟨A2, rfl, HI.out.below (below_drewN (Below.refl _ _) _), below_drewN (Below.refl _ _) _⟩

set_option maxRecDepth 100000 in
theorem Left_yes16 (h : Alc w base p m A n c l t) : Calls Tryz.prog 16 #[.pointer (some ⟨p, 0, none⟩)] w fun e w' => e = .returned (.int .i64 ((n - t : Nat) : Int)) ∧ Below w.heap.size w w' := by
  have MD := Lib.hid (made_yes16 h)
  have RS := Lib.hid (rest16 h)
  clear h
  generalize n - t = n2 at *
  generalize c - t = c2 at *
  go_enter Tryz.func16, Tryz.ntmps16
  go_wp2_with (first
    | (go_at_call 21; (with_reducible refine (MD.out).mono ?_); rintro e w1 ⟨rfl, rfl⟩)
    | (go_at_call 29; (with_reducible refine (RS.out).mono ?_); rintro e w2 ⟨A2, rfl, _, hb⟩))
  go_ret
  exact ⟨rfl, hb⟩

set_option maxRecDepth 100000 in
theorem Used_yes16 (h : Alc w base p m A n c l t) : Calls Tryz.prog 9 #[.pointer (some ⟨p, 0, none⟩)] w fun e w' => e = .returned (.int .i64 (t : Int)) ∧ w = w' := by
  have MD := Lib.hid (made_yes16 h)
  have h3 := h.cell3
  clear h
  go_enter Tryz.func9, Tryz.ntmps9
  go_wp2_with (go_at_call 21; (with_reducible refine (MD.out).mono ?_); rintro e w1 ⟨rfl, rfl⟩)
  go_ret
  exact ⟨rfl, rfl⟩

set_option maxRecDepth 100000 in
theorem Image_yes16 (h : Alc w base p m A n c l t) : Calls Tryz.prog 8 #[.pointer (some ⟨p, 0, none⟩)] w fun e w' => e = .returned (.pointer (some ⟨m, 0, none⟩)) ∧ w = w' := by
  have MD := Lib.hid (made_yes16 h)
  have h1 := h.cell1
  clear h
  go_enter Tryz.func8, Tryz.ntmps8
  go_wp2_with (go_at_call 21; (with_reducible refine (MD.out).mono ?_); rintro e w1 ⟨rfl, rfl⟩)
  go_ret
  exact ⟨rfl, rfl⟩

/-- a block is left -/
theorem next_some16 (h : Alc w base p m A n c l t) (ht : t < n) : Calls Tryz.prog 53 #[.pointer (some ⟨p, 0, none⟩)] w fun e w' => e = .returned (.tuple #[.int .i64 (l.getD t 0), .nilIface]) ∧ Below w.heap.size w w' := by
  have MD := Lib.hid (made_yes16 h)
  have LF : Hid (Calls Tryz.prog 16 #[.pointer (some ⟨p, 0, none⟩)] w fun e w' => e = .returned (.int .i64 ((n - t : Nat) : Int)) ∧ Hid (Alc w' base p m A n c l t) ∧ Below w.heap.size w w') := (Left_yes16 h).mono fun e w' ⟨h1, h2⟩ => ⟨h1, h.later h2, h2⟩
  have RS : Hid (∀ W, Alc W base p m A n c l t → Calls Tryz.prog 29 #[.pointer (some ⟨p, 2, none⟩)] W fun e w' => ∃ b off, e = .returned (.slice (some ⟨b, off, none⟩) (n - t) (c - t)) ∧ w'.cell? ⟨b, off, none⟩ = some (.int .i64 (l.getD t 0)) ∧ Below W.heap.size W w') := fun W hW => (rest16 hW).mono fun e w' ⟨A2, h1, h2, h3⟩ => by
    have hl := h2.len
    obtain ⟨b, off, rfl, hb, hc⟩ := h2.row.lit (by rw [i64s_length]; omega)
    refine ⟨b, off, h1, ?_, h3⟩
    have hll := hW.ints.len
    have := hc 0 _ (i64s_at _ 0 (by omega))
    rw [List.getElem_drop] at this
    simpa [List.getD_eq_getElem?_getD, List.getElem?_eq_getElem (show t < l.length by omega)] using this
  have hn := h.ints.le
  clear h
  generalize l.getD t 0 = x at *
  obtain ⟨n2, hn2⟩ : ∃ n2, n - t = n2 := ⟨_, rfl⟩
  have hz : ((n2 : Int) == 0) = false := by simp; omega
  have hp2 : 0 < n2 := by omega
  have hm2 : n2 ≤ 9223372036854775807 := by omega
  rw [hn2] at LF RS
  clear hn2 hn ht
  generalize c - t = c2 at *
  go_enter Tryz.func53, Tryz.ntmps53
  go_wp2_with (first
    | (go_at_call 21; (with_reducible refine (MD.out).mono ?_); rintro e w1 ⟨rfl, rfl⟩)
    | (go_at_call 16; (with_reducible refine (LF.out).mono ?_); rintro e w2 ⟨rfl, ha, hb⟩)
    | (go_at_call 29; (with_reducible refine (RS.out _ ha.out).mono ?_); rintro e w3 ⟨b, off, rfl, hc, hb3⟩))
  go_ret2
  exact ⟨rfl, hb.trans (hb3.mono hb.size)⟩

set_option maxRecDepth 100000 in
theorem take16 (h : Alc w base p m A n c l t) (ht : t < n) : Calls Tryz.prog 72 #[.pointer (some ⟨p, 2, none⟩)] w fun e w' => e = .returned (.tuple #[]) ∧ Alc w' base p m A n c l (t + 1) ∧ w.grownBy w' (some p) := by
  have h3 := h.cell3
  have hf := h.free3
  have hn := h.ints.le
  have HA := Lib.hid (h.take1 ht)
  have HB := Lib.hid (h.take_grown (.int .i64 ((t : Int) + 1)))
  clear h
  go_enter Tryz.func72, Tryz.ntmps72
  go_wp2
  refine bodyPost_end (results_none rfl _ _ _) rfl ?_
  exact ⟨rfl, HA.out, HB.out⟩
end

end Go.Proofs.YtnjlganofjkpfaaGreat

/-
  Layer 9: the reference's Put.
-/
namespace Go.Proofs.YtnjlganofjkpfaaGreat
open Go.RowKit
set_option linter.unusedVariables false
set_option linter.unusedSimpArgs false

/-- what a Put answers -/
def PutP9 (l : List Int) (w : World) (e : Ending) (w' : World) : Prop := ∃ A' m c', e = .returned (.tuple #[.slice A' m c', .int .i64 (putBE9 l)]) ∧ Bytes8 w' A' m c' (putBB9 l) ∧ Below w.heap.size w w'
theorem PutP9.bad {l : List Int} {w w' : World} (h : okB9 l = false) (hb : Below w.heap.size w w') : PutP9 l w (.returned (.tuple #[.slice none 0 0, .int .i64 1])) w' :=
  ⟨none, 0, 0, by simp [putBE9, h], by simpa [putBB9, h] using Bytes8.nil w', hb⟩
theorem PutP9.good {l : List Int} {w w' : World} {A : Option Addr} {m c : Nat} (h : okB9 l = true) (hB : Bytes8 w' A m c (encBits l)) (hb : Below w.heap.size w w') : PutP9 l w (.returned (.tuple #[.slice A m c, .int .i64 0])) w' :=
  ⟨A, m, c, by simp [putBE9, h], by simpa [putBB9, h] using hB, hb⟩

end Go.Proofs.YtnjlganofjkpfaaGreat

/-
  Layer 9: the reference's Read.
-/
namespace Go.Proofs.YtnjlganofjkpfaaGreat
open Go.RowKit
set_option linter.unusedVariables false
set_option linter.unusedSimpArgs false

/-- the same, and what it hands back is newer than all that stood -/
def RdF9 (l : List UInt8) (w : World) (e : Ending) (w' : World) : Prop := ∃ A' m c', e = .returned (.tuple #[.slice A' m c', .int .i64 (readBE9 l)]) ∧ Ints w' A' m c' (readBL9 l) ∧ Below w.heap.size w w' ∧ Newer w.heap.size A'
theorem RdF9.bad {l : List UInt8} {w w' : World} (h : ¬ (l.length = 244 ∧ numB l ≤ 960 ∧ encBits (readBits l) = l)) (hb : Below w.heap.size w w') : RdF9 l w (.returned (.tuple #[.slice none 0 0, .int .i64 7])) w' := by
  rcases readBE9_cases l with ⟨e0, e1, h1⟩ | ⟨e0, e1, h1⟩
  · exact absurd h1 h
  · exact ⟨none, 0, 0, by rw [e0], by rw [e1]; exact Ints.nil _, hb, Newer.nil _⟩
theorem RdF9.good {l : List UInt8} {w w' : World} {A : Option Addr} {m c : Nat} (h : l.length = 244 ∧ numB l ≤ 960 ∧ encBits (readBits l) = l) (hI : Ints w' A m c (readBits l)) (hb : Below w.heap.size w w') (hn : Newer w.heap.size A) : RdF9 l w (.returned (.tuple #[.slice A m c, .int .i64 0])) w' := by
  rcases readBE9_cases l with ⟨e0, e1, h1⟩ | ⟨e0, e1, h1⟩
  · exact ⟨A, m, c, by rw [e0], by rw [e1]; exact hI, hb, hn⟩
  · exact absurd h h1

end Go.Proofs.YtnjlganofjkpfaaGreat
