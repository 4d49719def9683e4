/-
  Joined: BlkB, BlkC, BlkD, BlkE, BlkF.
-/
import Derived.Test.YtbeobbanppkmhaaGreatDoorJBlkC40
import Derived.Test.YtbeobbanppkmhaaGreatDoorJBlkC25
import Derived.Test.YtbeobbanppkmhaaGreatDoorJBlkC35
import Derived.Test.YtbeobbanppkmhaaGreatDoorJBlkC26
import Derived.Test.YtbeobbanppkmhaaGreatDoorJBlkC39
import Derived.Test.YtbeobbanppkmhaaGreatDoorJBlkC15
import Derived.Test.YtbeobbanppkmhaaGreatDoorJBlkC19
import Derived.Test.YtbeobbanppkmhaaGreatDoorJBlkC11
import Derived.Deep.RegionWith
import Derived.Deep.RegionHeld3
import Derived.BigQuiet
import Derived.Test.YtbeobbanppkmhaaGreatDoorJBlkC36
/-
  Results that are structs in variables: a superblock or a node beside an error; a slice beside an error.
-/
namespace Go.Proofs.YtbeobbanppkmhaaGreatDoor
open Go.RowKit
set_option linter.unusedVariables false
set_option linter.unusedSimpArgs false

theorem blk_res2 {P : Program} {fn : Func} {p q : Tmp} {t1 t2 : TypeId} (h : fn.results = #[.cell p t1, .cell q t2]) (tmps : Array Value) (w : World) {a b : Addr} {v u : Value}
    (hp : tmps.getD p undef = .pointer (some a)) (hq : tmps.getD q undef = .pointer (some b)) (h1 : (loadVar t1 a).run P w = .ok v w) (h2 : (loadVar t2 b).run P w = .ok u w) : (results fn tmps).run P w = .ok (.tuple #[v, u]) w := by
  have hp' : tmps[p]?.getD undef = .pointer (some a) := by simpa using hp
  have hq' : tmps[q]?.getD undef = .pointer (some b) := by simpa using hq
  simp [results, h, hp', hq', asAddr, h1, h2, Result.andThen, Sem.run_bind]

theorem blk_resT {P : Program} {fn : Func} {p q : Tmp} {t2 : TypeId} (h : fn.results = #[.tmp p, .cell q t2]) (tmps : Array Value) (w : World) {b : Addr} {u : Value}
    (hq : tmps.getD q undef = .pointer (some b)) (h2 : (loadVar t2 b).run P w = .ok u w) : (results fn tmps).run P w = .ok (.tuple #[tmps.getD p undef, u]) w := by
  have hq' : tmps[q]?.getD undef = .pointer (some b) := by simpa using hq
  simp [results, h, hq', asAddr, h2, Result.andThen, Sem.run_bind]

theorem SupAt.later {w w' : World} {p : Nat} {f : Nat → Int} (h : SupAt w p f) (hb : Below w.heap.size w w') : SupAt w' p f := (hb.block _ (block_lt h)).trans h
theorem SupAt.load {w : World} {p : Nat} {f : Nat → Int} (h : SupAt w p f) : (loadVar 29 ⟨p, 0, none⟩).run Tryz.prog w = .ok (supV f) w := run_loadVar_row w p _ _ _ _ _ h Tryz.underlying29 rfl (by kernel_rfl)
theorem NodAt.load {w : World} {p : Nat} {tree : Int} {leaf : Bool} {s1 s2 : Value} (h : NodAt w p tree leaf s1 s2) : (loadVar 41 ⟨p, 0, none⟩).run Tryz.prog w = .ok (.agg #[.int .i64 tree, .bool leaf, s1, s2]) w := run_loadVar_row w p _ _ _ _ _ h Tryz.underlying41 rfl (by kernel_rfl)

theorem two_other {w : World} {p q : Nat} {o : Obj} (h : w.heap[q]? = some o) (hne : q ≠ p) (c d : Value) : ((w.setCell ⟨p, 0, none⟩ c).setCell ⟨p, 1, none⟩ d).heap[q]? = some o := by
  rw [heap_setCell_other _ _ q _ hne, heap_setCell_other _ _ q _ hne]
  exact h
theorem four_other {w : World} {p q : Nat} {o : Obj} (h : w.heap[q]? = some o) (hne : q ≠ p) (a b c d : Value) : ((((w.setCell ⟨p, 0, none⟩ a).setCell ⟨p, 1, none⟩ b).setCell ⟨p, 2, none⟩ c).setCell ⟨p, 3, none⟩ d).heap[q]? = some o := by
  rw [heap_setCell_other _ _ q _ hne, heap_setCell_other _ _ q _ hne, heap_setCell_other _ _ q _ hne, heap_setCell_other _ _ q _ hne]
  exact h

/-- a superblock's variable: its cells may be read and written -/
def SupC11 (w : World) (p : Nat) (f : Nat → Int) : Prop :=
  w.cell? ⟨p, 0, none⟩ = some (.int .i64 (f 0)) ∧ w.cell? ⟨p, 1, none⟩ = some (.int .i64 (f 1)) ∧ w.cell? ⟨p, 2, none⟩ = some (.int .i64 (f 2)) ∧ w.cell? ⟨p, 3, none⟩ = some (.int .i64 (f 3)) ∧ w.cell? ⟨p, 4, none⟩ = some (.int .i64 (f 4)) ∧ w.cell? ⟨p, 5, none⟩ = some (.int .i64 (f 5)) ∧ w.cell? ⟨p, 6, none⟩ = some (.int .i64 (f 6)) ∧ w.cell? ⟨p, 7, none⟩ = some (.int .i64 (f 7)) ∧ w.cell? ⟨p, 8, none⟩ = some (.int .i64 (f 8)) ∧ w.cell? ⟨p, 9, none⟩ = some (.int .i64 (f 9)) ∧ w.cell? ⟨p, 10, none⟩ = some (.int .i64 (f 10))
def SupF11 (w : World) (p : Nat) : Prop :=
  w.frozen? ⟨p, 0, none⟩ = false ∧ w.frozen? ⟨p, 1, none⟩ = false ∧ w.frozen? ⟨p, 2, none⟩ = false ∧ w.frozen? ⟨p, 3, none⟩ = false ∧ w.frozen? ⟨p, 4, none⟩ = false ∧ w.frozen? ⟨p, 5, none⟩ = false ∧ w.frozen? ⟨p, 6, none⟩ = false ∧ w.frozen? ⟨p, 7, none⟩ = false ∧ w.frozen? ⟨p, 8, none⟩ = false ∧ w.frozen? ⟨p, 9, none⟩ = false ∧ w.frozen? ⟨p, 10, none⟩ = false
theorem SupAt.cs {w : World} {p : Nat} {f : Nat → Int} (h : SupAt w p f) : SupC11 w p f :=
  ⟨h.cell (k := 0) (by omega), h.cell (k := 1) (by omega), h.cell (k := 2) (by omega), h.cell (k := 3) (by omega), h.cell (k := 4) (by omega), h.cell (k := 5) (by omega), h.cell (k := 6) (by omega), h.cell (k := 7) (by omega), h.cell (k := 8) (by omega), h.cell (k := 9) (by omega), h.cell (k := 10) (by omega)⟩
theorem SupAt.fs {w : World} {p : Nat} {f : Nat → Int} (h : SupAt w p f) : SupF11 w p :=
  ⟨Lib.frozen_of_heap h 0, Lib.frozen_of_heap h 1, Lib.frozen_of_heap h 2, Lib.frozen_of_heap h 3, Lib.frozen_of_heap h 4, Lib.frozen_of_heap h 5, Lib.frozen_of_heap h 6, Lib.frozen_of_heap h 7, Lib.frozen_of_heap h 8, Lib.frozen_of_heap h 9, Lib.frozen_of_heap h 10⟩
def NodC4 (w : World) (p : Nat) (tree : Int) (leaf : Bool) (s1 s2 : Value) : Prop :=
  (w.cell? ⟨p, 0, none⟩ = some (.int .i64 tree) ∧ w.cell? ⟨p, 1, none⟩ = some (.bool leaf) ∧ w.cell? ⟨p, 2, none⟩ = some s1 ∧ w.cell? ⟨p, 3, none⟩ = some s2) ∧ w.frozen? ⟨p, 0, none⟩ = false ∧ w.frozen? ⟨p, 1, none⟩ = false ∧ w.frozen? ⟨p, 2, none⟩ = false ∧ w.frozen? ⟨p, 3, none⟩ = false
theorem NodAt.cs {w : World} {p : Nat} {tree : Int} {leaf : Bool} {s1 s2 : Value} (h : NodAt w p tree leaf s1 s2) : NodC4 w p tree leaf s1 s2 :=
  ⟨⟨h.c0, h.c1, h.c2, h.c3⟩, Lib.frozen_of_heap h 0, Lib.frozen_of_heap h 1, Lib.frozen_of_heap h 2, Lib.frozen_of_heap h 3⟩
end Go.Proofs.YtbeobbanppkmhaaGreatDoor

/-
  block.read for counts and for slots; block.Bits and block.Index.
-/
namespace Go.Proofs.YtbeobbanppkmhaaGreatDoor
open Go.RowKit
set_option linter.unusedVariables false
set_option linter.unusedSimpArgs false

/-- the first of three errors -/
def errsE (e0 e1 e2 : Int) : Int := if e0 ≠ 0 then e0 else if e1 ≠ 0 then e1 else e2

/-- image's Read, in any world that is behind w -/
def RdOk (w : World) (pv : Value) (no e0 : Int) (b0 : List UInt8) : Prop := ∀ W, Below w.heap.size w W → Calls Tryz.prog 78 #[pv, .int .i64 no] W fun e w' => ∃ A m c, e = .returned (.tuple #[.slice A m c, .int .i64 e0]) ∧ Bytes8 w' A m c b0 ∧ Below W.heap.size W w'
/-- seal's Open of what was read -/
def OpOk (kind no e1 : Int) (b0 b1 : List UInt8) : Prop := ∀ W A m c, Bytes8 W A m c b0 → Calls Tryz.prog 79 #[.slice A m c, .int .i64 kind, .int .i64 no] W fun e w' => ∃ A' m' c', e = .returned (.tuple #[.slice A' m' c', .int .i64 e1]) ∧ Bytes8 w' A' m' c' b1 ∧ Below W.heap.size W w'
theorem opOk (kind no : Int) (b : List UInt8) : OpOk kind no (openE b kind no) b (openB b kind no) := fun W A m c h => Open_any A m c b kind no W h
theorem rdOk_out {w : World} {B p g n : Nat} {L : List UInt8} {no : Int} (h : Img w B p g L) (hL : L.length = n * 256) (ho : outB n no = true) : RdOk w (.pointer (some ⟨p, 0, none⟩)) no 3 [] := fun W hW => by
  refine (Read_bad p no n W (Blocks_img W (h.later hW) hL) (outB_iff.1 ho)).mono ?_
  rintro e w' ⟨rfl, rfl⟩
  exact ⟨none, 0, 0, rfl, Bytes8.nil _, Below.refl _ _⟩
theorem rdOk_in {w : World} {B p g n : Nat} {L : List UInt8} {no : Int} (h : Img w B p g L) (hL : L.length = n * 256) (ho : outB n no = false) : RdOk w (.pointer (some ⟨p, 0, none⟩)) no 0 (blk L no.toNat) := fun W hW => by
  obtain ⟨h0, h1⟩ := outB_not.1 ho
  obtain ⟨k, rfl⟩ := Int.eq_ofNat_of_zero_le h0
  refine (Read_img k W (h.later hW) hL (by omega)).mono ?_
  rintro e w' ⟨A, rfl, hB, hb⟩
  exact ⟨A, 256, 256, rfl, hB, hb⟩
set_option maxRecDepth 100000 in
set_option maxHeartbeats 1600000 in
theorem readBits_any (pv : Value) (no : Int) (w : World) {e0 e1 e2 : Int} {b0 b1 : List UInt8} {l2 : List Int} (HR : RdOk w pv no e0 b0) (HO : OpOk 3 no e1 b0 b1)
    (D : ∀ W A m c, Bytes8 W A m c b1 → Calls Tryz.prog 47 #[.slice A m c] W fun e w' => ∃ A' m' c', e = .returned (.tuple #[.slice A' m' c', .int .i64 e2]) ∧ Ints w' A' m' c' l2 ∧ Below W.heap.size W w') :
    Calls Tryz.prog 46 #[pv, .int .i64 no, .int .i64 3, .func (.func 47) #[] #[]] w fun e w' => ∃ A m c v, e = .returned (.tuple #[.slice A m c, v]) ∧ Ints w' A m c (if e0 ≠ 0 ∨ e1 ≠ 0 then [] else l2) ∧ ErrAt w' v no (errsE e0 e1 e2) ∧ Below w.heap.size w w' := by
  have AT := Lib.hid (fun x W => bat_any no x W)
  have R := Lib.hid (HR w (Below.refl _ _))
  have O : Hid (∀ W A m c, Bytes8 W A m c b0 → _) := HO
  have D2 := Lib.hid D
  clear HR HO D
  by_cases h0 : e0 = 0
  · subst h0
    by_cases h1 : e1 = 0
    · subst h1
      rw [show errsE 0 0 e2 = e2 by simp [errsE], if_neg (by simp)]
      go_enter Tryz.func46, Tryz.ntmps46
      go_wp2_with (first
        | (go_at_call 78; (with_reducible refine (R.out).mono ?_); rintro e w1 ⟨A1, m1, c1, rfl, hB1, hb1⟩; have HB1 := Lib.hid hB1; clear hB1)
        | (go_at_call 79; (with_reducible refine (O.out _ _ _ _ HB1.out).mono ?_); rintro e w2 ⟨A2, m2, c2, rfl, hB2, hb2⟩; have HB2 := Lib.hid hB2; clear hB2)
        | (go_at_call 47; (with_reducible refine (D2.out _ _ _ _ HB2.out).mono ?_); rintro e w3 ⟨A3, m3, c3, rfl, hI3, hb3⟩; have HI3 := Lib.hid hI3; clear hI3)
        | (go_at_call 54; (with_reducible refine (AT.out _ _).mono ?_); rintro e w4 ⟨v, rfl, hv, hb4⟩; have HV := Lib.hid hv; have HI4 := Lib.hid (HI3.out.below hb4); clear hv))
      go_ret2
      exact ⟨A3, m3, c3, v, rfl, HI4.out, HV.out, ((hb1.trans (hb2.mono hb1.size)).trans (hb3.mono (Nat.le_trans hb1.size hb2.size))).trans (hb4.mono (Nat.le_trans hb1.size (Nat.le_trans hb2.size hb3.size)))⟩
    · rw [show errsE 0 e1 e2 = e1 by simp [errsE, h1], if_pos (.inr h1)]
      have hne : (e1 == 0) = false := by simpa using h1
      go_enter Tryz.func46, Tryz.ntmps46
      go_wp2_with (first
        | (go_at_call 78; (with_reducible refine (R.out).mono ?_); rintro e w1 ⟨A1, m1, c1, rfl, hB1, hb1⟩; have HB1 := Lib.hid hB1; clear hB1)
        | (go_at_call 79; (with_reducible refine (O.out _ _ _ _ HB1.out).mono ?_); rintro e w2 ⟨A2, m2, c2, rfl, hB2, hb2⟩; have HB2 := Lib.hid hB2; clear hB2)
        | (go_at_call 54; (with_reducible refine (AT.out _ _).mono ?_); rintro e w4 ⟨v, rfl, hv, hb4⟩; have HV := Lib.hid hv; clear hv))
      go_ret2
      exact ⟨none, 0, 0, v, rfl, Ints.nil _, HV.out, (hb1.trans (hb2.mono hb1.size)).trans (hb4.mono (Nat.le_trans hb1.size hb2.size))⟩
  · rw [show errsE e0 e1 e2 = e0 by simp [errsE, h0], if_pos (.inl h0)]
    have hne : (e0 == 0) = false := by simpa using h0
    go_enter Tryz.func46, Tryz.ntmps46
    go_wp2_with (first
      | (go_at_call 78; (with_reducible refine (R.out).mono ?_); rintro e w1 ⟨A1, m1, c1, rfl, hB1, hb1⟩; have HB1 := Lib.hid hB1; clear hB1)
      | (go_at_call 54; (with_reducible refine (AT.out _ _).mono ?_); rintro e w4 ⟨v, rfl, hv, hb4⟩; have HV := Lib.hid hv; clear hv))
    go_ret2
    exact ⟨none, 0, 0, v, rfl, Ints.nil _, HV.out, hb1.trans (hb4.mono hb1.size)⟩

set_option maxRecDepth 100000 in
set_option maxHeartbeats 800000 in
theorem blockBits_of (pv : Value) (no : Int) (w : World) {x : Int} {l : List Int} (h : Calls Tryz.prog 46 #[pv, .int .i64 no, .int .i64 3, .func (.func 47) #[] #[]] w fun e w' => ∃ A m c v, e = .returned (.tuple #[.slice A m c, v]) ∧ Ints w' A m c l ∧ ErrAt w' v no x ∧ Below w.heap.size w w') :
    Calls Tryz.prog 16 #[pv, .int .i64 no] w fun e w' => ∃ A m c v, e = .returned (.tuple #[.slice A m c, v]) ∧ Ints w' A m c l ∧ ErrAt w' v no x ∧ Below w.heap.size w w' := by
  have R := Lib.hid h
  clear h
  go_enter Tryz.func16, Tryz.ntmps16
  go_wp2_with (go_at_call 46; (with_reducible refine (R.out).mono ?_); rintro e w1 ⟨A1, m1, c1, v, rfl, hI1, hv, hb1⟩; have HI := Lib.hid hI1; have HV := Lib.hid hv; clear hI1 hv)
  go_ret2
  exact ⟨A1, m1, c1, v, rfl, HI.out, HV.out, hb1⟩

/-- of an image -/
theorem blockBits_any {w : World} {B p g n : Nat} {L : List UInt8} (no : Int) (h : Img w B p g L) (hL : L.length = n * 256) :
    Calls Tryz.prog 16 #[.pointer (some ⟨p, 0, none⟩), .int .i64 no] w fun e w' => ∃ A m c v, e = .returned (.tuple #[.slice A m c, v]) ∧ Ints w' A m c (bitL11 L n no) ∧ ErrAt w' v no (bitE11 L n no) ∧ Below w.heap.size w w' := by
  cases ho : outB n no with
  | true =>
    have := blockBits_of _ no w (readBits_any _ no w (rdOk_out h hL ho) (opOk 3 no []) (fun W A m c hB => BRead_any A m c _ W hB))
    have e1 : inE11 L n no 3 = 3 := by rw [inE11, ho]; rfl
    rw [show errsE 3 _ _ = 3 from rfl, if_pos (.inl (by decide))] at this
    rw [bitL11, bitE11, e1, if_pos (by decide), if_pos (by decide)]
    exact this
  | false =>
    have := blockBits_of _ no w (readBits_any _ no w (rdOk_in h hL ho) (opOk 3 no _) (fun W A m c hB => BRead_any A m c _ W hB))
    have e1 : inE11 L n no 3 = openE (blk L no.toNat) 3 no := by rw [inE11, ho]; rfl
    have e2 : inB11 L n no 3 = openB (blk L no.toNat) 3 no := by rw [inB11, ho]; rfl
    rw [bitL11, bitE11, e1, e2]
    by_cases hz : openE (blk L no.toNat) 3 no = 0
    · rw [hz, show errsE 0 0 _ = _ from rfl, if_neg (by simp)] at this
      rw [hz, if_neg (by simp), if_neg (by simp)]
      exact this
    · rw [show errsE 0 (openE (blk L no.toNat) 3 no) _ = openE (blk L no.toNat) 3 no by simp [errsE, hz], if_pos (.inr hz)] at this
      rw [if_pos hz, if_pos hz]
      exact this
set_option maxRecDepth 100000 in
set_option maxHeartbeats 1600000 in
theorem readIndex_any (pv : Value) (no : Int) (w : World) {e0 e1 e2 : Int} {b0 b1 : List UInt8} {l2 : List Slt} (HR : RdOk w pv no e0 b0) (HO : OpOk 4 no e1 b0 b1)
    (D : ∀ W A m c, Bytes8 W A m c b1 → Calls Tryz.prog 50 #[.slice A m c] W fun e w' => ∃ A' m' c', e = .returned (.tuple #[.slice A' m' c', .int .i64 e2]) ∧ Trs w' A' m' c' l2 ∧ Below W.heap.size W w') :
    Calls Tryz.prog 49 #[pv, .int .i64 no, .int .i64 4, .func (.func 50) #[] #[]] w fun e w' => ∃ A m c v, e = .returned (.tuple #[.slice A m c, v]) ∧ Trs w' A m c (if e0 ≠ 0 ∨ e1 ≠ 0 then [] else l2) ∧ ErrAt w' v no (errsE e0 e1 e2) ∧ Below w.heap.size w w' := by
  have AT := Lib.hid (fun x W => bat_any no x W)
  have R := Lib.hid (HR w (Below.refl _ _))
  have O : Hid (∀ W A m c, Bytes8 W A m c b0 → _) := HO
  have D2 := Lib.hid D
  clear HR HO D
  by_cases h0 : e0 = 0
  · subst h0
    by_cases h1 : e1 = 0
    · subst h1
      rw [show errsE 0 0 e2 = e2 by simp [errsE], if_neg (by simp)]
      go_enter Tryz.func49, Tryz.ntmps49
      go_wp2_with (first
        | (go_at_call 78; (with_reducible refine (R.out).mono ?_); rintro e w1 ⟨A1, m1, c1, rfl, hB1, hb1⟩; have HB1 := Lib.hid hB1; clear hB1)
        | (go_at_call 79; (with_reducible refine (O.out _ _ _ _ HB1.out).mono ?_); rintro e w2 ⟨A2, m2, c2, rfl, hB2, hb2⟩; have HB2 := Lib.hid hB2; clear hB2)
        | (go_at_call 50; (with_reducible refine (D2.out _ _ _ _ HB2.out).mono ?_); rintro e w3 ⟨A3, m3, c3, rfl, hI3, hb3⟩; have HI3 := Lib.hid hI3; clear hI3)
        | (go_at_call 54; (with_reducible refine (AT.out _ _).mono ?_); rintro e w4 ⟨v, rfl, hv, hb4⟩; have HV := Lib.hid hv; have HI4 := Lib.hid (HI3.out.below hb4); clear hv))
      go_ret2
      exact ⟨A3, m3, c3, v, rfl, HI4.out, HV.out, ((hb1.trans (hb2.mono hb1.size)).trans (hb3.mono (Nat.le_trans hb1.size hb2.size))).trans (hb4.mono (Nat.le_trans hb1.size (Nat.le_trans hb2.size hb3.size)))⟩
    · rw [show errsE 0 e1 e2 = e1 by simp [errsE, h1], if_pos (.inr h1)]
      have hne : (e1 == 0) = false := by simpa using h1
      go_enter Tryz.func49, Tryz.ntmps49
      go_wp2_with (first
        | (go_at_call 78; (with_reducible refine (R.out).mono ?_); rintro e w1 ⟨A1, m1, c1, rfl, hB1, hb1⟩; have HB1 := Lib.hid hB1; clear hB1)
        | (go_at_call 79; (with_reducible refine (O.out _ _ _ _ HB1.out).mono ?_); rintro e w2 ⟨A2, m2, c2, rfl, hB2, hb2⟩; have HB2 := Lib.hid hB2; clear hB2)
        | (go_at_call 54; (with_reducible refine (AT.out _ _).mono ?_); rintro e w4 ⟨v, rfl, hv, hb4⟩; have HV := Lib.hid hv; clear hv))
      go_ret2
      exact ⟨none, 0, 0, v, rfl, Trs.nil _, HV.out, (hb1.trans (hb2.mono hb1.size)).trans (hb4.mono (Nat.le_trans hb1.size hb2.size))⟩
  · rw [show errsE e0 e1 e2 = e0 by simp [errsE, h0], if_pos (.inl h0)]
    have hne : (e0 == 0) = false := by simpa using h0
    go_enter Tryz.func49, Tryz.ntmps49
    go_wp2_with (first
      | (go_at_call 78; (with_reducible refine (R.out).mono ?_); rintro e w1 ⟨A1, m1, c1, rfl, hB1, hb1⟩; have HB1 := Lib.hid hB1; clear hB1)
      | (go_at_call 54; (with_reducible refine (AT.out _ _).mono ?_); rintro e w4 ⟨v, rfl, hv, hb4⟩; have HV := Lib.hid hv; clear hv))
    go_ret2
    exact ⟨none, 0, 0, v, rfl, Trs.nil _, HV.out, hb1.trans (hb4.mono hb1.size)⟩

set_option maxRecDepth 100000 in
set_option maxHeartbeats 800000 in
theorem blockIndex_of (pv : Value) (no : Int) (w : World) {x : Int} {l : List Slt} (h : Calls Tryz.prog 49 #[pv, .int .i64 no, .int .i64 4, .func (.func 50) #[] #[]] w fun e w' => ∃ A m c v, e = .returned (.tuple #[.slice A m c, v]) ∧ Trs w' A m c l ∧ ErrAt w' v no x ∧ Below w.heap.size w w') :
    Calls Tryz.prog 18 #[pv, .int .i64 no] w fun e w' => ∃ A m c v, e = .returned (.tuple #[.slice A m c, v]) ∧ Trs w' A m c l ∧ ErrAt w' v no x ∧ Below w.heap.size w w' := by
  have R := Lib.hid h
  clear h
  go_enter Tryz.func18, Tryz.ntmps18
  go_wp2_with (go_at_call 49; (with_reducible refine (R.out).mono ?_); rintro e w1 ⟨A1, m1, c1, v, rfl, hI1, hv, hb1⟩; have HI := Lib.hid hI1; have HV := Lib.hid hv; clear hI1 hv)
  go_ret2
  exact ⟨A1, m1, c1, v, rfl, HI.out, HV.out, hb1⟩

/-- of an image -/
theorem blockIndex_any {w : World} {B p g n : Nat} {L : List UInt8} (no : Int) (h : Img w B p g L) (hL : L.length = n * 256) :
    Calls Tryz.prog 18 #[.pointer (some ⟨p, 0, none⟩), .int .i64 no] w fun e w' => ∃ A m c v, e = .returned (.tuple #[.slice A m c, v]) ∧ Trs w' A m c (sltL11 L n no) ∧ ErrAt w' v no (sltE11 L n no) ∧ Below w.heap.size w w' := by
  cases ho : outB n no with
  | true =>
    have := blockIndex_of _ no w (readIndex_any _ no w (rdOk_out h hL ho) (opOk 4 no []) (fun W A m c hB => SlRead_any A m c _ W hB))
    have e1 : inE11 L n no 4 = 3 := by rw [inE11, ho]; rfl
    rw [show errsE 3 _ _ = 3 from rfl, if_pos (.inl (by decide))] at this
    rw [sltL11, sltE11, e1, if_pos (by decide), if_pos (by decide)]
    exact this
  | false =>
    have := blockIndex_of _ no w (readIndex_any _ no w (rdOk_in h hL ho) (opOk 4 no _) (fun W A m c hB => SlRead_any A m c _ W hB))
    have e1 : inE11 L n no 4 = openE (blk L no.toNat) 4 no := by rw [inE11, ho]; rfl
    have e2 : inB11 L n no 4 = openB (blk L no.toNat) 4 no := by rw [inB11, ho]; rfl
    rw [sltL11, sltE11, e1, e2]
    by_cases hz : openE (blk L no.toNat) 4 no = 0
    · rw [hz, show errsE 0 0 _ = _ from rfl, if_neg (by simp)] at this
      rw [hz, if_neg (by simp), if_neg (by simp)]
      exact this
    · rw [show errsE 0 (openE (blk L no.toNat) 4 no) _ = openE (blk L no.toNat) 4 no by simp [errsE, hz], if_pos (.inr hz)] at this
      rw [if_pos hz, if_pos hz]
      exact this
end Go.Proofs.YtbeobbanppkmhaaGreatDoor

/-
  block.read for a superblock; block.Super.
-/
namespace Go.Proofs.YtbeobbanppkmhaaGreatDoor
open Go.RowKit
set_option linter.unusedVariables false
set_option linter.unusedSimpArgs false

theorem keeps_set {w : World} {g : Nat} {cs : Array Value} {t : TypeId} {fr : Nat × Nat} (h : w.heap[g]? = some (.cells cs t fr)) (ht : t ≠ 74) (i : Nat) (v : Value) : Keeps w (w.setCell ⟨g, i, none⟩ v) := fun p x e => by
  rw [heap_setCell_other w _ p v]
  · exact e
  · intro hg
    subst hg
    rw [h] at e
    injection e with e
    injection e with _ e2 _
    exact ht e2
theorem ErrAt.keep {w w' : World} {v : Value} {no x : Int} (h : ErrAt w v no x) (hk : Keeps w w') : ErrAt w' v no x := by
  rcases h with h | ⟨h1, p, h2, h3⟩
  · exact .inl h
  · exact .inr ⟨h1, p, h2, h3.same hk⟩
theorem SupAt.keeps1 {w : World} {g : Nat} {f : Nat → Int} (h : SupAt w g f) (i : Nat) (v : Value) : Keeps w (w.setCell ⟨g, i, none⟩ v) := keeps_set h (by decide) i v
theorem SupAt.keeps {w : World} {g : Nat} {f : Nat → Int} (hs : SupAt w g f) (h : Nat → Int) : Keeps w (((((((((((w.setCell ⟨g, 0, none⟩ (.int .i64 (h 0))).setCell ⟨g, 1, none⟩ (.int .i64 (h 1))).setCell ⟨g, 2, none⟩ (.int .i64 (h 2))).setCell ⟨g, 3, none⟩ (.int .i64 (h 3))).setCell ⟨g, 4, none⟩ (.int .i64 (h 4))).setCell ⟨g, 5, none⟩ (.int .i64 (h 5))).setCell ⟨g, 6, none⟩ (.int .i64 (h 6))).setCell ⟨g, 7, none⟩ (.int .i64 (h 7))).setCell ⟨g, 8, none⟩ (.int .i64 (h 8))).setCell ⟨g, 9, none⟩ (.int .i64 (h 9))).setCell ⟨g, 10, none⟩ (.int .i64 (h 10))) := by
  have s0 := hs.set (k := 0) (by omega) (h 0)
  have s1 := s0.set (k := 1) (by omega) (h 1)
  have s2 := s1.set (k := 2) (by omega) (h 2)
  have s3 := s2.set (k := 3) (by omega) (h 3)
  have s4 := s3.set (k := 4) (by omega) (h 4)
  have s5 := s4.set (k := 5) (by omega) (h 5)
  have s6 := s5.set (k := 6) (by omega) (h 6)
  have s7 := s6.set (k := 7) (by omega) (h 7)
  have s8 := s7.set (k := 8) (by omega) (h 8)
  have s9 := s8.set (k := 9) (by omega) (h 9)
  exact (hs.keeps1 0 _).trans ((s0.keeps1 1 _).trans ((s1.keeps1 2 _).trans ((s2.keeps1 3 _).trans ((s3.keeps1 4 _).trans ((s4.keeps1 5 _).trans ((s5.keeps1 6 _).trans ((s6.keeps1 7 _).trans ((s7.keeps1 8 _).trans ((s8.keeps1 9 _).trans ((s9.keeps1 10 _)))))))))))

/-- while a superblock is read: the result's variable, what is read, all below as it was -/
structure RdS (w W : World) (f : Nat → Int) : Prop where
  res : SupAt W w.heap.size (fun _ => 0)
  out : SupAt W (w.heap.size + 1) f
  bel : Below w.heap.size w W
theorem RdS.later {w W W' : World} {f : Nat → Int} (h : RdS w W f) (hb : Below W.heap.size W W') : RdS w W' f := ⟨h.res.later hb, h.out.later hb, h.bel.trans (hb.mono h.bel.size)⟩
theorem RdS.facts {w W : World} {f : Nat → Int} (h : RdS w W f) : SupC11 W w.heap.size (fun _ => 0) ∧ SupF11 W w.heap.size ∧ SupC11 W (w.heap.size + 1) f ∧ SupF11 W (w.heap.size + 1) := ⟨h.res.cs, h.res.fs, h.out.cs, h.out.fs⟩
theorem RdS.start (w : World) : RdS w ((w.alloc (.cells #[.int .i64 0, .int .i64 0, .int .i64 0, .int .i64 0, .int .i64 0, .int .i64 0, .int .i64 0, .int .i64 0, .int .i64 0, .int .i64 0, .int .i64 0] 29)).alloc (.cells #[.int .i64 0, .int .i64 0, .int .i64 0, .int .i64 0, .int .i64 0, .int .i64 0, .int .i64 0, .int .i64 0, .int .i64 0, .int .i64 0, .int .i64 0] 29)) (fun _ => 0) := by
  obtain ⟨h1, h2, h3⟩ := two_new w (.cells #[.int .i64 0, .int .i64 0, .int .i64 0, .int .i64 0, .int .i64 0, .int .i64 0, .int .i64 0, .int .i64 0, .int .i64 0, .int .i64 0, .int .i64 0] 29) (.cells #[.int .i64 0, .int .i64 0, .int .i64 0, .int .i64 0, .int .i64 0, .int .i64 0, .int .i64 0, .int .i64 0, .int .i64 0, .int .i64 0, .int .i64 0] 29)
  exact ⟨h1, h2, h3⟩
theorem RdS.store {w W : World} {f : Nat → Int} (hs : RdS w W f) (h : Nat → Int) : RdS w (((((((((((W.setCell ⟨w.heap.size + 1, 0, none⟩ (.int .i64 (h 0))).setCell ⟨w.heap.size + 1, 1, none⟩ (.int .i64 (h 1))).setCell ⟨w.heap.size + 1, 2, none⟩ (.int .i64 (h 2))).setCell ⟨w.heap.size + 1, 3, none⟩ (.int .i64 (h 3))).setCell ⟨w.heap.size + 1, 4, none⟩ (.int .i64 (h 4))).setCell ⟨w.heap.size + 1, 5, none⟩ (.int .i64 (h 5))).setCell ⟨w.heap.size + 1, 6, none⟩ (.int .i64 (h 6))).setCell ⟨w.heap.size + 1, 7, none⟩ (.int .i64 (h 7))).setCell ⟨w.heap.size + 1, 8, none⟩ (.int .i64 (h 8))).setCell ⟨w.heap.size + 1, 9, none⟩ (.int .i64 (h 9))).setCell ⟨w.heap.size + 1, 10, none⟩ (.int .i64 (h 10))) h := by
  refine ⟨?_, hs.out.store h, below_store hs.bel (Nat.le_succ _) _ _ _ _ _ _ _ _ _ _ _⟩
  have e : ∀ (V : World) (i : Nat) (v : Value), SupAt V w.heap.size (fun _ => 0) → SupAt (V.setCell ⟨w.heap.size + 1, i, none⟩ v) w.heap.size (fun _ => 0) := fun V i v hV => by
    unfold SupAt
    rw [heap_setCell_other _ _ _ _ (by show w.heap.size ≠ w.heap.size + 1; omega)]
    exact hV
  exact e _ _ _ (e _ _ _ (e _ _ _ (e _ _ _ (e _ _ _ (e _ _ _ (e _ _ _ (e _ _ _ (e _ _ _ (e _ _ _ (e _ _ _ hs.res))))))))))


set_option maxRecDepth 100000 in
set_option maxHeartbeats 3200000 in
theorem readSuper_any (pv : Value) (no : Int) (w : World) (q : Nat) {e0 e1 e2 : Int} {b0 b1 : List UInt8} {f2 : Nat → Int} (HR : RdOk w pv no e0 b0) (HO : OpOk 1 no e1 b0 b1)
    (D : ∀ W A m c, Below w.heap.size w W → Bytes8 W A m c b1 → Calls Tryz.prog 34 #[.slice A m c, .pointer (some ⟨q, 0, none⟩)] W fun e w' => e = .returned (.tuple #[supV f2, .int .i64 e2]) ∧ Below W.heap.size W w') :
    Calls Tryz.prog 33 #[pv, .int .i64 no, .int .i64 1, .func (.func 34) #[] #[.pointer (some ⟨q, 0, none⟩)]] w fun e w' => ∃ v, e = .returned (.tuple #[supV (if e0 ≠ 0 ∨ e1 ≠ 0 then fun _ => 0 else f2), v]) ∧ ErrAt w' v no (errsE e0 e1 e2) ∧ Below w.heap.size w w' := by
  have AT : Hid (∀ W x f, RdS w W f → Calls Tryz.prog 54 #[.int .i64 no, .iface 64 (.int .i64 x)] W fun e w' => ∃ v, e = .returned v ∧ ErrAt w' v no x ∧ RdS w w' f) := fun W x f h => (bat_any no x W).mono fun e w' ⟨v, h1, h2, h3⟩ => ⟨v, h1, h2, h.later h3⟩
  have R : Hid (∀ W f, RdS w W f → Calls Tryz.prog 78 #[pv, .int .i64 no] W fun e w' => ∃ A m c, e = .returned (.tuple #[.slice A m c, .int .i64 e0]) ∧ Bytes8 w' A m c b0 ∧ RdS w w' f) := fun W f h => (HR W h.bel).mono fun e w' ⟨A, m, c, h1, h2, h3⟩ => ⟨A, m, c, h1, h2, h.later h3⟩
  have O : Hid (∀ W A m c f, RdS w W f → Bytes8 W A m c b0 → Calls Tryz.prog 79 #[.slice A m c, .int .i64 1, .int .i64 no] W fun e w' => ∃ A' m' c', e = .returned (.tuple #[.slice A' m' c', .int .i64 e1]) ∧ Bytes8 w' A' m' c' b1 ∧ RdS w w' f) := fun W A m c f h hB => (HO W A m c hB).mono fun e w' ⟨A, m, c, h1, h2, h3⟩ => ⟨A, m, c, h1, h2, h.later h3⟩
  have D2 : Hid (∀ W A m c f, RdS w W f → Bytes8 W A m c b1 → Calls Tryz.prog 34 #[.slice A m c, .pointer (some ⟨q, 0, none⟩)] W fun e w' => e = .returned (.tuple #[supV f2, .int .i64 e2]) ∧ RdS w w' f) := fun W A m c f h hB => (D W A m c h.bel hB).mono fun e w' ⟨h1, h2⟩ => ⟨h1, h.later h2⟩
  have hN0 := RdS.start w
  clear HR HO D
  simp only [supV, supC] at D2
  by_cases h0 : e0 = 0
  · subst h0
    by_cases h1 : e1 = 0
    · subst h1
      rw [show errsE 0 0 e2 = e2 by simp [errsE], if_neg (by simp)]
      go_enter Tryz.func33, Tryz.ntmps33
      go_wp2_with (first
        | (go_at_call 78; (with_reducible refine (R.out _ _ hN0).mono ?_); rintro e w1 ⟨A1, m1, c1, rfl, hB1, hN1⟩; have HB1 := Lib.hid hB1; clear hB1)
        | (go_at_call 79; (with_reducible refine (O.out _ _ _ _ _ hN1 HB1.out).mono ?_); rintro e w2 ⟨A2, m2, c2, rfl, hB2, hN2⟩; have HB2 := Lib.hid hB2; clear hB2)
        | (go_at_call 34; (with_reducible refine (D2.out _ _ _ _ _ hN2 HB2.out).mono ?_); rintro e w3 ⟨rfl, hN3⟩; obtain ⟨⟨z0, z1, z2, z3, z4, z5, z6, z7, z8, z9, z10⟩, ⟨y0, y1, y2, y3, y4, y5, y6, y7, y8, y9, y10⟩, ⟨o0, o1, o2, o3, o4, o5, o6, o7, o8, o9, o10⟩, ⟨p0, p1, p2, p3, p4, p5, p6, p7, p8, p9, p10⟩⟩ := hN3.facts))
      have hN4 := hN3.store f2
      clear z0 z1 z2 z3 z4 z5 z6 z7 z8 z9 z10 y0 y1 y2 y3 y4 y5 y6 y7 y8 y9 y10 o0 o1 o2 o3 o4 o5 o6 o7 o8 o9 o10 p0 p1 p2 p3 p4 p5 p6 p7 p8 p9 p10
      clear hN0 hN1 hN2 hN3 R O D2
      generalize (((((((((((w3.setCell ⟨w.heap.size + 1, 0, none⟩ (.int .i64 (f2 0))).setCell ⟨w.heap.size + 1, 1, none⟩ (.int .i64 (f2 1))).setCell ⟨w.heap.size + 1, 2, none⟩ (.int .i64 (f2 2))).setCell ⟨w.heap.size + 1, 3, none⟩ (.int .i64 (f2 3))).setCell ⟨w.heap.size + 1, 4, none⟩ (.int .i64 (f2 4))).setCell ⟨w.heap.size + 1, 5, none⟩ (.int .i64 (f2 5))).setCell ⟨w.heap.size + 1, 6, none⟩ (.int .i64 (f2 6))).setCell ⟨w.heap.size + 1, 7, none⟩ (.int .i64 (f2 7))).setCell ⟨w.heap.size + 1, 8, none⟩ (.int .i64 (f2 8))).setCell ⟨w.heap.size + 1, 9, none⟩ (.int .i64 (f2 9))).setCell ⟨w.heap.size + 1, 10, none⟩ (.int .i64 (f2 10))) = w4 at *
      obtain ⟨⟨z0, z1, z2, z3, z4, z5, z6, z7, z8, z9, z10⟩, ⟨y0, y1, y2, y3, y4, y5, y6, y7, y8, y9, y10⟩, ⟨o0, o1, o2, o3, o4, o5, o6, o7, o8, o9, o10⟩, ⟨p0, p1, p2, p3, p4, p5, p6, p7, p8, p9, p10⟩⟩ := hN4.facts
      have hN4d := hN4.later ((Below.refl _ _).drew)
      go_region_with (go_at_call 54; (with_reducible refine (AT.out _ _ _ (by assumption)).mono ?_); rintro e w5 ⟨v, rfl, hv, hN5⟩; clear z0 z1 z2 z3 z4 z5 z6 z7 z8 z9 z10 y0 y1 y2 y3 y4 y5 y6 y7 y8 y9 y10 o0 o1 o2 o3 o4 o5 o6 o7 o8 o9 o10 p0 p1 p2 p3 p4 p5 p6 p7 p8 p9 p10; obtain ⟨⟨z0, z1, z2, z3, z4, z5, z6, z7, z8, z9, z10⟩, ⟨y0, y1, y2, y3, y4, y5, y6, y7, y8, y9, y10⟩, ⟨o0, o1, o2, o3, o4, o5, o6, o7, o8, o9, o10⟩, ⟨p0, p1, p2, p3, p4, p5, p6, p7, p8, p9, p10⟩⟩ := hN5.facts; have HV := Lib.hid hv; clear hv)
      all_goals go_wp2
      all_goals refine bodyPost_ret (results_sup Tryz.results33 _ _ w.heap.size f2 rfl (SupAt.store hN5.res f2)) rfl ?_
      all_goals exact ⟨v, rfl, HV.out.keep (SupAt.keeps hN5.res f2), below_store hN5.bel (Nat.le_refl _) _ _ _ _ _ _ _ _ _ _ _⟩
    · rw [show errsE 0 e1 e2 = e1 by simp [errsE, h1], if_pos (.inr h1)]
      have hne : (e1 == 0) = false := by simpa using h1
      go_enter Tryz.func33, Tryz.ntmps33
      go_wp2_with (first
        | (go_at_call 78; (with_reducible refine (R.out _ _ hN0).mono ?_); rintro e w1 ⟨A1, m1, c1, rfl, hB1, hN1⟩; have HB1 := Lib.hid hB1; clear hB1)
        | (go_at_call 79; (with_reducible refine (O.out _ _ _ _ _ hN1 HB1.out).mono ?_); rintro e w4 ⟨A2, m2, c2, rfl, hB2, hN4⟩; clear hB2))
      obtain ⟨⟨z0, z1, z2, z3, z4, z5, z6, z7, z8, z9, z10⟩, ⟨y0, y1, y2, y3, y4, y5, y6, y7, y8, y9, y10⟩, ⟨o0, o1, o2, o3, o4, o5, o6, o7, o8, o9, o10⟩, ⟨p0, p1, p2, p3, p4, p5, p6, p7, p8, p9, p10⟩⟩ := hN4.facts
      have hN4d := hN4.later ((Below.refl _ _).drew)
      go_region_with (go_at_call 54; (with_reducible refine (AT.out _ _ _ (by assumption)).mono ?_); rintro e w5 ⟨v, rfl, hv, hN5⟩; clear z0 z1 z2 z3 z4 z5 z6 z7 z8 z9 z10 y0 y1 y2 y3 y4 y5 y6 y7 y8 y9 y10 o0 o1 o2 o3 o4 o5 o6 o7 o8 o9 o10 p0 p1 p2 p3 p4 p5 p6 p7 p8 p9 p10; obtain ⟨⟨z0, z1, z2, z3, z4, z5, z6, z7, z8, z9, z10⟩, ⟨y0, y1, y2, y3, y4, y5, y6, y7, y8, y9, y10⟩, ⟨o0, o1, o2, o3, o4, o5, o6, o7, o8, o9, o10⟩, ⟨p0, p1, p2, p3, p4, p5, p6, p7, p8, p9, p10⟩⟩ := hN5.facts; have HV := Lib.hid hv; clear hv)
      all_goals go_wp2
      all_goals refine bodyPost_ret (results_sup Tryz.results33 _ _ w.heap.size (fun _ => 0) rfl (SupAt.store hN5.res (fun _ => 0))) rfl ?_
      all_goals exact ⟨v, rfl, HV.out.keep (SupAt.keeps hN5.res (fun _ => 0)), below_store hN5.bel (Nat.le_refl _) _ _ _ _ _ _ _ _ _ _ _⟩
  · rw [show errsE e0 e1 e2 = e0 by simp [errsE, h0], if_pos (.inl h0)]
    have hne : (e0 == 0) = false := by simpa using h0
    go_enter Tryz.func33, Tryz.ntmps33
    go_wp2_with (first
      | (go_at_call 78; (with_reducible refine (R.out _ _ hN0).mono ?_); rintro e w4 ⟨A1, m1, c1, rfl, hB1, hN4⟩; clear hB1))
    obtain ⟨⟨z0, z1, z2, z3, z4, z5, z6, z7, z8, z9, z10⟩, ⟨y0, y1, y2, y3, y4, y5, y6, y7, y8, y9, y10⟩, ⟨o0, o1, o2, o3, o4, o5, o6, o7, o8, o9, o10⟩, ⟨p0, p1, p2, p3, p4, p5, p6, p7, p8, p9, p10⟩⟩ := hN4.facts
    have hN4d := hN4.later ((Below.refl _ _).drew)
    go_region_with (go_at_call 54; (with_reducible refine (AT.out _ _ _ (by assumption)).mono ?_); rintro e w5 ⟨v, rfl, hv, hN5⟩; clear z0 z1 z2 z3 z4 z5 z6 z7 z8 z9 z10 y0 y1 y2 y3 y4 y5 y6 y7 y8 y9 y10 o0 o1 o2 o3 o4 o5 o6 o7 o8 o9 o10 p0 p1 p2 p3 p4 p5 p6 p7 p8 p9 p10; obtain ⟨⟨z0, z1, z2, z3, z4, z5, z6, z7, z8, z9, z10⟩, ⟨y0, y1, y2, y3, y4, y5, y6, y7, y8, y9, y10⟩, ⟨o0, o1, o2, o3, o4, o5, o6, o7, o8, o9, o10⟩, ⟨p0, p1, p2, p3, p4, p5, p6, p7, p8, p9, p10⟩⟩ := hN5.facts; have HV := Lib.hid hv; clear hv)
    all_goals go_wp2
    all_goals refine bodyPost_ret (results_sup Tryz.results33 _ _ w.heap.size (fun _ => 0) rfl (SupAt.store hN5.res (fun _ => 0))) rfl ?_
    all_goals exact ⟨v, rfl, HV.out.keep (SupAt.keeps hN5.res (fun _ => 0)), below_store hN5.bel (Nat.le_refl _) _ _ _ _ _ _ _ _ _ _ _⟩

end Go.Proofs.YtbeobbanppkmhaaGreatDoor

/-
  block.Super: its closure, and the whole.
-/
namespace Go.Proofs.YtbeobbanppkmhaaGreatDoor
open Go.RowKit
set_option linter.unusedVariables false
set_option linter.unusedSimpArgs false

/-- what the closure tells of a payload -/
def supD11 (b : List UInt8) (n : Nat) : Int := if readE b ≠ 0 then readE b else if (n : Int) < readS b 4 then 2 else 0

structure ClS (w W : World) (q : Nat) (pv : Value) : Prop where
  res : SupAt W w.heap.size (fun _ => 0)
  cap : W.cell? ⟨q, 0, none⟩ = some pv
  bel : Below w.heap.size w W
theorem ClS.later {w W W' : World} {q : Nat} {pv : Value} (h : ClS w W q pv) (hb : Below W.heap.size W W') : ClS w W' q pv := ⟨h.res.later hb, (hb.cell (p := ⟨q, 0, none⟩) (cell_lt h.cap)).trans h.cap, h.bel.trans (hb.mono h.bel.size)⟩
theorem ClS.start {w : World} {q : Nat} {pv : Value} (h : w.cell? ⟨q, 0, none⟩ = some pv) : ClS w (w.alloc (.cells #[.int .i64 0, .int .i64 0, .int .i64 0, .int .i64 0, .int .i64 0, .int .i64 0, .int .i64 0, .int .i64 0, .int .i64 0, .int .i64 0, .int .i64 0] 29)) q pv := by
  have hb : Below w.heap.size w (w.alloc (.cells #[.int .i64 0, .int .i64 0, .int .i64 0, .int .i64 0, .int .i64 0, .int .i64 0, .int .i64 0, .int .i64 0, .int .i64 0, .int .i64 0, .int .i64 0] 29)) := (Below.refl _ _).alloc (Nat.le_refl _) _
  exact ⟨heap_alloc_new w _, (hb.cell (p := ⟨q, 0, none⟩) (cell_lt h)).trans h, hb⟩

set_option maxRecDepth 100000 in
set_option maxHeartbeats 3200000 in
theorem superC_any {A : Option Addr} {m c : Nat} {b : List UInt8} (w : World) (q : Nat) (pv : Value) (n : Nat) (hB : Bytes8 w A m c b) (hq : w.cell? ⟨q, 0, none⟩ = some pv)
    (BL : ∀ W, Below w.heap.size w W → Calls Tryz.prog 36 #[pv] W fun e w' => e = .returned (.int .i64 (n : Int)) ∧ W = w') :
    Calls Tryz.prog 34 #[.slice A m c, .pointer (some ⟨q, 0, none⟩)] w fun e w' => e = .returned (.tuple #[supV (if supD11 b n = 0 then readS b else fun _ => 0), .int .i64 (supD11 b n)]) ∧ Below w.heap.size w w' := by
  have SR : Hid (∀ W, ClS w W q pv → Calls Tryz.prog 35 #[.slice A m c] W fun e w' => e = .returned (.tuple #[supV (readS b), .int .i64 (readE b)]) ∧ ClS w w' q pv) := fun W h => (SRead_any A m c b W (hB.below h.bel)).mono fun e w' ⟨h1, h2⟩ => ⟨h1, h.later h2⟩
  have HBL : Hid (∀ W, ClS w W q pv → Calls Tryz.prog 36 #[pv] W fun e w' => e = .returned (.int .i64 (n : Int)) ∧ w' = W) := fun W h => (BL W h.bel).mono fun e w' ⟨h1, h2⟩ => ⟨h1, h2.symm⟩
  have hN0 := ClS.start (w := w) hq
  have hf : readE b ≠ 0 → readS b = fun _ => 0 := fun h => by rw [readS, if_neg h]
  have HF := Lib.hid hf
  obtain ⟨X, hX⟩ : ∃ X, supD11 b n = X := ⟨_, rfl⟩
  rw [hX]
  unfold supD11 at hX
  obtain ⟨R, hR⟩ : ∃ R : Nat → Int, (if X = 0 then readS b else fun _ => 0) = R := ⟨_, rfl⟩
  rw [hR]
  have HX := Lib.hid hX
  have HR := Lib.hid hR
  simp only [supV, supC] at SR
  clear BL hB hf hX hq hR
  generalize readS b = f at *
  generalize readE b = x at *
  go_enter Tryz.func34, Tryz.ntmps34
  go_wp2_with (go_at_call 35; (with_reducible refine (SR.out _ hN0).mono ?_); rintro e w1 ⟨rfl, hN1⟩)
  have hN2 := hN1.later ((Below.refl _ _).alloc (Nat.le_refl _) (.cells #[.int .i64 (f 0), .int .i64 (f 1), .int .i64 (f 2), .int .i64 (f 3), .int .i64 (f 4), .int .i64 (f 5), .int .i64 (f 6), .int .i64 (f 7), .int .i64 (f 8), .int .i64 (f 9), .int .i64 (f 10)] 29))
  have hS2 : SupAt (w1.alloc (.cells #[.int .i64 (f 0), .int .i64 (f 1), .int .i64 (f 2), .int .i64 (f 3), .int .i64 (f 4), .int .i64 (f 5), .int .i64 (f 6), .int .i64 (f 7), .int .i64 (f 8), .int .i64 (f 9), .int .i64 (f 10)] 29)) w1.heap.size f := heap_alloc_new w1 _
  clear hN0 hN1 SR
  generalize w1.alloc (.cells #[.int .i64 (f 0), .int .i64 (f 1), .int .i64 (f 2), .int .i64 (f 3), .int .i64 (f 4), .int .i64 (f 5), .int .i64 (f 6), .int .i64 (f 7), .int .i64 (f 8), .int .i64 (f 9), .int .i64 (f 10)] 29) = w2 at *
  generalize w1.heap.size = p at *
  have q4 := hS2.cell (k := 4) (by omega)
  have qc := hN2.cap
  by_cases hx : x = 0
  · subst hx
    by_cases hn : (n : Int) < f 4
    · have hd : decide ((n : Int) < f 4) = true := decide_eq_true hn
      have e : X = 2 := by rw [← HX.out, if_neg (by simp), if_pos hn]
      have eR : R = fun _ => 0 := by rw [← HR.out, e, if_neg (by decide)]
      have HE := Lib.hid (And.intro e eR)
      clear HX hn HF HR e eR
      go_quiet (first | (go_at_call 36; refine Calls.quiet_of_same (HBL.out _ (hN2.later (below_drewN (Below.refl _ _) _)))))
      have hN3 := hN2.later (below_drewN (Below.refl _ _) nq)
      clear hN2 hS2 q4 qc
      generalize w2.drewN nq = w3 at *
      obtain ⟨z0, z1, z2, z3, z4, z5, z6, z7, z8, z9, z10⟩ := hN3.res.cs
      obtain ⟨y0, y1, y2, y3, y4, y5, y6, y7, y8, y9, y10⟩ := hN3.res.fs
      go_wp2
      refine bodyPost_ret (results_sup Tryz.results34 _ _ w.heap.size (fun _ => 0) rfl (SupAt.store hN3.res (fun _ => 0))) rfl ?_
      exact ⟨by rw [HE.out.1, HE.out.2]; rfl, below_store hN3.bel (Nat.le_refl _) _ _ _ _ _ _ _ _ _ _ _⟩
    · have hd : decide ((n : Int) < f 4) = false := decide_eq_false hn
      have e : X = 0 := by rw [← HX.out, if_neg (by simp), if_neg hn]
      have eR : R = f := by rw [← HR.out, e, if_pos rfl]
      have HE := Lib.hid (And.intro e eR)
      clear HX hn HF HR e eR
      go_quiet (first | (go_at_call 36; refine Calls.quiet_of_same (HBL.out _ (hN2.later (below_drewN (Below.refl _ _) _)))))
      have hN3 := hN2.later (below_drewN (Below.refl _ _) nq)
      have hS3 := hS2.later (below_drewN (Below.refl _ _) nq)
      clear hN2 hS2 q4 qc
      generalize w2.drewN nq = w3 at *
      obtain ⟨z0, z1, z2, z3, z4, z5, z6, z7, z8, z9, z10⟩ := hN3.res.cs
      obtain ⟨y0, y1, y2, y3, y4, y5, y6, y7, y8, y9, y10⟩ := hN3.res.fs
      obtain ⟨s0, s1, s2, s3, s4, s5, s6, s7, s8, s9, s10⟩ := hS3.cs
      go_wp2
      refine bodyPost_ret (results_sup Tryz.results34 _ _ w.heap.size f rfl (SupAt.store hN3.res f)) rfl ?_
      exact ⟨by rw [HE.out.1, HE.out.2]; rfl, below_store hN3.bel (Nat.le_refl _) _ _ _ _ _ _ _ _ _ _ _⟩
  · have hxb : (x == 0) = false := by simpa using hx
    have e : X = x := by rw [← HX.out, if_pos hx]
    obtain rfl := HF.out hx
    have eR : R = fun _ => 0 := by rw [← HR.out, e, if_neg hx]
    have HE := Lib.hid (And.intro e eR)
    clear HX hx HF HR e eR
    go_quiet (fail)
    have hN3 := hN2.later (below_drewN (Below.refl _ _) nq)
    have hS3 := hS2.later (below_drewN (Below.refl _ _) nq)
    clear hN2 hS2 q4 qc
    generalize w2.drewN nq = w3 at *
    obtain ⟨z0, z1, z2, z3, z4, z5, z6, z7, z8, z9, z10⟩ := hN3.res.cs
    obtain ⟨y0, y1, y2, y3, y4, y5, y6, y7, y8, y9, y10⟩ := hN3.res.fs
    obtain ⟨s0, s1, s2, s3, s4, s5, s6, s7, s8, s9, s10⟩ := hS3.cs
    go_wp2
    refine bodyPost_ret (results_sup Tryz.results34 _ _ w.heap.size (fun _ => 0) rfl (SupAt.store hN3.res (fun _ => 0))) rfl ?_
    exact ⟨by rw [HE.out.1, HE.out.2]; rfl, below_store hN3.bel (Nat.le_refl _) _ _ _ _ _ _ _ _ _ _ _⟩

/-- block.Super: the captured image, the result's variable -/
structure OuS (w W : World) (pv : Value) : Prop where
  cap : W.cell? ⟨w.heap.size, 0, none⟩ = some pv
  res : SupAt W (w.heap.size + 1) (fun _ => 0)
  bel : Below w.heap.size w W
theorem OuS.later {w W W' : World} {pv : Value} (h : OuS w W pv) (hb : Below W.heap.size W W') : OuS w W' pv := ⟨(hb.cell (p := ⟨w.heap.size, 0, none⟩) (cell_lt h.cap)).trans h.cap, h.res.later hb, h.bel.trans (hb.mono h.bel.size)⟩
theorem OuS.start (w : World) (a : Option Addr) : OuS w ((w.alloc (.cells #[.pointer a] 24)).alloc (.cells #[.int .i64 0, .int .i64 0, .int .i64 0, .int .i64 0, .int .i64 0, .int .i64 0, .int .i64 0, .int .i64 0, .int .i64 0, .int .i64 0, .int .i64 0] 29)) (.pointer a) := by
  obtain ⟨h1, h2, h3⟩ := two_new w (.cells #[.pointer a] 24) (.cells #[.int .i64 0, .int .i64 0, .int .i64 0, .int .i64 0, .int .i64 0, .int .i64 0, .int .i64 0, .int .i64 0, .int .i64 0, .int .i64 0, .int .i64 0] 29)
  exact ⟨by rw [cell_of_row _ w.heap.size 0 _ _ _ h1]; rfl, h2, h3⟩

set_option maxRecDepth 100000 in
set_option maxHeartbeats 1600000 in
theorem blockSuper_of (a : Option Addr) (w : World) {x : Int} {f : Nat → Int} (H : ∀ W q, Below w.heap.size w W → W.cell? ⟨q, 0, none⟩ = some (.pointer a) → Calls Tryz.prog 33 #[.pointer a, .int .i64 0, .int .i64 1, .func (.func 34) #[] #[.pointer (some ⟨q, 0, none⟩)]] W fun e w' => ∃ v, e = .returned (.tuple #[supV f, v]) ∧ ErrAt w' v 0 x ∧ Below W.heap.size W w') :
    Calls Tryz.prog 10 #[.pointer a] w fun e w' => ∃ v, e = .returned (.tuple #[supV f, v]) ∧ ErrAt w' v 0 x ∧ Below w.heap.size w w' := by
  have hmf : ∀ (fn : Fn) (first cap : Array Value) (w : World), (Instr.makeFunc fn first cap).run Tryz.prog w = .ok (.func fn first cap) w := fun _ _ _ _ => rfl
  have R : Hid (∀ W, OuS w W (.pointer a) → Calls Tryz.prog 33 #[.pointer a, .int .i64 0, .int .i64 1, .func (.func 34) #[] #[.pointer (some ⟨w.heap.size, 0, none⟩)]] W fun e w' => ∃ v, e = .returned (.tuple #[supV f, v]) ∧ ErrAt w' v 0 x ∧ OuS w w' (.pointer a)) := fun W h => (H W _ h.bel h.cap).mono fun e w' ⟨v, h1, h2, h3⟩ => ⟨v, h1, h2, h.later h3⟩
  have hN0 := OuS.start w a
  have c0 := hN0.cap
  simp only [supV, supC] at R
  clear H
  go_enter Tryz.func10, Tryz.ntmps10
  go_wp2_with (go_at_call 33; (with_reducible refine (R.out _ hN0).mono ?_); rintro e w1 ⟨v, rfl, hv, hN1⟩; have HV := Lib.hid hv; clear hv; obtain ⟨z0, z1, z2, z3, z4, z5, z6, z7, z8, z9, z10⟩ := hN1.res.cs; obtain ⟨y0, y1, y2, y3, y4, y5, y6, y7, y8, y9, y10⟩ := hN1.res.fs)
  refine bodyPost_ret (results_sup Tryz.results10 _ _ (w.heap.size + 1) f rfl (SupAt.store hN1.res f)) rfl ?_
  exact ⟨v, rfl, HV.out.keep (SupAt.keeps hN1.res f), below_store hN1.bel (by omega) _ _ _ _ _ _ _ _ _ _ _⟩

/-- of an image -/
theorem blockSuper_any {w : World} {B p g n : Nat} {L : List UInt8} (h : Img w B p g L) (hL : L.length = n * 256) :
    Calls Tryz.prog 10 #[.pointer (some ⟨p, 0, none⟩)] w fun e w' => ∃ v, e = .returned (.tuple #[supV (supF11 L n), v]) ∧ ErrAt w' v 0 (supE11 L n) ∧ Below w.heap.size w w' := by
  refine blockSuper_of _ w fun W q hW hq => ?_
  have hI := h.later hW
  have CL : ∀ b1, ∀ W' A m c, Below W.heap.size W W' → Bytes8 W' A m c b1 → Calls Tryz.prog 34 #[.slice A m c, .pointer (some ⟨q, 0, none⟩)] W' fun e w' => e = .returned (.tuple #[supV (if supD11 b1 n = 0 then readS b1 else fun _ => 0), .int .i64 (supD11 b1 n)]) ∧ Below W'.heap.size W' w' := fun b1 W' A m c hb hB =>
    superC_any W' q _ n hB ((hb.cell (p := ⟨q, 0, none⟩) (cell_lt hq)).trans hq) fun V hV => Blocks_img V ((hI.later hb).later hV) hL
  cases ho : outB n 0 with
  | true =>
    have := readSuper_any _ 0 W q (rdOk_out hI hL ho) (opOk 1 0 []) (CL _)
    have e1 : inE11 L n 0 1 = 3 := by rw [inE11, ho]; rfl
    rw [show errsE 3 _ _ = 3 from rfl, if_pos (.inl (by decide))] at this
    have e3 : supE11 L n = 3 := by rw [supE11, e1, if_pos (by decide)]
    rw [supF11, e3, if_neg (by decide)]
    exact this
  | false =>
    have := readSuper_any _ 0 W q (rdOk_in hI hL ho) (opOk 1 0 _) (CL _)
    have e1 : inE11 L n 0 1 = openE (blk L (0 : Int).toNat) 1 0 := by rw [inE11, ho]; rfl
    have e2 : inB11 L n 0 1 = openB (blk L (0 : Int).toNat) 1 0 := by rw [inB11, ho]; rfl
    by_cases hz : openE (blk L (0 : Int).toNat) 1 0 = 0
    · rw [hz, show errsE 0 0 _ = _ from rfl, if_neg (by simp), ← e2] at this
      have e3 : supE11 L n = supD11 (inB11 L n 0 1) n := by
        unfold supE11 supD11
        rw [if_neg (by rw [e1]; exact fun h => h hz)]
      rw [supF11, e3]
      exact this
    · rw [show errsE 0 (openE (blk L (0 : Int).toNat) 1 0) _ = openE (blk L (0 : Int).toNat) 1 0 from by rw [errsE, if_neg (by simp), if_pos hz], if_pos (.inr hz)] at this
      have e3 : supE11 L n = openE (blk L (0 : Int).toNat) 1 0 := by rw [supE11, e1, if_pos hz]
      rw [supF11, e3, if_neg hz]
      exact this
end Go.Proofs.YtbeobbanppkmhaaGreatDoor

/-
  block.read for a node; block.Node.
-/
namespace Go.Proofs.YtbeobbanppkmhaaGreatDoor
open Go.RowKit
set_option linter.unusedVariables false
set_option linter.unusedSimpArgs false

theorem NodIn.newer {w w' : World} {nd : Nod} {A : Option Addr} {n c : Nat} {A2 : Option Addr} {n2 c2 : Nat} {B : Nat} (h : NodIn w nd A n c A2 n2 c2) (h1 : Newer B A) (h2 : Newer B A2) (hk : ∀ k, B ≤ k → w'.heap[k]? = w.heap[k]?) : NodIn w' nd A n c A2 n2 c2 :=
  ⟨h.keys.newer h1 hk, ⟨h.vals.len, h.vals.cap, h.vals.most, h.vals.row.newer h2 hk⟩, h.tb, h.kb, h.vb⟩
theorem four_keep (w : World) (g : Nat) (a b c d : Value) {B : Nat} (hg : g < B) (k : Nat) (hk : B ≤ k) : ((((w.setCell ⟨g, 0, none⟩ a).setCell ⟨g, 1, none⟩ b).setCell ⟨g, 2, none⟩ c).setCell ⟨g, 3, none⟩ d).heap[k]? = w.heap[k]? := by
  rw [heap_setCell_other _ _ k _ (by show k ≠ g; omega), heap_setCell_other _ _ k _ (by show k ≠ g; omega), heap_setCell_other _ _ k _ (by show k ≠ g; omega), heap_setCell_other _ _ k _ (by show k ≠ g; omega)]
theorem NodAt.keeps {w : World} {g : Nat} {tree : Int} {leaf : Bool} {s1 s2 : Value} (h : NodAt w g tree leaf s1 s2) (a b c d : Value) : Keeps w ((((w.setCell ⟨g, 0, none⟩ a).setCell ⟨g, 1, none⟩ b).setCell ⟨g, 2, none⟩ c).setCell ⟨g, 3, none⟩ d) := fun p x e => by
  have hg : p ≠ g := fun hg => by
    subst hg
    rw [show w.heap[p]? = _ from h] at e
    injection e with e
    injection e with _ e2 _
    exact absurd e2 (by decide)
  rw [heap_setCell_other _ _ p _ hg, heap_setCell_other _ _ p _ hg, heap_setCell_other _ _ p _ hg, heap_setCell_other _ _ p _ hg]
  exact e

/-- while a node is read: the result's variable, what is read, all below as it was -/
structure RdNd (w W : World) (tree : Int) (leaf : Bool) (s1 s2 : Value) : Prop where
  res : NodAt W w.heap.size 0 false (.slice none 0 0) (.slice none 0 0)
  out : NodAt W (w.heap.size + 1) tree leaf s1 s2
  bel : Below w.heap.size w W
section
variable {w W W' : World} {tree : Int} {leaf : Bool} {s1 s2 : Value}
theorem RdNd.later (h : RdNd w W tree leaf s1 s2) (hb : Below W.heap.size W W') : RdNd w W' tree leaf s1 s2 := ⟨h.res.later hb, h.out.later hb, h.bel.trans (hb.mono h.bel.size)⟩
theorem RdNd.facts (h : RdNd w W tree leaf s1 s2) : NodC4 W w.heap.size 0 false (.slice none 0 0) (.slice none 0 0) ∧ NodC4 W (w.heap.size + 1) tree leaf s1 s2 := ⟨h.res.cs, h.out.cs⟩
theorem RdNd.low (h : RdNd w W tree leaf s1 s2) : w.heap.size + 2 ≤ W.heap.size := by have := block_lt h.out; omega
theorem RdNd.start (w : World) : RdNd w ((w.alloc (.cells #[.int .i64 0, .bool false, .slice none 0 0, .slice none 0 0] 41)).alloc (.cells #[.int .i64 0, .bool false, .slice none 0 0, .slice none 0 0] 41)) 0 false (.slice none 0 0) (.slice none 0 0) := by
  obtain ⟨h1, h2, h3⟩ := two_new w (.cells #[.int .i64 0, .bool false, .slice none 0 0, .slice none 0 0] 41) (.cells #[.int .i64 0, .bool false, .slice none 0 0, .slice none 0 0] 41)
  exact ⟨h1, h2, h3⟩
theorem RdNd.store (h : RdNd w W tree leaf s1 s2) (tree' : Int) (leaf' : Bool) (s1' s2' : Value) : RdNd w ((((W.setCell ⟨w.heap.size + 1, 0, none⟩ (.int .i64 tree')).setCell ⟨w.heap.size + 1, 1, none⟩ (.bool leaf')).setCell ⟨w.heap.size + 1, 2, none⟩ s1').setCell ⟨w.heap.size + 1, 3, none⟩ s2') tree' leaf' s1' s2' :=
  ⟨four_other h.res (by omega) _ _ _ _, h.out.store _ _ _ _, below_store7 h.bel (by omega) _ _ _ _⟩
end

set_option maxRecDepth 100000 in
set_option maxHeartbeats 3200000 in
theorem readNode_any (pv : Value) (no : Int) (w : World) (q : Nat) {e0 e1 e2 : Int} {b0 b1 : List UInt8} {nd2 : Nod} (HR : RdOk w pv no e0 b0) (HO : OpOk 2 no e1 b0 b1)
    (D : ∀ W A m c, Below w.heap.size w W → Bytes8 W A m c b1 → Calls Tryz.prog 41 #[.slice A m c, .pointer (some ⟨q, 0, none⟩)] W fun e w' => ∃ A5 n5 c5 A6 n6 c6, e = .returned (.tuple #[nodV nd2 A5 n5 c5 A6 n6 c6, .int .i64 e2]) ∧ NodIn w' nd2 A5 n5 c5 A6 n6 c6 ∧ Below W.heap.size W w' ∧ Newer W.heap.size A5 ∧ Newer W.heap.size A6) :
    Calls Tryz.prog 40 #[pv, .int .i64 no, .int .i64 2, .func (.func 41) #[] #[.pointer (some ⟨q, 0, none⟩)]] w fun e w' => ∃ v A5 n5 c5 A6 n6 c6, e = .returned (.tuple #[nodV (if e0 ≠ 0 ∨ e1 ≠ 0 then Nod.zero else nd2) A5 n5 c5 A6 n6 c6, v]) ∧ NodIn w' (if e0 ≠ 0 ∨ e1 ≠ 0 then Nod.zero else nd2) A5 n5 c5 A6 n6 c6 ∧ ErrAt w' v no (errsE e0 e1 e2) ∧ Below w.heap.size w w' ∧ Newer w.heap.size A5 ∧ Newer w.heap.size A6 := by
  have AT : Hid (∀ W x tree leaf s1 s2, RdNd w W tree leaf s1 s2 → Calls Tryz.prog 54 #[.int .i64 no, .iface 64 (.int .i64 x)] W fun e w' => ∃ v, e = .returned v ∧ ErrAt w' v no x ∧ RdNd w w' tree leaf s1 s2 ∧ Below W.heap.size W w') := fun W x tree leaf s1 s2 h => (bat_any no x W).mono fun e w' ⟨v, h1, h2, h3⟩ => ⟨v, h1, h2, h.later h3, h3⟩
  have R : Hid (∀ W tree leaf s1 s2, RdNd w W tree leaf s1 s2 → Calls Tryz.prog 78 #[pv, .int .i64 no] W fun e w' => ∃ A m c, e = .returned (.tuple #[.slice A m c, .int .i64 e0]) ∧ Bytes8 w' A m c b0 ∧ RdNd w w' tree leaf s1 s2) := fun W tree leaf s1 s2 h => (HR W h.bel).mono fun e w' ⟨A, m, c, h1, h2, h3⟩ => ⟨A, m, c, h1, h2, h.later h3⟩
  have O : Hid (∀ W A m c tree leaf s1 s2, RdNd w W tree leaf s1 s2 → Bytes8 W A m c b0 → Calls Tryz.prog 79 #[.slice A m c, .int .i64 2, .int .i64 no] W fun e w' => ∃ A' m' c', e = .returned (.tuple #[.slice A' m' c', .int .i64 e1]) ∧ Bytes8 w' A' m' c' b1 ∧ RdNd w w' tree leaf s1 s2) := fun W A m c tree leaf s1 s2 h hB => (HO W A m c hB).mono fun e w' ⟨A, m, c, h1, h2, h3⟩ => ⟨A, m, c, h1, h2, h.later h3⟩
  obtain ⟨tree, leaf, ks, vs⟩ := nd2
  have D2 : Hid (∀ W A m c tr lf s1 s2, RdNd w W tr lf s1 s2 → Bytes8 W A m c b1 → Calls Tryz.prog 41 #[.slice A m c, .pointer (some ⟨q, 0, none⟩)] W fun e w' => ∃ A5 n5 c5 A6 n6 c6, e = .returned (.tuple #[.agg #[.int .i64 tree, .bool leaf, .slice A5 n5 c5, .slice A6 n6 c6], .int .i64 e2]) ∧ NodIn w' ⟨tree, leaf, ks, vs⟩ A5 n5 c5 A6 n6 c6 ∧ RdNd w w' tr lf s1 s2 ∧ Newer (w.heap.size + 2) A5 ∧ Newer (w.heap.size + 2) A6) := fun W A m c tr lf s1 s2 h hB => (D W A m c h.bel hB).mono fun e w' ⟨A5, n5, c5, A6, n6, c6, h1, h2, h3, h4, h5⟩ => ⟨A5, n5, c5, A6, n6, c6, h1, h2, h.later h3, h4.mono h.low, h5.mono h.low⟩
  have hN0 := RdNd.start w
  clear HR HO D
  by_cases h0 : e0 = 0
  · subst h0
    by_cases h1 : e1 = 0
    · subst h1
      rw [show errsE 0 0 e2 = e2 by simp [errsE], if_neg (by simp)]
      go_enter Tryz.func40, Tryz.ntmps40
      go_wp2_with (first
        | (go_at_call 78; (with_reducible refine (R.out _ _ _ _ _ hN0).mono ?_); rintro e w1 ⟨A1, m1, c1, rfl, hB1, hN1⟩; have HB1 := Lib.hid hB1; clear hB1)
        | (go_at_call 79; (with_reducible refine (O.out _ _ _ _ _ _ _ _ hN1 HB1.out).mono ?_); rintro e w2 ⟨A2, m2, c2, rfl, hB2, hN2⟩; have HB2 := Lib.hid hB2; clear hB2)
        | (go_at_call 41; (with_reducible refine (D2.out _ _ _ _ _ _ _ _ hN2 HB2.out).mono ?_); rintro e w3 ⟨A5, n5, c5, A6, n6, c6, rfl, hI3, hN3, hn5, hn6⟩; have HI3 := Lib.hid hI3; have HN5 := Lib.hid hn5; have HN6 := Lib.hid hn6; clear hI3 hn5 hn6; obtain ⟨⟨⟨z0, z1, z2, z3⟩, y0, y1, y2, y3⟩, ⟨⟨o0, o1, o2, o3⟩, p0, p1, p2, p3⟩⟩ := hN3.facts))
      have hN4 := hN3.store tree leaf (.slice A5 n5 c5) (.slice A6 n6 c6)
      have HI4 := Lib.hid (HI3.out.newer HN5.out HN6.out (four_keep w3 (w.heap.size + 1) (.int .i64 tree) (.bool leaf) (.slice A5 n5 c5) (.slice A6 n6 c6) (by omega)))
      clear z0 z1 z2 z3 y0 y1 y2 y3 o0 o1 o2 o3 p0 p1 p2 p3
      clear hN0 hN1 hN2 hN3 R O D2 HI3
      generalize ((((w3.setCell ⟨w.heap.size + 1, 0, none⟩ (.int .i64 tree)).setCell ⟨w.heap.size + 1, 1, none⟩ (.bool leaf)).setCell ⟨w.heap.size + 1, 2, none⟩ (.slice A5 n5 c5)).setCell ⟨w.heap.size + 1, 3, none⟩ (.slice A6 n6 c6)) = w4 at *
      obtain ⟨⟨⟨z0, z1, z2, z3⟩, y0, y1, y2, y3⟩, ⟨⟨o0, o1, o2, o3⟩, p0, p1, p2, p3⟩⟩ := hN4.facts
      have hN4d := hN4.later ((Below.refl _ _).drew)
      have HI4d : Hid (NodIn w4.drew ⟨tree, leaf, ks, vs⟩ A5 n5 c5 A6 n6 c6) := HI4.out.below ((Below.refl _ _).drew)
      go_region_with (go_at_call 54; (with_reducible refine (AT.out _ _ _ _ _ _ (by assumption)).mono ?_); rintro e w5 ⟨v, rfl, hv, hN5, hb5⟩; have HI5 : Hid (NodIn w5 ⟨tree, leaf, ks, vs⟩ A5 n5 c5 A6 n6 c6) := (by first | exact HI4d.out.below hb5 | exact HI4.out.below hb5); clear z0 z1 z2 z3 y0 y1 y2 y3 o0 o1 o2 o3 p0 p1 p2 p3; obtain ⟨⟨⟨z0, z1, z2, z3⟩, y0, y1, y2, y3⟩, ⟨⟨o0, o1, o2, o3⟩, p0, p1, p2, p3⟩⟩ := hN5.facts; have HV := Lib.hid hv; clear hv)
      all_goals go_wp2
      all_goals refine bodyPost_ret (results_nod Tryz.results40 _ _ w.heap.size tree leaf (.slice A5 n5 c5) (.slice A6 n6 c6) rfl rfl rfl (hN5.res.store _ _ _ _)) rfl ?_
      all_goals exact ⟨v, A5, n5, c5, A6, n6, c6, rfl, HI5.out.newer HN5.out HN6.out (four_keep w5 w.heap.size _ _ _ _ (by omega)), HV.out.keep (hN5.res.keeps _ _ _ _), below_store7 hN5.bel (Nat.le_refl _) _ _ _ _, HN5.out.mono (by omega), HN6.out.mono (by omega)⟩
    · rw [show errsE 0 e1 e2 = e1 by simp [errsE, h1], if_pos (.inr h1)]
      have hne : (e1 == 0) = false := by simpa using h1
      go_enter Tryz.func40, Tryz.ntmps40
      go_wp2_with (first
        | (go_at_call 78; (with_reducible refine (R.out _ _ _ _ _ hN0).mono ?_); rintro e w1 ⟨A1, m1, c1, rfl, hB1, hN1⟩; have HB1 := Lib.hid hB1; clear hB1)
        | (go_at_call 79; (with_reducible refine (O.out _ _ _ _ _ _ _ _ hN1 HB1.out).mono ?_); rintro e w4 ⟨A2, m2, c2, rfl, hB2, hN4⟩; clear hB2))
      obtain ⟨⟨⟨z0, z1, z2, z3⟩, y0, y1, y2, y3⟩, ⟨⟨o0, o1, o2, o3⟩, p0, p1, p2, p3⟩⟩ := hN4.facts
      have hN4d := hN4.later ((Below.refl _ _).drew)
      go_region_with (go_at_call 54; (with_reducible refine (AT.out _ _ _ _ _ _ (by assumption)).mono ?_); rintro e w5 ⟨v, rfl, hv, hN5, hb5⟩; clear z0 z1 z2 z3 y0 y1 y2 y3 o0 o1 o2 o3 p0 p1 p2 p3; obtain ⟨⟨⟨z0, z1, z2, z3⟩, y0, y1, y2, y3⟩, ⟨⟨o0, o1, o2, o3⟩, p0, p1, p2, p3⟩⟩ := hN5.facts; have HV := Lib.hid hv; clear hv)
      all_goals go_wp2
      all_goals refine bodyPost_ret (results_nod Tryz.results40 _ _ w.heap.size 0 false (.slice none 0 0) (.slice none 0 0) rfl rfl rfl (hN5.res.store _ _ _ _)) rfl ?_
      all_goals exact ⟨v, none, 0, 0, none, 0, 0, rfl, NodIn.zero _, HV.out.keep (hN5.res.keeps _ _ _ _), below_store7 hN5.bel (Nat.le_refl _) _ _ _ _, Newer.nil _, Newer.nil _⟩
  · rw [show errsE e0 e1 e2 = e0 by simp [errsE, h0], if_pos (.inl h0)]
    have hne : (e0 == 0) = false := by simpa using h0
    go_enter Tryz.func40, Tryz.ntmps40
    go_wp2_with (first
      | (go_at_call 78; (with_reducible refine (R.out _ _ _ _ _ hN0).mono ?_); rintro e w4 ⟨A1, m1, c1, rfl, hB1, hN4⟩; clear hB1))
    obtain ⟨⟨⟨z0, z1, z2, z3⟩, y0, y1, y2, y3⟩, ⟨⟨o0, o1, o2, o3⟩, p0, p1, p2, p3⟩⟩ := hN4.facts
    have hN4d := hN4.later ((Below.refl _ _).drew)
    go_region_with (go_at_call 54; (with_reducible refine (AT.out _ _ _ _ _ _ (by assumption)).mono ?_); rintro e w5 ⟨v, rfl, hv, hN5, hb5⟩; clear z0 z1 z2 z3 y0 y1 y2 y3 o0 o1 o2 o3 p0 p1 p2 p3; obtain ⟨⟨⟨z0, z1, z2, z3⟩, y0, y1, y2, y3⟩, ⟨⟨o0, o1, o2, o3⟩, p0, p1, p2, p3⟩⟩ := hN5.facts; have HV := Lib.hid hv; clear hv)
    all_goals go_wp2
    all_goals refine bodyPost_ret (results_nod Tryz.results40 _ _ w.heap.size 0 false (.slice none 0 0) (.slice none 0 0) rfl rfl rfl (hN5.res.store _ _ _ _)) rfl ?_
    all_goals exact ⟨v, none, 0, 0, none, 0, 0, rfl, NodIn.zero _, HV.out.keep (hN5.res.keeps _ _ _ _), below_store7 hN5.bel (Nat.le_refl _) _ _ _ _, Newer.nil _, Newer.nil _⟩

/-- what the closure tells of a payload -/
def nodD11 (b : List UInt8) (tree : Int) : Int := if readNE b ≠ 0 then readNE b else if tree ≠ 0 ∧ (readN b).tree ≠ tree then 6 else 0

structure ClN (w W : World) (q : Nat) (pv : Value) : Prop where
  res : NodAt W w.heap.size 0 false (.slice none 0 0) (.slice none 0 0)
  cap : W.cell? ⟨q, 0, none⟩ = some pv
  bel : Below w.heap.size w W
theorem ClN.later {w W W' : World} {q : Nat} {pv : Value} (h : ClN w W q pv) (hb : Below W.heap.size W W') : ClN w W' q pv := ⟨h.res.later hb, (hb.cell (p := ⟨q, 0, none⟩) (cell_lt h.cap)).trans h.cap, h.bel.trans (hb.mono h.bel.size)⟩
theorem ClN.start {w : World} {q : Nat} {pv : Value} (h : w.cell? ⟨q, 0, none⟩ = some pv) : ClN w (w.alloc (.cells #[.int .i64 0, .bool false, .slice none 0 0, .slice none 0 0] 41)) q pv := by
  have hb : Below w.heap.size w (w.alloc (.cells #[.int .i64 0, .bool false, .slice none 0 0, .slice none 0 0] 41)) := (Below.refl _ _).alloc (Nat.le_refl _) _
  exact ⟨heap_alloc_new w _, (hb.cell (p := ⟨q, 0, none⟩) (cell_lt h)).trans h, hb⟩

set_option maxRecDepth 100000 in
set_option maxHeartbeats 3200000 in
theorem nodeC_any {A : Option Addr} {m c : Nat} {b : List UInt8} (w : World) (q : Nat) (tr : Int) (hB : Bytes8 w A m c b) (hq : w.cell? ⟨q, 0, none⟩ = some (.int .i64 tr)) :
    Calls Tryz.prog 41 #[.slice A m c, .pointer (some ⟨q, 0, none⟩)] w fun e w' => ∃ A5 n5 c5 A6 n6 c6, e = .returned (.tuple #[nodV (if nodD11 b tr = 0 then readN b else Nod.zero) A5 n5 c5 A6 n6 c6, .int .i64 (nodD11 b tr)]) ∧ NodIn w' (if nodD11 b tr = 0 then readN b else Nod.zero) A5 n5 c5 A6 n6 c6 ∧ Below w.heap.size w w' ∧ Newer w.heap.size A5 ∧ Newer w.heap.size A6 := by
  have SR : Hid (∀ W, ClN w W q (.int .i64 tr) → Calls Tryz.prog 42 #[.slice A m c] W fun e w' => ∃ A5 n5 c5 A6 n6 c6, e = .returned (.tuple #[nodV (readN b) A5 n5 c5 A6 n6 c6, .int .i64 (readNE b)]) ∧ NodIn w' (readN b) A5 n5 c5 A6 n6 c6 ∧ ClN w w' q (.int .i64 tr) ∧ Newer (w.heap.size + 1) A5 ∧ Newer (w.heap.size + 1) A6) := fun W h => (Read_any7F W A m c b (hB.below h.bel)).mono fun e w' ⟨A5, n5, c5, A6, n6, c6, h1, h2, h3, h4, h5⟩ => ⟨A5, n5, c5, A6, n6, c6, h1, h2, h.later h3, h4.mono (block_lt h.res), h5.mono (block_lt h.res)⟩
  have hN0 := ClN.start (w := w) hq
  have hf : readNE b ≠ 0 → readN b = Nod.zero := fun h => by rw [readN, if_neg h]
  have HF := Lib.hid hf
  obtain ⟨X, hX⟩ : ∃ X, nodD11 b tr = X := ⟨_, rfl⟩
  rw [hX]
  unfold nodD11 at hX
  obtain ⟨R, hR⟩ : ∃ R : Nod, (if X = 0 then readN b else Nod.zero) = R := ⟨_, rfl⟩
  rw [hR]
  have HX := Lib.hid hX
  have HR := Lib.hid hR
  clear hB hf hX hq hR
  generalize readN b = nd at *
  generalize readNE b = x at *
  obtain ⟨tree, leaf, ks, vs⟩ := nd
  simp only [nodV] at SR
  have key : (x ≠ 0 ∧ (x == 0) = false ∧ X = x ∧ R = ⟨tree, leaf, ks, vs⟩) ∨ (x = 0 ∧ tr = 0 ∧ X = 0 ∧ R = ⟨tree, leaf, ks, vs⟩) ∨ (x = 0 ∧ (tr != 0) = true ∧ (tr != tree) = false ∧ X = 0 ∧ R = ⟨tree, leaf, ks, vs⟩) ∨ (x = 0 ∧ (tr != 0) = true ∧ (tr != tree) = true ∧ X = 6 ∧ R = Nod.zero) := by
    have h1 := HX.out
    have h2 := HR.out
    by_cases hx : x = 0
    · rw [if_neg (by simpa using hx)] at h1
      by_cases h3 : tr = 0
      · rw [if_neg (fun h => h.1 h3)] at h1
        rw [← h1, if_pos rfl] at h2
        exact .inr (.inl ⟨hx, h3, h1.symm, h2.symm⟩)
      · by_cases h4 : tree = tr
        · rw [if_neg (fun h => h.2 h4)] at h1
          rw [← h1, if_pos rfl] at h2
          exact .inr (.inr (.inl ⟨hx, by simpa using h3, by simp [h4], h1.symm, h2.symm⟩))
        · rw [if_pos ⟨h3, h4⟩] at h1
          rw [← h1, if_neg (by decide)] at h2
          exact .inr (.inr (.inr ⟨hx, by simpa using h3, by simpa using fun h => h4 h.symm, h1.symm, h2.symm⟩))
    · rw [if_pos hx] at h1
      rw [← h1, if_neg hx] at h2
      exact .inl ⟨hx, by simpa using hx, h1.symm, by rw [← h2, HF.out hx]⟩
  clear HX HR HF
  rcases key with ⟨hx, hxb, g1, g2⟩ | ⟨rfl, rfl, g1, g2⟩ | ⟨rfl, gt, gu, g1, g2⟩ | ⟨rfl, gt, gu, g1, g2⟩
  all_goals have HE := Lib.hid (And.intro g1 g2)
  all_goals clear g1 g2
  all_goals go_enter Tryz.func41, Tryz.ntmps41
  all_goals go_wp2_with (go_at_call 42; (with_reducible refine (SR.out _ hN0).mono ?_); rintro e w1 ⟨A5, n5, c5, A6, n6, c6, rfl, hI1, hN1, hn5, hn6⟩; have HN5 := Lib.hid hn5; have HN6 := Lib.hid hn6; have hN2 := hN1.later ((Below.refl w1.heap.size w1).alloc (Nat.le_refl _) (.cells #[.int .i64 tree, .bool leaf, .slice A5 n5 c5, .slice A6 n6 c6] 41)); have HI2 := Lib.hid (hI1.below ((Below.refl w1.heap.size w1).alloc (Nat.le_refl _) (.cells #[.int .i64 tree, .bool leaf, .slice A5 n5 c5, .slice A6 n6 c6] 41))); clear hI1 hn5 hn6; obtain ⟨⟨z0, z1, z2, z3⟩, y0, y1, y2, y3⟩ := hN2.res.cs; have qc := hN2.cap)
  · refine bodyPost_ret (results_nod Tryz.results41 _ _ w.heap.size tree leaf (.slice A5 n5 c5) (.slice A6 n6 c6) rfl rfl rfl (hN2.res.store _ _ _ _)) rfl ?_
    exact ⟨A5, n5, c5, A6, n6, c6, by rw [HE.out.1, HE.out.2]; rfl, by rw [HE.out.2]; exact HI2.out.newer HN5.out HN6.out (four_keep _ w.heap.size _ _ _ _ (by omega)), below_store7 hN2.bel (Nat.le_refl _) _ _ _ _, HN5.out.mono (by omega), HN6.out.mono (by omega)⟩
  · refine bodyPost_ret (results_nod Tryz.results41 _ _ w.heap.size tree leaf (.slice A5 n5 c5) (.slice A6 n6 c6) rfl rfl rfl (hN2.res.store _ _ _ _)) rfl ?_
    exact ⟨A5, n5, c5, A6, n6, c6, by rw [HE.out.1, HE.out.2]; rfl, by rw [HE.out.2]; exact HI2.out.newer HN5.out HN6.out (four_keep _ w.heap.size _ _ _ _ (by omega)), below_store7 hN2.bel (Nat.le_refl _) _ _ _ _, HN5.out.mono (by omega), HN6.out.mono (by omega)⟩
  · refine bodyPost_ret (results_nod Tryz.results41 _ _ w.heap.size tree leaf (.slice A5 n5 c5) (.slice A6 n6 c6) rfl rfl rfl (hN2.res.store _ _ _ _)) rfl ?_
    exact ⟨A5, n5, c5, A6, n6, c6, by rw [HE.out.1, HE.out.2]; rfl, by rw [HE.out.2]; exact HI2.out.newer HN5.out HN6.out (four_keep _ w.heap.size _ _ _ _ (by omega)), below_store7 hN2.bel (Nat.le_refl _) _ _ _ _, HN5.out.mono (by omega), HN6.out.mono (by omega)⟩
  · refine bodyPost_ret (results_nod Tryz.results41 _ _ w.heap.size 0 false (.slice none 0 0) (.slice none 0 0) rfl rfl rfl (hN2.res.store _ _ _ _)) rfl ?_
    exact ⟨none, 0, 0, none, 0, 0, by rw [HE.out.1, HE.out.2]; rfl, by rw [HE.out.2]; exact NodIn.zero _, below_store7 hN2.bel (Nat.le_refl _) _ _ _ _, Newer.nil _, Newer.nil _⟩

/-- block.Node: the captured tree, the result's variable -/
structure OuN (w W : World) (tr : Int) : Prop where
  cap : W.cell? ⟨w.heap.size, 0, none⟩ = some (.int .i64 tr)
  res : NodAt W (w.heap.size + 1) 0 false (.slice none 0 0) (.slice none 0 0)
  bel : Below w.heap.size w W
theorem OuN.later {w W W' : World} {tr : Int} (h : OuN w W tr) (hb : Below W.heap.size W W') : OuN w W' tr := ⟨(hb.cell (p := ⟨w.heap.size, 0, none⟩) (cell_lt h.cap)).trans h.cap, h.res.later hb, h.bel.trans (hb.mono h.bel.size)⟩
theorem OuN.start (w : World) (tr : Int) : OuN w ((w.alloc (.cells #[.int .i64 tr] 3)).alloc (.cells #[.int .i64 0, .bool false, .slice none 0 0, .slice none 0 0] 41)) tr := by
  obtain ⟨h1, h2, h3⟩ := two_new w (.cells #[.int .i64 tr] 3) (.cells #[.int .i64 0, .bool false, .slice none 0 0, .slice none 0 0] 41)
  exact ⟨by rw [cell_of_row _ w.heap.size 0 _ _ _ h1]; rfl, h2, h3⟩

set_option maxRecDepth 100000 in
set_option maxHeartbeats 1600000 in
theorem blockNode_of (pv : Value) (no tr : Int) (w : World) {x : Int} {nd : Nod} (H : ∀ W q, Below w.heap.size w W → W.cell? ⟨q, 0, none⟩ = some (.int .i64 tr) → Calls Tryz.prog 40 #[pv, .int .i64 no, .int .i64 2, .func (.func 41) #[] #[.pointer (some ⟨q, 0, none⟩)]] W fun e w' => ∃ v A5 n5 c5 A6 n6 c6, e = .returned (.tuple #[nodV nd A5 n5 c5 A6 n6 c6, v]) ∧ NodIn w' nd A5 n5 c5 A6 n6 c6 ∧ ErrAt w' v no x ∧ Below W.heap.size W w' ∧ Newer W.heap.size A5 ∧ Newer W.heap.size A6) :
    Calls Tryz.prog 12 #[pv, .int .i64 no, .int .i64 tr] w fun e w' => ∃ v A5 n5 c5 A6 n6 c6, e = .returned (.tuple #[nodV nd A5 n5 c5 A6 n6 c6, v]) ∧ NodIn w' nd A5 n5 c5 A6 n6 c6 ∧ ErrAt w' v no x ∧ Below w.heap.size w w' := by
  have hmf : ∀ (fn : Fn) (first cap : Array Value) (w : World), (Instr.makeFunc fn first cap).run Tryz.prog w = .ok (.func fn first cap) w := fun _ _ _ _ => rfl
  obtain ⟨tree, leaf, ks, vs⟩ := nd
  have R : Hid (∀ W, OuN w W tr → Calls Tryz.prog 40 #[pv, .int .i64 no, .int .i64 2, .func (.func 41) #[] #[.pointer (some ⟨w.heap.size, 0, none⟩)]] W fun e w' => ∃ v A5 n5 c5 A6 n6 c6, e = .returned (.tuple #[.agg #[.int .i64 tree, .bool leaf, .slice A5 n5 c5, .slice A6 n6 c6], v]) ∧ NodIn w' ⟨tree, leaf, ks, vs⟩ A5 n5 c5 A6 n6 c6 ∧ ErrAt w' v no x ∧ OuN w w' tr ∧ Newer (w.heap.size + 2) A5 ∧ Newer (w.heap.size + 2) A6) := fun W h => (H W _ h.bel h.cap).mono fun e w' ⟨v, A5, n5, c5, A6, n6, c6, h1, h2, h3, h4, h5, h6⟩ => ⟨v, A5, n5, c5, A6, n6, c6, h1, h2, h3, h.later h4, h5.mono (block_lt h.res), h6.mono (block_lt h.res)⟩
  have hN0 := OuN.start w tr
  clear H
  go_enter Tryz.func12, Tryz.ntmps12
  go_wp2_with (go_at_call 40; (with_reducible refine (R.out _ hN0).mono ?_); rintro e w1 ⟨v, A5, n5, c5, A6, n6, c6, rfl, hI1, hv, hN1, hn5, hn6⟩; have HV := Lib.hid hv; have HI1 := Lib.hid hI1; have HN5 := Lib.hid hn5; have HN6 := Lib.hid hn6; clear hv hI1 hn5 hn6; obtain ⟨⟨z0, z1, z2, z3⟩, y0, y1, y2, y3⟩ := hN1.res.cs)
  refine bodyPost_ret (results_nod Tryz.results12 _ _ (w.heap.size + 1) tree leaf (.slice A5 n5 c5) (.slice A6 n6 c6) rfl rfl rfl (hN1.res.store _ _ _ _)) rfl ?_
  exact ⟨v, A5, n5, c5, A6, n6, c6, rfl, HI1.out.newer HN5.out HN6.out (four_keep w1 (w.heap.size + 1) _ _ _ _ (by omega)), HV.out.keep (hN1.res.keeps _ _ _ _), below_store7 hN1.bel (by omega) _ _ _ _⟩

/-- of an image -/
theorem blockNode_any {w : World} {B p g n : Nat} {L : List UInt8} (no tr : Int) (h : Img w B p g L) (hL : L.length = n * 256) :
    Calls Tryz.prog 12 #[.pointer (some ⟨p, 0, none⟩), .int .i64 no, .int .i64 tr] w fun e w' => ∃ v A5 n5 c5 A6 n6 c6, e = .returned (.tuple #[nodV (nodN11 L n no tr) A5 n5 c5 A6 n6 c6, v]) ∧ NodIn w' (nodN11 L n no tr) A5 n5 c5 A6 n6 c6 ∧ ErrAt w' v no (nodE11 L n no tr) ∧ Below w.heap.size w w' := by
  refine blockNode_of _ no tr w fun W q hW hq => ?_
  have hI := h.later hW
  have CL := fun b1 W' A m c (hb : Below W.heap.size W W') (hB : Bytes8 W' A m c b1) => nodeC_any W' q tr hB ((hb.cell (p := ⟨q, 0, none⟩) (cell_lt hq)).trans hq)
  cases ho : outB n no with
  | true =>
    have := readNode_any _ no W q (rdOk_out hI hL ho) (opOk 2 no []) (CL _)
    have e1 : inE11 L n no 2 = 3 := by rw [inE11, ho]; rfl
    rw [show errsE 3 _ _ = 3 from rfl, if_pos (.inl (by decide))] at this
    have e3 : nodE11 L n no tr = 3 := by rw [nodE11, e1, if_pos (by decide)]
    rw [nodN11, e3, if_neg (by decide)]
    exact this
  | false =>
    have := readNode_any _ no W q (rdOk_in hI hL ho) (opOk 2 no _) (CL _)
    have e1 : inE11 L n no 2 = openE (blk L no.toNat) 2 no := by rw [inE11, ho]; rfl
    have e2 : inB11 L n no 2 = openB (blk L no.toNat) 2 no := by rw [inB11, ho]; rfl
    by_cases hz : openE (blk L no.toNat) 2 no = 0
    · rw [hz, show errsE 0 0 _ = _ from rfl, if_neg (by simp), ← e2] at this
      have e3 : nodE11 L n no tr = nodD11 (inB11 L n no 2) tr := by
        unfold nodE11 nodD11
        rw [if_neg (by rw [e1]; exact fun h => h hz)]
      rw [nodN11, e3]
      exact this
    · rw [show errsE 0 (openE (blk L no.toNat) 2 no) _ = openE (blk L no.toNat) 2 no from by rw [errsE, if_neg (by simp), if_pos hz], if_pos (.inr hz)] at this
      have e3 : nodE11 L n no tr = openE (blk L no.toNat) 2 no := by rw [nodE11, e1, if_pos hz]
      rw [nodN11, e3, if_neg hz]
      exact this
end Go.Proofs.YtbeobbanppkmhaaGreatDoor
