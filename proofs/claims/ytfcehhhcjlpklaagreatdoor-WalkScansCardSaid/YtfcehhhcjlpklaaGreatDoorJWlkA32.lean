/-
  Joined: FltLawA, FltLawB, FltS, FltLawD, FltT, BlkA, WlkA, WlkR, WlkT.
-/
import Derived.Deep.RegionHeld3
import Derived.Deep.RegionWith
import Derived.Deep.DeepFit
import Derived.Deep.DeepMust
import Derived.Test.YtfcehhhcjlpklaaGreatDoorJWlkA26
import Derived.Test.YtfcehhhcjlpklaaGreatDoorJWlkA17
import Derived.Deep.RegionLaw
import Derived.Test.YtfcehhhcjlpklaaGreatDoorJWlkA10
import Derived.Test.YtfcehhhcjlpklaaGreatDoorChecked
import Derived.Test.YtfcehhhcjlpklaaGreatDoorJWlkA03
import Derived.Test.YtfcehhhcjlpklaaGreatDoorJWlkA23
import Derived.Test.YtfcehhhcjlpklaaGreatDoorJWlkA21
import Derived.Test.YtfcehhhcjlpklaaGreatDoorJWlkA13
import Derived.BigQuiet
/-
  The walk of FaultFirst.
-/
namespace Go.Proofs.YtfcehhhcjlpklaaGreatDoor
open Go.RowKit
set_option linter.unusedVariables false
set_option linter.unusedSimpArgs false

/-- the law's error of blocks and a number -/
def OwnOf (f : List Int × Int) (l : List Node) : Prop := (f.2 = 0 ∧ l = []) ∨ (f.2 ≠ 0 ∧ Chain f.1 f.2 l)

/-- the first with a number -/
def wantOf : List (List Int × Int) → List Int × Int
  | [] => ([], 0)
  | f :: fs => if f.2 = 0 then wantOf fs else f

theorem wantOf_snoc (fs : List (List Int × Int)) (f : List Int × Int) : wantOf (fs ++ [f]) = if (wantOf fs).2 = 0 then (if f.2 = 0 then ([], 0) else f) else wantOf fs := by
  induction fs with
  | nil => simp [wantOf]
  | cons g fs ih =>
    by_cases hg : g.2 = 0
    · have e1 : wantOf (g :: fs) = wantOf fs := by simp only [wantOf, if_pos hg]
      have e2 : wantOf (g :: fs ++ [f]) = wantOf (fs ++ [f]) := by simp only [List.cons_append, wantOf, if_pos hg]
      rw [e1, e2]; exact ih
    · have e1 : wantOf (g :: fs) = g := by simp only [wantOf, if_neg hg]
      have e2 : wantOf (g :: fs ++ [f]) = g := by simp only [List.cons_append, wantOf, if_neg hg]
      rw [e1, e2, if_neg hg]
/-- errors one by one -/
inductive Owns : List (List Int × Int) → List (List Node) → Prop where
  | nil : Owns [] []
  | cons {f : List Int × Int} {l : List Node} {fs : List (List Int × Int)} {ls : List (List Node)} : OwnOf f l → Owns fs ls → Owns (f :: fs) (l :: ls)
theorem Owns.snoc {fs : List (List Int × Int)} {ls : List (List Node)} {f : List Int × Int} {l : List Node} (h : Owns fs ls) (h2 : OwnOf f l) : Owns (fs ++ [f]) (ls ++ [l]) := by
  induction h with
  | nil => exact .cons h2 .nil
  | cons h3 _ ih => exact .cons h3 ih
theorem Owns.first {fs : List (List Int × Int)} {ls : List (List Node)} (h : Owns fs ls) : OwnOf (wantOf fs) (firstOf ls) := by
  induction h with
  | nil => exact .inl ⟨rfl, rfl⟩
  | @cons f l fs ls h2 _ ih =>
    rcases h2 with ⟨h3, rfl⟩ | ⟨h3, h4⟩
    · simpa [wantOf, h3, firstOf] using ih
    · have hne := h4.ne
      cases l with
      | nil => exact absurd rfl hne
      | cons x l => simp only [wantOf, if_neg h3, firstOf]; exact .inr ⟨h3, h4⟩

/-- the law's loop -/
structure RunF (w0 wr : World) (lv : Value) (ls : List (List Node)) (fs : List (List Int × Int)) (A : Option Addr) (n c : Nat) : Prop where
  bel : Below w0.heap.size w0 wr
  own : wr.ownsRow (w0.heap.size + 1) 41 1 lv fs.length (ls.map val)
  owns : Owns fs ls
  good : ∀ l ∈ ls, Good wr l
  want : wr.heap[w0.heap.size]? = some (.cells #[.slice A n c, .int .i64 (wantOf fs).2] 45 (0, 0))
  ints : Ints w0 A n c (wantOf fs).1
  few : (wantOf fs).1.length ≤ 50
  len : ls.length = fs.length

theorem RunF.lt {w0 wr : World} {lv : Value} {ls : List (List Node)} {fs : List (List Int × Int)} {A : Option Addr} {n c : Nat} (h : RunF w0 wr lv ls fs A n c) : w0.heap.size < wr.heap.size := block_lt h.want

theorem RunF.later {w0 wr w' : World} {lv : Value} {ls : List (List Node)} {fs : List (List Int × Int)} {A : Option Addr} {n c : Nat} (h : RunF w0 wr lv ls fs A n c) (hb : Below wr.heap.size wr w') : RunF w0 w' lv ls fs A n c :=
  ⟨h.bel.trans (hb.mono h.bel.size), own_kept h.own (fun k _ h2 => hb.block k h2), h.owns, fun l hl => (h.good l hl).below hb, (hb.block _ h.lt).trans h.want, h.ints, h.few, h.len⟩
theorem RunF.errs {w0 wr : World} {A2 : Option Addr} {n2 c2 : Nat} {ls : List (List Node)} {fs : List (List Int × Int)} {A : Option Addr} {n c : Nat} (h : RunF w0 wr (.slice A2 n2 c2) ls fs A n c) : Errs wr A2 n2 c2 ls := by
  obtain ⟨A', c', hv, hc, hm⟩ := ownsRow_form h.own
  injection hv with h1 h2 h3
  subst h1 h2 h3
  exact ⟨h.len, hc, by simpa [maxLen] using hm, Row.of_own h.own⟩

/-- one more error -/
structure MidF (w0 wr : World) (lv : Value) (ls : List (List Node)) (l : List Node) (fs : List (List Int × Int)) (f : List Int × Int) (A : Option Addr) (n c : Nat) : Prop where
  bel : Below w0.heap.size w0 wr
  own : wr.ownsRow (w0.heap.size + 1) 41 1 lv (fs.length + 1) ((ls ++ [l]).map val)
  owns : Owns (fs ++ [f]) (ls ++ [l])
  good : ∀ q ∈ ls ++ [l], Good wr q
  want : wr.heap[w0.heap.size]? = some (.cells #[.slice A n c, .int .i64 (wantOf fs).2] 45 (0, 0))
  ints : Ints w0 A n c (wantOf fs).1
  few : (wantOf fs).1.length ≤ 50
  len : (ls ++ [l]).length = fs.length + 1

theorem RunF.put {w0 wr w' : World} {lv lv' : Value} {ls : List (List Node)} {l : List Node} {fs : List (List Int × Int)} {f : List Int × Int} {A : Option Addr} {n c : Nat} (h : RunF w0 wr lv ls fs A n c)
    (hl : OwnOf f l) (hG : Good wr l) (ho : w'.ownsRow (w0.heap.size + 1) 41 1 lv' (fs.length + 1) (ls.map val ++ [val l])) (hg : wr.grownBy w' lv.ownBlock) : MidF w0 w' lv' ls l fs f A n c := by
  have hap := own_apart h.own
  have hK : Keeps wr w' := fun p c e => by
    by_cases hp : lv.ownBlock = some p
    · obtain ⟨_, cur, hc⟩ := hap p hp
      rw [hc] at e
      cases e
    · exact (hg.block p (block_lt e) (fun e2 => hp e2.symm)).trans e
  refine ⟨h.bel.trans ⟨hg.os, hg.tape, hg.output, hg.size, fun i hi => hg.block i (by have := h.bel.size; omega) (fun e => by have := (hap _ e.symm).1; omega)⟩, by simpa using ho, h.owns.snoc hl, fun q hq => ?_, (hg.block _ h.lt (fun e => by have := (hap _ e.symm).1; omega)).trans h.want, h.ints, h.few, by simp [h.len]⟩
  rcases List.mem_append.1 hq with hq | hq
  · exact (h.good q hq).same hK
  · rw [List.mem_singleton] at hq
    subst hq
    exact hG.same hK

/-- what is wanted is this one -/
theorem MidF.take {w0 wr : World} {lv : Value} {ls : List (List Node)} {l : List Node} {fs : List (List Int × Int)} {f : List Int × Int} {A A2 : Option Addr} {n c n2 c2 : Nat} (h : MidF w0 wr lv ls l fs f A n c) (h1 : (wantOf fs).2 = 0) (h2 : f.2 ≠ 0) (hI : Ints w0 A2 n2 c2 f.1) (hm : n2 ≤ 50) :
    RunF w0 ((wr.setCell ⟨w0.heap.size, 0, none⟩ (.slice A2 n2 c2)).setCell ⟨w0.heap.size, 1, none⟩ (.int .i64 f.2)) lv (ls ++ [l]) (fs ++ [f]) A2 n2 c2 := by
  have e : wantOf (fs ++ [f]) = f := by rw [wantOf_snoc, if_pos h1, if_neg h2]
  have hk : ∀ k, k ≠ w0.heap.size → ((wr.setCell ⟨w0.heap.size, 0, none⟩ (.slice A2 n2 c2)).setCell ⟨w0.heap.size, 1, none⟩ (.int .i64 f.2)).heap[k]? = wr.heap[k]? := fun k hk => by
    rw [Below.heap_setCell _ _ _ _ hk, Below.heap_setCell _ _ _ _ hk]
  refine ⟨(h.bel.setCell (p := ⟨w0.heap.size, 0, none⟩) (Nat.le_refl _) _).setCell (p := ⟨w0.heap.size, 1, none⟩) (Nat.le_refl _) _, by simpa using own_kept h.own (fun k hk1 _ => hk k (by omega)), h.owns, fun q hq => (h.good q hq).same (fun p x e2 => ?_), by rw [e]; exact two_sets h.want, by rw [e]; exact hI, by rw [e, hI.len]; exact hm, by simpa using h.len⟩
  by_cases hp : p = w0.heap.size
  · subst hp; rw [h.want] at e2; cases e2
  · exact (hk p hp).trans e2

/-- the law's end: what it reads -/
structure EndF (w0 W : World) (A2 : Option Addr) (n2 c2 : Nat) (ls : List (List Node)) (A : Option Addr) (n c : Nat) (wb : List Int) (wc : Int) : Prop where
  bel : Below w0.heap.size w0 W
  errs : Errs W A2 n2 c2 ls
  good : Good W (firstOf ls)
  k0 : W.cell? ⟨w0.heap.size, 0, none⟩ = some (.slice A n c)
  k1 : W.cell? ⟨w0.heap.size, 1, none⟩ = some (.int .i64 wc)
theorem EndF.later {w0 W W' : World} {A2 : Option Addr} {n2 c2 : Nat} {ls : List (List Node)} {A : Option Addr} {n c : Nat} {wb : List Int} {wc : Int} (h : EndF w0 W A2 n2 c2 ls A n c wb wc) (hb : Below W.heap.size W W') : EndF w0 W' A2 n2 c2 ls A n c wb wc :=
  ⟨h.bel.trans (hb.mono h.bel.size), h.errs.below hb, h.good.below hb, (hb.cell (p := ⟨w0.heap.size, 0, none⟩) (cell_lt h.k0)).trans h.k0, (hb.cell (p := ⟨w0.heap.size, 1, none⟩) (cell_lt h.k1)).trans h.k1⟩

end Go.Proofs.YtfcehhhcjlpklaaGreatDoor

/-
  The walk of FaultOthers.
-/
namespace Go.Proofs.YtfcehhhcjlpklaaGreatDoor
open Go.RowKit
set_option linter.unusedVariables false
set_option linter.unusedSimpArgs false

/-- the law's own variable, and what it has gone through -/
structure BoxO (w0 W : World) (A : Option Addr) (n c : Nat) (code : Int) : Prop where
  bel : Below w0.heap.size w0 W
  box : W.heap[w0.heap.size]? = some (.cells #[.slice A n c, .int .i64 code] 45 (0, 0))
theorem BoxO.later {w0 W W' : World} {A : Option Addr} {n c : Nat} {code : Int} (h : BoxO w0 W A n c code) (hb : Below W.heap.size W W') : BoxO w0 W' A n c code :=
  ⟨h.bel.trans (hb.mono h.bel.size), (hb.block _ (block_lt h.box)).trans h.box⟩
theorem BoxO.k0 {w0 W : World} {A : Option Addr} {n c : Nat} {code : Int} (h : BoxO w0 W A n c code) : W.cell? ⟨w0.heap.size, 0, none⟩ = some (.slice A n c) := by rw [cell_of_row W w0.heap.size 0 _ _ _ h.box]; rfl
theorem BoxO.k1 {w0 W : World} {A : Option Addr} {n c : Nat} {code : Int} (h : BoxO w0 W A n c code) : W.cell? ⟨w0.heap.size, 1, none⟩ = some (.int .i64 code) := by rw [cell_of_row W w0.heap.size 1 _ _ _ h.box]; rfl
theorem BoxO.first (w : World) (A : Option Addr) (n c : Nat) (code : Int) : BoxO w (w.alloc (.cells #[.slice A n c, .int .i64 code] 45)) A n c code :=
  ⟨(Below.refl _ _).alloc (Nat.le_refl _) _, (MapKept.heap_alloc w _).1⟩

end Go.Proofs.YtfcehhhcjlpklaaGreatDoor

/-
  The reference's Text.
-/
namespace Go.Proofs.YtfcehhhcjlpklaaGreatDoor
open Go.RowKit
set_option linter.unusedVariables false
set_option linter.unusedSimpArgs false

end Go.Proofs.YtfcehhhcjlpklaaGreatDoor

/-
  The walk of FaultTells.
-/
namespace Go.Proofs.YtfcehhhcjlpklaaGreatDoor
open Go.RowKit
set_option linter.unusedVariables false
set_option linter.unusedSimpArgs false

/-- the law's end: its own variable at w0's end, what is wanted at block g, the error -/
structure EndT (w0 W : World) (g : Nat) (l : List Node) (A : Option Addr) (n c : Nat) (code : Int) (A2 : Option Addr) (n2 c2 : Nat) (code2 : Int) : Prop where
  box : BoxO w0 W A n c code
  want : W.heap[g]? = some (.cells #[.slice A2 n2 c2, .int .i64 code2] 45 (0, 0))
  good : Good W l
theorem EndT.later {w0 W W' : World} {g : Nat} {l : List Node} {A : Option Addr} {n c : Nat} {code : Int} {A2 : Option Addr} {n2 c2 : Nat} {code2 : Int} (h : EndT w0 W g l A n c code A2 n2 c2 code2) (hb : Below W.heap.size W W') : EndT w0 W' g l A n c code A2 n2 c2 code2 :=
  ⟨h.box.later hb, (hb.block _ (block_lt h.want)).trans h.want, h.good.below hb⟩
theorem EndT.facts {w0 W : World} {g : Nat} {l : List Node} {A : Option Addr} {n c : Nat} {code : Int} {A2 : Option Addr} {n2 c2 : Nat} {code2 : Int} (h : EndT w0 W g l A n c code A2 n2 c2 code2) :
    W.cell? ⟨g, 0, none⟩ = some (.slice A2 n2 c2) ∧ W.cell? ⟨g, 1, none⟩ = some (.int .i64 code2) ∧ W.cell? ⟨w0.heap.size, 0, none⟩ = some (.slice A n c) ∧ W.cell? ⟨w0.heap.size, 1, none⟩ = some (.int .i64 code) :=
  ⟨by rw [cell_of_row W g 0 _ _ _ h.want]; rfl, by rw [cell_of_row W g 1 _ _ _ h.want]; rfl, h.box.k0, h.box.k1⟩

end Go.Proofs.YtfcehhhcjlpklaaGreatDoor

/-
  The reference's At.
-/
namespace Go.Proofs.YtfcehhhcjlpklaaGreatDoor
open Go.RowKit
set_option linter.unusedVariables false
set_option linter.unusedSimpArgs false

set_option maxRecDepth 100000 in
theorem refAt_nil (b : Int) (A : Option Addr) (n c : Nat) (w : World) :
    Calls Tryz.prog 42 #[.int .i64 b, .agg #[.slice A n c, .int .i64 0]] w fun e w' => e = .returned (.agg #[.slice none 0 0, .int .i64 0]) ∧ Below w.heap.size w w' := by
  have b1 : Below w.heap.size w (w.alloc (.cells #[.slice A n c, .int .i64 0] 45)) := (Below.refl _ _).alloc (Nat.le_refl _) _
  have h1 := (MapKept.heap_alloc (w.alloc (.cells #[.slice A n c, .int .i64 0] 45)) (.cells #[.slice none 0 0, .int .i64 0] 45)).1
  have hs : (w.alloc (.cells #[.slice A n c, .int .i64 0] 45)).heap.size = w.heap.size + 1 := by simp
  rw [hs] at h1
  have H1 := Lib.hid h1
  have B1 := Lib.hid b1
  clear h1 b1 hs
  go_enter Tryz.func42, Tryz.ntmps42
  go_wp2
  refine bodyPost_ret (results_rf Tryz.results42 _ _ (w.heap.size + 1) (.slice none 0 0) (.int .i64 0) rfl H1.out) rfl ?_
  exact ⟨rfl, B1.out.alloc B1.out.size _⟩

theorem own_one (w W : World) (b : Int) (h : Below (w.heap.size + 1) (w.alloc (.cells #[.int .i64 b] 3)) W) : Hid (W.ownsRow w.heap.size 3 1 (.slice (some ⟨w.heap.size, 0, none⟩) 1 1) 1 [.int .i64 b]) :=
  ⟨rfl, .inr ⟨w.heap.size, 1, #[.int .i64 b], rfl, Nat.le_refl _, (h.block _ (by omega)).trans (MapKept.heap_alloc w _).1, Nat.le_refl _, by decide, rfl, rfl⟩⟩

end Go.Proofs.YtfcehhhcjlpklaaGreatDoor

/-
  Layer 11's errors: block.at; the law's same.
-/
namespace Go.Proofs.YtfcehhhcjlpklaaGreatDoor
open Go.RowKit
set_option linter.unusedVariables false
set_option linter.unusedSimpArgs false

/-- the document's error in a variable -/
def FltAt (w : World) (p : Nat) (a b : Value) : Prop := w.heap[p]? = some (Obj.cells #[a, b] 45 (0, 0))
section
variable {w w' : World} {p : Nat} {a b : Value}
theorem FltAt.c0 (h : FltAt w p a b) : w.cell? ⟨p, 0, none⟩ = some a := by rw [cell_of_row w p 0 _ _ _ h]; rfl
theorem FltAt.c1 (h : FltAt w p a b) : w.cell? ⟨p, 1, none⟩ = some b := by rw [cell_of_row w p 1 _ _ _ h]; rfl
theorem FltAt.later (h : FltAt w p a b) (hb : Below w.heap.size w w') : FltAt w' p a b := (hb.block _ (block_lt h)).trans h
theorem FltAt.store (h : FltAt w p a b) (c d : Value) : FltAt ((w.setCell ⟨p, 0, none⟩ c).setCell ⟨p, 1, none⟩ d) p c d := two_sets h
theorem FltAt.load (h : FltAt w p a b) : (loadVar 45 ⟨p, 0, none⟩).run Tryz.prog w = .ok (.agg #[a, b]) w := run_loadVar_row w p _ _ _ _ _ h Tryz.underlying45 rfl (by kernel_rfl)
theorem FltAt.new (w : World) (a b : Value) : FltAt (w.alloc (.cells #[a, b] 45)) w.heap.size a b := (MapKept.heap_alloc w _).1
end
def FltC2 (w : World) (p : Nat) (a b : Value) : Prop := (w.cell? ⟨p, 0, none⟩ = some a ∧ w.cell? ⟨p, 1, none⟩ = some b) ∧ w.frozen? ⟨p, 0, none⟩ = false ∧ w.frozen? ⟨p, 1, none⟩ = false
theorem FltAt.cs {w : World} {p : Nat} {a b : Value} (h : FltAt w p a b) : FltC2 w p a b := ⟨⟨h.c0, h.c1⟩, Lib.frozen_of_heap h 0, Lib.frozen_of_heap h 1⟩

/-- an error at a block, as the program has it -/
def ErrAt (w : World) (v : Value) (no x : Int) : Prop := (x = 0 ∧ v = .nilIface) ∨ (x ≠ 0 ∧ ∃ p, v = .iface 111 (.pointer (some ⟨p, 0, none⟩)) ∧ Good w [.flt no p, .num x])
theorem ErrAt.below {w w' : World} {v : Value} {no x : Int} (h : ErrAt w v no x) (hb : Below w.heap.size w w') : ErrAt w' v no x := by
  rcases h with h | ⟨h1, p, h2, h3⟩
  · exact .inl h
  · exact .inr ⟨h1, p, h2, h3.below hb⟩
/-- the blocks of an error at a block -/
def atL (no x : Int) : List Int := if x = 0 then [] else [no]
/-- an error at a block, as the document has it -/
def BadAt (w : World) (v : Value) (no x : Int) : Prop := ∃ A n c, v = rf A n c x ∧ Ints w A n c (atL no x)
theorem BadAt.below {w w' : World} {v : Value} {no x : Int} (h : BadAt w v no x) (hb : Below w.heap.size w w') : BadAt w' v no x := by
  obtain ⟨A, n, c, h2, h3⟩ := h
  exact ⟨A, n, c, h2, h3.below hb⟩
theorem BadAt.none (w : World) (no : Int) : BadAt w (rf none 0 0 0) no 0 := ⟨Option.none, 0, 0, rfl, Ints.nil w⟩

set_option maxRecDepth 100000 in
set_option maxHeartbeats 800000 in
theorem bat_any (no x : Int) (w : World) :
    Calls Tryz.prog 36 #[.int .i64 no, .iface 50 (.int .i64 x)] w fun e w' => ∃ v, e = .returned v ∧ ErrAt w' v no x ∧ Below w.heap.size w w' := by
  have IS := Lib.hid (is_num x 0 w)
  by_cases hx : x = 0
  · subst hx
    rw [show ((0 : Int) == 0) = true from rfl] at IS
    go_enter Tryz.func36, Tryz.ntmps36
    go_wp2_with (go_at_call 66; (with_reducible refine (IS.out).mono ?_); rintro e w1 ⟨rfl, rfl⟩)
    go_ret
    exact ⟨_, rfl, .inl ⟨rfl, rfl⟩, Below.refl _ _⟩
  · have AT := Lib.hid (At_err no (l := [.num x]) (by simp) (w := w) rfl)
    simp only [val] at AT
    rw [show (x == 0) = false by simpa using hx] at IS
    have HX := Lib.hid hx
    clear hx
    go_enter Tryz.func36, Tryz.ntmps36
    go_wp2_with (first
      | (go_at_call 66; (with_reducible refine (IS.out).mono ?_); rintro e w1 ⟨rfl, rfl⟩)
      | (go_at_call 38; (with_reducible refine (AT.out).mono ?_); rintro e w1 ⟨p, rfl, hG, hb1⟩; have HG := Lib.hid hG; clear hG))
    go_ret
    exact ⟨_, rfl, .inr ⟨HX.out, p, rfl, HG.out⟩, hb1⟩

/-- while the law compares: all below as it was, the document's error in its variable -/
structure SmS (w W : World) (q : Nat) (a b : Value) : Prop where
  bel : Below w.heap.size w W
  flt : FltAt W q a b
theorem SmS.later {w W W' : World} {q : Nat} {a b : Value} (h : SmS w W q a b) (hb : Below W.heap.size W W') : SmS w W' q a b := ⟨h.bel.trans (hb.mono h.bel.size), h.flt.later hb⟩
theorem SmS.facts {w W : World} {q : Nat} {a b : Value} (h : SmS w W q a b) : W.cell? ⟨q, 0, none⟩ = some a ∧ W.cell? ⟨q, 1, none⟩ = some b := ⟨h.flt.c0, h.flt.c1⟩
theorem SmS.start (w : World) (a b : Value) : SmS w (w.alloc (.cells #[a, b] 45)).drew w.heap.size a b := ⟨((Below.refl _ _).alloc (Nat.le_refl _) _).drew, FltAt.new w a b⟩

end Go.Proofs.YtfcehhhcjlpklaaGreatDoor

/-
  Layer 14: the scan's state in memory: its block, the four slices that it owns, what may move.
-/
namespace Go.Proofs.YtfcehhhcjlpklaaGreatDoor
open Go.RowKit
set_option linter.unusedVariables false
set_option linter.unusedSimpArgs false

/-- the slices that a scan owns: entries, blocks, faults, path -/
structure Rows14 where
  E : Value
  B : Value
  F : Value
  P : Value
/-- the blocks that a scan may write -/
def Rows14.mine (s : Rows14) (p k : Nat) : Prop := k = p ∨ s.E.ownBlock = some k ∨ s.B.ownBlock = some k ∨ s.F.ownBlock = some k ∨ s.P.ownBlock = some k

/-- all but these as it was; and those that it may write now it could write before, or they are new -/
structure Mov14 (p : Nat) (s : Rows14) (w : World) (s' : Rows14) (w' : World) : Prop where
  frm : Frm (s.mine p) w w'
  old : ∀ k, k < w.heap.size → s'.mine p k → s.mine p k
theorem Mov14.of_below {p : Nat} (s : Rows14) {w w' : World} (h : Below w.heap.size w w') : Mov14 p s w s w' := ⟨Frm.of_below h, fun _ _ h => h⟩
theorem Mov14.refl (p : Nat) (s : Rows14) (w : World) : Mov14 p s w s w := .of_below s (Below.refl _ _)
theorem Mov14.trans {p : Nat} {s s1 s2 : Rows14} {w w1 w2 : World} (h : Mov14 p s w s1 w1) (k : Mov14 p s1 w1 s2 w2) : Mov14 p s w s2 w2 := by
  refine ⟨⟨k.frm.os.trans h.frm.os, k.frm.tape.trans h.frm.tape, k.frm.output.trans h.frm.output, Nat.le_trans h.frm.size k.frm.size, fun q hq hg => ?_⟩, fun q hq hm => h.old q hq (k.old q (Nat.lt_of_lt_of_le hq h.frm.size) hm)⟩
  exact (k.frm.block q (Nat.lt_of_lt_of_le hq h.frm.size) (fun hm => hg (h.old q hq hm))).trans (h.frm.block q hq hg)
theorem Mov14.block {p : Nat} {s s' : Rows14} {w w' : World} (h : Mov14 p s w s' w') {q : Nat} (hq : q < w.heap.size) (hn : ¬ s.mine p q) : w'.heap[q]? = w.heap[q]? ∧ ¬ s'.mine p q := ⟨h.frm.block q hq hn, fun hm => hn (h.old q hq hm)⟩

/-- a slice that the scan does not write -/
def Far14 (s : Rows14) (p : Nat) (A : Option Addr) : Prop := ∀ ad, A = some ad → ¬ s.mine p ad.block
theorem Row.mov {p : Nat} {s s' : Rows14} {w w' : World} {A : Option Addr} {l : List Value} (h : Row w A l) (hA : Far14 s p A) (hm : Mov14 p s w s' w') : Row w' A l := fun k v e => by
  obtain ⟨ad, ea, hc⟩ := h k v e
  refine ⟨ad, ea, ?_⟩
  have hb : (ad.add k).block = ad.block := addr_add_block ad k
  exact (World.cell?_of_block (w := w) (hm.frm.block _ (cell_lt hc) (by rw [hb]; exact hA ad ea))).trans hc
/-- .. and does not later, if it stood -/
theorem Far14.mov {p : Nat} {s s' : Rows14} {w w' : World} {A : Option Addr} (hA : Far14 s p A) (hm : Mov14 p s w s' w') (hl : ∀ ad, A = some ad → ad.block < w.heap.size) : Far14 s' p A := fun ad e h => hA ad e (hm.old _ (hl ad e) h)
theorem Far14.of_newer {p : Nat} {s : Rows14} {A : Option Addr} {B : Nat} (h : Newer B A) (hs : ∀ k, s.mine p k → k < B) : Far14 s p A := fun ad e hm => by
  have := h ad e
  have := hs _ hm
  omega

theorem own_moved {w w1 : World} {base size n : Nat} {e : TypeId} {v : Value} {xs : List Value} (h : w.ownsRow base e size v n xs) (hk : ∀ k, v.ownBlock = some k → k < w.heap.size → w1.heap[k]? = w.heap[k]?) : w1.ownsRow base e size v n xs := by
  refine ⟨h.1, ?_⟩
  rcases h.2 with hn | ⟨g, cap, cur, hv, hg, hh, rest⟩
  · exact .inl hn
  · exact .inr ⟨g, cap, cur, hv, hg, (hk g (by rw [hv]; rfl) (block_lt hh)).trans hh, rest⟩
/-- rows of other types lie in other blocks -/
theorem own_types {w : World} {b1 b2 s1 s2 n1 n2 : Nat} {e1 e2 : TypeId} {v1 v2 : Value} {x1 x2 : List Value} (h1 : w.ownsRow b1 e1 s1 v1 n1 x1) (h2 : w.ownsRow b2 e2 s2 v2 n2 x2) (hne : e1 ≠ e2) : ∀ k, v1.ownBlock = some k → v2.ownBlock ≠ some k := fun k hk hk2 => by
  obtain ⟨_, c1, e⟩ := own_apartS h1 k hk
  obtain ⟨_, c2, e'⟩ := own_apartS h2 k hk2
  rw [e] at e'
  injection e' with e'
  injection e' with _ e3 _
  exact hne e3

/-- the faults that were found, each a chain of its blocks -/
def Flts14 (w : World) : List (List Node) → List (List Int × Int) → Prop
  | [], [] => True
  | f :: fs, x :: xs => (Good w f ∧ Chain x.1 x.2 f) ∧ Flts14 w fs xs
  | [], _ :: _ => False
  | _ :: _, [] => False
theorem Flts14.length {w : World} : ∀ {fs : List (List Node)} {xs : List (List Int × Int)}, Flts14 w fs xs → fs.length = xs.length
  | [], [], _ => rfl
  | _ :: _, _ :: _, h => by simp only [List.length_cons]; rw [Flts14.length h.2]
theorem Flts14.snoc {w : World} {f : List Node} {x : List Int × Int} (hf : Good w f) (hc : Chain x.1 x.2 f) : ∀ {fs : List (List Node)} {xs : List (List Int × Int)}, Flts14 w fs xs → Flts14 w (fs ++ [f]) (xs ++ [x])
  | [], [], _ => ⟨⟨hf, hc⟩, trivial⟩
  | _ :: _, _ :: _, h => ⟨h.1, Flts14.snoc hf hc h.2⟩
theorem Flts14.same {w w' : World} (hk : Keeps w w') : ∀ {fs : List (List Node)} {xs : List (List Int × Int)}, Flts14 w fs xs → Flts14 w' fs xs
  | [], [], _ => trivial
  | _ :: _, _ :: _, h => ⟨⟨h.1.1.same hk, h.1.2⟩, Flts14.same hk h.2⟩
theorem Flts14.at_ {w : World} : ∀ {fs : List (List Node)} {xs : List (List Int × Int)}, Flts14 w fs xs → ∀ k (h1 : k < fs.length) (h2 : k < xs.length), Good w fs[k] ∧ Chain xs[k].1 xs[k].2 fs[k]
  | _ :: _, _ :: _, h, 0, _, _ => h.1
  | _ :: _, _ :: _, h, k + 1, h1, h2 => Flts14.at_ h.2 k (by simpa using h1) (by simpa using h2)

/-- the scan's state at block p -/
structure St14 (w : World) (p : Nat) (im : Value) (tree fuel : Int) (s : Rows14) (W : Wlk14) (way : List Int) : Prop where
  blk : w.heap[p]? = some (.cells #[s.E, s.B, .int .i64 W.deep, .int .i64 W.looked, s.F, im, .int .i64 tree, .int .i64 fuel, s.P] 60 (0, 0))
  ents : w.ownsRow (p + 1) 77 3 s.E W.ents.length (entC W.ents)
  blks : w.ownsRow (p + 1) 3 1 s.B W.blks.length (i64s W.blks)
  path : w.ownsRow (p + 1) 3 1 s.P way.length (i64s way)
  flts : ∃ fs : List (List Node), w.ownsRow (p + 1) 41 1 s.F W.flts.length (fs.map val) ∧ Flts14 w fs W.flts
  apart : ∀ k, s.B.ownBlock = some k → s.P.ownBlock ≠ some k

section
variable {w w1 w' : World} {p : Nat} {im : Value} {tree fuel : Int} {s s' : Rows14} {W : Wlk14} {way : List Int}
theorem St14.lt (h : St14 w p im tree fuel s W way) : p < w.heap.size := block_lt h.blk
theorem St14.c0 (h : St14 w p im tree fuel s W way) : w.cell? ⟨p, 0, none⟩ = some s.E := by rw [cell_of_row w p 0 _ _ _ h.blk]; rfl
theorem St14.c1 (h : St14 w p im tree fuel s W way) : w.cell? ⟨p, 1, none⟩ = some s.B := by rw [cell_of_row w p 1 _ _ _ h.blk]; rfl
theorem St14.c2 (h : St14 w p im tree fuel s W way) : w.cell? ⟨p, 2, none⟩ = some (.int .i64 W.deep) := by rw [cell_of_row w p 2 _ _ _ h.blk]; rfl
theorem St14.c3 (h : St14 w p im tree fuel s W way) : w.cell? ⟨p, 3, none⟩ = some (.int .i64 W.looked) := by rw [cell_of_row w p 3 _ _ _ h.blk]; rfl
theorem St14.c4 (h : St14 w p im tree fuel s W way) : w.cell? ⟨p, 4, none⟩ = some s.F := by rw [cell_of_row w p 4 _ _ _ h.blk]; rfl
theorem St14.c5 (h : St14 w p im tree fuel s W way) : w.cell? ⟨p, 5, none⟩ = some im := by rw [cell_of_row w p 5 _ _ _ h.blk]; rfl
theorem St14.c6 (h : St14 w p im tree fuel s W way) : w.cell? ⟨p, 6, none⟩ = some (.int .i64 tree) := by rw [cell_of_row w p 6 _ _ _ h.blk]; rfl
theorem St14.c7 (h : St14 w p im tree fuel s W way) : w.cell? ⟨p, 7, none⟩ = some (.int .i64 fuel) := by rw [cell_of_row w p 7 _ _ _ h.blk]; rfl
theorem St14.c8 (h : St14 w p im tree fuel s W way) : w.cell? ⟨p, 8, none⟩ = some s.P := by rw [cell_of_row w p 8 _ _ _ h.blk]; rfl
theorem St14.fz (h : St14 w p im tree fuel s W way) (j : Nat) : w.frozen? ⟨p, j, none⟩ = false := frozen_of_row w p j _ _ h.blk
theorem St14.mine_lt (h : St14 w p im tree fuel s W way) : ∀ k, s.mine p k → p ≤ k ∧ k < w.heap.size := fun k hk => by
  obtain ⟨fs, hf, _⟩ := h.flts
  rcases hk with rfl | hk | hk | hk | hk
  · exact ⟨Nat.le_refl _, h.lt⟩
  · have := h.ents.lt k hk; omega
  · have := h.blks.lt k hk; omega
  · have := hf.lt k hk; omega
  · have := h.path.lt k hk; omega
theorem Mov14.below (h : St14 w p im tree fuel s W way) (hm : Mov14 p s w s' w') : Below p w w' :=
  ⟨hm.frm.os, hm.frm.tape, hm.frm.output, hm.frm.size, fun k hk => hm.frm.block k (Nat.lt_trans hk h.lt) (fun hx => by have := (h.mine_lt k hx).1; omega)⟩
/-- a scan writes no Fault -/
theorem Mov14.keeps (h : St14 w p im tree fuel s W way) (hm : Mov14 p s w s' w') : Keeps w w' := fun q c e => by
  refine (hm.frm.block q (block_lt e) ?_).trans e
  obtain ⟨fs, hf, _⟩ := h.flts
  intro hx
  rcases hx with rfl | hk | hk | hk | hk
  · rw [h.blk] at e
    injection e with e
    injection e with _ e2 _
    exact absurd e2 (by decide)
  · obtain ⟨_, cu, e'⟩ := own_apartS h.ents q hk
    rw [e'] at e
    injection e with e
    injection e with _ e2 _
    exact absurd e2 (by decide)
  · obtain ⟨_, cu, e'⟩ := own_apartS h.blks q hk
    rw [e'] at e
    injection e with e
    injection e with _ e2 _
    exact absurd e2 (by decide)
  · obtain ⟨_, cu, e'⟩ := own_apartS hf q hk
    rw [e'] at e
    injection e with e
    injection e with _ e2 _
    exact absurd e2 (by decide)
  · obtain ⟨_, cu, e'⟩ := own_apartS h.path q hk
    rw [e'] at e
    injection e with e
    injection e with _ e2 _
    exact absurd e2 (by decide)
/-- nothing of it moves -/
theorem St14.later (h : St14 w p im tree fuel s W way) (hb : Below w.heap.size w w') : St14 w' p im tree fuel s W way := by
  obtain ⟨fs, hf, hg⟩ := h.flts
  have key : ∀ k, k < w.heap.size → w'.heap[k]? = w.heap[k]? := hb.block
  exact ⟨(key _ h.lt).trans h.blk, own_moved h.ents fun k _ hk => key k hk, own_moved h.blks fun k _ hk => key k hk, own_moved h.path fun k _ hk => key k hk, ⟨fs, own_moved hf fun k _ hk => key k hk, hg.same (Keeps.of_below hb)⟩, h.apart⟩

/-- a number of it is written -/
theorem St14.put (h : St14 w p im tree fuel s W way) (j : Nat) (x : Int) (hj : j = 2 ∨ j = 3) :
    St14 (w.setCell ⟨p, j, none⟩ (.int .i64 x)) p im tree fuel s ⟨W.ents, W.blks, if j = 2 then x else W.deep, if j = 3 then x else W.looked, W.flts⟩ way ∧ Mov14 p s w s (w.setCell ⟨p, j, none⟩ (.int .i64 x)) := by
  have hm : Mov14 p s w s (w.setCell ⟨p, j, none⟩ (.int .i64 x)) := ⟨Frm.set (Frm.of_below (Below.refl _ _)) (.inl rfl) _, fun _ _ h => h⟩
  obtain ⟨fs, hf, hg⟩ := h.flts
  have key : ∀ k, p + 1 ≤ k → (w.setCell ⟨p, j, none⟩ (.int .i64 x)).heap[k]? = w.heap[k]? := fun k hk => heap_setCell_other _ _ k _ (by show k ≠ p; omega)
  refine ⟨⟨?_, own_moved h.ents fun k e _ => key k (h.ents.lt k e).1, own_moved h.blks fun k e _ => key k (h.blks.lt k e).1, own_moved h.path fun k e _ => key k (h.path.lt k e).1, ⟨fs, own_moved hf fun k e _ => key k (hf.lt k e).1, hg.same (Mov14.keeps h hm)⟩, h.apart⟩, hm⟩
  rw [heap_setCell_same w p _ _ _ _ h.blk]
  rcases hj with rfl | rfl <;> rfl

/-- behind an append onto one of its rows, and the store -/
theorem mov_append (h : St14 w p im tree fuel s W way) {v v' : Value} {g : Nat} (hv : ∀ k, v.ownBlock = some k → s.mine p k) (hgrow : w.grownBy w1 v.ownBlock) (hat : v.ownBlock = some g ∨ g = w.heap.size) (hg' : v'.ownBlock = some g) (j : Nat)
    (hs : ∀ k, s'.mine p k → s.mine p k ∨ v'.ownBlock = some k) : Mov14 p s w s' (w1.setCell ⟨p, j, none⟩ v') := by
  refine ⟨⟨hgrow.os, hgrow.tape, hgrow.output, by simpa [World.setCell] using hgrow.size, fun q hq hn => ?_⟩, fun k hk hm => ?_⟩
  · rw [heap_setCell_other _ _ q _ (fun e => hn (.inl e))]
    exact hgrow.block q hq (fun e => hn (hv q e.symm))
  · rcases hs k hm with h1 | h1
    · exact h1
    · rw [hg'] at h1
      injection h1 with h1
      subst h1
      rcases hat with h2 | h2
      · exact hv g h2
      · omega
theorem set_block (h : St14 w p im tree fuel s W way) {v : Value} (hv : ∀ k, v.ownBlock = some k → p + 1 ≤ k) (hgrow : w.grownBy w1 v.ownBlock) (j : Nat) (u : Value) :
    (w1.setCell ⟨p, j, none⟩ u).heap[p]? = some (.cells ((#[s.E, s.B, .int .i64 W.deep, .int .i64 W.looked, s.F, im, .int .i64 tree, .int .i64 fuel, s.P] : Array Value).set! j u) 60 (0, 0)) := by
  have h1 : w1.heap[p]? = w.heap[p]? := hgrow.block p h.lt (fun e => by have := hv p e.symm; omega)
  rw [heap_setCell_same w1 p _ _ _ _ (h1.trans h.blk)]
  rfl
theorem row_block (h : St14 w p im tree fuel s W way) {v : Value} (hgrow : w.grownBy w1 v.ownBlock) (j : Nat) (u : Value) {base size n : Nat} {e : TypeId} {y : Value} {xs : List Value} (hy : w.ownsRow base e size y n xs) (hb : p + 1 ≤ base) (hne : ∀ k, y.ownBlock = some k → v.ownBlock ≠ some k) :
    (w1.setCell ⟨p, j, none⟩ u).ownsRow base e size y n xs :=
  own_moved hy fun k hk hlt => by
    have := (hy.lt k hk).1
    rw [heap_setCell_other _ _ k _ (by show k ≠ p; omega)]
    exact hgrow.block k hlt (fun e => hne k hk e.symm)
theorem own_set {base size n : Nat} {e : TypeId} {y : Value} {xs : List Value} (hy : w1.ownsRow base e size y n xs) (hb : p + 1 ≤ base) (j : Nat) (u : Value) : (w1.setCell ⟨p, j, none⟩ u).ownsRow base e size y n xs :=
  own_moved hy fun k hk _ => heap_setCell_other _ _ k _ (by have := (hy.lt k hk).1; show k ≠ p; omega)

theorem St14.addBlk (h : St14 w p im tree fuel s W way) {g cap : Nat} {no : Int} (hgrow : w.grownBy w1 s.B.ownBlock) (hat : s.B.ownBlock = some g ∨ g = w.heap.size)
    (hown : w1.ownsRow (p + 1) 3 1 (.slice (some ⟨g, 0, none⟩) (W.blks.length + 1) cap) (W.blks.length + 1) (i64s W.blks ++ [.int .i64 no])) :
    St14 (w1.setCell ⟨p, 1, none⟩ (.slice (some ⟨g, 0, none⟩) (W.blks.length + 1) cap)) p im tree fuel ⟨s.E, .slice (some ⟨g, 0, none⟩) (W.blks.length + 1) cap, s.F, s.P⟩ ⟨W.ents, W.blks ++ [no], W.deep, W.looked, W.flts⟩ way ∧
      Mov14 p s w ⟨s.E, .slice (some ⟨g, 0, none⟩) (W.blks.length + 1) cap, s.F, s.P⟩ (w1.setCell ⟨p, 1, none⟩ (.slice (some ⟨g, 0, none⟩) (W.blks.length + 1) cap)) := by
  obtain ⟨fs, hf, hg⟩ := h.flts
  have hm : Mov14 p s w ⟨s.E, .slice (some ⟨g, 0, none⟩) (W.blks.length + 1) cap, s.F, s.P⟩ (w1.setCell ⟨p, 1, none⟩ (.slice (some ⟨g, 0, none⟩) (W.blks.length + 1) cap)) :=
    mov_append h (fun k e => .inr (.inr (.inl e))) hgrow hat rfl 1 (fun k hk => by
      rcases hk with e | e | e | e | e
      · exact .inl (.inl e)
      · exact .inl (.inr (.inl e))
      · exact .inr e
      · exact .inl (.inr (.inr (.inr (.inl e))))
      · exact .inl (.inr (.inr (.inr (.inr e)))))
  refine ⟨⟨set_block h (fun k e => (h.blks.lt k e).1) hgrow 1 _, row_block h hgrow 1 _ h.ents (Nat.le_refl _) (own_types h.ents h.blks (by decide)), ?_, row_block h hgrow 1 _ h.path (Nat.le_refl _) (fun k e e2 => h.apart k e2 e),
    ⟨fs, row_block h hgrow 1 _ hf (Nat.le_refl _) (own_types hf h.blks (by decide)), hg.same (Mov14.keeps h hm)⟩, ?_⟩, hm⟩
  · have := own_set (p := p) hown (Nat.le_refl _) 1 (.slice (some ⟨g, 0, none⟩) (W.blks.length + 1) cap)
    show World.ownsRow _ _ _ _ _ (W.blks ++ [no]).length (i64s (W.blks ++ [no]))
    rw [i64s_append, List.length_append]; exact this
  · intro k e
    have e : some g = some k := e
    injection e with e
    subst e
    rcases hat with h2 | h2
    · exact h.apart g h2
    · intro e; have := (h.path.lt g e).2; omega

theorem St14.addWay (h : St14 w p im tree fuel s W way) {g cap : Nat} {no : Int} (hgrow : w.grownBy w1 s.P.ownBlock) (hat : s.P.ownBlock = some g ∨ g = w.heap.size)
    (hown : w1.ownsRow (p + 1) 3 1 (.slice (some ⟨g, 0, none⟩) (way.length + 1) cap) (way.length + 1) (i64s way ++ [.int .i64 no])) :
    St14 (w1.setCell ⟨p, 8, none⟩ (.slice (some ⟨g, 0, none⟩) (way.length + 1) cap)) p im tree fuel ⟨s.E, s.B, s.F, .slice (some ⟨g, 0, none⟩) (way.length + 1) cap⟩ W (way ++ [no]) ∧
      Mov14 p s w ⟨s.E, s.B, s.F, .slice (some ⟨g, 0, none⟩) (way.length + 1) cap⟩ (w1.setCell ⟨p, 8, none⟩ (.slice (some ⟨g, 0, none⟩) (way.length + 1) cap)) := by
  obtain ⟨fs, hf, hg⟩ := h.flts
  have hm : Mov14 p s w ⟨s.E, s.B, s.F, .slice (some ⟨g, 0, none⟩) (way.length + 1) cap⟩ (w1.setCell ⟨p, 8, none⟩ (.slice (some ⟨g, 0, none⟩) (way.length + 1) cap)) :=
    mov_append h (fun k e => .inr (.inr (.inr (.inr e)))) hgrow hat rfl 8 (fun k hk => by
      rcases hk with e | e | e | e | e
      · exact .inl (.inl e)
      · exact .inl (.inr (.inl e))
      · exact .inl (.inr (.inr (.inl e)))
      · exact .inl (.inr (.inr (.inr (.inl e))))
      · exact .inr e)
  refine ⟨⟨set_block h (fun k e => (h.path.lt k e).1) hgrow 8 _, row_block h hgrow 8 _ h.ents (Nat.le_refl _) (own_types h.ents h.path (by decide)), row_block h hgrow 8 _ h.blks (Nat.le_refl _) h.apart, ?_,
    ⟨fs, row_block h hgrow 8 _ hf (Nat.le_refl _) (own_types hf h.path (by decide)), hg.same (Mov14.keeps h hm)⟩, ?_⟩, hm⟩
  · have := own_set (p := p) hown (Nat.le_refl _) 8 (.slice (some ⟨g, 0, none⟩) (way.length + 1) cap)
    show World.ownsRow _ _ _ _ _ (way ++ [no]).length (i64s (way ++ [no]))
    rw [i64s_append, List.length_append]; exact this
  · intro k e e2
    have e2 : some g = some k := e2
    injection e2 with e2
    subst e2
    rcases hat with h2 | h2
    · exact h.apart g e h2
    · have := (h.blks.lt g e).2; omega

theorem St14.addEnt (h : St14 w p im tree fuel s W way) {g cap : Nat} {x : Int × List UInt8 × Int} (hgrow : w.grownBy w1 s.E.ownBlock) (hat : s.E.ownBlock = some g ∨ g = w.heap.size)
    (hown : w1.ownsRow (p + 1) 77 3 (.slice (some ⟨g, 0, none⟩) (W.ents.length + 1) cap) (W.ents.length + 1) (entC W.ents ++ [.int .i64 x.1, .string ⟨x.2.1.toArray⟩, .int .i64 x.2.2])) :
    St14 (w1.setCell ⟨p, 0, none⟩ (.slice (some ⟨g, 0, none⟩) (W.ents.length + 1) cap)) p im tree fuel ⟨.slice (some ⟨g, 0, none⟩) (W.ents.length + 1) cap, s.B, s.F, s.P⟩ ⟨W.ents ++ [x], W.blks, W.deep, W.looked, W.flts⟩ way ∧
      Mov14 p s w ⟨.slice (some ⟨g, 0, none⟩) (W.ents.length + 1) cap, s.B, s.F, s.P⟩ (w1.setCell ⟨p, 0, none⟩ (.slice (some ⟨g, 0, none⟩) (W.ents.length + 1) cap)) := by
  obtain ⟨fs, hf, hg⟩ := h.flts
  have hm : Mov14 p s w ⟨.slice (some ⟨g, 0, none⟩) (W.ents.length + 1) cap, s.B, s.F, s.P⟩ (w1.setCell ⟨p, 0, none⟩ (.slice (some ⟨g, 0, none⟩) (W.ents.length + 1) cap)) :=
    mov_append h (fun k e => .inr (.inl e)) hgrow hat rfl 0 (fun k hk => by
      rcases hk with e | e | e | e | e
      · exact .inl (.inl e)
      · exact .inr e
      · exact .inl (.inr (.inr (.inl e)))
      · exact .inl (.inr (.inr (.inr (.inl e))))
      · exact .inl (.inr (.inr (.inr (.inr e)))))
  refine ⟨⟨set_block h (fun k e => (h.ents.lt k e).1) hgrow 0 _, ?_, row_block h hgrow 0 _ h.blks (Nat.le_refl _) (own_types h.blks h.ents (by decide)), row_block h hgrow 0 _ h.path (Nat.le_refl _) (own_types h.path h.ents (by decide)),
    ⟨fs, row_block h hgrow 0 _ hf (Nat.le_refl _) (own_types hf h.ents (by decide)), hg.same (Mov14.keeps h hm)⟩, h.apart⟩, hm⟩
  have := own_set (p := p) hown (Nat.le_refl _) 0 (.slice (some ⟨g, 0, none⟩) (W.ents.length + 1) cap)
  show World.ownsRow _ _ _ _ _ (W.ents ++ [x]).length (entC (W.ents ++ [x]))
  rw [entC_snoc, List.length_append]
  have e : entC [x] = [.int .i64 x.1, .string ⟨x.2.1.toArray⟩, .int .i64 x.2.2] := by simp [entC]
  rw [e]; exact this

theorem St14.addFlt (h : St14 w p im tree fuel s W way) {fs : List (List Node)} (hF : Flts14 w fs W.flts) {g cap : Nat} {f : List Node} {x : List Int × Int} (hgd : Good w f) (hc : Chain x.1 x.2 f) (hgrow : w.grownBy w1 s.F.ownBlock) (hat : s.F.ownBlock = some g ∨ g = w.heap.size)
    (hfs : w.ownsRow (p + 1) 41 1 s.F W.flts.length (fs.map val))
    (hown : w1.ownsRow (p + 1) 41 1 (.slice (some ⟨g, 0, none⟩) (W.flts.length + 1) cap) (W.flts.length + 1) (fs.map val ++ [val f])) :
    St14 (w1.setCell ⟨p, 4, none⟩ (.slice (some ⟨g, 0, none⟩) (W.flts.length + 1) cap)) p im tree fuel ⟨s.E, s.B, .slice (some ⟨g, 0, none⟩) (W.flts.length + 1) cap, s.P⟩ ⟨W.ents, W.blks, W.deep, W.looked, W.flts ++ [x]⟩ way ∧
      Mov14 p s w ⟨s.E, s.B, .slice (some ⟨g, 0, none⟩) (W.flts.length + 1) cap, s.P⟩ (w1.setCell ⟨p, 4, none⟩ (.slice (some ⟨g, 0, none⟩) (W.flts.length + 1) cap)) := by
  have hm : Mov14 p s w ⟨s.E, s.B, .slice (some ⟨g, 0, none⟩) (W.flts.length + 1) cap, s.P⟩ (w1.setCell ⟨p, 4, none⟩ (.slice (some ⟨g, 0, none⟩) (W.flts.length + 1) cap)) :=
    mov_append h (fun k e => .inr (.inr (.inr (.inl e)))) hgrow hat rfl 4 (fun k hk => by
      rcases hk with e | e | e | e | e
      · exact .inl (.inl e)
      · exact .inl (.inr (.inl e))
      · exact .inl (.inr (.inr (.inl e)))
      · exact .inr e
      · exact .inl (.inr (.inr (.inr (.inr e)))))
  refine ⟨⟨set_block h (fun k e => (hfs.lt k e).1) hgrow 4 _, row_block h hgrow 4 _ h.ents (Nat.le_refl _) (own_types h.ents hfs (by decide)), row_block h hgrow 4 _ h.blks (Nat.le_refl _) (own_types h.blks hfs (by decide)), row_block h hgrow 4 _ h.path (Nat.le_refl _) (own_types h.path hfs (by decide)),
    ⟨fs ++ [f], ?_, (hF.snoc hgd hc).same (Mov14.keeps h hm)⟩, h.apart⟩, hm⟩
  have := own_set (p := p) hown (Nat.le_refl _) 4 (.slice (some ⟨g, 0, none⟩) (W.flts.length + 1) cap)
  show World.ownsRow _ _ _ _ _ (W.flts ++ [x]).length ((fs ++ [f]).map val)
  rw [List.map_append, List.length_append]; exact this

/-- the path's last block goes -/
theorem St14.cutWay {no : Int} (h : St14 w p im tree fuel s W (way ++ [no])) {g cap : Nat} (hP : s.P = .slice (some ⟨g, 0, none⟩) (way.length + 1) cap) :
    St14 (w.setCell ⟨p, 8, none⟩ (.slice (some ⟨g, 0, none⟩) way.length cap)) p im tree fuel ⟨s.E, s.B, s.F, .slice (some ⟨g, 0, none⟩) way.length cap⟩ W way ∧
      Mov14 p s w ⟨s.E, s.B, s.F, .slice (some ⟨g, 0, none⟩) way.length cap⟩ (w.setCell ⟨p, 8, none⟩ (.slice (some ⟨g, 0, none⟩) way.length cap)) := by
  have hob : s.P.ownBlock = some g := by rw [hP]; rfl
  have hm : Mov14 p s w ⟨s.E, s.B, s.F, .slice (some ⟨g, 0, none⟩) way.length cap⟩ (w.setCell ⟨p, 8, none⟩ (.slice (some ⟨g, 0, none⟩) way.length cap)) :=
    ⟨Frm.set (Frm.of_below (Below.refl _ _)) (.inl rfl) _, fun k _ hk => by
      rcases hk with e | e | e | e | e
      · exact .inl e
      · exact .inr (.inl e)
      · exact .inr (.inr (.inl e))
      · exact .inr (.inr (.inr (.inl e)))
      · exact .inr (.inr (.inr (.inr (hob.trans e))))⟩
  obtain ⟨fs, hf, hg⟩ := h.flts
  have key : ∀ k, p + 1 ≤ k → (w.setCell ⟨p, 8, none⟩ (.slice (some ⟨g, 0, none⟩) way.length cap)).heap[k]? = w.heap[k]? := fun k hk => heap_setCell_other _ _ k _ (by show k ≠ p; omega)
  refine ⟨⟨?_, own_moved h.ents fun k e _ => key k (h.ents.lt k e).1, own_moved h.blks fun k e _ => key k (h.blks.lt k e).1, ?_, ⟨fs, own_moved hf fun k e _ => key k (hf.lt k e).1, hg.same (Mov14.keeps h hm)⟩, fun k e e2 => h.apart k e (hob.trans e2)⟩, hm⟩
  · rw [heap_setCell_same w p _ _ _ _ h.blk]; rfl
  · have hp := h.path
    rw [hP] at hp
    refine ⟨by rw [i64s_length]; simp, .inr ?_⟩
    rcases hp.2 with ⟨hv, _⟩ | ⟨g', cap', cur, hv, hg1, hh, h1, h2, h3, h4⟩
    · cases hv
    · injection hv with e1 e2 e3
      injection e1 with e1
      injection e1 with e1
      subst e1; subst e3
      rw [List.length_append, List.length_singleton] at h1 h4
      refine ⟨g, cap, cur, rfl, hg1, (key g hg1).trans hh, by omega, h2, h3, ?_⟩
      have := congrArg (List.take way.length) h4
      rw [List.take_take, i64s_append] at this
      rw [Nat.mul_one] at this ⊢
      rw [Nat.min_eq_left (by omega)] at this
      rw [this, List.take_append_of_le_length (by rw [i64s_length]; exact Nat.le_refl _), List.take_of_length_le (by rw [i64s_length]; exact Nat.le_refl _)]
end

/-- a state just made -/
theorem St14.new (w : World) (im : Value) (tree fuel : Int) :
    St14 (w.alloc (.cells #[.slice none 0 0, .slice none 0 0, .int .i64 0, .int .i64 0, .slice none 0 0, im, .int .i64 tree, .int .i64 fuel, .slice none 0 0] 60)) w.heap.size im tree fuel ⟨.slice none 0 0, .slice none 0 0, .slice none 0 0, .slice none 0 0⟩ Wlk14.zero [] :=
  ⟨heap_alloc_new w _, World.ownsRow_nil _ _ _ _, World.ownsRow_nil _ _ _ _, World.ownsRow_nil _ _ _ _, ⟨[], World.ownsRow_nil _ _ _ _, trivial⟩, fun k e => by cases e⟩

end Go.Proofs.YtfcehhhcjlpklaaGreatDoor

/-
  Layer 14, the reference: has.
-/
namespace Go.Proofs.YtfcehhhcjlpklaaGreatDoor
open Go.RowKit Go.Shelf
set_option linter.unusedVariables false
set_option linter.unusedSimpArgs false

set_option maxRecDepth 100000 in
theorem refHas_any14 {A : Option Addr} {n c : Nat} {L : List Int} (v : Int) (w : World) (h : Ints w A n c L) :
    Calls Tryz.prog 43 #[.slice A n c, .int .i64 v] w fun e w' => e = .returned (.bool (decide (v ∈ L))) ∧ w = w' := by
  have hl := h.len
  have hle := h.le
  have HI := Lib.hid h
  have HL := Lib.hid hl
  clear h hl
  go_enter Tryz.func43, Tryz.ntmps43
  go_wp2
  go_loopw [5] (fun i wr => ∃ k : Nat, k ≤ n ∧ i = .int .i64 k ∧ wr = w ∧ Hid (v ∉ L.take k)) (fun i _ => n - (intOf i).toNat)
  case atStart => exact ⟨0, by omega, rfl, rfl, by simp [Hid]⟩
  case round =>
    obtain ⟨k, hk, rfl, rfl, hno⟩ := hrel
    by_cases hlt : k < n
    · have hkl : k < L.length := by have := HL.out; omega
      obtain ⟨b, off, rfl, hb, hc⟩ := HI.out.row.lit (by rw [i64s_length]; omega)
      have hck := hc k _ (i64s_at L k hkl)
      have HT := Lib.hid (List.take_succ_eq_append_getElem hkl)
      have HM := Lib.hid (List.getElem_mem hkl)
      clear hc
      generalize L[k] = x at *
      by_cases hx : x = v
      · subst hx
        have hmm : decide (x ∈ L) = true := decide_eq_true HM.out
        go_wp2
        go_ret
        exact ⟨by rw [hmm]; rfl, rfl⟩
      · have hd : (x == v) = false := by simpa using hx
        have HX := Lib.hid hx
        clear hx
        go_wp2
        go_roundw
        case rel =>
          refine ⟨k + 1, by omega, by go_num, by first | rfl | trivial, fun hm => ?_⟩
          rw [HT.out] at hm
          rcases List.mem_append.1 hm with hm | hm
          · exact hno.out hm
          · exact HX.out (List.mem_singleton.1 hm).symm
        case measure => simp only [intOf]; omega
    · obtain rfl : k = n := by omega
      have hmm : decide (v ∈ L) = false := decide_eq_false (fun hm => by
        have := hno.out
        rw [List.take_of_length_le (by have := HL.out; omega)] at this
        exact absurd hm this)
      go_wp2
      go_ret
      exact ⟨by rw [hmm]; rfl, rfl⟩

end Go.Proofs.YtfcehhhcjlpklaaGreatDoor

/-
  Layer 14, the reference: SameEntries, of equal lists.
-/
namespace Go.Proofs.YtfcehhhcjlpklaaGreatDoor
open Go.RowKit Go.Shelf
set_option linter.unusedVariables false
set_option linter.unusedSimpArgs false

set_option maxRecDepth 100000 in
set_option maxHeartbeats 1600000 in
theorem refSameEnt_any14 {A A2 : Option Addr} {n c n2 c2 : Nat} {L : List (Int × List UInt8 × Int)} (w : World) (h : Ens w A n c L) (h2 : Ens w A2 n2 c2 L) :
    Calls Tryz.prog 17 #[.slice A n c, .slice A2 n2 c2] w fun e w' => e = .returned (.bool true) ∧ Below w.heap.size w w' := by
  obtain rfl : L.length = n := h.len
  obtain rfl : L.length = n2 := h2.len
  have hc := h.cap
  have hm := h.most
  have hc2 := h2.cap
  have hm2 := h2.most
  have H1 := Lib.hid h
  have H2 := Lib.hid h2
  clear h h2
  go_enter Tryz.func17, Tryz.ntmps17
  go_wp2
  go_loopw [5] (fun i wr => ∃ k : Nat, k ≤ L.length ∧ i = .int .i64 k ∧ Hid (Below w.heap.size w wr)) (fun i _ => L.length - (intOf i).toNat)
  case atStart => exact ⟨0, by omega, rfl, Below.refl _ _⟩
  case round =>
    obtain ⟨k, hk, rfl, hb⟩ := hrel
    by_cases hlt : k < L.length
    · obtain ⟨b, o, rfl, x0, x1, x2⟩ := (H1.out.below hb.out).at_ hlt
      obtain ⟨b2, o2, rfl, y0, y1, y2⟩ := (H2.out.below hb.out).at_ hlt
      have x1' : wr.cell? ⟨b, o + k * 3 + 1, none⟩ = _ := x1
      have x2' : wr.cell? ⟨b, o + k * 3 + 2, none⟩ = _ := x2
      have y1' : wr.cell? ⟨b2, o2 + k * 3 + 1, none⟩ = _ := y1
      have y2' : wr.cell? ⟨b2, o2 + k * 3 + 2, none⟩ = _ := y2
      clear x1 x2 y1 y2
      generalize L[k] = x at *
      go_wp2
      go_quiet (fail)
      go_wp2
      go_roundw
      case rel => exact ⟨k + 1, by omega, by go_num, below_drewN hb.out _⟩
      case measure => simp only [intOf]; omega
    · obtain rfl : k = L.length := by omega
      go_wp2
      go_ret
      exact ⟨rfl, hb.out⟩

end Go.Proofs.YtfcehhhcjlpklaaGreatDoor
