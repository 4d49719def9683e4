/-
  Joined: FltLawA, FltLawB, FltS, FltLawD, FltT, BlkA.
-/
import Derived.Deep.RegionHeld3
import Derived.Deep.RegionWith
import Derived.Deep.DeepFit
import Derived.Deep.DeepMust
import Derived.Test.YtnjlganofjkpfaaGreatDoorJBldA30
import Derived.Test.YtnjlganofjkpfaaGreatDoorJBldA27
import Derived.Deep.RegionLaw
import Derived.Test.YtnjlganofjkpfaaGreatDoorJBldA16
/-
  The walk of FaultFirst.
-/
namespace Go.Proofs.YtnjlganofjkpfaaGreatDoor
open Go.RowKit
set_option linter.unusedVariables false
set_option linter.unusedSimpArgs false

/-- the law's error of blocks and a number -/
def OwnOf (f : List Int × Int) (l : List Node) : Prop := (f.2 = 0 ∧ l = []) ∨ (f.2 ≠ 0 ∧ Chain f.1 f.2 l)

/-- the first with a number -/
def wantOf : List (List Int × Int) → List Int × Int
  | [] => ([], 0)
  | f :: fs => if f.2 = 0 then wantOf fs else f

theorem wantOf_snoc (fs : List (List Int × Int)) (f : List Int × Int) : wantOf (fs ++ [f]) = if (wantOf fs).2 = 0 then (if f.2 = 0 then ([], 0) else f) else wantOf fs := by
  induction fs with
  | nil => simp [wantOf]
  | cons g fs ih =>
    by_cases hg : g.2 = 0
    · have e1 : wantOf (g :: fs) = wantOf fs := by simp only [wantOf, if_pos hg]
      have e2 : wantOf (g :: fs ++ [f]) = wantOf (fs ++ [f]) := by simp only [List.cons_append, wantOf, if_pos hg]
      rw [e1, e2]; exact ih
    · have e1 : wantOf (g :: fs) = g := by simp only [wantOf, if_neg hg]
      have e2 : wantOf (g :: fs ++ [f]) = g := by simp only [List.cons_append, wantOf, if_neg hg]
      rw [e1, e2, if_neg hg]
/-- errors one by one -/
inductive Owns : List (List Int × Int) → List (List Node) → Prop where
  | nil : Owns [] []
  | cons {f : List Int × Int} {l : List Node} {fs : List (List Int × Int)} {ls : List (List Node)} : OwnOf f l → Owns fs ls → Owns (f :: fs) (l :: ls)
theorem Owns.snoc {fs : List (List Int × Int)} {ls : List (List Node)} {f : List Int × Int} {l : List Node} (h : Owns fs ls) (h2 : OwnOf f l) : Owns (fs ++ [f]) (ls ++ [l]) := by
  induction h with
  | nil => exact .cons h2 .nil
  | cons h3 _ ih => exact .cons h3 ih
theorem Owns.first {fs : List (List Int × Int)} {ls : List (List Node)} (h : Owns fs ls) : OwnOf (wantOf fs) (firstOf ls) := by
  induction h with
  | nil => exact .inl ⟨rfl, rfl⟩
  | @cons f l fs ls h2 _ ih =>
    rcases h2 with ⟨h3, rfl⟩ | ⟨h3, h4⟩
    · simpa [wantOf, h3, firstOf] using ih
    · have hne := h4.ne
      cases l with
      | nil => exact absurd rfl hne
      | cons x l => simp only [wantOf, if_neg h3, firstOf]; exact .inr ⟨h3, h4⟩

/-- the law's loop -/
structure RunF (w0 wr : World) (lv : Value) (ls : List (List Node)) (fs : List (List Int × Int)) (A : Option Addr) (n c : Nat) : Prop where
  bel : Below w0.heap.size w0 wr
  own : wr.ownsRow (w0.heap.size + 1) 37 1 lv fs.length (ls.map val)
  owns : Owns fs ls
  good : ∀ l ∈ ls, Good wr l
  want : wr.heap[w0.heap.size]? = some (.cells #[.slice A n c, .int .i64 (wantOf fs).2] 33 (0, 0))
  ints : Ints w0 A n c (wantOf fs).1
  few : (wantOf fs).1.length ≤ 50
  len : ls.length = fs.length

theorem RunF.lt {w0 wr : World} {lv : Value} {ls : List (List Node)} {fs : List (List Int × Int)} {A : Option Addr} {n c : Nat} (h : RunF w0 wr lv ls fs A n c) : w0.heap.size < wr.heap.size := block_lt h.want

theorem RunF.later {w0 wr w' : World} {lv : Value} {ls : List (List Node)} {fs : List (List Int × Int)} {A : Option Addr} {n c : Nat} (h : RunF w0 wr lv ls fs A n c) (hb : Below wr.heap.size wr w') : RunF w0 w' lv ls fs A n c :=
  ⟨h.bel.trans (hb.mono h.bel.size), own_kept h.own (fun k _ h2 => hb.block k h2), h.owns, fun l hl => (h.good l hl).below hb, (hb.block _ h.lt).trans h.want, h.ints, h.few, h.len⟩
theorem RunF.errs {w0 wr : World} {A2 : Option Addr} {n2 c2 : Nat} {ls : List (List Node)} {fs : List (List Int × Int)} {A : Option Addr} {n c : Nat} (h : RunF w0 wr (.slice A2 n2 c2) ls fs A n c) : Errs wr A2 n2 c2 ls := by
  obtain ⟨A', c', hv, hc, hm⟩ := ownsRow_form h.own
  injection hv with h1 h2 h3
  subst h1 h2 h3
  exact ⟨h.len, hc, by simpa [maxLen] using hm, Row.of_own h.own⟩

/-- one more error -/
structure MidF (w0 wr : World) (lv : Value) (ls : List (List Node)) (l : List Node) (fs : List (List Int × Int)) (f : List Int × Int) (A : Option Addr) (n c : Nat) : Prop where
  bel : Below w0.heap.size w0 wr
  own : wr.ownsRow (w0.heap.size + 1) 37 1 lv (fs.length + 1) ((ls ++ [l]).map val)
  owns : Owns (fs ++ [f]) (ls ++ [l])
  good : ∀ q ∈ ls ++ [l], Good wr q
  want : wr.heap[w0.heap.size]? = some (.cells #[.slice A n c, .int .i64 (wantOf fs).2] 33 (0, 0))
  ints : Ints w0 A n c (wantOf fs).1
  few : (wantOf fs).1.length ≤ 50
  len : (ls ++ [l]).length = fs.length + 1

theorem RunF.put {w0 wr w' : World} {lv lv' : Value} {ls : List (List Node)} {l : List Node} {fs : List (List Int × Int)} {f : List Int × Int} {A : Option Addr} {n c : Nat} (h : RunF w0 wr lv ls fs A n c)
    (hl : OwnOf f l) (hG : Good wr l) (ho : w'.ownsRow (w0.heap.size + 1) 37 1 lv' (fs.length + 1) (ls.map val ++ [val l])) (hg : wr.grownBy w' lv.ownBlock) : MidF w0 w' lv' ls l fs f A n c := by
  have hap := own_apart h.own
  have hK : Keeps wr w' := fun p c e => by
    by_cases hp : lv.ownBlock = some p
    · obtain ⟨_, cur, hc⟩ := hap p hp
      rw [hc] at e
      cases e
    · exact (hg.block p (block_lt e) (fun e2 => hp e2.symm)).trans e
  refine ⟨h.bel.trans ⟨hg.os, hg.tape, hg.output, hg.size, fun i hi => hg.block i (by have := h.bel.size; omega) (fun e => by have := (hap _ e.symm).1; omega)⟩, by simpa using ho, h.owns.snoc hl, fun q hq => ?_, (hg.block _ h.lt (fun e => by have := (hap _ e.symm).1; omega)).trans h.want, h.ints, h.few, by simp [h.len]⟩
  rcases List.mem_append.1 hq with hq | hq
  · exact (h.good q hq).same hK
  · rw [List.mem_singleton] at hq
    subst hq
    exact hG.same hK

/-- what is wanted is this one -/
theorem MidF.take {w0 wr : World} {lv : Value} {ls : List (List Node)} {l : List Node} {fs : List (List Int × Int)} {f : List Int × Int} {A A2 : Option Addr} {n c n2 c2 : Nat} (h : MidF w0 wr lv ls l fs f A n c) (h1 : (wantOf fs).2 = 0) (h2 : f.2 ≠ 0) (hI : Ints w0 A2 n2 c2 f.1) (hm : n2 ≤ 50) :
    RunF w0 ((wr.setCell ⟨w0.heap.size, 0, none⟩ (.slice A2 n2 c2)).setCell ⟨w0.heap.size, 1, none⟩ (.int .i64 f.2)) lv (ls ++ [l]) (fs ++ [f]) A2 n2 c2 := by
  have e : wantOf (fs ++ [f]) = f := by rw [wantOf_snoc, if_pos h1, if_neg h2]
  have hk : ∀ k, k ≠ w0.heap.size → ((wr.setCell ⟨w0.heap.size, 0, none⟩ (.slice A2 n2 c2)).setCell ⟨w0.heap.size, 1, none⟩ (.int .i64 f.2)).heap[k]? = wr.heap[k]? := fun k hk => by
    rw [Below.heap_setCell _ _ _ _ hk, Below.heap_setCell _ _ _ _ hk]
  refine ⟨(h.bel.setCell (p := ⟨w0.heap.size, 0, none⟩) (Nat.le_refl _) _).setCell (p := ⟨w0.heap.size, 1, none⟩) (Nat.le_refl _) _, by simpa using own_kept h.own (fun k hk1 _ => hk k (by omega)), h.owns, fun q hq => (h.good q hq).same (fun p x e2 => ?_), by rw [e]; exact two_sets h.want, by rw [e]; exact hI, by rw [e, hI.len]; exact hm, by simpa using h.len⟩
  by_cases hp : p = w0.heap.size
  · subst hp; rw [h.want] at e2; cases e2
  · exact (hk p hp).trans e2

/-- the law's end: what it reads -/
structure EndF (w0 W : World) (A2 : Option Addr) (n2 c2 : Nat) (ls : List (List Node)) (A : Option Addr) (n c : Nat) (wb : List Int) (wc : Int) : Prop where
  bel : Below w0.heap.size w0 W
  errs : Errs W A2 n2 c2 ls
  good : Good W (firstOf ls)
  k0 : W.cell? ⟨w0.heap.size, 0, none⟩ = some (.slice A n c)
  k1 : W.cell? ⟨w0.heap.size, 1, none⟩ = some (.int .i64 wc)
theorem EndF.later {w0 W W' : World} {A2 : Option Addr} {n2 c2 : Nat} {ls : List (List Node)} {A : Option Addr} {n c : Nat} {wb : List Int} {wc : Int} (h : EndF w0 W A2 n2 c2 ls A n c wb wc) (hb : Below W.heap.size W W') : EndF w0 W' A2 n2 c2 ls A n c wb wc :=
  ⟨h.bel.trans (hb.mono h.bel.size), h.errs.below hb, h.good.below hb, (hb.cell (p := ⟨w0.heap.size, 0, none⟩) (cell_lt h.k0)).trans h.k0, (hb.cell (p := ⟨w0.heap.size, 1, none⟩) (cell_lt h.k1)).trans h.k1⟩

end Go.Proofs.YtnjlganofjkpfaaGreatDoor

/-
  The walk of FaultOthers.
-/
namespace Go.Proofs.YtnjlganofjkpfaaGreatDoor
open Go.RowKit
set_option linter.unusedVariables false
set_option linter.unusedSimpArgs false

/-- the law's own variable, and what it has gone through -/
structure BoxO (w0 W : World) (A : Option Addr) (n c : Nat) (code : Int) : Prop where
  bel : Below w0.heap.size w0 W
  box : W.heap[w0.heap.size]? = some (.cells #[.slice A n c, .int .i64 code] 33 (0, 0))
theorem BoxO.later {w0 W W' : World} {A : Option Addr} {n c : Nat} {code : Int} (h : BoxO w0 W A n c code) (hb : Below W.heap.size W W') : BoxO w0 W' A n c code :=
  ⟨h.bel.trans (hb.mono h.bel.size), (hb.block _ (block_lt h.box)).trans h.box⟩
theorem BoxO.k0 {w0 W : World} {A : Option Addr} {n c : Nat} {code : Int} (h : BoxO w0 W A n c code) : W.cell? ⟨w0.heap.size, 0, none⟩ = some (.slice A n c) := by rw [cell_of_row W w0.heap.size 0 _ _ _ h.box]; rfl
theorem BoxO.k1 {w0 W : World} {A : Option Addr} {n c : Nat} {code : Int} (h : BoxO w0 W A n c code) : W.cell? ⟨w0.heap.size, 1, none⟩ = some (.int .i64 code) := by rw [cell_of_row W w0.heap.size 1 _ _ _ h.box]; rfl
theorem BoxO.first (w : World) (A : Option Addr) (n c : Nat) (code : Int) : BoxO w (w.alloc (.cells #[.slice A n c, .int .i64 code] 33)) A n c code :=
  ⟨(Below.refl _ _).alloc (Nat.le_refl _) _, (MapKept.heap_alloc w _).1⟩

end Go.Proofs.YtnjlganofjkpfaaGreatDoor

/-
  The reference's Text.
-/
namespace Go.Proofs.YtnjlganofjkpfaaGreatDoor
open Go.RowKit
set_option linter.unusedVariables false
set_option linter.unusedSimpArgs false

end Go.Proofs.YtnjlganofjkpfaaGreatDoor

/-
  The walk of FaultTells.
-/
namespace Go.Proofs.YtnjlganofjkpfaaGreatDoor
open Go.RowKit
set_option linter.unusedVariables false
set_option linter.unusedSimpArgs false

/-- the law's end: its own variable at w0's end, what is wanted at block g, the error -/
structure EndT (w0 W : World) (g : Nat) (l : List Node) (A : Option Addr) (n c : Nat) (code : Int) (A2 : Option Addr) (n2 c2 : Nat) (code2 : Int) : Prop where
  box : BoxO w0 W A n c code
  want : W.heap[g]? = some (.cells #[.slice A2 n2 c2, .int .i64 code2] 33 (0, 0))
  good : Good W l
theorem EndT.later {w0 W W' : World} {g : Nat} {l : List Node} {A : Option Addr} {n c : Nat} {code : Int} {A2 : Option Addr} {n2 c2 : Nat} {code2 : Int} (h : EndT w0 W g l A n c code A2 n2 c2 code2) (hb : Below W.heap.size W W') : EndT w0 W' g l A n c code A2 n2 c2 code2 :=
  ⟨h.box.later hb, (hb.block _ (block_lt h.want)).trans h.want, h.good.below hb⟩
theorem EndT.facts {w0 W : World} {g : Nat} {l : List Node} {A : Option Addr} {n c : Nat} {code : Int} {A2 : Option Addr} {n2 c2 : Nat} {code2 : Int} (h : EndT w0 W g l A n c code A2 n2 c2 code2) :
    W.cell? ⟨g, 0, none⟩ = some (.slice A2 n2 c2) ∧ W.cell? ⟨g, 1, none⟩ = some (.int .i64 code2) ∧ W.cell? ⟨w0.heap.size, 0, none⟩ = some (.slice A n c) ∧ W.cell? ⟨w0.heap.size, 1, none⟩ = some (.int .i64 code) :=
  ⟨by rw [cell_of_row W g 0 _ _ _ h.want]; rfl, by rw [cell_of_row W g 1 _ _ _ h.want]; rfl, h.box.k0, h.box.k1⟩

end Go.Proofs.YtnjlganofjkpfaaGreatDoor

/-
  The reference's At.
-/
namespace Go.Proofs.YtnjlganofjkpfaaGreatDoor
open Go.RowKit
set_option linter.unusedVariables false
set_option linter.unusedSimpArgs false

set_option maxRecDepth 100000 in
theorem refAt_nil (b : Int) (A : Option Addr) (n c : Nat) (w : World) :
    Calls Tryz.prog 96 #[.int .i64 b, .agg #[.slice A n c, .int .i64 0]] w fun e w' => e = .returned (.agg #[.slice none 0 0, .int .i64 0]) ∧ Below w.heap.size w w' := by
  have b1 : Below w.heap.size w (w.alloc (.cells #[.slice A n c, .int .i64 0] 33)) := (Below.refl _ _).alloc (Nat.le_refl _) _
  have h1 := (MapKept.heap_alloc (w.alloc (.cells #[.slice A n c, .int .i64 0] 33)) (.cells #[.slice none 0 0, .int .i64 0] 33)).1
  have hs : (w.alloc (.cells #[.slice A n c, .int .i64 0] 33)).heap.size = w.heap.size + 1 := by simp
  rw [hs] at h1
  have H1 := Lib.hid h1
  have B1 := Lib.hid b1
  clear h1 b1 hs
  go_enter Tryz.func96, Tryz.ntmps96
  go_wp2
  refine bodyPost_ret (results_rf Tryz.results96 _ _ (w.heap.size + 1) (.slice none 0 0) (.int .i64 0) rfl H1.out) rfl ?_
  exact ⟨rfl, B1.out.alloc B1.out.size _⟩

theorem own_one (w W : World) (b : Int) (h : Below (w.heap.size + 1) (w.alloc (.cells #[.int .i64 b] 3)) W) : Hid (W.ownsRow w.heap.size 3 1 (.slice (some ⟨w.heap.size, 0, none⟩) 1 1) 1 [.int .i64 b]) :=
  ⟨rfl, .inr ⟨w.heap.size, 1, #[.int .i64 b], rfl, Nat.le_refl _, (h.block _ (by omega)).trans (MapKept.heap_alloc w _).1, Nat.le_refl _, by decide, rfl, rfl⟩⟩

end Go.Proofs.YtnjlganofjkpfaaGreatDoor

/-
  Layer 11's errors: block.at; the law's same.
-/
namespace Go.Proofs.YtnjlganofjkpfaaGreatDoor
open Go.RowKit
set_option linter.unusedVariables false
set_option linter.unusedSimpArgs false

/-- the document's error in a variable -/
def FltAt (w : World) (p : Nat) (a b : Value) : Prop := w.heap[p]? = some (Obj.cells #[a, b] 33 (0, 0))
section
variable {w w' : World} {p : Nat} {a b : Value}
theorem FltAt.c0 (h : FltAt w p a b) : w.cell? ⟨p, 0, none⟩ = some a := by rw [cell_of_row w p 0 _ _ _ h]; rfl
theorem FltAt.c1 (h : FltAt w p a b) : w.cell? ⟨p, 1, none⟩ = some b := by rw [cell_of_row w p 1 _ _ _ h]; rfl
theorem FltAt.later (h : FltAt w p a b) (hb : Below w.heap.size w w') : FltAt w' p a b := (hb.block _ (block_lt h)).trans h
theorem FltAt.store (h : FltAt w p a b) (c d : Value) : FltAt ((w.setCell ⟨p, 0, none⟩ c).setCell ⟨p, 1, none⟩ d) p c d := two_sets h
theorem FltAt.load (h : FltAt w p a b) : (loadVar 33 ⟨p, 0, none⟩).run Tryz.prog w = .ok (.agg #[a, b]) w := run_loadVar_row w p _ _ _ _ _ h Tryz.underlying33 rfl (by kernel_rfl)
theorem FltAt.new (w : World) (a b : Value) : FltAt (w.alloc (.cells #[a, b] 33)) w.heap.size a b := (MapKept.heap_alloc w _).1
end
def FltC2 (w : World) (p : Nat) (a b : Value) : Prop := (w.cell? ⟨p, 0, none⟩ = some a ∧ w.cell? ⟨p, 1, none⟩ = some b) ∧ w.frozen? ⟨p, 0, none⟩ = false ∧ w.frozen? ⟨p, 1, none⟩ = false
theorem FltAt.cs {w : World} {p : Nat} {a b : Value} (h : FltAt w p a b) : FltC2 w p a b := ⟨⟨h.c0, h.c1⟩, Lib.frozen_of_heap h 0, Lib.frozen_of_heap h 1⟩

/-- an error at a block, as the program has it -/
def ErrAt (w : World) (v : Value) (no x : Int) : Prop := (x = 0 ∧ v = .nilIface) ∨ (x ≠ 0 ∧ ∃ p, v = .iface 116 (.pointer (some ⟨p, 0, none⟩)) ∧ Good w [.flt no p, .num x])
theorem ErrAt.below {w w' : World} {v : Value} {no x : Int} (h : ErrAt w v no x) (hb : Below w.heap.size w w') : ErrAt w' v no x := by
  rcases h with h | ⟨h1, p, h2, h3⟩
  · exact .inl h
  · exact .inr ⟨h1, p, h2, h3.below hb⟩
/-- the blocks of an error at a block -/
def atL (no x : Int) : List Int := if x = 0 then [] else [no]
/-- an error at a block, as the document has it -/
def BadAt (w : World) (v : Value) (no x : Int) : Prop := ∃ A n c, v = rf A n c x ∧ Ints w A n c (atL no x)
theorem BadAt.below {w w' : World} {v : Value} {no x : Int} (h : BadAt w v no x) (hb : Below w.heap.size w w') : BadAt w' v no x := by
  obtain ⟨A, n, c, h2, h3⟩ := h
  exact ⟨A, n, c, h2, h3.below hb⟩
theorem BadAt.none (w : World) (no : Int) : BadAt w (rf none 0 0 0) no 0 := ⟨Option.none, 0, 0, rfl, Ints.nil w⟩

set_option maxRecDepth 100000 in
set_option maxHeartbeats 800000 in
theorem bat_any (no x : Int) (w : World) :
    Calls Tryz.prog 104 #[.int .i64 no, .iface 40 (.int .i64 x)] w fun e w' => ∃ v, e = .returned v ∧ ErrAt w' v no x ∧ Below w.heap.size w w' := by
  have IS := Lib.hid (is_num x 0 w)
  by_cases hx : x = 0
  · subst hx
    rw [show ((0 : Int) == 0) = true from rfl] at IS
    go_enter Tryz.func104, Tryz.ntmps104
    go_wp2_with (go_at_call 112; (with_reducible refine (IS.out).mono ?_); rintro e w1 ⟨rfl, rfl⟩)
    go_ret
    exact ⟨_, rfl, .inl ⟨rfl, rfl⟩, Below.refl _ _⟩
  · have AT := Lib.hid (At_err no (l := [.num x]) (by simp) (w := w) rfl)
    simp only [val] at AT
    rw [show (x == 0) = false by simpa using hx] at IS
    have HX := Lib.hid hx
    clear hx
    go_enter Tryz.func104, Tryz.ntmps104
    go_wp2_with (first
      | (go_at_call 112; (with_reducible refine (IS.out).mono ?_); rintro e w1 ⟨rfl, rfl⟩)
      | (go_at_call 113; (with_reducible refine (AT.out).mono ?_); rintro e w1 ⟨p, rfl, hG, hb1⟩; have HG := Lib.hid hG; clear hG))
    go_ret
    exact ⟨_, rfl, .inr ⟨HX.out, p, rfl, HG.out⟩, hb1⟩

/-- while the law compares: all below as it was, the document's error in its variable -/
structure SmS (w W : World) (q : Nat) (a b : Value) : Prop where
  bel : Below w.heap.size w W
  flt : FltAt W q a b
theorem SmS.later {w W W' : World} {q : Nat} {a b : Value} (h : SmS w W q a b) (hb : Below W.heap.size W W') : SmS w W' q a b := ⟨h.bel.trans (hb.mono h.bel.size), h.flt.later hb⟩
theorem SmS.facts {w W : World} {q : Nat} {a b : Value} (h : SmS w W q a b) : W.cell? ⟨q, 0, none⟩ = some a ∧ W.cell? ⟨q, 1, none⟩ = some b := ⟨h.flt.c0, h.flt.c1⟩
theorem SmS.start (w : World) (a b : Value) : SmS w (w.alloc (.cells #[a, b] 33)).drew w.heap.size a b := ⟨((Below.refl _ _).alloc (Nat.le_refl _) _).drew, FltAt.new w a b⟩

end Go.Proofs.YtnjlganofjkpfaaGreatDoor
