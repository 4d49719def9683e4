/-
  Layer 6's Read.
-/
import Derived.Test.YtfebifpofhodoaaSupG
import Derived.Laws.ResultCell
namespace Go.Proofs.Ytfebifpofhodoaa
open Go.RowKit
set_option linter.unusedVariables false
set_option linter.unusedSimpArgs false

set_option maxHeartbeats 400000 in
theorem Equal_any (A1 : Option Addr) (n1 c1 : Nat) (l1 : List UInt8) (A2 : Option Addr) (n2 c2 : Nat) (l2 : List UInt8) (w : World) (h1 : Bytes8 w A1 n1 c1 l1) (h2 : Bytes8 w A2 n2 c2 l2) (r : Bool) (hr : decide (l1 = l2) = r) :
    Calls Try.prog 21 #[.slice A1 n1 c1, .slice A2 n2 c2] w fun e w' => e = .returned (.bool r) ∧ w = w' := by
  have cv1 := run_str h1
  have cv2 := run_str h2
  clear h1 h2
  go_enter Try.func21, Try.ntmps21
  go_wp2
  go_ret
  exact ⟨ret_bool (by rw [← hr, Bool.eq_iff_iff]; simp), rfl⟩

/-- what Read answers -/
def readE (l : List UInt8) : Int := if allB (readF l) 11 = true ∧ encS (readF l) = l then 0 else 7
def readS (l : List UInt8) : Nat → Int := if readE l = 0 then readF l else fun _ => 0

theorem results_sup {fn : Func} {p u : Tmp} (h : fn.results = #[.cell p 23, .tmp u]) (tmps : Array Value) (w : World) (g : Nat) (f : Nat → Int)
    (hp : tmps.getD p undef = .pointer (some ⟨g, 0, none⟩)) (hg : SupAt w g f) : (results fn tmps).run Try.prog w = .ok (.tuple #[supV f, tmps.getD u undef]) w := by
  rw [results_cell_tmp h, hp]
  simp [asAddr, run_loadVar_row w g _ _ _ _ _ hg Try.underlying23 rfl (by kernel_rfl), Result.andThen, supV]

theorem SupAt.store {w : World} {g : Nat} {f : Nat → Int} (hs : SupAt w g f) (h : Nat → Int) : SupAt (((((((((((w.setCell ⟨g, 0, none⟩ (.int .i64 (h 0))).setCell ⟨g, 1, none⟩ (.int .i64 (h 1))).setCell ⟨g, 2, none⟩ (.int .i64 (h 2))).setCell ⟨g, 3, none⟩ (.int .i64 (h 3))).setCell ⟨g, 4, none⟩ (.int .i64 (h 4))).setCell ⟨g, 5, none⟩ (.int .i64 (h 5))).setCell ⟨g, 6, none⟩ (.int .i64 (h 6))).setCell ⟨g, 7, none⟩ (.int .i64 (h 7))).setCell ⟨g, 8, none⟩ (.int .i64 (h 8))).setCell ⟨g, 9, none⟩ (.int .i64 (h 9))).setCell ⟨g, 10, none⟩ (.int .i64 (h 10))) g h := by
  have := ((((((((((hs.set (k := 0) (by omega) (h 0)).set (k := 1) (by omega) (h 1)).set (k := 2) (by omega) (h 2)).set (k := 3) (by omega) (h 3)).set (k := 4) (by omega) (h 4)).set (k := 5) (by omega) (h 5)).set (k := 6) (by omega) (h 6)).set (k := 7) (by omega) (h 7)).set (k := 8) (by omega) (h 8)).set (k := 9) (by omega) (h 9)).set (k := 10) (by omega) (h 10)
  exact this

theorem below_store {B g : Nat} {w0 w : World} (hb : Below B w0 w) (hg : B ≤ g) (v0 v1 v2 v3 v4 v5 v6 v7 v8 v9 v10 : Value) : Below B w0 (((((((((((w.setCell ⟨g, 0, none⟩ v0).setCell ⟨g, 1, none⟩ v1).setCell ⟨g, 2, none⟩ v2).setCell ⟨g, 3, none⟩ v3).setCell ⟨g, 4, none⟩ v4).setCell ⟨g, 5, none⟩ v5).setCell ⟨g, 6, none⟩ v6).setCell ⟨g, 7, none⟩ v7).setCell ⟨g, 8, none⟩ v8).setCell ⟨g, 9, none⟩ v9).setCell ⟨g, 10, none⟩ v10) :=
  ((((((((((hb.setCell (p := ⟨g, 0, none⟩) hg _).setCell (p := ⟨g, 1, none⟩) hg _).setCell (p := ⟨g, 2, none⟩) hg _).setCell (p := ⟨g, 3, none⟩) hg _).setCell (p := ⟨g, 4, none⟩) hg _).setCell (p := ⟨g, 5, none⟩) hg _).setCell (p := ⟨g, 6, none⟩) hg _).setCell (p := ⟨g, 7, none⟩) hg _).setCell (p := ⟨g, 8, none⟩) hg _).setCell (p := ⟨g, 9, none⟩) hg _).setCell (p := ⟨g, 10, none⟩) hg _

theorem four_new (w : World) (o1 o2 o3 o4 : Obj) : ((((w.alloc o1).alloc o2).alloc o3).alloc o4).heap[w.heap.size]? = some o1 ∧ ((((w.alloc o1).alloc o2).alloc o3).alloc o4).heap[w.heap.size + 1]? = some o2 ∧ ((((w.alloc o1).alloc o2).alloc o3).alloc o4).heap[w.heap.size + 2]? = some o3 ∧ ((((w.alloc o1).alloc o2).alloc o3).alloc o4).heap[w.heap.size + 3]? = some o4 ∧ Below w.heap.size w ((((w.alloc o1).alloc o2).alloc o3).alloc o4) := by
  obtain ⟨a1, a2, a3⟩ := two_new w o1 o2
  obtain ⟨b1, b2, b3⟩ := two_new ((w.alloc o1).alloc o2) o3 o4
  have hs : ((w.alloc o1).alloc o2).heap.size = w.heap.size + 2 := by simp
  rw [hs] at b1 b2 b3
  exact ⟨(b3.block _ (by omega)).trans a1, (b3.block _ (by omega)).trans a2, b1, b2, a3.trans (b3.mono (by omega))⟩

set_option maxRecDepth 100000 in
set_option maxHeartbeats 1600000 in
theorem SRead_any (A : Option Addr) (n c : Nat) (l : List UInt8) (w : World) (h : Bytes8 w A n c l) :
    Calls Try.prog 11 #[.slice A n c] w fun e w' => e = .returned (.tuple #[supV (readS l), .int .i64 (readE l)]) ∧ Below w.heap.size w w' := by
  have hmf : ∀ (fn : Fn) (first cap : Array Value) (w : World), (Instr.makeFunc fn first cap).run Try.prog w = .ok (.func fn first cap) w := fun _ _ _ _ => rfl
  obtain ⟨t1, t2, t3, t4, tb⟩ := four_new w (.cells #[.slice A n c] 24) (.cells (supC fun _ => 0) 23) (.cells (supC fun _ => 0) 23) (.cells #[.int .i64 12] 3)
  have hk0 : supC (readK l 0) = supC fun _ => 0 := supC_congr fun k _ => by rw [readK, if_neg (by omega)]
  have V : Hid (Calls Try.prog 13 #[.pointer (some ⟨w.heap.size + 2, 0, none⟩), .func (.func 19) #[] #[.pointer (some ⟨w.heap.size, 0, none⟩), .pointer (some ⟨w.heap.size + 3, 0, none⟩)]]
      ((((w.alloc (.cells #[.slice A n c] 24)).alloc (.cells (supC fun _ => 0) 23)).alloc (.cells (supC fun _ => 0) 23)).alloc (.cells #[.int .i64 12] 3)) fun e w' => e = .returned (.tuple #[]) ∧
      Below w.heap.size w w' ∧ SupAt w' (w.heap.size + 1 + 1) (readF l) ∧ SupAt w' (w.heap.size + 1) (fun _ => 0) ∧ w'.heap[w.heap.size]? = some (Obj.cells #[.slice A n c] 24 (0, 0))) :=
    (read_visit (gi := w.heap.size) (p := w.heap.size + 2) (ga := w.heap.size + 3) (r := w.heap.size + 1) h (by omega) (by omega) (by omega) (by omega) (by omega) (by omega) (by omega) ⟨tb, by rw [SupAt, hk0]; exact t3, t1, t4, t2⟩).mono fun e w' ⟨h1, hI⟩ => by
      have hs := hI.sup
      rw [SupAt, supC_congr (g := readF l) fun k hk => by rw [readK, if_pos hk]] at hs
      exact ⟨h1, hI.bel, hs, hI.res, hI.inn⟩
  have HB := Lib.hid h
  clear t1 t2 t3 t4 tb hk0 h
  have P : Hid (∀ W, Calls Try.prog 6 #[supV (readF l)] W fun e w' => ∃ A m c, e = .returned (.tuple #[.slice A m c, .int .i64 (putSE (readF l))]) ∧ Bytes8 w' A m c (putSB (readF l)) ∧ Below W.heap.size W w') := fun W => SPut_any W _
  simp only [supC] at V
  simp only [supV, supC] at P
  cases hr : allB (readF l) 11 with
  | false =>
    have e1 : readE l = 7 := by rw [readE, if_neg (by simp [hr])]
    have e2 : readS l = fun _ => 0 := by rw [readS, if_neg (by rw [e1]; omega)]
    have e3 : putSE (readF l) = 1 := by rw [putSE, if_neg (by simp [hr])]
    rw [e1, e2]
    rw [e3] at P
    clear e1 e2 e3 hr
    go_enter Try.func11, Try.ntmps11
    go_wp2_with (first
      | (go_at_call 13; (with_reducible refine (V.out).mono ?_); rintro e w1 ⟨rfl, hb1, hs1, hz1, hi1⟩; have q0 := SupAt.cell (f := readF l) hs1 (k := 0) (by omega); have q1 := SupAt.cell (f := readF l) hs1 (k := 1) (by omega); have q2 := SupAt.cell (f := readF l) hs1 (k := 2) (by omega); have q3 := SupAt.cell (f := readF l) hs1 (k := 3) (by omega); have q4 := SupAt.cell (f := readF l) hs1 (k := 4) (by omega); have q5 := SupAt.cell (f := readF l) hs1 (k := 5) (by omega); have q6 := SupAt.cell (f := readF l) hs1 (k := 6) (by omega); have q7 := SupAt.cell (f := readF l) hs1 (k := 7) (by omega); have q8 := SupAt.cell (f := readF l) hs1 (k := 8) (by omega); have q9 := SupAt.cell (f := readF l) hs1 (k := 9) (by omega); have q10 := SupAt.cell (f := readF l) hs1 (k := 10) (by omega); have HZ1 := Lib.hid hz1; clear hz1)
      | (go_at_call 6; (with_reducible refine (P.out _).mono ?_); rintro e w2 ⟨A2, m2, c2, rfl, _, hb2⟩; have hz2 := (hb2.block _ (block_lt HZ1.out)).trans HZ1.out; have z0 := SupAt.cell (f := fun _ => 0) hz2 (k := 0) (by omega); have y0 := Lib.frozen_of_heap hz2 0; have z1 := SupAt.cell (f := fun _ => 0) hz2 (k := 1) (by omega); have y1 := Lib.frozen_of_heap hz2 1; have z2 := SupAt.cell (f := fun _ => 0) hz2 (k := 2) (by omega); have y2 := Lib.frozen_of_heap hz2 2; have z3 := SupAt.cell (f := fun _ => 0) hz2 (k := 3) (by omega); have y3 := Lib.frozen_of_heap hz2 3; have z4 := SupAt.cell (f := fun _ => 0) hz2 (k := 4) (by omega); have y4 := Lib.frozen_of_heap hz2 4; have z5 := SupAt.cell (f := fun _ => 0) hz2 (k := 5) (by omega); have y5 := Lib.frozen_of_heap hz2 5; have z6 := SupAt.cell (f := fun _ => 0) hz2 (k := 6) (by omega); have y6 := Lib.frozen_of_heap hz2 6; have z7 := SupAt.cell (f := fun _ => 0) hz2 (k := 7) (by omega); have y7 := Lib.frozen_of_heap hz2 7; have z8 := SupAt.cell (f := fun _ => 0) hz2 (k := 8) (by omega); have y8 := Lib.frozen_of_heap hz2 8; have z9 := SupAt.cell (f := fun _ => 0) hz2 (k := 9) (by omega); have y9 := Lib.frozen_of_heap hz2 9; have z10 := SupAt.cell (f := fun _ => 0) hz2 (k := 10) (by omega); have y10 := Lib.frozen_of_heap hz2 10))
    refine bodyPost_ret (results_sup Try.results11 _ _ (w.heap.size + 1) (fun _ => 0) rfl (SupAt.store hz2 (fun _ => 0))) rfl ?_
    exact ⟨rfl, below_store (hb1.trans (hb2.mono hb1.size)) (by omega) _ _ _ _ _ _ _ _ _ _ _⟩
  | true =>
    have e3 : putSE (readF l) = 0 := by rw [putSE, if_pos hr]
    have e4 : putSB (readF l) = encS (readF l) := by rw [putSB, if_pos hr]
    rw [e3, e4] at P
    clear e3 e4
    by_cases hl : encS (readF l) = l
    · have e1 : readE l = 0 := by rw [readE, if_pos ⟨hr, hl⟩]
      have e2 : readS l = readF l := by rw [readS, if_pos e1]
      rw [e1, e2]
      rw [hl] at P
      clear e1 e2 hr hl
      go_enter Try.func11, Try.ntmps11
      go_wp2_with (first
        | (go_at_call 13; (with_reducible refine (V.out).mono ?_); rintro e w1 ⟨rfl, hb1, hs1, hz1, hi1⟩; have q0 := SupAt.cell (f := readF l) hs1 (k := 0) (by omega); have q1 := SupAt.cell (f := readF l) hs1 (k := 1) (by omega); have q2 := SupAt.cell (f := readF l) hs1 (k := 2) (by omega); have q3 := SupAt.cell (f := readF l) hs1 (k := 3) (by omega); have q4 := SupAt.cell (f := readF l) hs1 (k := 4) (by omega); have q5 := SupAt.cell (f := readF l) hs1 (k := 5) (by omega); have q6 := SupAt.cell (f := readF l) hs1 (k := 6) (by omega); have q7 := SupAt.cell (f := readF l) hs1 (k := 7) (by omega); have q8 := SupAt.cell (f := readF l) hs1 (k := 8) (by omega); have q9 := SupAt.cell (f := readF l) hs1 (k := 9) (by omega); have q10 := SupAt.cell (f := readF l) hs1 (k := 10) (by omega); have HZ1 := Lib.hid hz1; have HS1 := Lib.hid hs1; have HI1 := Lib.hid hi1; clear hz1 hi1)
        | (go_at_call 6; (with_reducible refine (P.out _).mono ?_); rintro e w2 ⟨A2, m2, c2, rfl, hB2, hb2⟩; have HB2 := Lib.hid hB2; clear hB2; have hz2 := (hb2.block _ (block_lt HZ1.out)).trans HZ1.out; have hp2 := (hb2.block _ (block_lt HS1.out)).trans HS1.out; have hi2 := (hb2.block _ (block_lt HI1.out)).trans HI1.out; have ci2 : w2.cell? ⟨w.heap.size, 0, none⟩ = some (.slice A n c) := (by rw [cell_of_row w2 w.heap.size 0 _ _ _ hi2]; rfl); clear hi2; have s0 := SupAt.cell (f := readF l) hp2 (k := 0) (by omega); have s1 := SupAt.cell (f := readF l) hp2 (k := 1) (by omega); have s2 := SupAt.cell (f := readF l) hp2 (k := 2) (by omega); have s3 := SupAt.cell (f := readF l) hp2 (k := 3) (by omega); have s4 := SupAt.cell (f := readF l) hp2 (k := 4) (by omega); have s5 := SupAt.cell (f := readF l) hp2 (k := 5) (by omega); have s6 := SupAt.cell (f := readF l) hp2 (k := 6) (by omega); have s7 := SupAt.cell (f := readF l) hp2 (k := 7) (by omega); have s8 := SupAt.cell (f := readF l) hp2 (k := 8) (by omega); have s9 := SupAt.cell (f := readF l) hp2 (k := 9) (by omega); have s10 := SupAt.cell (f := readF l) hp2 (k := 10) (by omega); have z0 := SupAt.cell (f := fun _ => 0) hz2 (k := 0) (by omega); have y0 := Lib.frozen_of_heap hz2 0; have z1 := SupAt.cell (f := fun _ => 0) hz2 (k := 1) (by omega); have y1 := Lib.frozen_of_heap hz2 1; have z2 := SupAt.cell (f := fun _ => 0) hz2 (k := 2) (by omega); have y2 := Lib.frozen_of_heap hz2 2; have z3 := SupAt.cell (f := fun _ => 0) hz2 (k := 3) (by omega); have y3 := Lib.frozen_of_heap hz2 3; have z4 := SupAt.cell (f := fun _ => 0) hz2 (k := 4) (by omega); have y4 := Lib.frozen_of_heap hz2 4; have z5 := SupAt.cell (f := fun _ => 0) hz2 (k := 5) (by omega); have y5 := Lib.frozen_of_heap hz2 5; have z6 := SupAt.cell (f := fun _ => 0) hz2 (k := 6) (by omega); have y6 := Lib.frozen_of_heap hz2 6; have z7 := SupAt.cell (f := fun _ => 0) hz2 (k := 7) (by omega); have y7 := Lib.frozen_of_heap hz2 7; have z8 := SupAt.cell (f := fun _ => 0) hz2 (k := 8) (by omega); have y8 := Lib.frozen_of_heap hz2 8; have z9 := SupAt.cell (f := fun _ => 0) hz2 (k := 9) (by omega); have y9 := Lib.frozen_of_heap hz2 9; have z10 := SupAt.cell (f := fun _ => 0) hz2 (k := 10) (by omega); have y10 := Lib.frozen_of_heap hz2 10)
        | (go_at_call 21; refine (Equal_any A2 m2 c2 l A n c l _ HB2.out (HB.out.below (hb1.trans (hb2.mono hb1.size))) true (by simp)).mono ?_; rintro e w' ⟨rfl, rfl⟩))
      refine bodyPost_ret (results_sup Try.results11 _ _ (w.heap.size + 1) (readF l) rfl (SupAt.store hz2 (readF l))) rfl ?_
      exact ⟨rfl, below_store (hb1.trans (hb2.mono hb1.size)) (by omega) _ _ _ _ _ _ _ _ _ _ _⟩
    · have e1 : readE l = 7 := by rw [readE, if_neg (fun h => hl h.2)]
      have e2 : readS l = fun _ => 0 := by rw [readS, if_neg (by rw [e1]; omega)]
      rw [e1, e2]
      have HL := Lib.hid hl
      clear e1 e2 hr hl
      go_enter Try.func11, Try.ntmps11
      go_wp2_with (first
        | (go_at_call 13; (with_reducible refine (V.out).mono ?_); rintro e w1 ⟨rfl, hb1, hs1, hz1, hi1⟩; have q0 := SupAt.cell (f := readF l) hs1 (k := 0) (by omega); have q1 := SupAt.cell (f := readF l) hs1 (k := 1) (by omega); have q2 := SupAt.cell (f := readF l) hs1 (k := 2) (by omega); have q3 := SupAt.cell (f := readF l) hs1 (k := 3) (by omega); have q4 := SupAt.cell (f := readF l) hs1 (k := 4) (by omega); have q5 := SupAt.cell (f := readF l) hs1 (k := 5) (by omega); have q6 := SupAt.cell (f := readF l) hs1 (k := 6) (by omega); have q7 := SupAt.cell (f := readF l) hs1 (k := 7) (by omega); have q8 := SupAt.cell (f := readF l) hs1 (k := 8) (by omega); have q9 := SupAt.cell (f := readF l) hs1 (k := 9) (by omega); have q10 := SupAt.cell (f := readF l) hs1 (k := 10) (by omega); have HZ1 := Lib.hid hz1; have HS1 := Lib.hid hs1; have HI1 := Lib.hid hi1; clear hz1 hi1)
        | (go_at_call 6; (with_reducible refine (P.out _).mono ?_); rintro e w2 ⟨A2, m2, c2, rfl, hB2, hb2⟩; have HB2 := Lib.hid hB2; clear hB2; have hz2 := (hb2.block _ (block_lt HZ1.out)).trans HZ1.out; have hi2 := (hb2.block _ (block_lt HI1.out)).trans HI1.out; have ci2 : w2.cell? ⟨w.heap.size, 0, none⟩ = some (.slice A n c) := (by rw [cell_of_row w2 w.heap.size 0 _ _ _ hi2]; rfl); clear hi2; have z0 := SupAt.cell (f := fun _ => 0) hz2 (k := 0) (by omega); have y0 := Lib.frozen_of_heap hz2 0; have z1 := SupAt.cell (f := fun _ => 0) hz2 (k := 1) (by omega); have y1 := Lib.frozen_of_heap hz2 1; have z2 := SupAt.cell (f := fun _ => 0) hz2 (k := 2) (by omega); have y2 := Lib.frozen_of_heap hz2 2; have z3 := SupAt.cell (f := fun _ => 0) hz2 (k := 3) (by omega); have y3 := Lib.frozen_of_heap hz2 3; have z4 := SupAt.cell (f := fun _ => 0) hz2 (k := 4) (by omega); have y4 := Lib.frozen_of_heap hz2 4; have z5 := SupAt.cell (f := fun _ => 0) hz2 (k := 5) (by omega); have y5 := Lib.frozen_of_heap hz2 5; have z6 := SupAt.cell (f := fun _ => 0) hz2 (k := 6) (by omega); have y6 := Lib.frozen_of_heap hz2 6; have z7 := SupAt.cell (f := fun _ => 0) hz2 (k := 7) (by omega); have y7 := Lib.frozen_of_heap hz2 7; have z8 := SupAt.cell (f := fun _ => 0) hz2 (k := 8) (by omega); have y8 := Lib.frozen_of_heap hz2 8; have z9 := SupAt.cell (f := fun _ => 0) hz2 (k := 9) (by omega); have y9 := Lib.frozen_of_heap hz2 9; have z10 := SupAt.cell (f := fun _ => 0) hz2 (k := 10) (by omega); have y10 := Lib.frozen_of_heap hz2 10)
        | (go_at_call 21; refine (Equal_any A2 m2 c2 (encS (readF l)) A n c l _ HB2.out (HB.out.below (hb1.trans (hb2.mono hb1.size))) false (by simpa using HL.out)).mono ?_; rintro e w' ⟨rfl, rfl⟩))
      refine bodyPost_ret (results_sup Try.results11 _ _ (w.heap.size + 1) (fun _ => 0) rfl (SupAt.store hz2 (fun _ => 0))) rfl ?_
      exact ⟨rfl, below_store (hb1.trans (hb2.mono hb1.size)) (by omega) _ _ _ _ _ _ _ _ _ _ _⟩

end Go.Proofs.Ytfebifpofhodoaa
