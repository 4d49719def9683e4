/-
  Joined: WlkD, WlkE, WlkF, WlkG, WlkH, WlkI.
-/
import Derived.Deep.RegionHeld3
import Derived.Deep.RegionWith
import Derived.Deep.DeepCutAuto
import Derived.Test.YtnjlganofjkpfaaGreatJBldB45
import Derived.Test.YtnjlganofjkpfaaGreatJBldB37
import Derived.Test.YtnjlganofjkpfaaGreatJBldB32
import Derived.Test.YtnjlganofjkpfaaGreatJBldB42
import Derived.LoopTactic
import Derived.Test.YtnjlganofjkpfaaGreatJBldB35
import Derived.Test.YtnjlganofjkpfaaGreatJBldB28
/-
  Layer 14: examine.
-/
namespace Go.Proofs.YtnjlganofjkpfaaGreat
open Go.RowKit
set_option linter.unusedVariables false
set_option linter.unusedSimpArgs false

/-- while a node is examined: the span's variable, the result's variable, all below as it was -/
structure Ex14 (w W : World) (lo hi : Int) (tr : Int) (lf : Bool) (s1 s2 : Value) : Prop where
  keys : SpnAt W w.heap.size lo hi
  res : NodAt W (w.heap.size + 1) tr lf s1 s2
  bel : Below w.heap.size w W
section
variable {w W W' : World} {lo hi tr : Int} {lf : Bool} {s1 s2 : Value}
theorem Ex14.later (h : Ex14 w W lo hi tr lf s1 s2) (hb : Below W.heap.size W W') : Ex14 w W' lo hi tr lf s1 s2 := ⟨h.keys.later hb, h.res.later hb, h.bel.trans (hb.mono h.bel.size)⟩
theorem Ex14.facts (h : Ex14 w W lo hi tr lf s1 s2) : (W.cell? ⟨w.heap.size, 0, none⟩ = some (.int .i64 lo) ∧ W.cell? ⟨w.heap.size, 1, none⟩ = some (.int .i64 hi)) ∧ NodC4 W (w.heap.size + 1) tr lf s1 s2 := ⟨⟨h.keys.c0, h.keys.c1⟩, h.res.cs⟩
theorem Ex14.start (w : World) (lo hi : Int) : Ex14 w ((w.alloc (.cells #[.int .i64 lo, .int .i64 hi] 78)).alloc (.cells #[.int .i64 0, .bool false, .slice none 0 0, .slice none 0 0] 70)) lo hi 0 false (.slice none 0 0) (.slice none 0 0) := by
  obtain ⟨h1, h2, h3⟩ := two_new w (.cells #[.int .i64 lo, .int .i64 hi] 78) (.cells #[.int .i64 0, .bool false, .slice none 0 0, .slice none 0 0] 70)
  exact ⟨h1, h2, h3⟩
theorem Ex14.store (h : Ex14 w W lo hi tr lf s1 s2) (tr' : Int) (lf' : Bool) (s1' s2' : Value) : Ex14 w ((((W.setCell ⟨w.heap.size + 1, 0, none⟩ (.int .i64 tr')).setCell ⟨w.heap.size + 1, 1, none⟩ (.bool lf')).setCell ⟨w.heap.size + 1, 2, none⟩ s1').setCell ⟨w.heap.size + 1, 3, none⟩ s2') lo hi tr' lf' s1' s2' :=
  ⟨(((h.keys.other (by omega) _ _).other (by omega) _ _).other (by omega) _ _).other (by omega) _ _, h.res.store _ _ _ _, below_store7 h.bel (by omega) _ _ _ _⟩
end

theorem build_node14 (w : World) : (Instr.build 70 #[]).run Tryz.prog w = .ok (.agg #[.int .i64 0, .bool false, .slice none 0 0, .slice none 0 0]) w := run_build w _ _ _ (by kernel_rfl)

set_option maxRecDepth 100000 in
set_option maxHeartbeats 1600000 in
theorem examine_loop14 {w : World} {p : Nat} {A : Option Addr} {m c : Nat} {way : List Int} (no lo hi : Int) (hP : w.cell? ⟨p, 8, none⟩ = some (.slice A m c)) (hI : Ints w A m c way) (hin : no ∈ way) :
    Calls Tryz.prog 46 #[.pointer (some ⟨p, 0, none⟩), .int .i64 no, spnV lo hi] w fun e w' => ∃ v, e = .returned (.tuple #[nodV Nod.zero none 0 0 none 0 0, v]) ∧ ErrAt w' v no 11 ∧ Below w.heap.size w w' := by
  have hN0 := Ex14.start w lo hi
  have c8 := (hN0.bel.cell (p := ⟨p, 8, none⟩) (cell_lt hP)).trans hP
  have CT := Lib.hid (Contains_any14 no _ (hI.below hN0.bel))
  rw [decide_eq_true hin] at CT
  have AT := Lib.hid (fun W => At_err no (l := [.num 11]) (by simp) (w := W) rfl)
  simp only [val] at AT
  have bn := build_node14
  obtain ⟨⟨k0, k1⟩, ⟨z0, z1, z2, z3⟩, y0, y1, y2, y3⟩ := hN0.facts
  have HN0 := Lib.hid hN0
  clear hP hI hin hN0
  go_enter Tryz.func46, Tryz.ntmps46
  go_wp2_with (first
    | (go_at_call 58; (with_reducible refine (CT.out).mono ?_); rintro e w1 ⟨rfl, rfl⟩)
    | (go_at_call 45; (with_reducible refine (AT.out _).mono ?_); rintro e w2 ⟨q, rfl, hG, hb⟩; have HG := Lib.hid hG; have hN2 := HN0.out.later hb; obtain ⟨⟨j0, j1⟩, ⟨x0, x1, x2, x3⟩, t0, t1, t2, t3⟩ := hN2.facts; have HN2 := Lib.hid hN2; clear hG hb hN2))
  refine bodyPost_ret (results_nod Tryz.results46 _ _ (w.heap.size + 1) 0 false (.slice none 0 0) (.slice none 0 0) rfl rfl rfl (HN2.out.store _ _ _ _).res) rfl ?_
  exact ⟨_, rfl, .inr ⟨by decide, q, rfl, HG.out.same (HN2.out.res.keeps _ _ _ _)⟩, (HN2.out.store _ _ _ _).bel⟩

set_option maxRecDepth 100000 in
set_option maxHeartbeats 1600000 in
theorem examine_deep14 {w : World} {p : Nat} {A : Option Addr} {m c : Nat} {way : List Int} (no lo hi : Int) (hP : w.cell? ⟨p, 8, none⟩ = some (.slice A m c)) (hI : Ints w A m c way) (hin : no ∉ way) (hd : 16 < way.length + 1) (hm : m ≤ 9223372036854775806) :
    Calls Tryz.prog 46 #[.pointer (some ⟨p, 0, none⟩), .int .i64 no, spnV lo hi] w fun e w' => ∃ v, e = .returned (.tuple #[nodV Nod.zero none 0 0 none 0 0, v]) ∧ ErrAt w' v no 10 ∧ Below w.heap.size w w' := by
  have hN0 := Ex14.start w lo hi
  have c8 := (hN0.bel.cell (p := ⟨p, 8, none⟩) (cell_lt hP)).trans hP
  have CT := Lib.hid (Contains_any14 no _ (hI.below hN0.bel))
  rw [decide_eq_false hin] at CT
  have hml := hI.len
  have hmc := hI.cap
  have hmm := hI.most
  rw [hml] at hd
  have AT := Lib.hid (fun W => At_err no (l := [.num 10]) (by simp) (w := W) rfl)
  simp only [val] at AT
  have bn := build_node14
  obtain ⟨⟨k0, k1⟩, ⟨z0, z1, z2, z3⟩, y0, y1, y2, y3⟩ := hN0.facts
  have hle := hI.le
  have hd2 : (16 : Int) < (m : Int) + 1 := by omega
  · have DP := Lib.hid (depth_any14 p _ c8 hm)
    have HN0 := Lib.hid hN0
    clear hP hI hin hN0 hml
    go_enter Tryz.func46, Tryz.ntmps46
    go_wp2_with (first
      | (go_at_call 58; (with_reducible refine (CT.out).mono ?_); rintro e w1 ⟨rfl, rfl⟩)
      | (go_at_call 59; (with_reducible refine (DP.out).mono ?_); rintro e w1 ⟨rfl, rfl⟩)
      | (go_at_call 45; (with_reducible refine (AT.out _).mono ?_); rintro e w2 ⟨q, rfl, hG, hb⟩; have HG := Lib.hid hG; have hN2 := HN0.out.later hb; obtain ⟨⟨j0, j1⟩, ⟨x0, x1, x2, x3⟩, t0, t1, t2, t3⟩ := hN2.facts; have HN2 := Lib.hid hN2; clear hG hb hN2))
    refine bodyPost_ret (results_nod Tryz.results46 _ _ (w.heap.size + 1) 0 false (.slice none 0 0) (.slice none 0 0) rfl rfl rfl (HN2.out.store _ _ _ _).res) rfl ?_
    exact ⟨_, rfl, .inr ⟨by decide, q, rfl, HG.out.same (HN2.out.res.keeps _ _ _ _)⟩, (HN2.out.store _ _ _ _).bel⟩

/-- the node's own variable beside them -/
structure Ey14 (w W : World) (lo hi : Int) (b : Nat) (nd : Nod) (s1 s2 : Value) : Prop where
  ex : Ex14 w W lo hi 0 false (.slice none 0 0) (.slice none 0 0)
  own : NodAt W b nd.tree nd.leaf s1 s2
  low : w.heap.size + 2 ≤ b
theorem Ey14.later {w W W' : World} {lo hi : Int} {b : Nat} {nd : Nod} {s1 s2 : Value} (h : Ey14 w W lo hi b nd s1 s2) (hb : Below W.heap.size W W') : Ey14 w W' lo hi b nd s1 s2 := ⟨h.ex.later hb, h.own.later hb, h.low⟩

theorem Ey14.made {w W : World} {lo hi no x : Int} {nd : Nod} {v : Value} {A5 : Option Addr} {n5 c5 : Nat} {A6 : Option Addr} {n6 c6 : Nat} (h : Ex14 w W lo hi 0 false (.slice none 0 0) (.slice none 0 0)) (hI : NodIn W nd A5 n5 c5 A6 n6 c6) (hE : ErrAt W v no x) :
    Ey14 w (W.alloc (.cells #[.int .i64 nd.tree, .bool nd.leaf, .slice A5 n5 c5, .slice A6 n6 c6] 70)) lo hi W.heap.size nd (.slice A5 n5 c5) (.slice A6 n6 c6) ∧ NodIn (W.alloc (.cells #[.int .i64 nd.tree, .bool nd.leaf, .slice A5 n5 c5, .slice A6 n6 c6] 70)) nd A5 n5 c5 A6 n6 c6 ∧ ErrAt (W.alloc (.cells #[.int .i64 nd.tree, .bool nd.leaf, .slice A5 n5 c5, .slice A6 n6 c6] 70)) v no x := by
  have hb := (Below.refl W.heap.size W).alloc (Nat.le_refl _) (.cells #[.int .i64 nd.tree, .bool nd.leaf, .slice A5 n5 c5, .slice A6 n6 c6] 70)
  exact ⟨⟨h.later hb, NodAt.new W _ _ _ _, block_lt h.res⟩, hI.below hb, hE.below hb⟩
theorem Ey14.fill {w W : World} {lo hi no x : Int} {b : Nat} {nd : Nod} {v : Value} {A5 : Option Addr} {n5 c5 : Nat} {A6 : Option Addr} {n6 c6 : Nat} (h : Ex14 w W lo hi 0 false (.slice none 0 0) (.slice none 0 0)) (hV : NodAt W b 0 false (.slice none 0 0) (.slice none 0 0)) (hb : w.heap.size + 2 ≤ b) (hI : NodIn W nd A5 n5 c5 A6 n6 c6) (hE : ErrAt W v no x) (h5 : Newer (b + 1) A5) (h6 : Newer (b + 1) A6) :
    Ey14 w ((((W.setCell ⟨b, 0, none⟩ (.int .i64 nd.tree)).setCell ⟨b, 1, none⟩ (.bool nd.leaf)).setCell ⟨b, 2, none⟩ (.slice A5 n5 c5)).setCell ⟨b, 3, none⟩ (.slice A6 n6 c6)) lo hi b nd (.slice A5 n5 c5) (.slice A6 n6 c6) ∧ NodIn ((((W.setCell ⟨b, 0, none⟩ (.int .i64 nd.tree)).setCell ⟨b, 1, none⟩ (.bool nd.leaf)).setCell ⟨b, 2, none⟩ (.slice A5 n5 c5)).setCell ⟨b, 3, none⟩ (.slice A6 n6 c6)) nd A5 n5 c5 A6 n6 c6 ∧ ErrAt ((((W.setCell ⟨b, 0, none⟩ (.int .i64 nd.tree)).setCell ⟨b, 1, none⟩ (.bool nd.leaf)).setCell ⟨b, 2, none⟩ (.slice A5 n5 c5)).setCell ⟨b, 3, none⟩ (.slice A6 n6 c6)) v no x :=
  ⟨⟨⟨(((h.keys.other (by omega) _ _).other (by omega) _ _).other (by omega) _ _).other (by omega) _ _, four_other h.res (by omega) _ _ _ _, below_store7 h.bel (by omega) _ _ _ _⟩, hV.store _ _ _ _, hb⟩, hI.newer h5 h6 (four_keep W b _ _ _ _ (by omega)), hE.keep (hV.keeps _ _ _ _)⟩

end Go.Proofs.YtnjlganofjkpfaaGreat

/-
  Layer 14: examine, a node that is neither on its path nor too deep.
-/
namespace Go.Proofs.YtnjlganofjkpfaaGreat
open Go.RowKit
set_option linter.unusedVariables false
set_option linter.unusedSimpArgs false

/-- what is wrong with a node that is read where it stands -/
def exX14 (x : Int) (lo hi : Int) (nd : Nod) (deep : Int) (d : Nat) : Int :=
  if x ≠ 0 then x else if ins13 lo hi nd.keys = false then 9 else if nd.leaf = true ∧ deep ≠ 0 ∧ ((d : Nat) : Int) + 1 ≠ deep then 10 else 0

set_option maxRecDepth 100000 in
set_option maxHeartbeats 3200000 in
theorem examine_rest14 {w : World} {p q : Nat} {A : Option Addr} {m c : Nat} {way : List Int} (no lo hi tree deep : Int) (hP : w.cell? ⟨p, 8, none⟩ = some (.slice A m c)) (hI : Ints w A m c way) (hin : no ∉ way) (hd : way.length + 1 ≤ 16)
    (h5 : w.cell? ⟨p, 5, none⟩ = some (.pointer (some ⟨q, 0, none⟩))) (h6 : w.cell? ⟨p, 6, none⟩ = some (.int .i64 tree)) (h2 : w.cell? ⟨p, 2, none⟩ = some (.int .i64 deep)) {x : Int} {nd : Nod} (hr : rB13 lo hi = true) (ho : x = 0 → ord13 nd.keys = true)
    (hND : ∀ W, Below w.heap.size w W → Calls Tryz.prog 60 #[.pointer (some ⟨q, 0, none⟩), .int .i64 no, .int .i64 tree] W fun e w' => ∃ v A5 n5 c5 A6 n6 c6, e = .returned (.tuple #[nodV nd A5 n5 c5 A6 n6 c6, v]) ∧ NodIn w' nd A5 n5 c5 A6 n6 c6 ∧ ErrAt w' v no x ∧ Below W.heap.size W w' ∧ Newer W.heap.size A5 ∧ Newer W.heap.size A6) :
    Calls Tryz.prog 46 #[.pointer (some ⟨p, 0, none⟩), .int .i64 no, spnV lo hi] w fun e w' => ∃ v nd' A5 n5 c5 A6 n6 c6, e = .returned (.tuple #[nodV nd' A5 n5 c5 A6 n6 c6, v]) ∧ ErrAt w' v no (exX14 x lo hi nd deep way.length) ∧ Below w.heap.size w w' ∧
      (exX14 x lo hi nd deep way.length = 0 → nd' = nd ∧ NodIn w' nd A5 n5 c5 A6 n6 c6 ∧ Newer w.heap.size A5 ∧ Newer w.heap.size A6) := by
  have hN0 := Ex14.start w lo hi
  have c8 := (hN0.bel.cell (p := ⟨p, 8, none⟩) (cell_lt hP)).trans hP
  have c5 := (hN0.bel.cell (p := ⟨p, 5, none⟩) (cell_lt h5)).trans h5
  have c6 := (hN0.bel.cell (p := ⟨p, 6, none⟩) (cell_lt h6)).trans h6
  have CT := Lib.hid (Contains_any14 no _ (hI.below hN0.bel))
  rw [decide_eq_false hin] at CT
  have hml := hI.len
  have hmc := hI.cap
  have hmm := hI.most
  rw [hml] at hd ⊢
  have bn := build_node14
  obtain ⟨⟨k0, k1⟩, ⟨z0, z1, z2, z3⟩, y0, y1, y2, y3⟩ := hN0.facts
  have hd2 : ¬ (16 : Int) < (m : Int) + 1 := by omega
  have DP := Lib.hid (depth_any14 p _ c8 (by omega))
  have HC : Hid (∀ W, Below w.heap.size w W → W.cell? ⟨p, 5, none⟩ = some (.pointer (some ⟨q, 0, none⟩)) ∧ W.cell? ⟨p, 6, none⟩ = some (.int .i64 tree)) := fun W hb => ⟨(hb.cell (p := ⟨p, 5, none⟩) (cell_lt h5)).trans h5, (hb.cell (p := ⟨p, 6, none⟩) (cell_lt h6)).trans h6⟩
  have hpl : p < w.heap.size := cell_lt (a := ⟨p, 5, none⟩) h5
  have hq2 : w.heap.size ≠ p := by omega
  have hq3 : w.heap.size + 1 + 1 ≠ p := by omega
  have HP := Lib.hid (And.intro hP h2)
  have HN0 := Lib.hid hN0
  have HO := Lib.hid ho
  have HRB := Lib.hid hr
  obtain ⟨tr, lf, ks, vs⟩ := nd
  have ND : Hid (∀ W, Ex14 w W lo hi 0 false (.slice none 0 0) (.slice none 0 0) → Calls Tryz.prog 60 #[.pointer (some ⟨q, 0, none⟩), .int .i64 no, .int .i64 tree] W fun e w' => ∃ v A5 n5 c5 A6 n6 c6, e = .returned (.tuple #[.agg #[.int .i64 tr, .bool lf, .slice A5 n5 c5, .slice A6 n6 c6], v]) ∧ NodIn w' ⟨tr, lf, ks, vs⟩ A5 n5 c5 A6 n6 c6 ∧ ErrAt w' v no x ∧ Below W.heap.size W w' ∧ Newer W.heap.size A5 ∧ Newer W.heap.size A6) := fun W h => (hND W h.bel).mono fun e w' ⟨v, A5, n5, c5, A6, n6, c6, h1, h2, h3, h4, h5, h6⟩ => ⟨v, A5, n5, c5, A6, n6, c6, h1, h2, h3, h4, h5, h6⟩
  obtain ⟨X, hXX⟩ : ∃ X, exX14 x lo hi ⟨tr, lf, ks, vs⟩ deep m = X := ⟨_, rfl⟩
  rw [hXX]
  have HXX := Lib.hid hXX
  clear hP hI hin hN0 hml h5 h6 h2 hND ho hr hXX
  go_enter Tryz.func46, Tryz.ntmps46
  go_upto_region 5 with (first
    | (go_at_call 58; (with_reducible refine (CT.out).mono ?_); rintro e w1 ⟨rfl, rfl⟩)
    | (go_at_call 59; (with_reducible refine (DP.out).mono ?_); rintro e w1 ⟨rfl, rfl⟩))
  go_cut [8, 9] (fun s8 s9 wx => ∃ b A5 n5 c5 A6 n6 c6, s8 = .pointer (some ⟨b, 0, none⟩) ∧ Hid (Ey14 w wx lo hi b ⟨tr, lf, ks, vs⟩ (.slice A5 n5 c5) (.slice A6 n6 c6) ∧ NodIn wx ⟨tr, lf, ks, vs⟩ A5 n5 c5 A6 n6 c6 ∧ ErrAt wx s9 no x ∧ Newer (w.heap.size + 2) A5 ∧ Newer (w.heap.size + 2) A6))
  case first =>
    have HA := Lib.hid (HN0.out.later (Below.refl _ _).drew)
    have HB := Lib.hid (HN0.out.later ((Below.refl _ _).alloc (Nat.le_refl _) (.cells #[.int .i64 0, .bool false, .slice none 0 0, .slice none 0 0] 70)).drew)
    have hV := NodAt.new ((w.alloc (.cells #[.int .i64 lo, .int .i64 hi] 78)).alloc (.cells #[.int .i64 0, .bool false, .slice none 0 0, .slice none 0 0] 70)) 0 false (.slice none 0 0) (.slice none 0 0)
    rw [World.size_alloc, World.size_alloc] at hV
    have HV := Lib.hid hV
    clear hV
    go_region_held3 (fun W => W.cell? ⟨p, 5, none⟩ = some (.pointer (some ⟨q, 0, none⟩)) ∧ W.cell? ⟨p, 6, none⟩ = some (.int .i64 tree))
      (first | assumption | go_keep)
      (first
      | (go_at_call 60; (with_reducible refine (ND.out _ HA.out).mono ?_); rintro e w2 ⟨v, A5, n5, c5, A6, n6, c6, rfl, hI2, hE2, hb2, h52, h62⟩; obtain ⟨c5', c6'⟩ := HC.out _ (HA.out.bel.trans (hb2.mono HA.out.bel.size)); have HX := Lib.hid (And.intro hI2 (And.intro hE2 (And.intro hb2 (And.intro h52 h62)))); clear hI2 hE2 hb2 h52 h62)
      | (go_at_call 60; (with_reducible refine (ND.out _ HB.out).mono ?_); rintro e w2 ⟨v, A5, n5, c5, A6, n6, c6, rfl, hI2, hE2, hb2, h52, h62⟩; have hV2 : NodAt w2 (w.heap.size + 1 + 1) 0 false (.slice none 0 0) (.slice none 0 0) := (hb2.block _ (block_lt HV.out)).trans HV.out; obtain ⟨⟨q0, q1, q2, q3⟩, r0, r1, r2, r3⟩ := hV2.cs; have HV2 := Lib.hid hV2; clear hV2; obtain ⟨c5', c6'⟩ := HC.out _ (HB.out.bel.trans (hb2.mono HB.out.bel.size)); have HX := Lib.hid (And.intro hI2 (And.intro hE2 (And.intro hb2 (And.intro h52 h62)))); clear hI2 hE2 hb2 h52 h62))
    · obtain ⟨hI2, hE2, hb2, h52, h62⟩ := HX.out
      have HF := Lib.hid (Ey14.made (HA.out.later hb2) hI2 hE2)
      have hlo := block_lt HA.out.res
      have h5' := Lib.hid (h52.mono (B' := w.heap.size + 2) hlo)
      have h6' := Lib.hid (h62.mono (B' := w.heap.size + 2) hlo)
      clear hI2 hE2 hb2 h52 h62 hlo
      go_wp2_with fail
      go_meet
      exact ⟨_, A5, n5, c5, A6, n6, c6, rfl, HF.out.1, HF.out.2.1, HF.out.2.2, h5'.out, h6'.out⟩
    · obtain ⟨hI2, hE2, hb2, h52, h62⟩ := HX.out
      have hlo := block_lt HV.out
      have hV3 : NodAt w2 (w.heap.size + 1 + 1) 0 false (.slice none 0 0) (.slice none 0 0) := HV2.out
      have HF := Lib.hid (Ey14.fill (HB.out.later hb2) hV3 (Nat.le_refl _) hI2 hE2 (h52.mono hlo) (h62.mono hlo))
      have h5' := Lib.hid ((h52.mono hlo).mono (B' := w.heap.size + 2) (Nat.le_succ _))
      have h6' := Lib.hid ((h62.mono hlo).mono (B' := w.heap.size + 2) (Nat.le_succ _))
      clear hI2 hE2 hb2 h52 h62 hlo hV3
      go_wp2_with fail
      go_meet
      exact ⟨_, A5, n5, c5, A6, n6, c6, rfl, HF.out.1, HF.out.2.1, HF.out.2.2, h5'.out, h6'.out⟩
  case rest =>
    obtain ⟨b, A5, n5, c5', A6, n6, c6', rfl, hX⟩ := hcut
    obtain ⟨hY, hI, hE, hn5, hn6⟩ := hX.out
    obtain ⟨⟨k0, k1⟩, ⟨z0, z1, z2, z3⟩, y0, y1, y2, y3⟩ := hY.ex.facts
    obtain ⟨⟨o0, o1, o2, o3⟩, p0, p1, p2, p3⟩ := hY.own.cs
    have HY := Lib.hid hY
    have HI := Lib.hid hI
    have HNN := Lib.hid (And.intro hn5 hn6)
    have hkl := hI.keys.len
    have hkc := hI.keys.cap
    have hkm := hI.keys.most
    clear hX hY hI hn5 hn6 CT DP c8 c5 c6 hq2 hq3 HC ND HN0
    by_cases hx : x = 0
    · subst hx
      have hv9 : u9 = .nilIface := by
        rcases hE with ⟨_, h⟩ | ⟨h, _⟩
        · exact h
        · exact absurd rfl h
      subst hv9
      clear hE
      have FT := Lib.hid (Fits_any13 lo hi wc HI.out.keys)
      cases hins : ins13 lo hi ks with
      | false =>
        have e1 : exX14 0 lo hi ⟨tr, lf, ks, vs⟩ deep m = 9 := by
          unfold exX14
          rw [if_neg (by simp), if_pos hins]
        rw [fit13_key HRB.out (HO.out rfl) hins] at FT
        have AT := Lib.hid (fun W => At_err no (l := [.num 9]) (by simp) (w := W) rfl)
        simp only [val] at AT
        obtain rfl : 9 = X := e1.symm.trans HXX.out
        clear hins e1
        go_wp2_with (first
          | (go_at_call 61; (with_reducible refine (FT.out).mono ?_); rintro e w3 ⟨rfl, hb3⟩; have HY3 := Lib.hid (HY.out.later hb3); clear hb3)
          | (go_at_call 45; (with_reducible refine (AT.out _).mono ?_); rintro e w4 ⟨q4, rfl, hG, hb⟩; have HG := Lib.hid hG; have hN2 := HY3.out.ex.later hb; obtain ⟨⟨j0, j1⟩, ⟨x0, x1, x2, x3⟩, t0, t1, t2, t3⟩ := hN2.facts; have HN2 := Lib.hid hN2; clear hG hb hN2))
        refine bodyPost_ret (results_nod Tryz.results46 _ _ (w.heap.size + 1) 0 false (.slice none 0 0) (.slice none 0 0) rfl rfl rfl (HN2.out.store _ _ _ _).res) rfl ?_
        exact ⟨_, Nod.zero, none, 0, 0, none, 0, 0, rfl, .inr ⟨by decide, q4, rfl, HG.out.same (HN2.out.res.keeps _ _ _ _)⟩, (HN2.out.store _ _ _ _).bel, fun h => absurd h (by decide)⟩
      | true =>
        rw [fit13_ok HRB.out (HO.out rfl) hins] at FT
        have AT := Lib.hid (fun W => At_err no (l := [.num 10]) (by simp) (w := W) rfl)
        simp only [val] at AT
        have DC : Hid (∀ W, Below w.heap.size w W → W.cell? ⟨p, 2, none⟩ = some (.int .i64 deep) ∧ W.cell? ⟨p, 8, none⟩ = some (.slice A m c)) := fun W hb => ⟨(hb.cell (p := ⟨p, 2, none⟩) (cell_lt HP.out.2)).trans HP.out.2, (hb.cell (p := ⟨p, 8, none⟩) (cell_lt HP.out.1)).trans HP.out.1⟩
        have hXX := HXX.out
        unfold exX14 at hXX
        rw [if_neg (by simp), if_neg (by rw [hins]; decide)] at hXX
        have key : (lf = false ∧ X = 0) ∨ (lf = true ∧ (deep != 0) = false ∧ X = 0) ∨ (lf = true ∧ (deep != 0) = true ∧ (deep != (m : Int) + 1) = false ∧ X = 0) ∨ (lf = true ∧ (deep != 0) = true ∧ (deep != (m : Int) + 1) = true ∧ X = 10) := by
          cases lf with
          | false => left; rw [if_neg (by simp)] at hXX; exact ⟨rfl, hXX.symm⟩
          | true =>
            right
            by_cases h0 : deep = 0
            · left; rw [if_neg (fun h => h.2.1 h0)] at hXX; exact ⟨rfl, by simp [h0], hXX.symm⟩
            · right
              by_cases h1 : deep = (m : Int) + 1
              · left; rw [if_neg (fun h => h.2.2 h1.symm)] at hXX; exact ⟨rfl, by simpa using h0, by simp [h1], hXX.symm⟩
              · right; rw [if_pos ⟨rfl, h0, fun h => h1 h.symm⟩] at hXX; exact ⟨rfl, by simpa using h0, by simpa using h1, hXX.symm⟩
        clear hins hXX HXX
        rcases key with ⟨rfl, rfl⟩ | ⟨rfl, g1, rfl⟩ | ⟨rfl, g1, g2, rfl⟩ | ⟨rfl, g1, g2, rfl⟩
        all_goals
          go_wp2_with (go_at_call 61; (with_reducible refine (FT.out).mono ?_); rintro e w3 ⟨rfl, hb3⟩; have hY3 := HY.out.later hb3; obtain ⟨⟨k0, k1⟩, ⟨z0, z1, z2, z3⟩, y0, y1, y2, y3⟩ := hY3.ex.facts; obtain ⟨⟨o0, o1, o2, o3⟩, p0, p1, p2, p3⟩ := hY3.own.cs; have HI3 := Lib.hid (HI.out.below hb3); obtain ⟨d2, d8⟩ := DC.out _ hY3.ex.bel; have DP : Hid (∀ nq, Calls Tryz.prog 59 #[.pointer (some ⟨p, 0, none⟩)] (w3.drewN nq) fun e w' => e = .returned (.int .i64 ((m : Int) + 1)) ∧ w' = w3.drewN nq) := (fun nq => (depth_any14 p _ (DC.out _ (below_drewN hY3.ex.bel nq)).2 (by omega)).mono fun _ _ h => ⟨h.1, h.2.symm⟩); have HY3 := Lib.hid hY3; clear hb3 hY3)
          go_quiet (first | (go_at_call 59; refine Calls.quiet_of_same (DP.out _)))
        all_goals
          have hY4 := HY3.out.later (below_drewN (Below.refl w3.heap.size w3) nq)
          have HI4 := Lib.hid (HI3.out.below (below_drewN (Below.refl w3.heap.size w3) nq))
          obtain ⟨⟨s0, s1⟩, ⟨g3, g4, g5, g6⟩, f3, f4, f5, f6⟩ := hY4.ex.facts
          obtain ⟨⟨r0, r1, r2, r3⟩, n0, n1, n2, n3⟩ := hY4.own.cs
          have HY4 := Lib.hid hY4
          clear hY4
          go_wp2_with (go_at_call 45; (with_reducible refine (AT.out _).mono ?_); rintro e w4 ⟨q4, rfl, hG, hb⟩; have HG := Lib.hid hG; have hN2 := HY4.out.ex.later hb; obtain ⟨⟨j0, j1⟩, ⟨x0, x1, x2, x3⟩, t0, t1, t2, t3⟩ := hN2.facts; have HN2 := Lib.hid hN2; clear hG hb hN2)
        · refine bodyPost_ret (results_nod Tryz.results46 _ _ (w.heap.size + 1) tr false (.slice A5 n5 c5') (.slice A6 n6 c6') rfl rfl rfl (HY4.out.ex.store tr false (.slice A5 n5 c5') (.slice A6 n6 c6')).res) rfl ?_
          have h9 := (HY4.out.ex.store tr false (.slice A5 n5 c5') (.slice A6 n6 c6')).bel
          have h8 := HI4.out.newer HNN.out.1 HNN.out.2 (four_keep (w3.drewN nq) (w.heap.size + 1) (.int .i64 tr) (.bool false) (.slice A5 n5 c5') (.slice A6 n6 c6') (by omega))
          exact ⟨_, _, A5, n5, c5', A6, n6, c6', rfl, .inl ⟨rfl, rfl⟩, h9, rfl, h8, HNN.out.1.mono (by omega), HNN.out.2.mono (by omega)⟩
        · refine bodyPost_ret (results_nod Tryz.results46 _ _ (w.heap.size + 1) tr true (.slice A5 n5 c5') (.slice A6 n6 c6') rfl rfl rfl (HY4.out.ex.store tr true (.slice A5 n5 c5') (.slice A6 n6 c6')).res) rfl ?_
          have h9 := (HY4.out.ex.store tr true (.slice A5 n5 c5') (.slice A6 n6 c6')).bel
          have h8 := HI4.out.newer HNN.out.1 HNN.out.2 (four_keep (w3.drewN nq) (w.heap.size + 1) (.int .i64 tr) (.bool true) (.slice A5 n5 c5') (.slice A6 n6 c6') (by omega))
          exact ⟨_, _, A5, n5, c5', A6, n6, c6', rfl, .inl ⟨rfl, rfl⟩, h9, rfl, h8, HNN.out.1.mono (by omega), HNN.out.2.mono (by omega)⟩
        · refine bodyPost_ret (results_nod Tryz.results46 _ _ (w.heap.size + 1) tr true (.slice A5 n5 c5') (.slice A6 n6 c6') rfl rfl rfl (HY4.out.ex.store tr true (.slice A5 n5 c5') (.slice A6 n6 c6')).res) rfl ?_
          have h9 := (HY4.out.ex.store tr true (.slice A5 n5 c5') (.slice A6 n6 c6')).bel
          have h8 := HI4.out.newer HNN.out.1 HNN.out.2 (four_keep (w3.drewN nq) (w.heap.size + 1) (.int .i64 tr) (.bool true) (.slice A5 n5 c5') (.slice A6 n6 c6') (by omega))
          exact ⟨_, _, A5, n5, c5', A6, n6, c6', rfl, .inl ⟨rfl, rfl⟩, h9, rfl, h8, HNN.out.1.mono (by omega), HNN.out.2.mono (by omega)⟩
        · refine bodyPost_ret (results_nod Tryz.results46 _ _ (w.heap.size + 1) 0 false (.slice none 0 0) (.slice none 0 0) rfl rfl rfl (HN2.out.store 0 false (.slice none 0 0) (.slice none 0 0)).res) rfl ?_
          exact ⟨_, Nod.zero, none, 0, 0, none, 0, 0, rfl, .inr ⟨by decide, q4, rfl, HG.out.same (HN2.out.res.keeps _ _ _ _)⟩, (HN2.out.store _ _ _ _).bel, fun h => absurd h (by decide)⟩
    · rcases hE with ⟨h0, _⟩ | ⟨_, q9, rfl, hG⟩
      · exact absurd h0 hx
      have e1 : exX14 x lo hi ⟨tr, lf, ks, vs⟩ deep m = x := by
        unfold exX14
        rw [if_pos hx]
      obtain rfl : x = X := e1.symm.trans HXX.out
      have HG := Lib.hid hG
      have HX := Lib.hid hx
      clear e1 hG hx
      go_wp2
      refine bodyPost_ret (results_nod Tryz.results46 _ _ (w.heap.size + 1) 0 false (.slice none 0 0) (.slice none 0 0) rfl rfl rfl (HY.out.ex.store _ _ _ _).res) rfl ?_
      exact ⟨_, ⟨Nod.zero, none, 0, 0, none, 0, 0, rfl⟩, .inr ⟨HX.out, q9, rfl, HG.out.same (HY.out.ex.res.keeps _ _ _ _)⟩, (HY.out.ex.store _ _ _ _).bel⟩

end Go.Proofs.YtnjlganofjkpfaaGreat

/-
  Layer 14: collect.
-/
namespace Go.Proofs.YtnjlganofjkpfaaGreat
open Go.RowKit
set_option linter.unusedVariables false
set_option linter.unusedSimpArgs false

theorem Ints.mov {p : Nat} {s s' : Rows14} {w w' : World} {A : Option Addr} {n c : Nat} {l : List Int} (h : Ints w A n c l) (hA : Far14 s p A) (hm : Mov14 p s w s' w') : Ints w' A n c l := ⟨h.len, h.cap, h.most, h.row.mov hA hm⟩
theorem Strs.mov {p : Nat} {s s' : Rows14} {w w' : World} {A : Option Addr} {n c : Nat} {l : List (List UInt8)} (h : Strs w A n c l) (hA : Far14 s p A) (hm : Mov14 p s w s' w') : Strs w' A n c l := ⟨h.len, h.cap, h.most, h.row.mov hA hm⟩
theorem NodIn.mov {p : Nat} {s s' : Rows14} {w w' : World} {nd : Nod} {A : Option Addr} {n c : Nat} {A2 : Option Addr} {n2 c2 : Nat} (h : NodIn w nd A n c A2 n2 c2) (h1 : 0 < nd.keys.length → Far14 s p A) (h2 : 0 < nd.vals.length → Far14 s p A2) (hm : Mov14 p s w s' w') : NodIn w' nd A n c A2 n2 c2 := by
  refine ⟨⟨h.keys.len, h.keys.cap, h.keys.most, ?_⟩, ⟨h.vals.len, h.vals.cap, h.vals.most, ?_⟩, h.tb, h.kb, h.vb⟩
  · by_cases e : 0 < nd.keys.length
    · exact h.keys.row.mov (h1 e) hm
    · rw [List.eq_nil_of_length_eq_zero (Nat.eq_zero_of_not_pos e)]; exact Row.nil _ _
  · by_cases e : 0 < nd.vals.length
    · exact h.vals.row.mov (h2 e) hm
    · rw [List.eq_nil_of_length_eq_zero (Nat.eq_zero_of_not_pos e)]; exact Row.nil _ _
theorem NodAt.mov {p b : Nat} {s s' : Rows14} {w w' : World} {tree : Int} {leaf : Bool} {s1 s2 : Value} (h : NodAt w b tree leaf s1 s2) (hn : ¬ s.mine p b) (hm : Mov14 p s w s' w') : NodAt w' b tree leaf s1 s2 := (hm.frm.block b (block_lt h) hn).trans h
theorem SpnAt.mov {p b : Nat} {s s' : Rows14} {w w' : World} {lo hi : Int} (h : SpnAt w b lo hi) (hn : ¬ s.mine p b) (hm : Mov14 p s w s' w') : SpnAt w' b lo hi := (hm.frm.block b (block_lt h) hn).trans h

theorem info_ent14 : (Tryz.prog.info? 26).map (fun i => (i.zero, i.size, i.bytes)) = some (some (.agg #[.int .i64 0, .string ByteArray.empty, .int .i64 0]), 3, 32) := by kernel_rfl

theorem ents14_length (n : Nod) (no : Int) : (ents14 n no).length = n.keys.length := by simp [ents14]
theorem ents14_take {n : Nod} {no : Int} {k : Nat} (h : k < n.keys.length) : (ents14 n no).take (k + 1) = (ents14 n no).take k ++ [(n.keys.getD k 0, n.vals.getD k [], no)] := by
  rw [List.take_succ_eq_append_getElem (by rw [ents14_length]; exact h)]
  simp [ents14]

/-- while the entries are collected -/
structure Co14 (w1 wr : World) (p B : Nat) (im : Value) (tree fuel : Int) (s s' : Rows14) (W : Wlk14) (way : List Int) (nd : Nod) (no : Int) (k : Nat) (A5 : Option Addr) (n5 c5 : Nat) (A6 : Option Addr) (n6 c6 : Nat) : Prop where
  st : St14 wr p im tree fuel s' ⟨W.ents ++ (ents14 nd no).take k, W.blks, (way.length : Int) + 1, W.looked, W.flts⟩ way
  mov : Mov14 p s w1 s' wr
  own : NodAt wr B nd.tree nd.leaf (.slice A5 n5 c5) (.slice A6 n6 c6)
  ndi : NodIn wr nd A5 n5 c5 A6 n6 c6
  f5 : 0 < nd.keys.length → Far14 s' p A5
  f6 : 0 < nd.vals.length → Far14 s' p A6
  fB : ¬ s'.mine p B

theorem Co14.step {w1 wr wd w9 : World} {p B : Nat} {im : Value} {tree fuel : Int} {s s' s9 : Rows14} {W : Wlk14} {way : List Int} {nd : Nod} {no : Int} {k : Nat} {A5 : Option Addr} {n5 c5 : Nat} {A6 : Option Addr} {n6 c6 : Nat} {En : List (Int × List UInt8 × Int)} {x : Int × List UInt8 × Int}
    (h : Co14 w1 wr p B im tree fuel s s' W way nd no k A5 n5 c5 A6 n6 c6) (hE : En = W.ents ++ (ents14 nd no).take k) (hx : (ents14 nd no).take (k + 1) = (ents14 nd no).take k ++ [x]) (hb : Below wr.heap.size wr wd)
    (hX : St14 w9 p im tree fuel s9 ⟨En ++ [x], W.blks, (way.length : Int) + 1, W.looked, W.flts⟩ way ∧ Mov14 p s' wd s9 w9) (h5 : ∀ ad, A5 = some ad → ad.block < wr.heap.size) (h6 : ∀ ad, A6 = some ad → ad.block < wr.heap.size) :
    Co14 w1 w9 p B im tree fuel s s9 W way nd no (k + 1) A5 n5 c5 A6 n6 c6 := by
  have hm : Mov14 p s' wr s9 w9 := (Mov14.of_below s' hb).trans hX.2
  refine ⟨?_, h.mov.trans hm, h.own.mov h.fB hm, h.ndi.mov h.f5 h.f6 hm, fun e => (h.f5 e).mov hm h5, fun e => (h.f6 e).mov hm h6, (hm.block (block_lt h.own) h.fB).2⟩
  have := hX.1
  rw [hE, List.append_assoc, ← hx] at this
  exact this

set_option maxRecDepth 100000 in
set_option maxHeartbeats 3200000 in
theorem collect_any14 {w : World} {p : Nat} {im : Value} {tree fuel : Int} {s : Rows14} {W : Wlk14} {way : List Int} (h : St14 w p im tree fuel s W way) (no : Int) {nd : Nod} {A5 : Option Addr} {n5 c5 : Nat} {A6 : Option Addr} {n6 c6 : Nat}
    (hN : NodIn w nd A5 n5 c5 A6 n6 c6) (hv : nd.vals.length = nd.keys.length) (h5 : 0 < nd.keys.length → Far14 s p A5) (h6 : 0 < nd.vals.length → Far14 s p A6) (hl : nd.keys.length ≤ 18) (hE : W.ents.length ≤ 1000000) (hw : way.length ≤ 1000000) :
    Calls Tryz.prog 47 #[.pointer (some ⟨p, 0, none⟩), .int .i64 no, nodV nd A5 n5 c5 A6 n6 c6] w fun e w' => (∃ v, e = .returned v) ∧ ∃ s', St14 w' p im tree fuel s' ⟨W.ents ++ ents14 nd no, W.blks, (way.length : Int) + 1, W.looked, W.flts⟩ way ∧ Mov14 p s w s' w' := by
  obtain ⟨tr, lf, ks, vs⟩ := nd
  have hk0 := hN.keys.len
  have hv0 := hN.vals.len
  have hkc := hN.keys.cap
  have hvc := hN.vals.cap
  have hkm := hN.keys.most
  have hvm := hN.vals.most
  obtain ⟨A, c, hP, hI⟩ := Ints.of_own h.path
  have hm := h.mine_lt
  have hb0 : Below w.heap.size w (w.alloc (.cells #[.int .i64 tr, .bool lf, .slice A5 n5 c5, .slice A6 n6 c6] 70)) := (Below.refl _ _).alloc (Nat.le_refl _) _
  have h0 := h.later hb0
  have hput := h.put 2 ((way.length : Int) + 1) (.inl rfl)
  have c8 := h0.c8
  rw [hP] at c8
  have DP := Lib.hid (depth_any14 p _ c8 (by omega))
  have c2 := h0.c2
  have f2 := h0.fz 2
  obtain ⟨w1, hw1⟩ : ∃ w1, w1 = w.setCell ⟨p, 2, none⟩ (.int .i64 ((way.length : Int) + 1)) := ⟨_, rfl⟩
  rw [← hw1] at hput
  have hsz : w1.heap.size = w.heap.size := by rw [hw1]; simp [World.setCell]
  have hb1 : Below w1.heap.size w1 (w1.alloc (.cells #[.int .i64 tr, .bool lf, .slice A5 n5 c5, .slice A6 n6 c6] 70)) := (Below.refl _ _).alloc (Nat.le_refl _) _
  have HC0 : Hid (Co14 (w1.alloc (.cells #[.int .i64 tr, .bool lf, .slice A5 n5 c5, .slice A6 n6 c6] 70)) (w1.alloc (.cells #[.int .i64 tr, .bool lf, .slice A5 n5 c5, .slice A6 n6 c6] 70)) p w.heap.size im tree fuel s s W way ⟨tr, lf, ks, vs⟩ no 0 A5 n5 c5 A6 n6 c6) := by
    have hnB : ¬ s.mine p w.heap.size := fun h => by have := (hm _ h).2; omega
    have hV := NodAt.new w1 tr lf (.slice A5 n5 c5) (.slice A6 n6 c6)
    rw [hsz] at hV
    refine ⟨?_, Mov14.refl _ _ _, hV, (hN.mov h5 h6 hput.2).below hb1, h5, h6, hnB⟩
    have := hput.1.later hb1
    simpa using this
  have HM : Hid (Mov14 p s w s (w1.alloc (.cells #[.int .i64 tr, .bool lf, .slice A5 n5 c5, .slice A6 n6 c6] 70))) := hput.2.trans (Mov14.of_below s hb1)
  have HL := Lib.hid (And.intro hk0 (And.intro hv0 (And.intro hv hl)))
  have hnn : n5 ≤ 18 := by rw [← hk0]; exact hl
  have hn6 : n6 = n5 := by rw [← hk0, ← hv0]; exact hv
  subst hn6
  obtain ⟨n2c0, n2c1, n2c2, n2c3⟩ := HC0.out.own.cs.1
  have hpl := h.lt
  subst hw1
  clear h hN h5 h6 hI hP hb0 h0 hput hm hv hk0 hv0 hl hb1 hsz
  simp only [nodV]
  go_enter Tryz.func47, Tryz.ntmps47
  go_wp2_with (go_at_call 59; (with_reducible refine (DP.out).mono ?_); rintro e w2 ⟨rfl, rfl⟩)
  obtain ⟨W1, hW1⟩ : ∃ W1, ((w.setCell ⟨p, 2, none⟩ (.int .i64 ((way.length : Int) + 1))).alloc (.cells #[.int .i64 tr, .bool lf, .slice A5 n6 c5, .slice A6 n6 c6] 70)) = W1 := ⟨_, rfl⟩
  rw [hW1] at HC0 HM n2c0 n2c1 n2c2 n2c3
  simp only [hW1]
  clear hW1 DP c8 c2 f2
  go_loopw [17] (fun i wr => ∃ (k : Nat) (s' : Rows14), k ≤ n6 ∧ i = .int .i64 k ∧ Hid (Co14 W1 wr p w.heap.size im tree fuel s s' W way ⟨tr, lf, ks, vs⟩ no k A5 n6 c5 A6 n6 c6)) (fun i _ => n6 - (intOf i).toNat)
  case atStart => exact ⟨0, s, by omega, rfl, HC0⟩
  case round =>
    obtain ⟨k, s', hk, rfl, HC⟩ := hrel
    by_cases hlt : k < n6
    · obtain ⟨En, hEn⟩ : ∃ En, En = W.ents ++ (ents14 ⟨tr, lf, ks, vs⟩ no).take k := ⟨_, rfl⟩
      have hEl : En.length ≤ 1000018 := by
        rw [hEn, List.length_append, List.length_take]; omega
      obtain ⟨hst, hmv, hown, hnd, hf5, hf6, hfB⟩ := HC.out
      rw [← hEn] at hst
      have c0 := hst.c0
      have f0 := hst.fz 0
      obtain ⟨⟨m0, m1, m2, m3⟩, m4, m5, m6, m7⟩ := hown.cs
      have hk5 : k < ks.length := by have := hnd.keys.len; exact Nat.lt_of_lt_of_eq hlt this.symm
      have hk6 : k < vs.length := by have := hnd.vals.len; exact Nat.lt_of_lt_of_eq hlt this.symm
      obtain ⟨b5, o5, hA5, hl5, hc5⟩ := hnd.keys.row.lit (by rw [i64s_length]; exact Nat.lt_of_le_of_lt (Nat.zero_le _) hk5)
      obtain ⟨b6, o6, hA6, hl6, hc6⟩ := hnd.vals.row.lit (by rw [strV_length]; exact Nat.lt_of_le_of_lt (Nat.zero_le _) hk6)
      have hck : wr.cell? ⟨b5, o5 + k, none⟩ = some (.int .i64 (ks.getD k 0)) := by
        have := hc5 k _ (i64s_at ks k hk5)
        rw [this, List.getD_eq_getElem?_getD, List.getElem?_eq_getElem hk5]; rfl
      have hcv : wr.cell? ⟨b6, o6 + k, none⟩ = some (.string ⟨(vs.getD k []).toArray⟩) := by
        have := hc6 k _ (strV_at vs k hk6)
        rw [this, List.getD_eq_getElem?_getD, List.getElem?_eq_getElem hk6]; rfl
      have HT := Lib.hid (ents14_take (n := ⟨tr, lf, ks, vs⟩) (no := no) hk5)
      have HB5 : Hid (∀ ad, A5 = some ad → ad.block < wr.heap.size) := fun ad e => by rw [hA5] at e; cases e; exact hl5
      have HB6 : Hid (∀ ad, A6 = some ad → ad.block < wr.heap.size) := fun ad e => by rw [hA6] at e; cases e; exact hl6
      have HR : Hid (∀ W1, Below wr.heap.size wr W1 → St14 W1 p im tree fuel s' ⟨En, W.blks, (way.length : Int) + 1, W.looked, W.flts⟩ way ∧ Hid (W1.ownsRow (p + 1) 26 3 s'.E En.length (entC En))) := fun W1 hb => ⟨hst.later hb, (hst.later hb).ents⟩
      have hplw := hst.lt
      have HA := Lib.hid (And.intro hA5 hA6)
      have HEN := Lib.hid hEn
      clear hst hmv hown hnd hf5 hf6 hfB hc5 hc6 hk5 hk6 hEn
      generalize hkey : ks.getD k 0 = key at *
      generalize hval : vs.getD k [] = vl at *
      have HKV := Lib.hid (And.intro hkey hval)
      clear hkey hval
      subst hA5 hA6
      go_wp2
      go_region_law (first
        | (refine step_append_liesG _ rfl (.tmp 27) (.tmp 36) 23 rfl (p + 1) 26 3 (.agg #[.int .i64 0, .string ByteArray.empty, .int .i64 0]) 32 Tryz.underlying23 info_ent14 rfl (by omega) s'.E En.length (entC En) rfl (HR.out _ (((Below.refl _ _).alloc (Nat.le_refl _) _).drew)).2 (by simp; omega) ⟨wr.heap.size, 0, none⟩ [.int .i64 key, .string ⟨vl.toArray⟩, .int .i64 no] 1 1 rfl rfl (Row.of_block (t := 26) (fr := (0, 0)) (heap_alloc_new wr _)) (by simp [Value.oneCell']) (by omega) (by omega) (by omega) ?_
           intro g cap w2 hown hgrow hat
           have hbW := ((Below.refl wr.heap.size wr).alloc (Nat.le_refl _) (.cells #[.int .i64 key, .string ⟨vl.toArray⟩, .int .i64 no] 26)).drew
           obtain ⟨hS1, hO1⟩ := HR.out _ hbW
           have hp2 : w2.heap[p]? = _ := (hgrow.out.block p hS1.lt (fun e => by have := (hO1.out.lt p e.symm).1; omega)).trans hS1.blk
           have c0' : w2.cell? ⟨p, 0, none⟩ = some s'.E := by rw [cell_of_row w2 p 0 _ _ _ hp2]; rfl
           have f0' : w2.frozen? ⟨p, 0, none⟩ = false := frozen_of_row w2 p 0 _ _ hp2
           have HX := Lib.hid (hS1.addEnt (x := (key, vl, no)) hgrow.out hat.out hown.out)
           have HBW := Lib.hid hbW
           clear hown hgrow hat hS1 hO1 hp2 hbW))
      all_goals go_wp2
      all_goals go_roundw
      all_goals try (simp only [intOf]; omega)
      all_goals exact ⟨k + 1, _, by omega, by go_num, HC.out.step HEN.out HT.out HBW.out HX.out HB5.out HB6.out⟩
    · obtain rfl : k = n6 := by omega
      have HC2 := HC.out
      go_wp2
      go_end0
      refine ⟨⟨_, rfl⟩, s', ?_, HM.out.trans HC2.mov⟩
      have := HC2.st
      rw [List.take_of_length_le (by rw [ents14_length]; exact Nat.le_of_eq HL.out.1)] at this
      exact this

end Go.Proofs.YtnjlganofjkpfaaGreat

/-
  Layer 14: examine, for any node.
-/
namespace Go.Proofs.YtnjlganofjkpfaaGreat
open Go.RowKit
set_option linter.unusedVariables false
set_option linter.unusedSimpArgs false

theorem examine_any14 {w : World} {p q g B : Nat} {tree fuel : Int} {s : Rows14} {W : Wlk14} {way : List Int} {L : List UInt8} {n : Nat} (h : St14 w p (.pointer (some ⟨q, 0, none⟩)) tree fuel s W way) (hI : Img w B q g L) (hL : L.length = n * 256) (hw : way.length ≤ 1000000) (no lo hi : Int) (hr : rB13 lo hi = true) :
    Calls Tryz.prog 46 #[.pointer (some ⟨p, 0, none⟩), .int .i64 no, spnV lo hi] w fun e w' => ∃ v nd' A5 n5 c5 A6 n6 c6, e = .returned (.tuple #[nodV nd' A5 n5 c5 A6 n6 c6, v]) ∧ ErrAt w' v no (lookE14 (nd14 L n tree) W.deep ⟨no, lo, hi, way, 0⟩) ∧ Below w.heap.size w w' ∧
      (lookE14 (nd14 L n tree) W.deep ⟨no, lo, hi, way, 0⟩ = 0 → nd' = (nd14 L n tree no).2 ∧ NodIn w' (nd14 L n tree no).2 A5 n5 c5 A6 n6 c6 ∧ Newer w.heap.size A5 ∧ Newer w.heap.size A6) := by
  obtain ⟨A, c, hP, hW⟩ := Ints.of_own h.path
  have c8 := h.c8
  rw [hP] at c8
  by_cases h1 : no ∈ way
  · have e1 : lookE14 (nd14 L n tree) W.deep ⟨no, lo, hi, way, 0⟩ = 11 := if_pos h1
    rw [e1]
    exact (examine_loop14 no lo hi c8 hW h1).mono fun e w' ⟨v, h1, h2, h3⟩ => ⟨v, Nod.zero, none, 0, 0, none, 0, 0, h1, h2, h3, fun h => absurd h (by decide)⟩
  · by_cases h2 : 16 < way.length + 1
    · have e1 : lookE14 (nd14 L n tree) W.deep ⟨no, lo, hi, way, 0⟩ = 10 := (if_neg h1).trans (if_pos h2)
      rw [e1]
      exact (examine_deep14 no lo hi c8 hW h1 h2 (by omega)).mono fun e w' ⟨v, h1, h2, h3⟩ => ⟨v, Nod.zero, none, 0, 0, none, 0, 0, h1, h2, h3, fun h => absurd h (by decide)⟩
    · have e1 : lookE14 (nd14 L n tree) W.deep ⟨no, lo, hi, way, 0⟩ = exX14 (nodE11 L n no tree) lo hi (nodN11 L n no tree) W.deep way.length := (if_neg h1).trans (if_neg h2)
      rw [e1]
      exact examine_rest14 no lo hi tree W.deep c8 hW h1 (by omega) h.c5 h.c6 h.c2 hr (fun hx => (ndOk14 L n tree).ord no hx) (fun W' hb => blockNode_anyF no tree (hI.later hb) hL)

end Go.Proofs.YtnjlganofjkpfaaGreat

/-
  Layer 14: descend, from a contract of visit one block deeper.
-/
namespace Go.Proofs.YtnjlganofjkpfaaGreat
open Go.RowKit
set_option linter.unusedVariables false
set_option linter.unusedSimpArgs false

/-- what a scan's image is -/
structure Im14 (w : World) (p q g B : Nat) (L : List UInt8) (n : Nat) : Prop where
  img : Img w B q g L
  len : L.length = n * 256
  qp : q < p
  gp : g < p
theorem Im14.below {w w' : World} {p q g B : Nat} {L : List UInt8} {n : Nat} (h : Im14 w p q g B L n) (hb : Below p w w') : Im14 w' p q g B L n := ⟨h.img.below hb h.qp h.gp, h.len, h.qp, h.gp⟩

/-- visit, where k blocks more may stand above one another -/
def VisC14 (p q g B : Nat) (tree fuel : Int) (L : List UInt8) (n : Nat) (k : Nat) : Prop :=
  ∀ (w : World) (s : Rows14) (W : Wlk14) (way : List Int) (no lo hi : Int), way.length + k = 16 → St14 w p (.pointer (some ⟨q, 0, none⟩)) tree fuel s W way → Im14 w p q g B L n → Fit14 fuel W way.length → rB13 lo hi = true →
    Calls Tryz.prog 34 #[.pointer (some ⟨p, 0, none⟩), .int .i64 no, spnV lo hi] w fun e w' => ∃ b s' W' way', e = .returned (.bool b) ∧ St14 w' p (.pointer (some ⟨q, 0, none⟩)) tree fuel s' W' way' ∧ (b = true → way' = way) ∧ Step14 (nd14 L n tree) rt14 fuel W [⟨no, lo, hi, way, 0⟩] W' b ∧ Mov14 p s w s' w'

/-- while the children are visited -/
structure De14 (w1 wr : World) (p q g B b0 : Nat) (tree fuel : Int) (s1 s' : Rows14) (L : List UInt8) (n : Nat) (W Wc : Wlk14) (no lo hi : Int) (way : List Int) (nd : Nod) (i : Nat) (A5 : Option Addr) (n5 c5 : Nat) (A6 : Option Addr) (n6 c6 : Nat) (A7 : Option Addr) (c7 : Nat) : Prop where
  st : St14 wr p (.pointer (some ⟨q, 0, none⟩)) tree fuel s' Wc (way ++ [no])
  step : Step14 (nd14 L n tree) rt14 fuel W ((kids14 rt14 ⟨no, lo, hi, way, 0⟩ nd).take i) Wc true
  mov : Mov14 p s1 w1 s' wr
  own : NodAt wr b0 nd.tree nd.leaf (.slice A5 n5 c5) (.slice A6 n6 c6)
  vals : Strs wr A6 n6 c6 nd.vals
  spl : Prs wr A7 n5 c7 (spl13 lo hi nd.keys)
  f6 : Far14 s' p A6
  f7 : Far14 s' p A7
  fB : ¬ s'.mine p b0
  im : Im14 wr p q g B L n
theorem Prs.mov {p : Nat} {s s' : Rows14} {w w' : World} {A : Option Addr} {n c : Nat} {l : List (Int × Int)} (h : Prs w A n c l) (hA : Far14 s p A) (hm : Mov14 p s w s' w') : Prs w' A n c l := ⟨h.len, h.cap, h.most, h.row.mov hA hm⟩
/-- from one world to a later one -/
theorem De14.go {w1 wr w9 : World} {p q g B b0 : Nat} {tree fuel : Int} {s1 s' s9 : Rows14} {L : List UInt8} {n : Nat} {W Wc W9 : Wlk14} {no lo hi : Int} {way : List Int} {nd : Nod} {i : Nat} {A5 : Option Addr} {n5 c5 : Nat} {A6 : Option Addr} {n6 c6 : Nat} {A7 : Option Addr} {c7 : Nat} {kid : Vis14}
    (h : De14 w1 wr p q g B b0 tree fuel s1 s' L n W Wc no lo hi way nd i A5 n5 c5 A6 n6 c6 A7 c7) (hs : St14 w9 p (.pointer (some ⟨q, 0, none⟩)) tree fuel s9 W9 (way ++ [no])) (hm : Mov14 p s' wr s9 w9) (hst : Step14 (nd14 L n tree) rt14 fuel Wc [kid] W9 true)
    (hk : (kids14 rt14 ⟨no, lo, hi, way, 0⟩ nd).take (i + 1) = (kids14 rt14 ⟨no, lo, hi, way, 0⟩ nd).take i ++ [kid]) (h6 : ∀ ad, A6 = some ad → ad.block < wr.heap.size) (h7 : ∀ ad, A7 = some ad → ad.block < wr.heap.size) :
    De14 w1 w9 p q g B b0 tree fuel s1 s9 L n W W9 no lo hi way nd (i + 1) A5 n5 c5 A6 n6 c6 A7 c7 :=
  ⟨hs, by rw [hk]; exact h.step.trans hst, h.mov.trans hm, h.own.mov h.fB hm, h.vals.mov h.f6 hm, h.spl.mov h.f7 hm, h.f6.mov hm h6, h.f7.mov hm h7, (hm.block (block_lt h.own) h.fB).2, h.im.below (Mov14.below h.st hm)⟩

theorem kids14_take {v : Vis14} {nd : Nod} {i : Nat} (h : i < nd.keys.length) : (kids14 rt14 v nd).take (i + 1) = (kids14 rt14 v nd).take i ++ [kid14 rt14 v nd i] := by
  rw [List.take_succ_eq_append_getElem (by rw [kids14_length]; exact h)]
  simp [kids14]
theorem spl13_at {lo hi : Int} {ks : List Int} {i : Nat} (hf : fit13 lo hi ks = 0) (h : i < ks.length) : (pair64 (spl13 lo hi ks))[i * 2]? = some (.int .i64 (ks.getD i 0)) ∧ (pair64 (spl13 lo hi ks))[i * 2 + 1]? = some (.int .i64 (end13 hi ks i)) := by
  have hl : i < (spl13 lo hi ks).length := by rw [spl13_ok hf, List.length_map, List.length_range]; exact h
  obtain ⟨h1, h2⟩ := pair64_at (spl13 lo hi ks) i hl
  have e : (spl13 lo hi ks)[i] = chd13 hi ks i := by simp only [spl13_ok hf, List.getElem_map, List.getElem_range]
  rw [h1, h2, e]
  exact ⟨rfl, rfl⟩

/-- behind the path's append -/
structure Ds14 (w w6 : World) (p q g B : Nat) (tree fuel : Int) (s s5 : Rows14) (L : List UInt8) (n : Nat) (W : Wlk14) (no lo hi : Int) (way : List Int) (nd : Nod) (A5 : Option Addr) (n5 c5 : Nat) (A6 : Option Addr) (n6 c6 : Nat) : Prop where
  st : St14 w6 p (.pointer (some ⟨q, 0, none⟩)) tree fuel s5 W (way ++ [no])
  mov : Mov14 p s w s5 w6
  own : NodAt w6 w.heap.size nd.tree nd.leaf (.slice A5 n5 c5) (.slice A6 n6 c6)
  spn : SpnAt w6 (w.heap.size + 1) lo hi
  ndi : NodIn w6 nd A5 n5 c5 A6 n6 c6
  f5 : Far14 s5 p A5
  f6 : Far14 s5 p A6
  b6 : ∀ ad, A6 = some ad → ad.block < w6.heap.size
  fB : ¬ s5.mine p w.heap.size
  im : Im14 w6 p q g B L n
theorem far_lt14 {w : World} {A : Option Addr} {n c : Nat} {ll : List (List UInt8)} (h : Strs w A n c ll) (hp : 0 < ll.length) : ∀ ad, A = some ad → ad.block < w.heap.size := fun ad e => by
  obtain ⟨b, off, e2, hl, _⟩ := h.row.lit (by rw [strV_length]; exact hp)
  rw [e] at e2; cases e2; exact hl
theorem Ds14.made {w w2 w3 w5 : World} {p q g B : Nat} {tree fuel : Int} {s : Rows14} {L : List UInt8} {n : Nat} {W : Wlk14} {no lo hi : Int} {way : List Int} {nd : Nod} {A5 : Option Addr} {n5 c5 : Nat} {A6 : Option Addr} {n6 c6 : Nat} {g5 cap5 : Nat}
    (h : St14 w p (.pointer (some ⟨q, 0, none⟩)) tree fuel s W way) (hI : Im14 w p q g B L n) (hN : NodIn w nd A5 n5 c5 A6 n6 c6) (h5 : Far14 s p A5) (h6 : Far14 s p A6) (hp5 : ∀ ad, A5 = some ad → ad.block < w.heap.size) (hp6 : ∀ ad, A6 = some ad → ad.block < w.heap.size)
    (hV : NodAt w2 w.heap.size nd.tree nd.leaf (.slice A5 n5 c5) (.slice A6 n6 c6)) (hK : SpnAt w2 (w.heap.size + 1) lo hi) (hb2 : Below w.heap.size w w2) (hb3 : Below w2.heap.size w2 w3)
    (hgrow : w3.grownBy w5 s.P.ownBlock) (hat : s.P.ownBlock = some g5 ∨ g5 = w3.heap.size) (hown : w5.ownsRow (p + 1) 3 1 (.slice (some ⟨g5, 0, none⟩) (way.length + 1) cap5) (way.length + 1) (i64s way ++ [.int .i64 no])) :
    Ds14 w (w5.setCell ⟨p, 8, none⟩ (.slice (some ⟨g5, 0, none⟩) (way.length + 1) cap5)) p q g B tree fuel s ⟨s.E, s.B, s.F, .slice (some ⟨g5, 0, none⟩) (way.length + 1) cap5⟩ L n W no lo hi way nd A5 n5 c5 A6 n6 c6 := by
  have hm := h.mine_lt
  have hS2 := h.later hb2
  have hS3 := hS2.later hb3
  obtain ⟨hX1, hX2⟩ := hS3.addWay hgrow hat hown
  have hM2 := (Mov14.of_below s hb3).trans hX2
  have hM := (Mov14.of_below s hb2).trans hM2
  have n0 : ¬ s.mine p w.heap.size := fun e => by have := (hm _ e).2; omega
  have n1 : ¬ s.mine p (w.heap.size + 1) := fun e => by have := (hm _ e).2; omega
  exact ⟨hX1, hM, hV.mov n0 hM2, hK.mov n1 hM2, hN.mov (fun _ => h5) (fun _ => h6) hM, h5.mov hM hp5, h6.mov hM hp6, fun ad e => Nat.lt_of_lt_of_le (hp6 ad e) hM.frm.size, (hM2.block (block_lt hV) n0).2, hI.below (Mov14.below h hM)⟩

set_option maxRecDepth 100000 in
set_option maxHeartbeats 3200000 in
theorem descend_of14 {p q g B : Nat} {tree fuel : Int} {L : List UInt8} {n k : Nat} (HV : VisC14 p q g B tree fuel L n k) {w : World} {s : Rows14} {W : Wlk14} {way : List Int} (no lo hi : Int) {nd : Nod} (hwk : way.length + 1 + k = 16)
    (h : St14 w p (.pointer (some ⟨q, 0, none⟩)) tree fuel s W way) (hIm : Im14 w p q g B L n) (hF : Fit14 fuel W way.length) (hfit : fit13 lo hi nd.keys = 0) {A5 : Option Addr} {n5 c5 : Nat} {A6 : Option Addr} {n6 c6 : Nat}
    (hN : NodIn w nd A5 n5 c5 A6 n6 c6) (hv : nd.vals.length = nd.keys.length) (hv4 : ∀ x ∈ nd.vals, x.length = 4) (h5 : Far14 s p A5) (h6 : Far14 s p A6) (hp5 : ∀ ad, A5 = some ad → ad.block < w.heap.size) (hp6 : ∀ ad, A6 = some ad → ad.block < w.heap.size) (hl : nd.keys.length ≤ 18) :
    Calls Tryz.prog 48 #[.pointer (some ⟨p, 0, none⟩), .int .i64 no, nodV nd A5 n5 c5 A6 n6 c6, spnV lo hi] w fun e w' => ∃ b s' W' way', e = .returned (.bool b) ∧ St14 w' p (.pointer (some ⟨q, 0, none⟩)) tree fuel s' W' way' ∧ (b = true → way' = way) ∧ Step14 (nd14 L n tree) rt14 fuel W (kids14 rt14 ⟨no, lo, hi, way, 0⟩ nd) W' b ∧ Mov14 p s w s' w' := by
  obtain ⟨tr, lf, ks, vs⟩ := nd
  have hk0 := hN.keys.len
  have hv0 := hN.vals.len
  have hvc := hN.vals.cap
  have hkc := hN.keys.cap
  have hnn : n5 ≤ 18 := by rw [← hk0]; exact hl
  have hn6 : n6 = n5 := by rw [← hk0, ← hv0]; exact hv
  subst hn6
  have hpl := h.lt
  have hm := h.mine_lt
  obtain ⟨w2, hw2⟩ : ∃ w2, w2 = (w.alloc (.cells #[.int .i64 tr, .bool lf, .slice A5 n6 c5, .slice A6 n6 c6] 70)).alloc (.cells #[.int .i64 lo, .int .i64 hi] 78) := ⟨_, rfl⟩
  obtain ⟨hV, hK, hb2⟩ := two_new w (.cells #[.int .i64 tr, .bool lf, .slice A5 n6 c5, .slice A6 n6 c6] 70) (.cells #[.int .i64 lo, .int .i64 hi] 78)
  rw [← hw2] at hV hK hb2
  have hV : NodAt w2 w.heap.size tr lf (.slice A5 n6 c5) (.slice A6 n6 c6) := hV
  have hK : SpnAt w2 (w.heap.size + 1) lo hi := hK
  have hS2 := h.later hb2
  have c8 := hS2.c8
  have f8 := hS2.fz 8
  have DM : Hid (∀ (w5 : World) (g5 cap5 : Nat), (w2.alloc (.cells #[.int .i64 no] 3)).grownBy w5 s.P.ownBlock → (s.P.ownBlock = some g5 ∨ g5 = (w2.alloc (.cells #[.int .i64 no] 3)).heap.size) → w5.ownsRow (p + 1) 3 1 (.slice (some ⟨g5, 0, none⟩) (way.length + 1) cap5) (way.length + 1) (i64s way ++ [.int .i64 no]) →
      Ds14 w (w5.setCell ⟨p, 8, none⟩ (.slice (some ⟨g5, 0, none⟩) (way.length + 1) cap5)) p q g B tree fuel s ⟨s.E, s.B, s.F, .slice (some ⟨g5, 0, none⟩) (way.length + 1) cap5⟩ L n W no lo hi way ⟨tr, lf, ks, vs⟩ A5 n6 c5 A6 n6 c6) := fun w5 g5 cap5 h1 h2 h3 => Ds14.made h hIm hN h5 h6 hp5 hp6 hV hK hb2 ((Below.refl _ _).alloc (Nat.le_refl _) _) h1 h2 h3
  have HOW := Lib.hid (hS2.path.alloc (.cells #[.int .i64 no] 3))
  have HP2 : Hid (∀ (w5 : World), (w2.alloc (.cells #[.int .i64 no] 3)).grownBy w5 s.P.ownBlock → w5.heap[p]? = w2.heap[p]?) := fun w5 hg => (hg.block p (by rw [World.size_alloc]; have := hS2.lt; omega) (fun e => by have := (hS2.path.lt p e.symm).1; omega)).trans (Below.heap_alloc _ _ _ hS2.lt)
  have HB2 := Lib.hid hS2.blk
  have hs2 : w.heap.size + 2 ≤ w2.heap.size := block_lt hK
  have HL := Lib.hid (And.intro hk0 (And.intro hv0 (And.intro hv4 hfit)))
  have hwl : way.length ≤ 16 := by omega
  have HWK := Lib.hid hwk
  have HVV := Lib.hid HV
  have HFF := Lib.hid hF
  have hlr : Row (w2.alloc (.cells #[.int .i64 no] 3)) (some ⟨w2.heap.size, 0, none⟩) [.int .i64 no] := Row.of_block (t := 3) (fr := (0, 0)) (heap_alloc_new w2 _)
  have he2 : w2.heap.size = w.heap.size + 1 + 1 := by rw [hw2]; simp
  rw [he2] at hlr
  have HLR := Lib.hid hlr
  have hkl5 : ks.length = n6 := hk0
  clear h hN h5 h6 hm hv hk0 hv0 hl hV hK hb2 hS2 hIm hF hwk HV hv4 hfit hlr hp5 hp6 he2
  subst hw2
  simp only [nodV]
  go_enter Tryz.func48, Tryz.ntmps48
  go_wp2_with (first
    | (at_builtin; go_must (refine wpList_append_liesG _ rfl (.tmp 17) (.tmp 19) 33 rfl (p + 1) 3 1 (.int .i64 0) 8 Tryz.underlying33 info_i64 rfl (by omega) s.P way.length (i64s way) rfl HOW.out (by simp; omega) ⟨_, 0, none⟩ [.int .i64 no] 1 1 rfl rfl HLR.out (by simp [Value.oneCell']) (by omega) (by omega) (by omega) ?_); intro g5 cap5 w5 hown hgrow hat; have hD := DM.out w5 g5 cap5 hgrow.out hat.out hown.out; have hp5 := (HP2.out w5 hgrow.out).trans HB2.out; have c8' : w5.cell? ⟨p, 8, none⟩ = some s.P := (by rw [cell_of_row w5 p 8 _ _ _ hp5]; rfl); have f8' := frozen_of_row w5 p 8 _ _ hp5; have k0 := hD.spn.c0; have k1 := hD.spn.c1; have n2 := hD.own.c2; have SP := Lib.hid (Split_good13 lo hi _ hD.ndi.keys (by omega) HL.out.2.2.2); have HD := Lib.hid hD; clear hD hp5 hown hgrow hat)
    | (go_at_call 62; (with_reducible refine (SP.out).mono ?_); rintro e w7 ⟨A7, c7, rfl, hS7, hb7, hn7⟩; have HS7 := Lib.hid (And.intro hS7 (And.intro hb7 hn7)); have h7c := hS7.cap; clear hS7 hb7 hn7))
  clear DM HOW HP2 HB2 HLR SP c8 f8 k0 k1 n2 c8' f8'
  obtain ⟨s5, hs5⟩ : ∃ s5, s5 = (⟨s.E, s.B, s.F, .slice (some ⟨g5, 0, none⟩) (way.length + 1) cap5⟩ : Rows14) := ⟨_, rfl⟩
  rw [← hs5] at HD
  clear hs5
  have HDe : Hid (De14 w7 w7 p q g B w.heap.size tree fuel s5 s5 L n W W no lo hi way ⟨tr, lf, ks, vs⟩ 0 A5 n6 c5 A6 n6 c6 A7 c7) := by
    obtain ⟨h1, h2, h3, h4, h5, h6, h7, h8, h9, h10⟩ := HD.out
    obtain ⟨k1, k2, k3⟩ := HS7.out
    have hm6 := h1.mine_lt
    exact ⟨h1.later k2, by rw [List.take_zero]; exact Step14.nil W, Mov14.refl _ _ _, h3.later k2, h5.vals.below k2, k1, h7, Far14.of_newer k3 (fun k hk => (hm6 k hk).2), h9, h10.below (k2.mono (by have := h1.lt; omega))⟩
  have HM7 : Hid (Mov14 p s w s5 w7) := HD.out.mov.trans (Mov14.of_below s5 HS7.out.2.1)
  clear HD HS7
  go_loopw [28] (fun i wr => ∃ (k' : Nat) (s' : Rows14) (Wc : Wlk14), k' ≤ n6 ∧ i = .int .i64 k' ∧ Hid (De14 w7 wr p q g B w.heap.size tree fuel s5 s' L n W Wc no lo hi way ⟨tr, lf, ks, vs⟩ k' A5 n6 c5 A6 n6 c6 A7 c7)) (fun i _ => n6 - (intOf i).toNat)
  case atStart => exact ⟨0, s5, W, by omega, rfl, HDe⟩
  case round =>
    clear HDe
    obtain ⟨k', s', Wc, hk, rfl, HC⟩ := hrel
    by_cases hlt : k' < n6
    · have hC := HC.out
      have hkk : k' < ks.length := by omega
      have hkv : k' < vs.length := by have := HL.out.2.1; exact Nat.lt_of_lt_of_eq hlt this.symm
      obtain ⟨b7, o7, hA7, hl7, hc7⟩ := hC.spl.row.lit (by rw [pair64_length, hC.spl.len]; omega)
      obtain ⟨b6, o6, hA6, hl6, hc6⟩ := hC.vals.row.lit (by rw [strV_length]; exact Nat.lt_of_le_of_lt (Nat.zero_le _) hkv)
      obtain ⟨hx1, hx2⟩ := spl13_at HL.out.2.2.2 hkk
      have hs0 := hc7 _ _ hx1
      have hs1 := hc7 _ _ hx2
      have hs1' : wr.cell? ⟨b7, o7 + k' * 2 + 1, none⟩ = some (.int .i64 (end13 hi ks k')) := hs1
      have hba : Below wr.heap.size wr (wr.alloc (.cells #[.int .i64 (ks.getD k' 0), .int .i64 (end13 hi ks k')] 78)) := (Below.refl _ _).alloc (Nat.le_refl _) _
      have hcv0 : wr.cell? ⟨b6, o6 + k', none⟩ = some (.string ⟨(vs.getD k' []).toArray⟩) := by
        have := hc6 k' _ (strV_at vs k' hkv)
        rw [this, List.getD_eq_getElem?_getD, List.getElem?_eq_getElem hkv]; rfl
      have hcv := (hba.cell (p := ⟨b6, o6 + k', none⟩) (cell_lt hcv0)).trans hcv0
      have n3 := (hC.own.later hba).c3
      have hmem : vs.getD k' [] ∈ vs := by
        rw [List.getD_eq_getElem?_getD, List.getElem?_eq_getElem hkv]
        exact List.getElem_mem _
      have h4 := HL.out.2.2.1 _ hmem
      have RR := Lib.hid (fun W => ReadRoot_any W (vs.getD k' []) (by rw [h4]; decide))
      obtain ⟨e1, e2, e3, e4, e5⟩ := end13_in HL.out.2.2.2 hkk
      have HRB : Hid (rB13 (ks.getD k' 0) (end13 hi ks k') = true) := rB13_yes.2 ⟨e3, by omega, by omega⟩
      have HKD : Hid (kid14 rt14 ⟨no, lo, hi, way, 0⟩ ⟨tr, lf, ks, vs⟩ k' = if rdE (vs.getD k' []) rootS ≠ 0 then ⟨no, 0, 0, way, rdE (vs.getD k' []) rootS⟩ else ⟨rdV (vs.getD k' []) rootS 0, ks.getD k' 0, end13 hi ks k', way ++ [no], 0⟩) := by
        show kid14 _ _ _ _ = _
        unfold kid14
        rw [(chE13_in HL.out.2.2.2 hkk).2]
        rfl
      have HTK := Lib.hid (kids14_take (v := ⟨no, lo, hi, way, 0⟩) (nd := ⟨tr, lf, ks, vs⟩) hkk)
      have HB6 : Hid (∀ ad, A6 = some ad → ad.block < wr.heap.size) := fun ad e => by rw [hA6] at e; cases e; exact hl6
      have HB7 : Hid (∀ ad, A7 = some ad → ad.block < wr.heap.size) := fun ad e => by rw [hA7] at e; cases e; exact hl7
      have HFc : Hid (Fit14 fuel Wc (way.length + 1)) := HFF.out.step hC.step (by rw [List.length_take, kids14_length]; show _ ≤ _; simp only []; omega)
      have HBA := Lib.hid hba
      generalize ks.getD k' 0 = clo at *
      generalize end13 hi ks k' = chi at *
      generalize vs.getD k' [] = vl at *
      generalize rdV vl rootS 0 = rv at *
      generalize rdE vl rootS = re at *
      clear hC hc7 hc6 hx1 hx2 hs1 hcv0 hmem h4 e1 e2 e3 e4 e5 hba hkk hkv hl6 hl7
      have HA := Lib.hid (And.intro hA6 hA7)
      subst hA6 hA7
      by_cases hre : re = 0
      · subst hre
        have VI : Hid (∀ W8, Below (wr.alloc (.cells #[.int .i64 clo, .int .i64 chi] 78)).heap.size (wr.alloc (.cells #[.int .i64 clo, .int .i64 chi] 78)) W8 → Calls Tryz.prog 34 #[.pointer (some ⟨p, 0, none⟩), .int .i64 rv, .agg #[.int .i64 clo, .int .i64 chi]] W8 fun e w' => ∃ b s9 W9 way9, e = .returned (.bool b) ∧ Hid (St14 w' p (.pointer (some ⟨q, 0, none⟩)) tree fuel s9 W9 way9 ∧ (b = true → way9 = way ++ [no]) ∧ Step14 (nd14 L n tree) rt14 fuel Wc [⟨rv, clo, chi, way ++ [no], 0⟩] W9 b ∧ Mov14 p s' W8 s9 w')) := fun W8 hb => by
          have hp8 : Below p wr W8 := (HBA.out.mono (by have := HC.out.st.lt; omega)).trans (hb.mono (by have := HC.out.st.lt; simp; omega))
          exact HVV.out W8 s' Wc (way ++ [no]) rv clo chi (by rw [List.length_append]; exact HWK.out) ((HC.out.st.later HBA.out).later hb) (HC.out.im.below hp8) (by rw [List.length_append]; exact HFc.out) HRB.out
        go_wp2_with (first
          | (go_at_call 63; (with_reducible refine (RR.out _).mono ?_); rintro e w8 ⟨rfl, hb8⟩; have HB8 := Lib.hid hb8; have d0 := (hb8.cell (p := ⟨wr.heap.size, 0, none⟩) (by simp)).trans (SpnAt.new wr clo chi).c0; have d1 := (hb8.cell (p := ⟨wr.heap.size, 1, none⟩) (by simp)).trans (SpnAt.new wr clo chi).c1; clear hb8)
          | (go_at_call 34; (with_reducible refine (VI.out _ HB8.out).mono ?_); rintro e w9 ⟨b, s9, W9, way9, rfl, hX9⟩))
        · rename_i hb
          obtain rfl : b = false := by simpa using hb
          go_ret
          obtain ⟨hst9, _, hstep9, hm9⟩ := hX9.out
          have hm9' := (Mov14.of_below s' (HBA.out.trans (HB8.out.mono (by simp)))).trans hm9
          have hT2 := HTK.out
          rw [HKD.out, if_neg (by simp)] at hT2
          have hs := HC.out.step.trans hstep9
          rw [← hT2] at hs
          have hs2 := hs.stop ((kids14 rt14 ⟨no, lo, hi, way, 0⟩ ⟨tr, lf, ks, vs⟩).drop (k' + 1))
          rw [List.take_append_drop] at hs2
          exact ⟨false, s9, W9, way9, rfl, hst9, fun h => (by cases h), hs2, (HM7.out.trans HC.out.mov).trans hm9'⟩
        · rename_i hb
          obtain rfl : b = true := by simpa using hb
          go_roundw
          case rel =>
            obtain ⟨hst9, hw9, hstep9, hm9⟩ := hX9.out
            have hw9 := hw9 rfl
            subst hw9
            have hm9' := (Mov14.of_below s' (HBA.out.trans (HB8.out.mono (by simp)))).trans hm9
            have hT2 := HTK.out
            rw [HKD.out, if_neg (by simp)] at hT2
            exact ⟨k' + 1, s9, W9, by omega, by go_num, HC.out.go hst9 hm9' hstep9 hT2 HB6.out HB7.out⟩
          case measure => simp only [intOf]; omega
      · have hrb : (re != 0) = true := by simpa using hre
        have HRE := Lib.hid hre
        have RP : Hid (∀ W8, Below (wr.alloc (.cells #[.int .i64 clo, .int .i64 chi] 78)).heap.size (wr.alloc (.cells #[.int .i64 clo, .int .i64 chi] 78)) W8 → Calls Tryz.prog 44 #[.pointer (some ⟨p, 0, none⟩), .iface 49 (.int .i64 re)] W8 fun e w' => (∃ v, e = .returned v) ∧ ∃ s9, St14 w' p (.pointer (some ⟨q, 0, none⟩)) tree fuel s9 ⟨Wc.ents, Wc.blks, Wc.deep, Wc.looked, Wc.flts ++ [((way ++ [no]) ++ [], re)]⟩ (way ++ [no]) ∧ Mov14 p s' W8 s9 w') := fun W8 hb => by
          have := report_any14 ((HC.out.st.later HBA.out).later hb) (l0 := [.num re]) (bs := []) (x := re) rfl rfl (by have := HFc.out.flts; have := HFc.out.few; omega)
          simpa only [val] using this
        clear hre
        go_wp2_with (first
          | (go_at_call 63; (with_reducible refine (RR.out _).mono ?_); rintro e w8 ⟨rfl, hb8⟩; have HB8 := Lib.hid hb8; clear hb8)
          | (go_at_call 44; (with_reducible refine (RP.out _ HB8.out).mono ?_); rintro e w9 ⟨⟨v9, rfl⟩, s9, hst9, hm9⟩; have HX9 := Lib.hid (And.intro hst9 hm9); clear hst9 hm9))
        go_roundw
        case rel =>
          have h9 := HX9.out.1
          rw [List.append_nil] at h9
          have hm9 := (Mov14.of_below s' (HBA.out.trans (HB8.out.mono (by simp)))).trans HX9.out.2
          have hT2 := HTK.out
          rw [HKD.out, if_pos HRE.out] at hT2
          exact ⟨k' + 1, s9, Wc.bad ⟨no, 0, 0, way, re⟩ re, by omega, by go_num, HC.out.go h9 hm9 (Step14.flt (v := ⟨no, 0, 0, way, re⟩) HRE.out) hT2 HB6.out HB7.out⟩
        case measure => simp only [intOf]; omega
    · obtain rfl : k' = n6 := by omega
      obtain ⟨hst, hstep, hmov, hown, hvals, hspl, hf6, hf7, hfB, him⟩ := HC.out
      obtain ⟨g9, cap9, hP9, _, _⟩ := hst.path.form (by simp)
      rw [List.length_append, List.length_singleton] at hP9
      have c8 := hst.c8
      rw [hP9] at c8
      have f8 := hst.fz 8
      obtain ⟨hc1, hc2⟩ := (hst.later (Below.refl wr.heap.size wr).drew).cutWay hP9
      have hcap9 : way.length + 1 ≤ cap9 ∧ cap9 ≤ 9223372036854775807 := by
        have hp := hst.path
        rw [hP9] at hp
        obtain ⟨A, c, e, h1, h2⟩ := ownsRow_form hp
        injection e with e1 e2 e3
        rw [List.length_append, List.length_singleton] at h1
        subst e3
        exact ⟨h1, by simpa [maxLen] using h2⟩
      obtain ⟨hcap1, hcap2⟩ := hcap9
      have HE : Hid (∃ b s' W' way', b = true ∧ St14 (wr.drew.setCell ⟨p, 8, none⟩ (.slice (some ⟨g9, 0, none⟩) way.length cap9)) p (.pointer (some ⟨q, 0, none⟩)) tree fuel s' W' way' ∧ (b = true → way' = way) ∧ Step14 (nd14 L n tree) rt14 fuel W (kids14 rt14 ⟨no, lo, hi, way, 0⟩ ⟨tr, lf, ks, vs⟩) W' b ∧ Mov14 p s w s' (wr.drew.setCell ⟨p, 8, none⟩ (.slice (some ⟨g9, 0, none⟩) way.length cap9))) := by
        rw [List.take_of_length_le (by rw [kids14_length]; exact Nat.le_of_eq hkl5)] at hstep
        exact ⟨true, _, Wc, way, rfl, hc1, fun _ => rfl, hstep, ((HM7.out.trans hmov).trans (Mov14.of_below _ (Below.refl wr.heap.size wr).drew)).trans hc2⟩
      have hwi : IntKind.i64.wrap ((way.length : Int) + 1 - 1) = (way.length : Int) := (IntWalk.i64_in _ (by omega)).trans (by omega)
      clear hst hstep hmov hown hvals hspl hf6 hf7 hfB him hc1 hc2 hP9
      go_wp2
      go_region
      all_goals go_wp2
      all_goals go_ret
      all_goals (obtain ⟨b, s9, W9, way9, rfl, h1, h2, h3, h4⟩ := HE.out; exact ⟨true, s9, W9, way9, rfl, h1, h2, h3, h4⟩)

end Go.Proofs.YtnjlganofjkpfaaGreat

/-
  Layer 14: visit.
-/
namespace Go.Proofs.YtnjlganofjkpfaaGreat
open Go.RowKit
set_option linter.unusedVariables false
set_option linter.unusedSimpArgs false

set_option maxRecDepth 100000 in
set_option maxHeartbeats 3200000 in
theorem visit_dry14 {p q g B : Nat} {tree fuel : Int} {L : List UInt8} {n : Nat} {w : World} {s : Rows14} {W : Wlk14} {way : List Int} (no lo hi : Int) (h : St14 w p (.pointer (some ⟨q, 0, none⟩)) tree fuel s W way) (hF : Fit14 fuel W way.length) (hw : way.length ≤ 16) (hd : fuel ≤ W.looked) :
    Calls Tryz.prog 34 #[.pointer (some ⟨p, 0, none⟩), .int .i64 no, spnV lo hi] w fun e w' => ∃ b s' W' way', e = .returned (.bool b) ∧ St14 w' p (.pointer (some ⟨q, 0, none⟩)) tree fuel s' W' way' ∧ (b = true → way' = way) ∧ Step14 (nd14 L n tree) rt14 fuel W [⟨no, lo, hi, way, 0⟩] W' b ∧ Mov14 p s w s' w' := by
  have hb1 : Below w.heap.size w (w.alloc (.cells #[.int .i64 lo, .int .i64 hi] 78)) := (Below.refl _ _).alloc (Nat.le_refl _) _
  have h1 := h.later hb1
  have c3 := h1.c3
  have c7 := h1.c7
  have HR : Hid (∀ W1, Below w.heap.size w W1 → St14 W1 p (.pointer (some ⟨q, 0, none⟩)) tree fuel s W way) := fun W1 hb => h.later hb
  have HB1 := Lib.hid hb1
  have hdd : decide (fuel ≤ W.looked) = true := by simpa using hd
  have hfl : W.flts.length ≤ 1000000 := by have := hF.flts; have := hF.few; omega
  have HD := Lib.hid hd
  have HFL := Lib.hid hfl
  have AT := Lib.hid (fun W => At_err no (l := [.num 12]) (by simp) (w := W) rfl)
  simp only [val] at AT
  have RP : Hid (∀ W1 q8, Below w.heap.size w W1 → Good W1 [.flt no q8, .num 12] → Calls Tryz.prog 44 #[.pointer (some ⟨p, 0, none⟩), .iface 112 (.pointer (some ⟨q8, 0, none⟩))] W1 fun e w' => (∃ v, e = .returned v) ∧ ∃ s', St14 w' p (.pointer (some ⟨q, 0, none⟩)) tree fuel s' ⟨W.ents, W.blks, W.deep, W.looked, W.flts ++ [(way ++ [no], 12)]⟩ way ∧ Mov14 p s W1 s' w') := fun W1 q8 hb hG => by
    have := report_any14 (HR.out W1 hb) (l0 := [.flt no q8, .num 12]) (bs := [no]) (x := 12) hG ⟨q8, [.num 12], rfl, rfl⟩ HFL.out
    simpa only [val] using this
  clear h hb1 h1 hd hF hfl
  go_enter Tryz.func34, Tryz.ntmps34
  go_wp2
  go_quiet (fail)
  go_wp2_with (first
    | (go_at_call 45; (with_reducible refine (AT.out _).mono ?_); rintro e w2 ⟨q8, rfl, hG, hb⟩; have HX := Lib.hid (And.intro hG ((below_drewN HB1.out nq).trans (hb.mono (by simp)))); clear hG hb)
    | (go_at_call 44; (with_reducible refine (RP.out _ _ HX.out.2 HX.out.1).mono ?_); rintro e w3 ⟨⟨v9, rfl⟩, s9, hst9, hm9⟩; have HX9 := Lib.hid (And.intro hst9 hm9); clear hst9 hm9))
  go_ret
  exact ⟨false, s9, W.bad ⟨no, lo, hi, way, 0⟩ 12, way, rfl, HX9.out.1, fun h => (by cases h), Step14.dry rfl HD.out, (Mov14.of_below s HX.out.2).trans HX9.out.2⟩

set_option maxRecDepth 100000 in
set_option maxHeartbeats 3200000 in
theorem visit_bad14 {p q g B : Nat} {tree fuel : Int} {L : List UInt8} {n : Nat} {w : World} {s : Rows14} {W : Wlk14} {way : List Int} (no lo hi : Int) (h : St14 w p (.pointer (some ⟨q, 0, none⟩)) tree fuel s W way) (hIm : Im14 w p q g B L n) (hF : Fit14 fuel W way.length) (hw : way.length ≤ 16) (hr : rB13 lo hi = true) (hd : W.looked < fuel) (hx : lookE14 (nd14 L n tree) W.deep ⟨no, lo, hi, way, 0⟩ ≠ 0) :
    Calls Tryz.prog 34 #[.pointer (some ⟨p, 0, none⟩), .int .i64 no, spnV lo hi] w fun e w' => ∃ b s' W' way', e = .returned (.bool b) ∧ St14 w' p (.pointer (some ⟨q, 0, none⟩)) tree fuel s' W' way' ∧ (b = true → way' = way) ∧ Step14 (nd14 L n tree) rt14 fuel W [⟨no, lo, hi, way, 0⟩] W' b ∧ Mov14 p s w s' w' := by
  have hb1 : Below w.heap.size w (w.alloc (.cells #[.int .i64 lo, .int .i64 hi] 78)) := (Below.refl _ _).alloc (Nat.le_refl _) _
  have h1 := h.later hb1
  have c3 := h1.c3
  have c7 := h1.c7
  have HB1 := Lib.hid hb1
  have hdd : decide (fuel ≤ W.looked) = false := by simpa using hd
  have HK : Hid (SpnAt (w.alloc (.cells #[.int .i64 lo, .int .i64 hi] 78)) w.heap.size lo hi) := SpnAt.new w lo hi
  have HH := Lib.hid (And.intro h (And.intro hIm (And.intro hF (And.intro hr hd))))
  have hlo0 := hF.low
  have hlo1 := hF.few
  have hpl := h.lt
  have hfl : W.flts.length ≤ 1000000 := by have := hF.flts; omega
  have HFL := Lib.hid hfl
  have EX : Hid (∀ w3, St14 w3 p (.pointer (some ⟨q, 0, none⟩)) tree fuel s W.see way → Im14 w3 p q g B L n → Calls Tryz.prog 46 #[.pointer (some ⟨p, 0, none⟩), .int .i64 no, .agg #[.int .i64 lo, .int .i64 hi]] w3 fun e w' => ∃ q4 tr lf ks vs A5 n5 c5 A6 n6 c6, e = .returned (.tuple #[.agg #[.int .i64 tr, .bool lf, .slice A5 n5 c5, .slice A6 n6 c6], .iface 112 (.pointer (some ⟨q4, 0, none⟩))]) ∧ Hid (Good w' [.flt no q4, .num (lookE14 (nd14 L n tree) W.deep ⟨no, lo, hi, way, 0⟩)] ∧ Below w3.heap.size w3 w' ∧ vs = ([] : List (List UInt8)) ∧ ks = ([] : List Int))) := fun w3 h3 hI3 =>
    (examine_any14 h3 hI3.img hI3.len (by omega) no lo hi hr).mono fun e w' ⟨v, nd', A5, n5, c5, A6, n6, c6, e1, hE, hb, _⟩ => by
      rcases hE with ⟨h0, _⟩ | ⟨_, q4, rfl, hG⟩
      · exact absurd h0 hx
      · exact ⟨q4, nd'.tree, nd'.leaf, [], [], A5, n5, c5, A6, n6, c6, e1, hG, hb, rfl, rfl⟩
  have RP : Hid (∀ W1 q8, St14 W1 p (.pointer (some ⟨q, 0, none⟩)) tree fuel s W.see way → Good W1 [.flt no q8, .num (lookE14 (nd14 L n tree) W.deep ⟨no, lo, hi, way, 0⟩)] → Calls Tryz.prog 44 #[.pointer (some ⟨p, 0, none⟩), .iface 112 (.pointer (some ⟨q8, 0, none⟩))] W1 fun e w' => (∃ v, e = .returned v) ∧ ∃ s', St14 w' p (.pointer (some ⟨q, 0, none⟩)) tree fuel s' (W.see.bad ⟨no, lo, hi, way, 0⟩ (lookE14 (nd14 L n tree) W.deep ⟨no, lo, hi, way, 0⟩)) way ∧ Mov14 p s W1 s' w') := fun W1 q8 hS hG => by
    have := report_any14 hS (l0 := [.flt no q8, .num (lookE14 (nd14 L n tree) W.deep ⟨no, lo, hi, way, 0⟩)]) (bs := [no]) (x := lookE14 (nd14 L n tree) W.deep ⟨no, lo, hi, way, 0⟩) hG ⟨q8, [.num (lookE14 (nd14 L n tree) W.deep ⟨no, lo, hi, way, 0⟩)], rfl, rfl⟩ HFL.out
    simp only [val] at this
    exact this
  have HXX := Lib.hid hx
  generalize hX : lookE14 (nd14 L n tree) W.deep ⟨no, lo, hi, way, 0⟩ = X at *
  have HX := Lib.hid hX
  clear h hb1 h1 hd hF hfl hIm hr hx hX
  go_enter Tryz.func34, Tryz.ntmps34
  go_wp2
  go_quiet (fail)
  obtain ⟨w2, hw2⟩ : ∃ w2, ((w.alloc (.cells #[.int .i64 lo, .int .i64 hi] 78)).drewN nq) = w2 := ⟨_, rfl⟩
  have hb2 : Below w.heap.size w w2 := by rw [← hw2]; exact below_drewN HB1.out nq
  have hK2 : SpnAt w2 w.heap.size lo hi := by rw [← hw2]; exact HK.out.later (below_drewN (Below.refl _ _) nq)
  simp only [hw2]
  clear hw2 HK HB1 c3 c7 hdd
  have h2 := HH.out.1.later hb2
  have c3 := h2.c3
  have f3 := h2.fz 3
  have hwi : IntKind.i64.wrap (W.looked + 1) = W.looked + 1 := IntWalk.i64_in _ (by omega)
  obtain ⟨hp3, hm3⟩ := h2.put 3 (W.looked + 1) (.inr rfl)
  have hp3 : St14 (w2.setCell ⟨p, 3, none⟩ (.int .i64 (W.looked + 1))) p (.pointer (some ⟨q, 0, none⟩)) tree fuel s W.see way := by simp at hp3; exact hp3
  have hM3 : Mov14 p s w s (w2.setCell ⟨p, 3, none⟩ (.int .i64 (W.looked + 1))) := (Mov14.of_below s hb2).trans hm3
  have hK3 : SpnAt (w2.setCell ⟨p, 3, none⟩ (.int .i64 (W.looked + 1))) w.heap.size lo hi := hK2.mov (fun e => by have := (HH.out.1.mine_lt _ e).2; omega) hm3
  have k0 := hK3.c0
  have k1 := hK3.c1
  have HP3 := Lib.hid (And.intro hp3 (And.intro hM3 (And.intro hK3 (HH.out.2.1.below (Mov14.below HH.out.1 hM3)))))
  clear hp3 hm3 hM3 hK3 h2 hK2 hb2
  go_wp2_with (first
    | (go_at_call 46; (with_reducible refine (EX.out _ HP3.out.1 HP3.out.2.2.2).mono ?_); rintro e w4 ⟨q4, tr, lf, ks, vs, A5, n5, c5, A6, n6, c6, rfl, hG4⟩; have hb5 := (Below.refl w4.heap.size w4).alloc (Nat.le_refl _) (.cells #[.int .i64 tr, .bool lf, .slice A5 n5 c5, .slice A6 n6 c6] 70); have HS5 := Lib.hid (And.intro ((HP3.out.1.later hG4.out.2.1).later hb5) (And.intro (hG4.out.1.below hb5) hb5)); clear hb5)
    | (go_at_call 44; (with_reducible refine (RP.out _ _ HS5.out.1 HS5.out.2.1).mono ?_); rintro e w6 ⟨⟨v9, rfl⟩, s9, hst9, hm9⟩; have HX9 := Lib.hid (And.intro hst9 hm9); clear hst9 hm9))
  go_ret
  refine ⟨true, s9, W.see.bad ⟨no, lo, hi, way, 0⟩ X, way, rfl, HX9.out.1, fun _ => rfl, ?_, ((HP3.out.2.1.trans (Mov14.of_below s hG4.out.2.1)).trans (Mov14.of_below s HS5.out.2.2)).trans HX9.out.2⟩
  have := Step14.bad (nd := nd14 L n tree) (rt := rt14) (v := ⟨no, lo, hi, way, 0⟩) (w := W) rfl HH.out.2.2.2.2 (by rw [HX.out]; exact HXX.out)
  rwa [HX.out] at this

end Go.Proofs.YtnjlganofjkpfaaGreat
