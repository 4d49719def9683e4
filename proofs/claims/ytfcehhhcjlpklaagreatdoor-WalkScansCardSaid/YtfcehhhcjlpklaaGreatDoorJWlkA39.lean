/-
  Joined: WlkX, WlkLawA.
-/
import Derived.BigRegion
import Derived.Test.YtfcehhhcjlpklaaGreatDoorJWlkA38
import Derived.Test.YtfcehhhcjlpklaaGreatDoorJWlkA37
import Derived.Test.YtfcehhhcjlpklaaGreatDoorJWlkA27
import Derived.Test.YtfcehhhcjlpklaaGreatDoorJWlkA00
import Derived.Test.YtfcehhhcjlpklaaGreatDoorJWlkA03
import Derived.Laws.Small
/-
  Layer 14, the reference: Scan. (Written by gen/WlkX.py.)
-/
namespace Go.Proofs.YtfcehhhcjlpklaaGreatDoor
open Go.RowKit
set_option linter.unusedVariables false
set_option linter.unusedSimpArgs false

set_option maxRecDepth 100000 in
set_option maxHeartbeats 6400000 in
theorem refScan_any14 {B p nb : Nat} {v0 : Value} {L : List UInt8} (root tree fuel : Int) (w : World) (hR : RImg w B p v0 (blks L nb)) (hL : L.length = nb * 256) (hf : fuel ≤ 300) {R : Wlk14} (hD : Done14 (nd14 L nb tree) rt14 fuel Wlk14.zero [Vis14.root root] R) :
    Calls Tryz.prog 9 #[.pointer (some ⟨p, 0, none⟩), .int .i64 root, .int .i64 tree, .int .i64 fuel] w fun e w' => RSRet w R e w' := by
  have hS0 := Lib.hid (Lp14.start (fuel := fuel) w root hf)
  have HDN := Lib.hid hD
  clear hD
  go_enter Tryz.func9, Tryz.ntmps9
  go_wp2
  go_loopw [10] (fun u wr => ∃ s W A n c xs vs, u = .slice A n c ∧ Hid (Lp14 w wr fuel s W A n c xs vs) ∧ Hid (∀ R2, Done14 (nd14 L nb tree) rt14 fuel W vs R2 → Done14 (nd14 L nb tree) rt14 fuel Wlk14.zero [Vis14.root root] R2)) (fun u wr => (fuel - intOf ((wr.cell? ⟨w.heap.size + 1, 3, none⟩).getD undef)).toNat * 19 + slN14 u)
  case atStart => exact ⟨_, _, _, _, _, _, _, rfl, hS0, fun R2 h => h⟩
  case round =>
    clear hS0
    obtain ⟨s, W, A, n, c, xs, vs, rfl, hP, hDn⟩ := hrel
    cases vs with
    | nil =>
      have hRe : R = W := HDN.out.one (hDn.out _ (.nil _))
      have hn := hP.out.ws.len
      rw [hP.out.ws.all.length] at hn
      obtain rfl : 0 = n := hn
      obtain ⟨AE, cE, AB, cB, AF, cF, ⟨⟨t0, t1, t2, t3, t4⟩, tf0, tf1, tf2, tf3, tf4⟩, ⟨⟨r0, r1, r2, r3, r4⟩, rf0, rf1, rf2, rf3, rf4⟩, hret⟩ := ret14 hP.out.bel hP.out.res hP.out.rs
      go_wp2
      obtain ⟨hw9, hx9⟩ := hret _ rfl
      refine bodyPost_ret (res1_13 Tryz.results9 _ _ rfl hw9.load) rfl ?_
      rw [hRe]
      exact hx9
    | cons v vs =>
      have hn := hP.out.ws.len
      rw [hP.out.ws.all.length] at hn
      obtain ⟨m, rfl⟩ : ∃ m, n = m + 1 := ⟨vs.length, by rw [← hn]; rfl⟩
      clear hn
      obtain ⟨ys, q0, o, A2, c2, wy, rfl, rfl, hc1, hc2, ⟨y0, y1, y2, y3, y4⟩, hSL, hB⟩ := hP.out.open_
      obtain ⟨W1, hW1⟩ : ∃ W1, (wr.alloc (.cells #[.int .i64 v.no, .int .i64 v.lo, .int .i64 v.hi, .slice wy.A wy.n wy.c, .int .i64 v.flt] 70)) = W1 := ⟨_, rfl⟩
      rw [hW1] at hB
      have HB := Lib.hid hB
      have b4 := hB.vis.cs.2.2.2.2
      have hfl : W.flts.length ≤ 100000 := by have := hP.out.ft.rest; have := hP.out.ft.most; omega
      have hqb : w.heap.size + 1 < wr.heap.size := hB.qlt
      clear hB
      by_cases hz : v.flt = 0
      · have hzz : (v.flt != 0) = false := by simpa using hz
        have HZ := Lib.hid hz
        clear hz
        have c3 := HB.out.rs.c3
        have f3 := HB.out.rs.fz 3
        by_cases hl : fuel ≤ W.looked
        · have hd : decide (fuel ≤ W.looked) = true := by simpa using hl
          have hRe : R = W.bad v 12 := HDN.out.one (hDn.out _ (.dry _ _ _ HZ.out hl))
          go_wp2
          have HBd := Lib.hid (HB.out.later ((Below.refl _ _).drew))
          have AT : Hid (∀ U, Hid (Bd14 w U s W A2 m c2 ys vs wr.heap.size wy v) → Calls Tryz.prog 23 #[.int .i64 v.no, .int .i64 12] U fun e w' => ∃ A1 c1, e = .returned (.agg #[.slice A1 1 c1, .int .i64 12]) ∧ Hid (Rd14 w' s (w.heap.size + 1) ⟨A1, 1, c1⟩ [v.no]) ∧ Hid (Bd14 w w' s W A2 m c2 ys vs wr.heap.size wy v) ∧ (w'.cell? ⟨w.heap.size + 1, 4, none⟩ = some s.F ∧ w'.cell? ⟨wr.heap.size, 3, none⟩ = some (.slice wy.A wy.n wy.c) ∧ w'.cell? ⟨wr.heap.size, 0, none⟩ = some (.int .i64 v.no))) := fun U hU => (hU.out.at_ (by decide)).mono fun e w' ⟨A1, c1, h1, h2, h3, _⟩ => ⟨A1, c1, h1, h2, h3, ⟨h3.rs.c4, h3.vis.cs.2.2.2.1, h3.vis.cs.1⟩⟩
          have WR : Hid (∀ U A1 c1, Hid (Rd14 U s (w.heap.size + 1) ⟨A1, 1, c1⟩ [v.no]) → Hid (Bd14 w U s W A2 m c2 ys vs wr.heap.size wy v) → Calls Tryz.prog 22 #[.slice wy.A wy.n wy.c, .agg #[.slice A1 1 c1, .int .i64 12]] U fun e w' => ∃ A3 n3 c3, e = .returned (.agg #[.slice A3 n3 c3, .int .i64 12]) ∧ Hid (Rd14 w' s (w.heap.size + 1) ⟨A3, n3, c3⟩ (v.way ++ [v.no])) ∧ Hid (Bd14 w w' s W A2 m c2 ys vs wr.heap.size wy v) ∧ (w'.cell? ⟨w.heap.size + 1, 4, none⟩ = some s.F ∧ w'.cell? ⟨wr.heap.size, 3, none⟩ = some (.slice wy.A wy.n wy.c) ∧ w'.cell? ⟨wr.heap.size, 0, none⟩ = some (.int .i64 v.no))) := fun U A1 c1 hR hU => (hU.out.wrap_ (by decide) (by simp) hR.out).mono fun e w' ⟨A3, n3, c3, h1, h2, h3, _⟩ => ⟨A3, n3, c3, h1, h2, h3, ⟨h3.rs.c4, h3.vis.cs.2.2.2.1, h3.vis.cs.1⟩⟩
          have hS1d : W1.drew.cell? ⟨w.heap.size + 1, 4, none⟩ = some s.F ∧ W1.drew.cell? ⟨wr.heap.size, 3, none⟩ = some (.slice wy.A wy.n wy.c) ∧ W1.drew.cell? ⟨wr.heap.size, 0, none⟩ = some (.int .i64 v.no) := ⟨HBd.out.rs.c4, HBd.out.vis.cs.2.2.2.1, HBd.out.vis.cs.1⟩
          refine wp_region_K (S := fun U => U.cell? ⟨w.heap.size + 1, 4, none⟩ = some s.F ∧ U.cell? ⟨wr.heap.size, 3, none⟩ = some (.slice wy.A wy.n wy.c) ∧ U.cell? ⟨wr.heap.size, 0, none⟩ = some (.int .i64 v.no)) 11 (by kernel_rfl) hS1d (fun hHeld => ?_)
          refine wpAnyK_takeD (i := 0) (d := some 55) (v := ?vrb0) rfl (by rfl) (by kernel_rfl) (by kernel_rfl) (by kernel_rfl) (by kernel_rfl) (fun _ _ _ h => h) (Or.inl ⟨by rfl, ?hyrb0⟩) hS1d ?restrb0
          case hyrb0 => (intro w hSw; (try dsimp only at hSw); go_simp; try (with_reducible rfl))
          try simp only [Act.put, List.setIfInBounds_toArray, List.set_cons_zero, List.set_cons_succ]
          refine wpAnyK_takeD (i := 1) (d := some 56) (v := ?vrb1) rfl (by rfl) (by kernel_rfl) (by kernel_rfl) (by kernel_rfl) (by kernel_rfl) (fun _ _ _ h => h) (Or.inl ⟨by rfl, ?hyrb1⟩) hS1d ?restrb1
          case hyrb1 => (intro w hSw; (try dsimp only at hSw); go_simp; try (with_reducible rfl))
          try simp only [Act.put, List.setIfInBounds_toArray, List.set_cons_zero, List.set_cons_succ]
          refine wpAnyK_takeD (i := 2) (d := some 57) (v := ?vrb2) rfl (by rfl) (by kernel_rfl) (by kernel_rfl) (by kernel_rfl) (by kernel_rfl) (fun _ _ _ h => h) (Or.inl ⟨by rfl, ?hyrb2⟩) hS1d ?restrb2
          case hyrb2 => (intro w hSw; (try dsimp only at hSw); go_simp; try (with_reducible rfl))
          try simp only [Act.put, List.setIfInBounds_toArray, List.set_cons_zero, List.set_cons_succ]
          refine wpAnyK_takeD (i := 3) (d := some 58) (v := ?vrb3) rfl (by rfl) (by kernel_rfl) (by kernel_rfl) (by kernel_rfl) (by kernel_rfl) (fun _ _ _ h => h) (Or.inl ⟨by rfl, ?hyrb3⟩) hS1d ?restrb3
          case hyrb3 => (intro w hSw; (try dsimp only at hSw); go_simp; try (with_reducible rfl))
          try simp only [Act.put, List.setIfInBounds_toArray, List.set_cons_zero, List.set_cons_succ]
          refine wpAnyK_takeD (i := 4) (d := some 59) (v := ?vrb4) rfl (by rfl) (by kernel_rfl) (by kernel_rfl) (by kernel_rfl) (by kernel_rfl) (fun _ _ _ h => h) (Or.inl ⟨by rfl, ?hyrb4⟩) hS1d ?restrb4
          case hyrb4 => (intro w hSw; (try dsimp only at hSw); go_simp; try (with_reducible rfl))
          try simp only [Act.put, List.setIfInBounds_toArray, List.set_cons_zero, List.set_cons_succ]
          refine wpAnyK_takeD (i := 5) (d := some 60) (v := ?vrb5) rfl (by rfl) (by kernel_rfl) (by kernel_rfl) (by kernel_rfl) (by kernel_rfl) (fun _ _ _ h => h) (Or.inl ⟨by rfl, ?hyrb5⟩) hS1d ?restrb5
          case hyrb5 => (intro w hSw; (try dsimp only at hSw); go_simp; try (with_reducible rfl))
          try simp only [Act.put, List.setIfInBounds_toArray, List.set_cons_zero, List.set_cons_succ]
          refine wpAnyK_one (j := 6) (by kernel_rfl) rfl (fun K hK => ?_)
          go_simp
          go_at_call 23
          with_reducible refine (AT.out _ HBd).mono ?_
          rintro e w5 ⟨A5, c5, rfl, hR5, hB5, hS5⟩
          refine hK.out _ _ hS5 (fun hHeldrb6 => ?_)
          clear hK K
          try simp only [Act.put, List.setIfInBounds_toArray, List.set_cons_zero, List.set_cons_succ]
          refine wpAnyK_one (j := 7) (by kernel_rfl) rfl (fun K hK => ?_)
          go_simp
          go_at_call 22
          with_reducible refine (WR.out _ _ _ hR5 hB5).mono ?_
          rintro e w6 ⟨A6, n6, c6, rfl, hR6, hB6, hS6⟩
          have hb6 : Below w6.heap.size w6 (w6.alloc (.cells #[.slice A6 n6 c6, .int .i64 12] 45)) := (Below.refl _ _).alloc (Nat.le_refl _) _
          have HB6 := Lib.hid (hB6.out.later hb6)
          have HR6 := Lib.hid (hR6.out.below hb6)
          have hS6a : (w6.alloc (.cells #[.slice A6 n6 c6, .int .i64 12] 45)).cell? ⟨w.heap.size + 1, 4, none⟩ = some s.F ∧ (w6.alloc (.cells #[.slice A6 n6 c6, .int .i64 12] 45)).cell? ⟨wr.heap.size, 3, none⟩ = some (.slice wy.A wy.n wy.c) ∧ (w6.alloc (.cells #[.slice A6 n6 c6, .int .i64 12] 45)).cell? ⟨wr.heap.size, 0, none⟩ = some (.int .i64 v.no) := ⟨HB6.out.rs.c4, HB6.out.vis.cs.2.2.2.1, HB6.out.vis.cs.1⟩
          obtain ⟨fr, hfr, hbad⟩ := HB6.out.rs.flts
          have HFR := Lib.hid hfr
          have HBAD := Lib.hid hbad
          have hsz6 : w.heap.size + 1 + 1 ≤ w6.heap.size := by have := hB6.out.rs.lt; omega
          clear hb6 hfr hbad
          refine hK.out _ _ hS6 (fun hHeldrb7 => ?_)
          clear hK K
          try simp only [Act.put, List.setIfInBounds_toArray, List.set_cons_zero, List.set_cons_succ]
          refine wpAnyK_one (j := 8) (by kernel_rfl) rfl (fun K hK => ?_)
          go_simp
          refine hK.out _ _ hS6a (fun hHeldrb8 => ?_)
          clear hK K
          try simp only [Act.put, List.setIfInBounds_toArray, List.set_cons_zero, List.set_cons_succ]
          refine wpAnyK_one (j := 9) (by kernel_rfl) rfl (fun K hK => ?_)
          refine step_append_liesG _ rfl (.tmp 56) (.tmp 63) 33 rfl (w.heap.size + 1 + 1) 45 2 (.agg #[.slice none 0 0, .int .i64 0]) 32 Tryz.underlying33 info_bad14 rfl (by omega) s.F W.flts.length (badC fr) rfl HFR (by simp; omega) ⟨w6.heap.size, 0, none⟩ [.slice A6 n6 c6, .int .i64 12] 1 1 rfl rfl (Row.of_block (t := 45) (fr := (0, 0)) (heap_alloc_new w6 _)) (by simp [Value.oneCell']) (by omega) (by omega) (by omega) ?_
          intro g7 cap7 w7 hown7 hgrow7 hat7
          obtain ⟨k1, k2, k3⟩ := HB6.out.grown HB6.out.ownF hgrow7.out
          have hS7 : w7.cell? ⟨w.heap.size + 1, 4, none⟩ = some s.F ∧ w7.cell? ⟨wr.heap.size, 3, none⟩ = some (.slice wy.A wy.n wy.c) ∧ w7.cell? ⟨wr.heap.size, 0, none⟩ = some (.int .i64 v.no) := ⟨(k1 4).trans hS6a.1, (k2 3).trans hS6a.2.1, (k2 0).trans hS6a.2.2⟩
          have c7 := hS7.1
          have f7 := k3 4
          have HX := Lib.hid (HB6.out.addFlt HBAD.out HR6.out hgrow7.out hat7.out HFR.out hown7.out)
          clear k1 k2 k3 hown7 hgrow7 hat7
          refine hK.out _ _ hS7 (fun hHeldrb9 => ?_)
          clear hK K
          try simp only [Act.put, List.setIfInBounds_toArray, List.set_cons_zero, List.set_cons_succ]
          refine wpAnyK_takeD (i := 10) (d := some 65) (v := ?vrb10) rfl (by rfl) (by kernel_rfl) (by kernel_rfl) (by kernel_rfl) (by kernel_rfl) (fun _ _ _ h => h) (Or.inl ⟨by rfl, ?hyrb10⟩) hS7 ?restrb10
          case hyrb10 => (intro w hSw; (try dsimp only at hSw); go_simp; try (with_reducible rfl))
          try simp only [Act.put, List.setIfInBounds_toArray, List.set_cons_zero, List.set_cons_succ]
          refine wpAnyK_last (by kernel_rfl) rfl (by kernel_rfl) (fun K hK => ?_)
          go_simp
          refine hK.out _ _ ?_
          clear hK K
          try simp only [Act.put, List.setIfInBounds_toArray, List.set_cons_zero, List.set_cons_succ]
          obtain ⟨s', hx⟩ := HX.out
          obtain ⟨W2, hW2⟩ : ∃ W2, W2 = W.bad v 12 := ⟨_, rfl⟩
          rw [← hW2] at hRe
          have hx : Bd14 w (w7.setCell ⟨w.heap.size + 1, 4, none⟩ (.slice (some ⟨g7, 0, none⟩) (W.flts.length + 1) cap7)) s' W2 A2 m c2 ys vs wr.heap.size wy v := by rw [hW2]; exact hx
          clear HX HBd AT WR hS1d HB HB6 HR6 hS6a HFR HBAD hS5 hS6 hS7 c7 f7 hR5 hB5 hR6 hB6 hSL y0 y1 y2 y3 y4 b4 c3 f3 hDn HDN hW2 hP HZ hHeld hHeldrb6 hHeldrb7 hHeldrb8 hHeldrb9
          generalize w7.setCell ⟨w.heap.size + 1, 4, none⟩ (.slice (some ⟨g7, 0, none⟩) (W.flts.length + 1) cap7) = U9 at *
          obtain ⟨AE, cE, AB, cB, AF, cF, ⟨⟨t0, t1, t2, t3, t4⟩, tf0, tf1, tf2, tf3, tf4⟩, ⟨⟨r0, r1, r2, r3, r4⟩, rf0, rf1, rf2, rf3, rf4⟩, hret⟩ := ret14 hx.bel hx.res hx.rs
          go_wp2
          obtain ⟨hw9, hx9⟩ := hret _ rfl
          refine bodyPost_ret (res1_13 Tryz.results9 _ _ rfl hw9.load) rfl ?_
          rw [hRe]
          exact hx9
        · have hd : decide (fuel ≤ W.looked) = false := by simpa using hl
          have hlk : W.looked < fuel := by omega
          have hlo := hP.out.ft.low
          have hhi := hP.out.ft.most
          obtain ⟨X, hX⟩ : ∃ X, lookE14 (nd14 L nb tree) W.deep v = X := ⟨_, rfl⟩
          have LK : Hid (∀ U, Hid (Bd14 w U s W.see A2 m c2 ys vs wr.heap.size wy v) → Calls Tryz.prog 24 #[.pointer (some ⟨p, 0, none⟩), .agg #[.int .i64 v.no, .int .i64 v.lo, .int .i64 v.hi, .slice wy.A wy.n wy.c, .int .i64 v.flt], .int .i64 tree, .int .i64 W.deep] U fun e w' => ∃ N A5 n5 c5 A6 n6 c6 f, e = .returned (.tuple #[.agg #[.int .i64 N.tree, .bool N.leaf, .slice A5 n5 c5, .slice A6 n6 c6], .agg #[.slice f.A f.n f.c, .int .i64 X]]) ∧ Hid (X = 0 → N = (nd14 L nb tree v.no).2) ∧ Hid (∀ U2, U2 = ((w'.alloc (.cells #[.int .i64 N.tree, .bool N.leaf, .slice A5 n5 c5, .slice A6 n6 c6] 55)).alloc (.cells #[.slice f.A f.n f.c, .int .i64 X] 45)) → Nx14 w U2 s W.see A2 m c2 ys vs wr.heap.size wy v w'.heap.size N A5 n5 c5 A6 n6 c6 f X)) := fun U hU => by
            refine (look_any14 v.no v.lo v.hi v.flt tree W.deep U (hR.later hU.out.bel) hL hU.out.way.ints (by have := hU.out.few; omega)).mono ?_
            intro e w' hl
            have hl : LkRet U e w' v.no X (nd14 L nb tree v.no).2 := by rw [← hX]; exact hl
            obtain ⟨N, A5, n5, c5, A6, n6, c6, f, h1, h2, h3⟩ := Nx14.start hU.out hl
            exact ⟨N, A5, n5, c5, A6, n6, c6, f, h1, h2, h3⟩
          have HBs := Lib.hid HB.out.see
          have b0 := HB.out.vis.cs.1
          have b1 := HB.out.vis.cs.2.1
          have b2 := HB.out.vis.cs.2.2.1
          have b3 := HB.out.vis.cs.2.2.2.1
          have c2d := HB.out.rs.c2
          have HLK := Lib.hid hX
          clear hX
          by_cases hx0 : X = 0
          · have hxn : (X != 0) = false := by simpa using hx0
            have HZE := Lib.hid (lookE14_zero (HLK.out.trans hx0))
            have HX0 := Lib.hid hx0
            clear hx0
            have hbk : W.blks.length ≤ 100000 := by have := hP.out.ft.blks; omega
            have hwy : wy.n ≤ 16 := by have := HB.out.few; have := HB.out.way.ints.len; omega
            by_cases hleaf : (nd14 L nb tree v.no).2.leaf = true
            · have hlf : (nd14 L nb tree v.no).2.leaf = true := hleaf
              go_wp2_with (first | (go_at_call 24; (with_reducible refine (LK.out _ HBs).mono ?_); rintro e w5 ⟨N, A5, n5, c5, A6, n6, c6, f, rfl, HN, HT⟩; obtain ⟨U2, hU2⟩ : ∃ U2, ((w5.alloc (.cells #[.int .i64 N.tree, .bool N.leaf, .slice A5 n5 c5, .slice A6 n6 c6] 55)).alloc (.cells #[.slice f.A f.n f.c, .int .i64 X] 45)) = U2 := ⟨_, rfl⟩; have hT := HT.out _ hU2.symm; have q1 := hT.err.c1; have HTT := Lib.hid hT; clear hT HT b0 b1 b2 b3 b4 c2d c3 f3 y0 y1 y2 y3 y4 hSL LK HBs; have HNE := Lib.hid (HN.out HX0.out); have hb2 : Below U2.heap.size U2 (U2.alloc (.cells #[.int .i64 v.no] 3)) := (Below.refl _ _).alloc (Nat.le_refl _) _; have HTa := Lib.hid (HTT.out.later hb2); have HOB := Lib.hid HTa.out.bd.rs.blks; have e1 := HTT.out.bd.rs.c1; have e0 := HTT.out.bd.vis.cs.1; have hsz2 : w.heap.size + 1 + 1 ≤ U2.heap.size := (by have := HTT.out.bd.rs.lt; omega)) | (at_builtin; refine wpList_append_liesG _ rfl (.tmp 93) (.tmp 96) 26 rfl (w.heap.size + 1 + 1) 3 1 (.int .i64 0) 8 Tryz.underlying26 info_i64 rfl (by omega) s.B W.blks.length (i64s W.blks) rfl HOB (by simp; omega) ⟨U2.heap.size, 0, none⟩ [.int .i64 v.no] 1 1 rfl rfl (Row.of_block (t := 3) (fr := (0, 0)) (heap_alloc_new U2 _)) (by simp [Value.oneCell']) (by omega) (by omega) (by omega) ?_; intro g3 cap3 w7 hown3 hgrow3 hat3; obtain ⟨k1, k2, k3⟩ := HTa.out.bd.grown HTa.out.bd.ownB hgrow3.out; have f71 := k3 1; have c71 : w7.cell? ⟨w.heap.size + 1, 1, none⟩ = some s.B := (k1 1).trans HTa.out.bd.rs.c1; obtain ⟨s3, hN3⟩ := HTa.out.addBlk hgrow3.out hat3.out hown3.out; obtain ⟨U3, hU3⟩ : ∃ U3, w7.setCell ⟨w.heap.size + 1, 1, none⟩ (.slice (some ⟨g3, 0, none⟩) (W.blks.length + 1) cap3) = U3 := ⟨_, rfl⟩; have hN3 : Nx14 w U3 s3 (W.see.inner v) A2 m c2 ys vs wr.heap.size wy v w5.heap.size N A5 n5 c5 A6 n6 c6 f X := (by rw [← hU3]; exact hN3); have HN3 := Lib.hid hN3; have g31 := hN3.nod.c1; have g3d := hN3.bd.vis.cs.2.2.2.1; have g3e := hN3.bd.rs.c2; have g3f := hN3.bd.rs.fz 2; rw [HNE.out, hlf] at g31; clear k1 k2 k3 hown3 hgrow3 hat3 hN3))
              have hvl : N.vals.length = N.keys.length := by rw [HNE.out]; exact (ndOk14 L nb tree).len v.no HZE.out.2.2.1
              have hk18 : N.keys.length ≤ 18 := by rw [HNE.out]; exact nd14_keys L nb tree v.no
              obtain ⟨z1, z2, z3, z4, z5, z6⟩ := HN3.out.nums hvl
              subst z1
              have HZ2 := Lib.hid z2
              clear z2
              have hwn : v.way.length = wy.n := HN3.out.bd.way.ints.len
              have hfew := HN3.out.bd.few
              have hwc := HN3.out.bd.way.ints.cap
              have hwm := HN3.out.bd.way.ints.most
              have HN4 := Lib.hid (HN3.out.deep ((wy.n : Int) + 1))
              clear hW1 hU2 hU3 g3d g3e g3f g31 q1 e1 e0 HTa HTT HOB HB hsz2 f71 c71
              obtain ⟨U4, hU4⟩ : ∃ U4, U3.setCell ⟨w.heap.size + 1, 2, none⟩ (.int .i64 ((wy.n : Int) + 1)) = U4 := ⟨_, rfl⟩
              rw [hU4] at HN4
              simp only [hU4]
              clear hU4
              have HPm := Lib.hid hP.out.rs.c3
              generalize wr.heap.size = q at *
              generalize hg5 : w5.heap.size = g5 at *
              clear hg5
              have HN40 : Hid (Nx14 w U4 s3 ⟨W.ents ++ (ents14 N v.no).take 0, W.blks ++ [v.no], (wy.n : Int) + 1, W.looked + 1, W.flts⟩ A2 m c2 ys vs q wy v g5 N A5 n6 c5 A6 n6 c6 f X) := by
                have := HN4.out
                rw [List.take_zero, List.append_nil]
                exact this
              clear HN4 HN3
              have hel : W.ents.length ≤ 100000 := by have := hP.out.ft.ents; omega
              go_loopw [14] (fun i ws => ∃ (k : Nat) (s' : Rows14), k ≤ n6 ∧ i = .int .i64 k ∧ Hid (Nx14 w ws s' ⟨W.ents ++ (ents14 N v.no).take k, W.blks ++ [v.no], (wy.n : Int) + 1, W.looked + 1, W.flts⟩ A2 m c2 ys vs q wy v g5 N A5 n6 c5 A6 n6 c6 f X)) (fun i _ => n6 - (intOf i).toNat)
              case atStart => exact ⟨0, s3, by omega, rfl, HN40⟩
              case round =>
                clear HN40
                obtain ⟨k, s', hk, rfl, HC⟩ := hrel
                have d2 := HC.out.nod.c2
                by_cases hlt : k < n6
                · obtain ⟨kb, ko, vb, vo, hA5, hA6, ck, cv, _, _⟩ := HC.out.at_ hlt hvl
                  obtain ⟨En, hEn⟩ : ∃ En, En = W.ents ++ (ents14 N v.no).take k := ⟨_, rfl⟩
                  have hEl : En.length ≤ 100018 := by
                    rw [hEn, List.length_append, List.length_take]; have := HZ2.out; omega
                  have HT := Lib.hid (ents14_take (n := N) (no := v.no) (k := k) (by have := HZ2.out; omega))
                  have hC := HC.out
                  rw [← hEn] at hC
                  have HCk := Lib.hid hC
                  have HEN := Lib.hid hEn
                  clear hEn hC HC
                  subst hA5 hA6
                  generalize hkey : N.keys.getD k 0 = key at *
                  generalize hval : N.vals.getD k [] = vl at *
                  have hCd := HCk.out.later ((Below.refl _ _).drew)
                  have c0' := HCk.out.bd.rs.c0
                  have hSd : wr.drew.cell? ⟨w.heap.size + 1, 0, none⟩ = some s'.E ∧ wr.drew.cell? ⟨g5, 2, none⟩ = some (.slice (some ⟨kb, ko, none⟩) n6 c5) ∧ wr.drew.cell? ⟨kb, ko + k, none⟩ = some (.int .i64 key) ∧ wr.drew.cell? ⟨g5, 3, none⟩ = some (.slice (some ⟨vb, vo, none⟩) n6 c6) ∧ wr.drew.cell? ⟨vb, vo + k, none⟩ = some (.string ⟨vl.toArray⟩) ∧ wr.drew.cell? ⟨q, 0, none⟩ = some (.int .i64 v.no) := ⟨hCd.bd.rs.c0, hCd.nod.c2, ck, hCd.nod.c3, cv, hCd.bd.vis.cs.1⟩
                  have hbA : Below wr.heap.size wr (wr.alloc (.cells #[.int .i64 key, .string ⟨vl.toArray⟩, .int .i64 v.no] 77)).drew := ((Below.refl _ _).alloc (Nat.le_refl _) _).drew
                  have HCa := Lib.hid (HCk.out.later hbA)
                  have hcka : (wr.alloc (.cells #[.int .i64 key, .string ⟨vl.toArray⟩, .int .i64 v.no] 77)).drew.cell? ⟨kb, ko + k, none⟩ = some (.int .i64 key) := (hbA.cell (p := ⟨kb, ko + k, none⟩) (cell_lt ck)).trans ck
                  have hcva : (wr.alloc (.cells #[.int .i64 key, .string ⟨vl.toArray⟩, .int .i64 v.no] 77)).drew.cell? ⟨vb, vo + k, none⟩ = some (.string ⟨vl.toArray⟩) := (hbA.cell (p := ⟨vb, vo + k, none⟩) (cell_lt cv)).trans cv
                  have hSa : (wr.alloc (.cells #[.int .i64 key, .string ⟨vl.toArray⟩, .int .i64 v.no] 77)).drew.cell? ⟨w.heap.size + 1, 0, none⟩ = some s'.E ∧ (wr.alloc (.cells #[.int .i64 key, .string ⟨vl.toArray⟩, .int .i64 v.no] 77)).drew.cell? ⟨g5, 2, none⟩ = some (.slice (some ⟨kb, ko, none⟩) n6 c5) ∧ (wr.alloc (.cells #[.int .i64 key, .string ⟨vl.toArray⟩, .int .i64 v.no] 77)).drew.cell? ⟨kb, ko + k, none⟩ = some (.int .i64 key) ∧ (wr.alloc (.cells #[.int .i64 key, .string ⟨vl.toArray⟩, .int .i64 v.no] 77)).drew.cell? ⟨g5, 3, none⟩ = some (.slice (some ⟨vb, vo, none⟩) n6 c6) ∧ (wr.alloc (.cells #[.int .i64 key, .string ⟨vl.toArray⟩, .int .i64 v.no] 77)).drew.cell? ⟨vb, vo + k, none⟩ = some (.string ⟨vl.toArray⟩) ∧ (wr.alloc (.cells #[.int .i64 key, .string ⟨vl.toArray⟩, .int .i64 v.no] 77)).drew.cell? ⟨q, 0, none⟩ = some (.int .i64 v.no) := ⟨HCa.out.bd.rs.c0, HCa.out.nod.c2, hcka, HCa.out.nod.c3, hcva, HCa.out.bd.vis.cs.1⟩
                  have HOE := Lib.hid HCa.out.bd.rs.ents
                  have hszw : w.heap.size + 1 + 1 ≤ wr.heap.size := by have := HCk.out.bd.rs.lt; omega
                  have hk0 : (0 : Int) ≤ (k : Int) := by omega
                  have hk1 : (k : Int) < (n6 : Int) := by omega
                  have HF56 : Hid (¬ s'.mine (w.heap.size + 1) kb ∧ ¬ s'.mine (w.heap.size + 1) vb) := ⟨HCk.out.f5 (by have := HZ2.out; omega) ⟨kb, ko, none⟩ rfl, HCk.out.f6 (by have := HZ2.out; omega) ⟨vb, vo, none⟩ rfl⟩
                  clear hCd hbA hcka hcva
                  go_wp2
                  refine wp_region_K (S := fun U => U.cell? ⟨w.heap.size + 1, 0, none⟩ = some s'.E ∧ U.cell? ⟨g5, 2, none⟩ = some (.slice (some ⟨kb, ko, none⟩) n6 c5) ∧ U.cell? ⟨kb, ko + k, none⟩ = some (.int .i64 key) ∧ U.cell? ⟨g5, 3, none⟩ = some (.slice (some ⟨vb, vo, none⟩) n6 c6) ∧ U.cell? ⟨vb, vo + k, none⟩ = some (.string ⟨vl.toArray⟩) ∧ U.cell? ⟨q, 0, none⟩ = some (.int .i64 v.no)) 18 (by kernel_rfl) hSd (fun hHeld => ?_)
                  refine wpAnyK_takeD (i := 0) (d := some 113) (v := ?vrd0) rfl (by rfl) (by kernel_rfl) (by kernel_rfl) (by kernel_rfl) (by kernel_rfl) (fun _ _ _ h => h) (Or.inl ⟨by rfl, ?hyrd0⟩) hSd ?restrd0
                  case hyrd0 => (intro w hSw; (try dsimp only at hSw); go_simp; try (with_reducible rfl))
                  try simp only [Act.put, List.setIfInBounds_toArray, List.set_cons_zero, List.set_cons_succ]
                  refine wpAnyK_takeD (i := 1) (d := some 114) (v := ?vrd1) rfl (by rfl) (by kernel_rfl) (by kernel_rfl) (by kernel_rfl) (by kernel_rfl) (fun _ _ _ h => h) (Or.inl ⟨by rfl, ?hyrd1⟩) hSd ?restrd1
                  case hyrd1 => (intro w hSw; (try dsimp only at hSw); go_simp; try (with_reducible rfl))
                  try simp only [Act.put, List.setIfInBounds_toArray, List.set_cons_zero, List.set_cons_succ]
                  refine wpAnyK_takeD (i := 2) (d := some 115) (v := ?vrd2) rfl (by rfl) (by kernel_rfl) (by kernel_rfl) (by kernel_rfl) (by kernel_rfl) (fun _ _ _ h => h) (Or.inl ⟨by rfl, ?hyrd2⟩) hSd ?restrd2
                  case hyrd2 => (intro w hSw; (try dsimp only at hSw); go_simp; try (with_reducible rfl))
                  try simp only [Act.put, List.setIfInBounds_toArray, List.set_cons_zero, List.set_cons_succ]
                  refine wpAnyK_takeD (i := 3) (d := some 116) (v := ?vrd3) rfl (by rfl) (by kernel_rfl) (by kernel_rfl) (by kernel_rfl) (by kernel_rfl) (fun _ _ _ h => h) (Or.inl ⟨by rfl, ?hyrd3⟩) hSd ?restrd3
                  case hyrd3 => (intro w hSw; (try dsimp only at hSw); go_simp; try (with_reducible rfl))
                  try simp only [Act.put, List.setIfInBounds_toArray, List.set_cons_zero, List.set_cons_succ]
                  refine wpAnyK_takeD (i := 4) (d := some 117) (v := ?vrd4) rfl (by rfl) (by kernel_rfl) (by kernel_rfl) (by kernel_rfl) (by kernel_rfl) (fun _ _ _ h => h) (Or.inl ⟨by rfl, ?hyrd4⟩) hSd ?restrd4
                  case hyrd4 => (intro w hSw; (try dsimp only at hSw); go_simp; try (with_reducible rfl))
                  try simp only [Act.put, List.setIfInBounds_toArray, List.set_cons_zero, List.set_cons_succ]
                  refine wpAnyK_takeD (i := 5) (d := some 118) (v := ?vrd5) rfl (by rfl) (by kernel_rfl) (by kernel_rfl) (by kernel_rfl) (by kernel_rfl) (fun _ _ _ h => h) (Or.inl ⟨by rfl, ?hyrd5⟩) hSd ?restrd5
                  case hyrd5 => (intro w hSw; (try dsimp only at hSw); go_simp; try (with_reducible rfl))
                  try simp only [Act.put, List.setIfInBounds_toArray, List.set_cons_zero, List.set_cons_succ]
                  refine wpAnyK_takeD (i := 6) (d := some 119) (v := ?vrd6) rfl (by rfl) (by kernel_rfl) (by kernel_rfl) (by kernel_rfl) (by kernel_rfl) (fun _ _ _ h => h) (Or.inl ⟨by rfl, ?hyrd6⟩) hSd ?restrd6
                  case hyrd6 => (intro w hSw; (try dsimp only at hSw); go_simp; try (with_reducible rfl))
                  try simp only [Act.put, List.setIfInBounds_toArray, List.set_cons_zero, List.set_cons_succ]
                  refine wpAnyK_takeD (i := 7) (d := some 120) (v := ?vrd7) rfl (by rfl) (by kernel_rfl) (by kernel_rfl) (by kernel_rfl) (by kernel_rfl) (fun _ _ _ h => h) (Or.inl ⟨by rfl, ?hyrd7⟩) hSd ?restrd7
                  case hyrd7 => (intro w hSw; (try dsimp only at hSw); go_simp; try (with_reducible rfl))
                  try simp only [Act.put, List.setIfInBounds_toArray, List.set_cons_zero, List.set_cons_succ]
                  refine wpAnyK_takeD (i := 8) (d := some 121) (v := ?vrd8) rfl (by rfl) (by kernel_rfl) (by kernel_rfl) (by kernel_rfl) (by kernel_rfl) (fun _ _ _ h => h) (Or.inl ⟨by rfl, ?hyrd8⟩) hSd ?restrd8
                  case hyrd8 => (intro w hSw; (try dsimp only at hSw); go_simp; try (with_reducible rfl))
                  try simp only [Act.put, List.setIfInBounds_toArray, List.set_cons_zero, List.set_cons_succ]
                  refine wpAnyK_takeD (i := 9) (d := some 122) (v := ?vrd9) rfl (by rfl) (by kernel_rfl) (by kernel_rfl) (by kernel_rfl) (by kernel_rfl) (fun _ _ _ h => h) (Or.inl ⟨by rfl, ?hyrd9⟩) hSd ?restrd9
                  case hyrd9 => (intro w hSw; (try dsimp only at hSw); go_simp; try (with_reducible rfl))
                  try simp only [Act.put, List.setIfInBounds_toArray, List.set_cons_zero, List.set_cons_succ]
                  refine wpAnyK_takeD (i := 10) (d := some 123) (v := ?vrd10) rfl (by rfl) (by kernel_rfl) (by kernel_rfl) (by kernel_rfl) (by kernel_rfl) (fun _ _ _ h => h) (Or.inl ⟨by rfl, ?hyrd10⟩) hSd ?restrd10
                  case hyrd10 => (intro w hSw; (try dsimp only at hSw); go_simp; try (with_reducible rfl))
                  try simp only [Act.put, List.setIfInBounds_toArray, List.set_cons_zero, List.set_cons_succ]
                  refine wpAnyK_takeD (i := 11) (d := some 124) (v := ?vrd11) rfl (by rfl) (by kernel_rfl) (by kernel_rfl) (by kernel_rfl) (by kernel_rfl) (fun _ _ _ h => h) (Or.inl ⟨by rfl, ?hyrd11⟩) hSd ?restrd11
                  case hyrd11 => (intro w hSw; (try dsimp only at hSw); go_simp; try (with_reducible rfl))
                  try simp only [Act.put, List.setIfInBounds_toArray, List.set_cons_zero, List.set_cons_succ]
                  refine wpAnyK_takeD (i := 12) (d := some 125) (v := ?vrd12) rfl (by rfl) (by kernel_rfl) (by kernel_rfl) (by kernel_rfl) (by kernel_rfl) (fun _ _ _ h => h) (Or.inl ⟨by rfl, ?hyrd12⟩) hSd ?restrd12
                  case hyrd12 => (intro w hSw; (try dsimp only at hSw); go_simp; try (with_reducible rfl))
                  try simp only [Act.put, List.setIfInBounds_toArray, List.set_cons_zero, List.set_cons_succ]
                  refine wpAnyK_takeD (i := 13) (d := some 126) (v := ?vrd13) rfl (by rfl) (by kernel_rfl) (by kernel_rfl) (by kernel_rfl) (by kernel_rfl) (fun _ _ _ h => h) (Or.inl ⟨by rfl, ?hyrd13⟩) hSd ?restrd13
                  case hyrd13 => (intro w hSw; (try dsimp only at hSw); go_simp; try (with_reducible rfl))
                  try simp only [Act.put, List.setIfInBounds_toArray, List.set_cons_zero, List.set_cons_succ]
                  refine wpAnyK_takeD (i := 14) (d := some 127) (v := ?vrd14) rfl (by rfl) (by kernel_rfl) (by kernel_rfl) (by kernel_rfl) (by kernel_rfl) (fun _ _ _ h => h) (Or.inl ⟨by rfl, ?hyrd14⟩) hSd ?restrd14
                  case hyrd14 => (intro w hSw; (try dsimp only at hSw); go_simp; try (with_reducible rfl))
                  try simp only [Act.put, List.setIfInBounds_toArray, List.set_cons_zero, List.set_cons_succ]
                  refine wpAnyK_one (j := 15) (by kernel_rfl) rfl (fun K hK => ?_)
                  go_simp
                  refine hK.out _ _ hSa (fun hHeldrd15 => ?_)
                  clear hK K
                  try simp only [Act.put, List.setIfInBounds_toArray, List.set_cons_zero, List.set_cons_succ]
                  refine wpAnyK_one (j := 16) (by kernel_rfl) rfl (fun K hK => ?_)
                  refine step_append_liesG _ rfl (.tmp 114) (.tmp 128) 25 rfl (w.heap.size + 1 + 1) 77 3 (.agg #[.int .i64 0, .string ByteArray.empty, .int .i64 0]) 32 Tryz.underlying25 info_ent14 rfl (by omega) s'.E En.length (entC En) rfl HOE (by simp; omega) ⟨wr.heap.size, 0, none⟩ [.int .i64 key, .string ⟨vl.toArray⟩, .int .i64 v.no] 1 1 rfl rfl (Row.of_block (t := 77) (fr := (0, 0)) (heap_alloc_new wr _)) (by simp [Value.oneCell']) (by omega) (by omega) (by omega) ?_
                  intro g7 cap7 w7 hown7 hgrow7 hat7
                  obtain ⟨k1, k2, k3⟩ := HCa.out.bd.grown HCa.out.bd.ownE hgrow7.out
                  obtain ⟨k4, k5⟩ := HCa.out.grown HCa.out.bd.ownE hgrow7.out
                  have HX := Lib.hid (HCa.out.addEnt (y := (key, vl, v.no)) hgrow7.out hat7.out hown7.out)
                  have kc1 : w7.cell? ⟨kb, ko + k, none⟩ = some (.int .i64 key) := (World.cell?_of_block (w := (wr.alloc (.cells #[.int .i64 key, .string ⟨vl.toArray⟩, .int .i64 v.no] 77)).drew) (hgrow7.out.block kb (cell_lt hSa.2.2.1) (fun e => HF56.out.1 (HCa.out.bd.ownE _ e.symm).1))).trans hSa.2.2.1
                  have kc2 : w7.cell? ⟨vb, vo + k, none⟩ = some (.string ⟨vl.toArray⟩) := (World.cell?_of_block (w := (wr.alloc (.cells #[.int .i64 key, .string ⟨vl.toArray⟩, .int .i64 v.no] 77)).drew) (hgrow7.out.block vb (cell_lt hSa.2.2.2.2.1) (fun e => HF56.out.2 (HCa.out.bd.ownE _ e.symm).1))).trans hSa.2.2.2.2.1
                  have hS7 : w7.cell? ⟨w.heap.size + 1, 0, none⟩ = some s'.E ∧ w7.cell? ⟨g5, 2, none⟩ = some (.slice (some ⟨kb, ko, none⟩) n6 c5) ∧ w7.cell? ⟨kb, ko + k, none⟩ = some (.int .i64 key) ∧ w7.cell? ⟨g5, 3, none⟩ = some (.slice (some ⟨vb, vo, none⟩) n6 c6) ∧ w7.cell? ⟨vb, vo + k, none⟩ = some (.string ⟨vl.toArray⟩) ∧ w7.cell? ⟨q, 0, none⟩ = some (.int .i64 v.no) := ⟨(k1 0).trans hSa.1, (k4 2).trans hSa.2.1, kc1, (k4 3).trans hSa.2.2.2.1, kc2, (k2 0).trans hSa.2.2.2.2.2⟩
                  have c7 := hS7.1
                  have f7 := k3 0
                  clear k1 k2 k3 k4 k5 hown7 hgrow7 hat7
                  refine hK.out _ _ hS7 (fun hHeldrd16 => ?_)
                  clear hK K
                  try simp only [Act.put, List.setIfInBounds_toArray, List.set_cons_zero, List.set_cons_succ]
                  refine wpAnyK_takeD (i := 17) (d := some 130) (v := ?vrd17) rfl (by rfl) (by kernel_rfl) (by kernel_rfl) (by kernel_rfl) (by kernel_rfl) (fun _ _ _ h => h) (Or.inl ⟨by rfl, ?hyrd17⟩) hS7 ?restrd17
                  case hyrd17 => (intro w hSw; (try dsimp only at hSw); go_simp; try (with_reducible rfl))
                  try simp only [Act.put, List.setIfInBounds_toArray, List.set_cons_zero, List.set_cons_succ]
                  refine wpAnyK_last (by kernel_rfl) rfl (by kernel_rfl) (fun K hK => ?_)
                  go_simp
                  refine hK.out _ _ ?_
                  clear hK K
                  try simp only [Act.put, List.setIfInBounds_toArray, List.set_cons_zero, List.set_cons_succ]
                  go_wp2
                  go_roundw
                  case rel =>
                    obtain ⟨s9, hx⟩ := HX.out
                    have hx2 : Hid (Nx14 w (w7.setCell ⟨w.heap.size + 1, 0, none⟩ (.slice (some ⟨g7, 0, none⟩) (En.length + 1) cap7)) s9 ⟨W.ents ++ (ents14 N v.no).take (k + 1), W.blks ++ [v.no], (wy.n : Int) + 1, W.looked + 1, W.flts⟩ A2 m c2 ys vs q wy v g5 N (some ⟨kb, ko, none⟩) n6 c5 (some ⟨vb, vo, none⟩) n6 c6 f X) := by
                      rw [HT.out, ← List.append_assoc, ← HEN.out]
                      exact hx
                    first
                      | exact ⟨k + 1, s9, by omega, by go_num, hx2⟩
                      | exact ⟨k + 1, by omega, by go_num, s9, hx2⟩
                  case measure => simp only [intOf]; omega
                · obtain rfl : k = n6 := by omega
                  have HC2 := HC.out
                  rw [List.take_of_length_le (by rw [ents14_length]; have := HZ2.out; omega)] at HC2
                  have HC3 := Lib.hid HC2
                  clear HC HC2
                  go_wp2
                  go_roundw
                  case rel =>
                    refine ⟨s', W.see.leaf v (nd14 L nb tree v.no).2, A2, m, c2, ys, vs, rfl, ?_, fun R2 h => hDn.out R2 (.leaf _ _ _ _ HZ.out hlk (HLK.out.trans HX0.out) hlf h)⟩
                    have hl := HC3.out.bd.loop (fuel := fuel) (by have := hP.out.ft.leaf (v := v) hlk hk18; rw [← hwn]; exact this)
                    have e : W.see.leaf v N = ⟨W.ents ++ ents14 N v.no, W.blks ++ [v.no], (wy.n : Int) + 1, W.looked + 1, W.flts⟩ := by rw [← hwn]; rfl
                    rw [← HNE.out, e]
                    exact hl
                  case measure =>
                    have e1 := HC3.out.bd.rs.c3
                    rw [e1, HPm.out]
                    simp only [Option.getD_some, intOf]
                    show (fuel - (W.looked + 1)).toNat * 19 + m < _ + (m + 1)
                    omega
            · have hlf : (nd14 L nb tree v.no).2.leaf = false := by simpa using hleaf
              go_wp2_with (first | (go_at_call 24; (with_reducible refine (LK.out _ HBs).mono ?_); rintro e w5 ⟨N, A5, n5, c5, A6, n6, c6, f, rfl, HN, HT⟩; obtain ⟨U2, hU2⟩ : ∃ U2, ((w5.alloc (.cells #[.int .i64 N.tree, .bool N.leaf, .slice A5 n5 c5, .slice A6 n6 c6] 55)).alloc (.cells #[.slice f.A f.n f.c, .int .i64 X] 45)) = U2 := ⟨_, rfl⟩; have hT := HT.out _ hU2.symm; have q1 := hT.err.c1; have HTT := Lib.hid hT; clear hT HT b0 b1 b2 b3 b4 c2d c3 f3 y0 y1 y2 y3 y4 hSL LK HBs; have HNE := Lib.hid (HN.out HX0.out); have hb2 : Below U2.heap.size U2 (U2.alloc (.cells #[.int .i64 v.no] 3)) := (Below.refl _ _).alloc (Nat.le_refl _) _; have HTa := Lib.hid (HTT.out.later hb2); have HOB := Lib.hid HTa.out.bd.rs.blks; have e1 := HTT.out.bd.rs.c1; have e0 := HTT.out.bd.vis.cs.1; have hsz2 : w.heap.size + 1 + 1 ≤ U2.heap.size := (by have := HTT.out.bd.rs.lt; omega)) | (at_builtin; refine wpList_append_liesG _ rfl (.tmp 93) (.tmp 96) 26 rfl (w.heap.size + 1 + 1) 3 1 (.int .i64 0) 8 Tryz.underlying26 info_i64 rfl (by omega) s.B W.blks.length (i64s W.blks) rfl HOB (by simp; omega) ⟨U2.heap.size, 0, none⟩ [.int .i64 v.no] 1 1 rfl rfl (Row.of_block (t := 3) (fr := (0, 0)) (heap_alloc_new U2 _)) (by simp [Value.oneCell']) (by omega) (by omega) (by omega) ?_; intro g3 cap3 w7 hown3 hgrow3 hat3; obtain ⟨k1, k2, k3⟩ := HTa.out.bd.grown HTa.out.bd.ownB hgrow3.out; have f71 := k3 1; have c71 : w7.cell? ⟨w.heap.size + 1, 1, none⟩ = some s.B := (k1 1).trans HTa.out.bd.rs.c1; obtain ⟨s3, hN3⟩ := HTa.out.addBlk hgrow3.out hat3.out hown3.out; obtain ⟨U3, hU3⟩ : ∃ U3, w7.setCell ⟨w.heap.size + 1, 1, none⟩ (.slice (some ⟨g3, 0, none⟩) (W.blks.length + 1) cap3) = U3 := ⟨_, rfl⟩; have hN3 : Nx14 w U3 s3 (W.see.inner v) A2 m c2 ys vs wr.heap.size wy v w5.heap.size N A5 n5 c5 A6 n6 c6 f X := (by rw [← hU3]; exact hN3); have HN3 := Lib.hid hN3; have g31 := hN3.nod.c1; have g3d := hN3.bd.vis.cs.2.2.2.1; rw [HNE.out, hlf] at g31; clear k1 k2 k3 hown3 hgrow3 hat3 hN3))
              have hvl : N.vals.length = N.keys.length := by rw [HNE.out]; exact (ndOk14 L nb tree).len v.no HZE.out.2.2.1
              have hk18 : N.keys.length ≤ 18 := by rw [HNE.out]; exact nd14_keys L nb tree v.no
              obtain ⟨z1, z2, z3, z4, z5, z6⟩ := HN3.out.nums hvl
              subst z1
              have HZ2 := Lib.hid z2
              clear z2
              have hwn : v.way.length = wy.n := HN3.out.bd.way.ints.len
              have hfew := HN3.out.bd.few
              have hwc := HN3.out.bd.way.ints.cap
              have hwm := HN3.out.bd.way.ints.most
              have HPm := Lib.hid hP.out.rs.c3
              clear hW1 hU2 hU3 g3d g31 q1 e1 e0 HTa HTT HOB HB hsz2 f71 c71
              generalize wr.heap.size = q at *
              generalize hg5 : w5.heap.size = g5 at *
              clear hg5
              have hwR : Hid (∀ X, Below U3.heap.size U3 X → Row X wy.A (i64s v.way)) := fun X h => (HN3.out.bd.way.ints.below h).row
              have hS22 : Hid (∀ X, Below U3.heap.size U3 X → X.cell? ⟨q, 3, none⟩ = some (.slice wy.A wy.n wy.c) ∧ X.cell? ⟨q, 0, none⟩ = some (.int .i64 v.no)) := fun X h => ⟨(HN3.out.later h).bd.vis.cs.2.2.2.1, (HN3.out.later h).bd.vis.cs.1⟩
              have bE : Below U3.heap.size U3 (U3.alloc (.cells #[] 3)).drew := ((Below.refl _ _).alloc (Nat.le_refl _) _).drew
              have bEN : Below U3.heap.size U3 ((U3.alloc (.cells #[] 3)).alloc (.cells #[.int .i64 v.no] 3)).drew := (((Below.refl _ _).alloc (Nat.le_refl _) _).alloc (by simp) _).drew
              have bNE : Below U3.heap.size U3 ((U3.alloc (.cells #[.int .i64 v.no] 3)).alloc (.cells #[] 3)).drew := (((Below.refl _ _).alloc (Nat.le_refl _) _).alloc (by simp) _).drew
              have bN : Below U3.heap.size U3 (U3.alloc (.cells #[.int .i64 v.no] 3)).drew := ((Below.refl _ _).alloc (Nat.le_refl _) _).drew
              have hE0 : ((U3.alloc (.cells #[] 3)).drew).heap[U3.heap.size]? = some (.cells #[] 3 (0, 0)) := heap_alloc_new U3 _
              have hEN0 : (((U3.alloc (.cells #[] 3)).alloc (.cells #[.int .i64 v.no] 3)).drew).heap[U3.heap.size]? = some (.cells #[] 3 (0, 0)) := (two_new U3 (.cells #[] 3) (.cells #[.int .i64 v.no] 3)).1
              have hEN1 : (((U3.alloc (.cells #[] 3)).alloc (.cells #[.int .i64 v.no] 3)).drew).heap[U3.heap.size + 1]? = some (.cells #[.int .i64 v.no] 3 (0, 0)) := (two_new U3 (.cells #[] 3) (.cells #[.int .i64 v.no] 3)).2.1
              have hNE0 : (((U3.alloc (.cells #[.int .i64 v.no] 3)).alloc (.cells #[] 3)).drew).heap[U3.heap.size]? = some (.cells #[.int .i64 v.no] 3 (0, 0)) := (two_new U3 (.cells #[.int .i64 v.no] 3) (.cells #[] 3)).1
              have hNE1 : (((U3.alloc (.cells #[.int .i64 v.no] 3)).alloc (.cells #[] 3)).drew).heap[U3.heap.size + 1]? = some (.cells #[] 3 (0, 0)) := (two_new U3 (.cells #[.int .i64 v.no] 3) (.cells #[] 3)).2.1
              have OE := own_emp14 (base := U3.heap.size) (Nat.le_refl _) hE0
              have OEN := own_emp14 (base := U3.heap.size) (Nat.le_refl _) hEN0
              have ONE := own_emp14 (base := U3.heap.size) (Nat.le_succ _) hNE1
              have sd : U3.drew.cell? ⟨q, 3, none⟩ = some (.slice wy.A wy.n wy.c) ∧ U3.drew.cell? ⟨q, 0, none⟩ = some (.int .i64 v.no) := hS22.out _ ((Below.refl _ _).drew)
              have sE : (U3.alloc (.cells #[] 3)).drew.cell? ⟨q, 3, none⟩ = some (.slice wy.A wy.n wy.c) ∧ (U3.alloc (.cells #[] 3)).drew.cell? ⟨q, 0, none⟩ = some (.int .i64 v.no) := hS22.out _ bE
              have sN : (U3.alloc (.cells #[.int .i64 v.no] 3)).drew.cell? ⟨q, 3, none⟩ = some (.slice wy.A wy.n wy.c) ∧ (U3.alloc (.cells #[.int .i64 v.no] 3)).drew.cell? ⟨q, 0, none⟩ = some (.int .i64 v.no) := hS22.out _ bN
              have sEN : ((U3.alloc (.cells #[] 3)).alloc (.cells #[.int .i64 v.no] 3)).drew.cell? ⟨q, 3, none⟩ = some (.slice wy.A wy.n wy.c) ∧ ((U3.alloc (.cells #[] 3)).alloc (.cells #[.int .i64 v.no] 3)).drew.cell? ⟨q, 0, none⟩ = some (.int .i64 v.no) := hS22.out _ bEN
              have sNE : ((U3.alloc (.cells #[.int .i64 v.no] 3)).alloc (.cells #[] 3)).drew.cell? ⟨q, 3, none⟩ = some (.slice wy.A wy.n wy.c) ∧ ((U3.alloc (.cells #[.int .i64 v.no] 3)).alloc (.cells #[] 3)).drew.cell? ⟨q, 0, none⟩ = some (.int .i64 v.no) := hS22.out _ bNE
              go_cut [15] (fun s15 wx => ∃ y : Slc, s15 = .slice y.A y.n y.c ∧ Hid (Nx14 w wx s3 (W.see.inner v) A2 m c2 ys vs q wy v g5 N A5 n6 c5 A6 n6 c6 f X) ∧ Hid (Rd14 wx s3 (w.heap.size + 1) y (v.way ++ [v.no])))
              case first =>
                go_region_held3 (fun U => U.cell? ⟨q, 3, none⟩ = some (.slice wy.A wy.n wy.c) ∧ U.cell? ⟨q, 0, none⟩ = some (.int .i64 v.no)) (first | assumption | go_keep)
                  (first
                  | (refine step_append_rowQ _ rfl (.tmp 131) (.tmp 133) 26 rfl U3.heap.size 3 (.int .i64 0) 8 Tryz.underlying26 info_i64 rfl (.slice (some ⟨U3.heap.size, 0, none⟩) 0 0) 0 [] rfl OE (by simp <;> omega) wy.A (i64s v.way) wy.n wy.c rfl (by rw [i64s_length]; exact hwn) (hwR.out _ bE) (i64s_one _) (by omega) (by omega) ?_
                     intro v2 w2 hown2 hgrow2
                     rw [Nat.zero_add, List.nil_append] at hown2
                     have hb2 := (bE).grown hgrow2.out (by simp <;> omega) (fun k hk => (by have hk : some (U3.heap.size) = some k := hk; injection hk with hk; omega))
                     have hS2 : w2.cell? ⟨q, 3, none⟩ = some (.slice wy.A wy.n wy.c) ∧ w2.cell? ⟨q, 0, none⟩ = some (.int .i64 v.no) := hS22.out _ hb2
                     have hO2 : Hid ((w2.alloc (.cells #[.int .i64 v.no] 3)).ownsRow U3.heap.size 3 1 v2 wy.n (i64s v.way)) := hown2.out.alloc _
                     have hR2 : Row (w2.alloc (.cells #[.int .i64 v.no] 3)) (some ⟨w2.heap.size, 0, none⟩) [.int .i64 v.no] := Row.of_block (heap_alloc_new w2 _)
                     have hb22 : Below U3.heap.size U3 (w2.alloc (.cells #[.int .i64 v.no] 3)) := hb2.alloc hb2.size _
                     have hS22a : (w2.alloc (.cells #[.int .i64 v.no] 3)).cell? ⟨q, 3, none⟩ = some (.slice wy.A wy.n wy.c) ∧ (w2.alloc (.cells #[.int .i64 v.no] 3)).cell? ⟨q, 0, none⟩ = some (.int .i64 v.no) := hS22.out _ hb22)
                  | (refine step_append_rowQ _ rfl (.tmp 131) (.tmp 133) 26 rfl U3.heap.size 3 (.int .i64 0) 8 Tryz.underlying26 info_i64 rfl (.slice (some ⟨U3.heap.size, 0, none⟩) 0 0) 0 [] rfl OEN (by simp <;> omega) wy.A (i64s v.way) wy.n wy.c rfl (by rw [i64s_length]; exact hwn) (hwR.out _ bEN) (i64s_one _) (by omega) (by omega) ?_
                     intro v2 w2 hown2 hgrow2
                     rw [Nat.zero_add, List.nil_append] at hown2
                     have hb2 := (bEN).grown hgrow2.out (by simp <;> omega) (fun k hk => (by have hk : some (U3.heap.size) = some k := hk; injection hk with hk; omega))
                     have hS2 : w2.cell? ⟨q, 3, none⟩ = some (.slice wy.A wy.n wy.c) ∧ w2.cell? ⟨q, 0, none⟩ = some (.int .i64 v.no) := hS22.out _ hb2
                     have hO2 := hown2
                     have hR2 : Row w2 (some ⟨U3.heap.size + 1, 0, none⟩) [.int .i64 v.no] := Row.of_block (t := 3) (fr := (0, 0)) ((hgrow2.out.block (U3.heap.size + 1) (by simp <;> omega) (fun e => (by have e : some (U3.heap.size + 1) = some (U3.heap.size) := e; injection e with e; omega))).trans hEN1)
                     have hb22 := hb2)
                  | (refine step_append_rowQ _ rfl (.tmp 131) (.tmp 133) 26 rfl U3.heap.size 3 (.int .i64 0) 8 Tryz.underlying26 info_i64 rfl (.slice (some ⟨U3.heap.size + 1, 0, none⟩) 0 0) 0 [] rfl ONE (by simp <;> omega) wy.A (i64s v.way) wy.n wy.c rfl (by rw [i64s_length]; exact hwn) (hwR.out _ bNE) (i64s_one _) (by omega) (by omega) ?_
                     intro v2 w2 hown2 hgrow2
                     rw [Nat.zero_add, List.nil_append] at hown2
                     have hb2 := (bNE).grown hgrow2.out (by simp <;> omega) (fun k hk => (by have hk : some (U3.heap.size + 1) = some k := hk; injection hk with hk; omega))
                     have hS2 : w2.cell? ⟨q, 3, none⟩ = some (.slice wy.A wy.n wy.c) ∧ w2.cell? ⟨q, 0, none⟩ = some (.int .i64 v.no) := hS22.out _ hb2
                     have hO2 := hown2
                     have hR2 : Row w2 (some ⟨U3.heap.size, 0, none⟩) [.int .i64 v.no] := Row.of_block (t := 3) (fr := (0, 0)) ((hgrow2.out.block (U3.heap.size) (by simp <;> omega) (fun e => (by have e : some (U3.heap.size) = some (U3.heap.size + 1) := e; injection e with e; omega))).trans hNE0)
                     have hb22 := hb2)
                  | (refine step_append_rowQ _ rfl (.tmp 134) (.tmp 137) 26 rfl U3.heap.size 3 (.int .i64 0) 8 Tryz.underlying26 info_i64 rfl v2 wy.n (i64s v.way) rfl hO2 hb22.size _ [.int .i64 v.no] 1 1 rfl rfl hR2 (by simp [Value.oneCell']) (by omega) (by omega) ?_
                     intro v4 w4 hown4 hgrow4
                     have hb4 := hb22.grown hgrow4.out hb22.size (fun k hk => (hO2.out.lt k hk).1)
                     have hS4 : w4.cell? ⟨q, 3, none⟩ = some (.slice wy.A wy.n wy.c) ∧ w4.cell? ⟨q, 0, none⟩ = some (.int .i64 v.no) := hS22.out _ hb4))
                all_goals (go_wp2_with fail; go_meet; obtain ⟨y, hy1, hy2, hy3⟩ := HN3.out.way_ hb4 hown4.out; exact ⟨y, hy1, hy2, hy3⟩)
              case rest =>
                obtain ⟨y15, rfl, HN5, HR15⟩ := hcut
                clear HN3 hwR hS22 bE bEN bNE bN hE0 hEN0 hEN1 hNE0 hNE1 OE OEN ONE sd sE sN sEN sNE
                have HFEW := Lib.hid HZE.out.2.1
                have HNEW := HNE
                have hn18 : n6 ≤ 18 := by have := HZ2.out; omega
                have hm9 : m ≤ 100000 := by have := hP.out.ft.rest; have := hP.out.ft.most; omega
                go_wp2
                go_loopw [16, 17] (fun u i ws => ∃ (k : Nat) (xr : List VisR), k ≤ n6 ∧ i = .int .i64 k ∧ Hid (xr.length = k) ∧ Hid (ws.ownsRow wc.heap.size 70 5 u k (visC xr)) ∧ Hid (Wait14 wc s3 (w.heap.size + 1) xr ((kids14 rt14 v N).take k)) ∧ Hid (Below wc.heap.size wc ws)) (fun _ i _ => n6 - (intOf i).toNat)
                case atStart => exact ⟨0, [], by omega, rfl, rfl, World.ownsRow_nil _ _ _ _, by rw [List.take_zero]; exact trivial, Below.refl _ _⟩
                case round =>
                  obtain ⟨k, xr, hk, rfl, hxl, hown, hwt, hb⟩ := hrel
                  have HNr := Lib.hid (HN5.out.later hb.out)
                  have d2 := HNr.out.nod.c2
                  have hsz := hb.out.size
                  by_cases hlt : k < n6
                  · obtain ⟨kb, ko, vb, vo, hA5, hA6, ck, cv, _, _⟩ := HNr.out.at_ hlt hvl
                    have d3 := HNr.out.nod.c3
                    have hk5 : k < N.keys.length := by have := HZ2.out; omega
                    have HKT := Lib.hid (kids14_take (v := v) (nd := N) hk5)
                    have hvl4 : (N.vals.getD k []).length ≤ 1000 := by
                      have h4 := nd14_inner HZE.out.2.2.1 hlf
                      rw [← HNE.out] at h4
                      have hkv : k < N.vals.length := by rw [hvl]; exact hk5
                      have := h4 (N.vals.getD k []) (by rw [List.getD_eq_getElem?_getD, List.getElem?_eq_getElem hkv]; exact List.getElem_mem hkv)
                      omega
                    have HKD : Hid (kid14 rt14 v N k = if (rt14 (N.vals.getD k [])).2 ≠ 0 then ⟨v.no, 0, 0, v.way, (rt14 (N.vals.getD k [])).2⟩ else ⟨(rt14 (N.vals.getD k [])).1, (ch13 v.lo v.hi N.keys (k : Int)).1, (ch13 v.lo v.hi N.keys (k : Int)).2, v.way ++ [v.no], 0⟩) := rfl
                    generalize N.vals.getD k [] = vl at *
                    have RR : Hid (∀ U, Calls Tryz.prog 25 #[.string ⟨vl.toArray⟩] U fun e w' => e = .returned (.tuple #[.int .i64 (rt14 vl).1, .int .i64 (rt14 vl).2]) ∧ Below U.heap.size U w') := fun U => refReadRoot_any8 U vl hvl4
                    generalize (rt14 vl).1 = tb at *
                    generalize (rt14 vl).2 = er at *
                    have CH : Hid (∀ U, Hid (Below wc.heap.size wc U) → Calls Tryz.prog 26 #[spnV v.lo v.hi, .slice A5 n6 c5, .int .i64 (k : Int)] U fun e w' => e = .returned (.tuple #[spnV (ch13 v.lo v.hi N.keys (k : Int)).1 (ch13 v.lo v.hi N.keys (k : Int)).2, .int .i64 (chE13 v.lo v.hi N.keys (k : Int))]) ∧ Below U.heap.size U w') := fun U hU => refChild_any13 v.lo v.hi (k : Int) U (HN5.out.later hU.out).ndi.keys
                    generalize (ch13 v.lo v.hi N.keys (k : Int)).1 = cl at *
                    generalize (ch13 v.lo v.hi N.keys (k : Int)).2 = ch at *
                    generalize chE13 v.lo v.hi N.keys (k : Int) = ce at *
                    simp only [spnV] at CH
                    have HA56 := Lib.hid (And.intro hA5 hA6)
                    subst hA5 hA6
                    by_cases her : er = 0
                    · have hez : (er != 0) = false := by simpa using her
                      have HKK : Hid (kid14 rt14 v N k = ⟨tb, cl, ch, v.way ++ [v.no], 0⟩) := by rw [HKD.out, if_neg (fun h => h her)]; rfl
                      have HER := Lib.hid her
                      clear HKD her
                      go_wp2_with (first
                        | (go_at_call 25; (with_reducible refine (RR.out _).mono ?_); rintro e w8 ⟨rfl, hb8⟩; have HB8 : Hid (Below wc.heap.size wc w8) := hb.out.trans (hb8.mono hsz); have HN8 := HN5.out.later HB8.out; have x1 := HN8.bd.vis.cs.2.1; have x2 := HN8.bd.vis.cs.2.2.1; have x3 := HN8.nod.c2; have hs8 := HB8.out.size; have hown8 := Lib.hid (own_moved hown.out fun k _ hk => hb8.block k hk); clear hb8 HN8)
                        | (go_at_call 26; (with_reducible refine (CH.out _ HB8).mono ?_); rintro e w9 ⟨rfl, hb9⟩; have hbs : Below w9.heap.size w9 (w9.alloc (.cells #[.int .i64 cl, .int .i64 ch] 63)) := (Below.refl _ _).alloc (Nat.le_refl _) _; have hb89 := hb9.trans (hbs.mono hb9.size); have HB9 : Hid (Below wc.heap.size wc (w9.alloc (.cells #[.int .i64 cl, .int .i64 ch] 63))) := HB8.out.trans (hb89.mono hs8); have hs9 := HB9.out.size; have hown9 := Lib.hid (own_moved hown8.out fun k _ hk => hb89.block k hk); have a0 := (SpnAt.new w9 cl ch).c0; have a1 := (SpnAt.new w9 cl ch).c1; clear hb9 hbs hb89)
                        | (at_builtin; refine wpList_append_newS (w9.alloc (.cells #[.int .i64 cl, .int .i64 ch] 63)) rfl _ _ 71 rfl wc.heap.size 70 70 5 (.agg #[.int .i64 0, .int .i64 0, .int .i64 0, .slice none 0 0, .int .i64 0]) 56 Tryz.underlying71 info_vis14 rfl (by omega) u16 k (visC xr) rfl hown9 hs9 [.int .i64 tb, .int .i64 cl, .int .i64 ch, .slice y15.A y15.n y15.c, .int .i64 0] 1 1 (by rw [World.size_alloc]; rfl) rfl (by simp [Value.oneCell']) (by omega) (by omega) ?_; intro v10 w10 hown10 hs10 hb10; have HB10 := Lib.hid (HB9.out.trans hb10); clear hb10))
                      go_roundw
                      case rel =>
                        refine ⟨k + 1, xr ++ [⟨tb, cl, ch, y15, 0⟩], by omega, by go_num, ?_, ?_, ?_, HB10⟩
                        · show (xr ++ [_]).length = k + 1
                          rw [List.length_append, List.length_singleton, hxl.out]
                        · rw [visC_snoc]; exact hown10
                        · rw [HKT.out, HKK.out]
                          exact Wait14.snoc (x := ⟨tb, cl, ch, y15, 0⟩) (v := ⟨tb, cl, ch, v.way ++ [v.no], 0⟩) ⟨rfl, rfl, rfl, rfl, HR15.out, by show (v.way ++ [v.no]).length ≤ 16; rw [List.length_append, List.length_singleton]; exact HFEW.out⟩ hwt.out
                      case measure => simp only [intOf]; omega
                    · have hez : (er != 0) = true := by simpa using her
                      have HKK : Hid (kid14 rt14 v N k = ⟨v.no, 0, 0, v.way, er⟩) := by rw [HKD.out, if_pos her]; rfl
                      clear HKD
                      go_wp2_with (first
                        | (go_at_call 25; (with_reducible refine (RR.out _).mono ?_); rintro e w8 ⟨rfl, hb8⟩; have HB8 : Hid (Below wc.heap.size wc w8) := hb.out.trans (hb8.mono hsz); have HN8 := HN5.out.later HB8.out; have x0 := HN8.bd.vis.cs.1; have x3 := HN8.bd.vis.cs.2.2.2.1; have hs8 := HB8.out.size; have hown8 := Lib.hid (own_moved hown.out fun k _ hk => hb8.block k hk); clear hb8 HN8)
                        | (at_builtin; refine wpList_append_newS w8 rfl _ _ 71 rfl wc.heap.size 70 70 5 (.agg #[.int .i64 0, .int .i64 0, .int .i64 0, .slice none 0 0, .int .i64 0]) 56 Tryz.underlying71 info_vis14 rfl (by omega) u16 k (visC xr) rfl hown8 hs8 [.int .i64 v.no, .int .i64 0, .int .i64 0, .slice wy.A wy.n wy.c, .int .i64 er] 1 1 rfl rfl (by simp [Value.oneCell']) (by omega) (by omega) ?_; intro v10 w10 hown10 hs10 hb10; have HB10 := Lib.hid (HB8.out.trans hb10); clear hb10))
                      go_roundw
                      case rel =>
                        refine ⟨k + 1, xr ++ [⟨v.no, 0, 0, wy, er⟩], by omega, by go_num, ?_, ?_, ?_, HB10⟩
                        · show (xr ++ [_]).length = k + 1
                          rw [List.length_append, List.length_singleton, hxl.out]
                        · rw [visC_snoc]; exact hown10
                        · rw [HKT.out, HKK.out]
                          exact Wait14.snoc (x := ⟨v.no, 0, 0, wy, er⟩) (v := ⟨v.no, 0, 0, v.way, er⟩) ⟨rfl, rfl, rfl, rfl, HN5.out.bd.way, HN5.out.bd.few⟩ hwt.out
                      case measure => simp only [intOf]; omega
                  · obtain rfl : k = n6 := by omega
                    have hwt2 := hwt.out
                    rw [List.take_of_length_le (by rw [kids14_length]; have := HZ2.out; omega)] at hwt2
                    have HWT := Lib.hid hwt2
                    have hrow := Lib.hid HNr.out.bd.ws.row
                    have hyl := HNr.out.bd.ws.len
                    clear hwt hwt2
                    go_wp2_with (at_builtin; refine wpList_append_rowS wr rfl _ _ 71 rfl wc.heap.size 70 5 (.agg #[.int .i64 0, .int .i64 0, .int .i64 0, .slice none 0 0, .int .i64 0]) 56 Tryz.underlying71 info_vis14 rfl (by omega) u16 k (visC xr) rfl hown hsz A2 (visC ys) m c2 rfl (by rw [visC_length, hyl]) hrow.out (visC_one _) (by omega) (by omega) ?_; intro v9 w9 hown9 hs9 hb9; have HB9 := Lib.hid (hb.out.trans hb9); clear hb9)
                    have HAH : Hid (∃ A9 c9, v9 = .slice A9 (k + m) c9 ∧ Lp14 w w9 fuel s3 (W.see.inner v) A9 (k + m) c9 (xr ++ ys) (kids14 rt14 v N ++ vs)) := by
                      have h := HN5.out.ahead (wr := w9) (fuel := fuel) HB9.out HWT.out (v9 := v9) (by rw [hxl.out]; exact hown9.out) (by rw [hxl.out]; exact hP.out.ft.node hlk hn18)
                      rw [hxl.out] at h
                      exact h
                    go_roundw
                    case rel =>
                      obtain ⟨A9, c9, hv9, hL9⟩ := HAH.out
                      exact ⟨s3, W.see.inner v, A9, k + m, c9, xr ++ ys, kids14 rt14 v N ++ vs, hv9, hL9, fun R2 h => hDn.out R2 (.node _ _ _ _ HZ.out hlk (HLK.out.trans HX0.out) hlf (by rw [← HNE.out]; exact h))⟩
                    case measure =>
                      obtain ⟨A9, c9, hv9, hL9⟩ := HAH.out
                      have e1 := hL9.rs.c3
                      rw [e1, HPm.out, hv9]
                      simp only [Option.getD_some, intOf]
                      show (fuel - (W.looked + 1)).toNat * 19 + (k + m) < _ + (m + 1)
                      omega
          · have hxn : (X != 0) = true := by simpa using hx0
            go_wp2_with (first | (go_at_call 24; (with_reducible refine (LK.out _ HBs).mono ?_); rintro e w5 ⟨N, A5, n5, c5, A6, n6, c6, f, rfl, HN, HT⟩; obtain ⟨U2, hU2⟩ : ∃ U2, ((w5.alloc (.cells #[.int .i64 N.tree, .bool N.leaf, .slice A5 n5 c5, .slice A6 n6 c6] 55)).alloc (.cells #[.slice f.A f.n f.c, .int .i64 X] 45)) = U2 := ⟨_, rfl⟩; have hT := HT.out _ hU2.symm; have q1 := hT.err.c1; have HTT := Lib.hid hT; clear hT HT b0 b1 b2 b3 b4 c2d c3 f3 y0 y1 y2 y3 y4 hSL LK HBs))
            have HTd := Lib.hid (HTT.out.later ((Below.refl _ _).drew))
            have WR : Hid (∀ U, Hid (Nx14 w U s W.see A2 m c2 ys vs wr.heap.size wy v w5.heap.size N A5 n5 c5 A6 n6 c6 f X) → Calls Tryz.prog 22 #[.slice wy.A wy.n wy.c, .agg #[.slice f.A f.n f.c, .int .i64 X]] U fun e w' => ∃ A3 n3 c3, e = .returned (.agg #[.slice A3 n3 c3, .int .i64 X]) ∧ Hid (Rd14 w' s (w.heap.size + 1) ⟨A3, n3, c3⟩ (v.way ++ [v.no])) ∧ Hid (Nx14 w w' s W.see A2 m c2 ys vs wr.heap.size wy v w5.heap.size N A5 n5 c5 A6 n6 c6 f X) ∧ (w'.cell? ⟨w.heap.size + 1, 4, none⟩ = some s.F ∧ w'.cell? ⟨wr.heap.size, 3, none⟩ = some (.slice wy.A wy.n wy.c) ∧ w'.cell? ⟨w5.heap.size + 1, 0, none⟩ = some (.slice f.A f.n f.c) ∧ w'.cell? ⟨w5.heap.size + 1, 1, none⟩ = some (.int .i64 X))) := fun U hU => (hU.out.bd.wrap_ hx0 (by simp) (hU.out.bad hx0)).mono fun e w' ⟨A3, n3, c3, h1, h2, _, h4⟩ => ⟨A3, n3, c3, h1, h2, hU.out.later h4, ⟨(hU.out.later h4).bd.rs.c4, (hU.out.later h4).bd.vis.cs.2.2.2.1, (hU.out.later h4).err.c0, (hU.out.later h4).err.c1⟩⟩
            have hS1d : U2.drew.cell? ⟨w.heap.size + 1, 4, none⟩ = some s.F ∧ U2.drew.cell? ⟨wr.heap.size, 3, none⟩ = some (.slice wy.A wy.n wy.c) ∧ U2.drew.cell? ⟨w5.heap.size + 1, 0, none⟩ = some (.slice f.A f.n f.c) ∧ U2.drew.cell? ⟨w5.heap.size + 1, 1, none⟩ = some (.int .i64 X) := ⟨HTd.out.bd.rs.c4, HTd.out.bd.vis.cs.2.2.2.1, HTd.out.err.c0, HTd.out.err.c1⟩
            refine wp_region_K (S := fun U => U.cell? ⟨w.heap.size + 1, 4, none⟩ = some s.F ∧ U.cell? ⟨wr.heap.size, 3, none⟩ = some (.slice wy.A wy.n wy.c) ∧ U.cell? ⟨w5.heap.size + 1, 0, none⟩ = some (.slice f.A f.n f.c) ∧ U.cell? ⟨w5.heap.size + 1, 1, none⟩ = some (.int .i64 X)) 9 (by kernel_rfl) hS1d (fun hHeld => ?_)
            refine wpAnyK_takeD (i := 0) (d := some 83) (v := ?vrc0) rfl (by rfl) (by kernel_rfl) (by kernel_rfl) (by kernel_rfl) (by kernel_rfl) (fun _ _ _ h => h) (Or.inl ⟨by rfl, ?hyrc0⟩) hS1d ?restrc0
            case hyrc0 => (intro w hSw; (try dsimp only at hSw); go_simp; try (with_reducible rfl))
            try simp only [Act.put, List.setIfInBounds_toArray, List.set_cons_zero, List.set_cons_succ]
            refine wpAnyK_takeD (i := 1) (d := some 84) (v := ?vrc1) rfl (by rfl) (by kernel_rfl) (by kernel_rfl) (by kernel_rfl) (by kernel_rfl) (fun _ _ _ h => h) (Or.inl ⟨by rfl, ?hyrc1⟩) hS1d ?restrc1
            case hyrc1 => (intro w hSw; (try dsimp only at hSw); go_simp; try (with_reducible rfl))
            try simp only [Act.put, List.setIfInBounds_toArray, List.set_cons_zero, List.set_cons_succ]
            refine wpAnyK_takeD (i := 2) (d := some 85) (v := ?vrc2) rfl (by rfl) (by kernel_rfl) (by kernel_rfl) (by kernel_rfl) (by kernel_rfl) (fun _ _ _ h => h) (Or.inl ⟨by rfl, ?hyrc2⟩) hS1d ?restrc2
            case hyrc2 => (intro w hSw; (try dsimp only at hSw); go_simp; try (with_reducible rfl))
            try simp only [Act.put, List.setIfInBounds_toArray, List.set_cons_zero, List.set_cons_succ]
            refine wpAnyK_takeD (i := 3) (d := some 86) (v := ?vrc3) rfl (by rfl) (by kernel_rfl) (by kernel_rfl) (by kernel_rfl) (by kernel_rfl) (fun _ _ _ h => h) (Or.inl ⟨by rfl, ?hyrc3⟩) hS1d ?restrc3
            case hyrc3 => (intro w hSw; (try dsimp only at hSw); go_simp; try (with_reducible rfl))
            try simp only [Act.put, List.setIfInBounds_toArray, List.set_cons_zero, List.set_cons_succ]
            refine wpAnyK_takeD (i := 4) (d := some 87) (v := ?vrc4) rfl (by rfl) (by kernel_rfl) (by kernel_rfl) (by kernel_rfl) (by kernel_rfl) (fun _ _ _ h => h) (Or.inl ⟨by rfl, ?hyrc4⟩) hS1d ?restrc4
            case hyrc4 => (intro w hSw; (try dsimp only at hSw); go_simp; try (with_reducible rfl))
            try simp only [Act.put, List.setIfInBounds_toArray, List.set_cons_zero, List.set_cons_succ]
            refine wpAnyK_one (j := 5) (by kernel_rfl) rfl (fun K hK => ?_)
            go_simp
            go_at_call 22
            with_reducible refine (WR.out _ HTd).mono ?_
            rintro e w6 ⟨A8, n8, c8, rfl, hR6, hN6, hS6⟩
            have hb6 : Below w6.heap.size w6 (w6.alloc (.cells #[.slice A8 n8 c8, .int .i64 X] 45)) := (Below.refl _ _).alloc (Nat.le_refl _) _
            have HN6 := Lib.hid (hN6.out.later hb6)
            have HR6 := Lib.hid (hR6.out.below hb6)
            have hS6a : (w6.alloc (.cells #[.slice A8 n8 c8, .int .i64 X] 45)).cell? ⟨w.heap.size + 1, 4, none⟩ = some s.F ∧ (w6.alloc (.cells #[.slice A8 n8 c8, .int .i64 X] 45)).cell? ⟨wr.heap.size, 3, none⟩ = some (.slice wy.A wy.n wy.c) ∧ (w6.alloc (.cells #[.slice A8 n8 c8, .int .i64 X] 45)).cell? ⟨w5.heap.size + 1, 0, none⟩ = some (.slice f.A f.n f.c) ∧ (w6.alloc (.cells #[.slice A8 n8 c8, .int .i64 X] 45)).cell? ⟨w5.heap.size + 1, 1, none⟩ = some (.int .i64 X) := ⟨HN6.out.bd.rs.c4, HN6.out.bd.vis.cs.2.2.2.1, HN6.out.err.c0, HN6.out.err.c1⟩
            obtain ⟨fr, hfr, hbad⟩ := HN6.out.bd.rs.flts
            have HFR := Lib.hid hfr
            have HBAD := Lib.hid hbad
            have hsz6 : w.heap.size + 1 + 1 ≤ w6.heap.size := by have := hN6.out.bd.rs.lt; omega
            clear hb6 hfr hbad
            refine hK.out _ _ hS6 (fun hHeldrc5 => ?_)
            clear hK K
            try simp only [Act.put, List.setIfInBounds_toArray, List.set_cons_zero, List.set_cons_succ]
            refine wpAnyK_one (j := 6) (by kernel_rfl) rfl (fun K hK => ?_)
            go_simp
            refine hK.out _ _ hS6a (fun hHeldrc6 => ?_)
            clear hK K
            try simp only [Act.put, List.setIfInBounds_toArray, List.set_cons_zero, List.set_cons_succ]
            refine wpAnyK_one (j := 7) (by kernel_rfl) rfl (fun K hK => ?_)
            refine step_append_liesG _ rfl (.tmp 84) (.tmp 89) 33 rfl (w.heap.size + 1 + 1) 45 2 (.agg #[.slice none 0 0, .int .i64 0]) 32 Tryz.underlying33 info_bad14 rfl (by omega) s.F W.flts.length (badC fr) rfl HFR (by simp; omega) ⟨w6.heap.size, 0, none⟩ [.slice A8 n8 c8, .int .i64 X] 1 1 rfl rfl (Row.of_block (t := 45) (fr := (0, 0)) (heap_alloc_new w6 _)) (by simp [Value.oneCell']) (by omega) (by omega) (by omega) ?_
            intro g7 cap7 w7 hown7 hgrow7 hat7
            obtain ⟨k1, k2, k3⟩ := HN6.out.bd.grown HN6.out.bd.ownF hgrow7.out
            obtain ⟨k4, k5⟩ := HN6.out.grown HN6.out.bd.ownF hgrow7.out
            have hS7 : w7.cell? ⟨w.heap.size + 1, 4, none⟩ = some s.F ∧ w7.cell? ⟨wr.heap.size, 3, none⟩ = some (.slice wy.A wy.n wy.c) ∧ w7.cell? ⟨w5.heap.size + 1, 0, none⟩ = some (.slice f.A f.n f.c) ∧ w7.cell? ⟨w5.heap.size + 1, 1, none⟩ = some (.int .i64 X) := ⟨(k1 4).trans hS6a.1, (k2 3).trans hS6a.2.1, (k5 0).trans hS6a.2.2.1, (k5 1).trans hS6a.2.2.2⟩
            have c7 := hS7.1
            have f7 := k3 4
            have HX := Lib.hid (HN6.out.bd.addFlt HBAD.out HR6.out hgrow7.out hat7.out HFR.out hown7.out)
            clear k1 k2 k3 k4 k5 hown7 hgrow7 hat7
            refine hK.out _ _ hS7 (fun hHeldrc7 => ?_)
            clear hK K
            try simp only [Act.put, List.setIfInBounds_toArray, List.set_cons_zero, List.set_cons_succ]
            refine wpAnyK_takeD (i := 8) (d := some 91) (v := ?vrc8) rfl (by rfl) (by kernel_rfl) (by kernel_rfl) (by kernel_rfl) (by kernel_rfl) (fun _ _ _ h => h) (Or.inl ⟨by rfl, ?hyrc8⟩) hS7 ?restrc8
            case hyrc8 => (intro w hSw; (try dsimp only at hSw); go_simp; try (with_reducible rfl))
            try simp only [Act.put, List.setIfInBounds_toArray, List.set_cons_zero, List.set_cons_succ]
            refine wpAnyK_last (by kernel_rfl) rfl (by kernel_rfl) (fun K hK => ?_)
            go_simp
            refine hK.out _ _ ?_
            clear hK K
            try simp only [Act.put, List.setIfInBounds_toArray, List.set_cons_zero, List.set_cons_succ]
            go_wp2
            go_roundw
            case rel =>
              obtain ⟨s', hx⟩ := HX.out
              refine ⟨s', W.see.bad v X, A2, m, c2, ys, vs, rfl, hx.loop (hP.out.ft.bad hlk _), fun R2 h => hDn.out R2 (.bad _ _ _ _ HZ.out hlk ?_ ?_)⟩
              · rw [HLK.out]; exact hx0
              · rw [HLK.out]; exact h
            case measure =>
              obtain ⟨s', hx⟩ := HX.out
              have e1 : (w7.setCell ⟨w.heap.size + 1, 4, none⟩ (.slice (some ⟨g7, 0, none⟩) (W.flts.length + 1) cap7)).cell? ⟨w.heap.size + 1, 3, none⟩ = some (.int .i64 (W.looked + 1)) := hx.rs.c3
              have e2 := hP.out.rs.c3
              rw [e1, e2]
              simp only [Option.getD_some, intOf]
              show (fuel - (W.looked + 1)).toNat * 19 + m < _ + (m + 1)
              omega
      · have hne : (v.flt != 0) = true := by simpa using hz
        go_wp2
        have HBd := Lib.hid (HB.out.later ((Below.refl _ _).drew))
        have AT : Hid (∀ U, Hid (Bd14 w U s W A2 m c2 ys vs wr.heap.size wy v) → Calls Tryz.prog 23 #[.int .i64 v.no, .int .i64 v.flt] U fun e w' => ∃ A1 c1, e = .returned (.agg #[.slice A1 1 c1, .int .i64 v.flt]) ∧ Hid (Rd14 w' s (w.heap.size + 1) ⟨A1, 1, c1⟩ [v.no]) ∧ Hid (Bd14 w w' s W A2 m c2 ys vs wr.heap.size wy v) ∧ (w'.cell? ⟨w.heap.size + 1, 4, none⟩ = some s.F ∧ w'.cell? ⟨wr.heap.size, 3, none⟩ = some (.slice wy.A wy.n wy.c) ∧ w'.cell? ⟨wr.heap.size, 0, none⟩ = some (.int .i64 v.no) ∧ w'.cell? ⟨wr.heap.size, 4, none⟩ = some (.int .i64 v.flt))) := fun U hU => (hU.out.at_ hz).mono fun e w' ⟨A1, c1, h1, h2, h3, _⟩ => ⟨A1, c1, h1, h2, h3, ⟨h3.rs.c4, h3.vis.cs.2.2.2.1, h3.vis.cs.1, h3.vis.cs.2.2.2.2⟩⟩
        have WR : Hid (∀ U A1 c1, Hid (Rd14 U s (w.heap.size + 1) ⟨A1, 1, c1⟩ [v.no]) → Hid (Bd14 w U s W A2 m c2 ys vs wr.heap.size wy v) → Calls Tryz.prog 22 #[.slice wy.A wy.n wy.c, .agg #[.slice A1 1 c1, .int .i64 v.flt]] U fun e w' => ∃ A3 n3 c3, e = .returned (.agg #[.slice A3 n3 c3, .int .i64 v.flt]) ∧ Hid (Rd14 w' s (w.heap.size + 1) ⟨A3, n3, c3⟩ (v.way ++ [v.no])) ∧ Hid (Bd14 w w' s W A2 m c2 ys vs wr.heap.size wy v) ∧ (w'.cell? ⟨w.heap.size + 1, 4, none⟩ = some s.F ∧ w'.cell? ⟨wr.heap.size, 3, none⟩ = some (.slice wy.A wy.n wy.c) ∧ w'.cell? ⟨wr.heap.size, 0, none⟩ = some (.int .i64 v.no) ∧ w'.cell? ⟨wr.heap.size, 4, none⟩ = some (.int .i64 v.flt))) := fun U A1 c1 hR hU => (hU.out.wrap_ hz (by simp) hR.out).mono fun e w' ⟨A3, n3, c3, h1, h2, h3, _⟩ => ⟨A3, n3, c3, h1, h2, h3, ⟨h3.rs.c4, h3.vis.cs.2.2.2.1, h3.vis.cs.1, h3.vis.cs.2.2.2.2⟩⟩
        have hS1d : W1.drew.cell? ⟨w.heap.size + 1, 4, none⟩ = some s.F ∧ W1.drew.cell? ⟨wr.heap.size, 3, none⟩ = some (.slice wy.A wy.n wy.c) ∧ W1.drew.cell? ⟨wr.heap.size, 0, none⟩ = some (.int .i64 v.no) ∧ W1.drew.cell? ⟨wr.heap.size, 4, none⟩ = some (.int .i64 v.flt) := ⟨HBd.out.rs.c4, HBd.out.vis.cs.2.2.2.1, HBd.out.vis.cs.1, HBd.out.vis.cs.2.2.2.2⟩
        refine wp_region_K (S := fun U => U.cell? ⟨w.heap.size + 1, 4, none⟩ = some s.F ∧ U.cell? ⟨wr.heap.size, 3, none⟩ = some (.slice wy.A wy.n wy.c) ∧ U.cell? ⟨wr.heap.size, 0, none⟩ = some (.int .i64 v.no) ∧ U.cell? ⟨wr.heap.size, 4, none⟩ = some (.int .i64 v.flt)) 13 (by kernel_rfl) hS1d (fun hHeld => ?_)
        refine wpAnyK_takeD (i := 0) (d := some 38) (v := ?vra0) rfl (by rfl) (by kernel_rfl) (by kernel_rfl) (by kernel_rfl) (by kernel_rfl) (fun _ _ _ h => h) (Or.inl ⟨by rfl, ?hyra0⟩) hS1d ?restra0
        case hyra0 => (intro w hSw; (try dsimp only at hSw); go_simp; try (with_reducible rfl))
        try simp only [Act.put, List.setIfInBounds_toArray, List.set_cons_zero, List.set_cons_succ]
        refine wpAnyK_takeD (i := 1) (d := some 39) (v := ?vra1) rfl (by rfl) (by kernel_rfl) (by kernel_rfl) (by kernel_rfl) (by kernel_rfl) (fun _ _ _ h => h) (Or.inl ⟨by rfl, ?hyra1⟩) hS1d ?restra1
        case hyra1 => (intro w hSw; (try dsimp only at hSw); go_simp; try (with_reducible rfl))
        try simp only [Act.put, List.setIfInBounds_toArray, List.set_cons_zero, List.set_cons_succ]
        refine wpAnyK_takeD (i := 2) (d := some 40) (v := ?vra2) rfl (by rfl) (by kernel_rfl) (by kernel_rfl) (by kernel_rfl) (by kernel_rfl) (fun _ _ _ h => h) (Or.inl ⟨by rfl, ?hyra2⟩) hS1d ?restra2
        case hyra2 => (intro w hSw; (try dsimp only at hSw); go_simp; try (with_reducible rfl))
        try simp only [Act.put, List.setIfInBounds_toArray, List.set_cons_zero, List.set_cons_succ]
        refine wpAnyK_takeD (i := 3) (d := some 41) (v := ?vra3) rfl (by rfl) (by kernel_rfl) (by kernel_rfl) (by kernel_rfl) (by kernel_rfl) (fun _ _ _ h => h) (Or.inl ⟨by rfl, ?hyra3⟩) hS1d ?restra3
        case hyra3 => (intro w hSw; (try dsimp only at hSw); go_simp; try (with_reducible rfl))
        try simp only [Act.put, List.setIfInBounds_toArray, List.set_cons_zero, List.set_cons_succ]
        refine wpAnyK_takeD (i := 4) (d := some 42) (v := ?vra4) rfl (by rfl) (by kernel_rfl) (by kernel_rfl) (by kernel_rfl) (by kernel_rfl) (fun _ _ _ h => h) (Or.inl ⟨by rfl, ?hyra4⟩) hS1d ?restra4
        case hyra4 => (intro w hSw; (try dsimp only at hSw); go_simp; try (with_reducible rfl))
        try simp only [Act.put, List.setIfInBounds_toArray, List.set_cons_zero, List.set_cons_succ]
        refine wpAnyK_takeD (i := 5) (d := some 43) (v := ?vra5) rfl (by rfl) (by kernel_rfl) (by kernel_rfl) (by kernel_rfl) (by kernel_rfl) (fun _ _ _ h => h) (Or.inl ⟨by rfl, ?hyra5⟩) hS1d ?restra5
        case hyra5 => (intro w hSw; (try dsimp only at hSw); go_simp; try (with_reducible rfl))
        try simp only [Act.put, List.setIfInBounds_toArray, List.set_cons_zero, List.set_cons_succ]
        refine wpAnyK_takeD (i := 6) (d := some 44) (v := ?vra6) rfl (by rfl) (by kernel_rfl) (by kernel_rfl) (by kernel_rfl) (by kernel_rfl) (fun _ _ _ h => h) (Or.inl ⟨by rfl, ?hyra6⟩) hS1d ?restra6
        case hyra6 => (intro w hSw; (try dsimp only at hSw); go_simp; try (with_reducible rfl))
        try simp only [Act.put, List.setIfInBounds_toArray, List.set_cons_zero, List.set_cons_succ]
        refine wpAnyK_takeD (i := 7) (d := some 45) (v := ?vra7) rfl (by rfl) (by kernel_rfl) (by kernel_rfl) (by kernel_rfl) (by kernel_rfl) (fun _ _ _ h => h) (Or.inl ⟨by rfl, ?hyra7⟩) hS1d ?restra7
        case hyra7 => (intro w hSw; (try dsimp only at hSw); go_simp; try (with_reducible rfl))
        try simp only [Act.put, List.setIfInBounds_toArray, List.set_cons_zero, List.set_cons_succ]
        refine wpAnyK_one (j := 8) (by kernel_rfl) rfl (fun K hK => ?_)
        go_simp
        go_at_call 23
        with_reducible refine (AT.out _ HBd).mono ?_
        rintro e w5 ⟨A5, c5, rfl, hR5, hB5, hS5⟩
        refine hK.out _ _ hS5 (fun hHeldra8 => ?_)
        clear hK K
        try simp only [Act.put, List.setIfInBounds_toArray, List.set_cons_zero, List.set_cons_succ]
        refine wpAnyK_one (j := 9) (by kernel_rfl) rfl (fun K hK => ?_)
        go_simp
        go_at_call 22
        with_reducible refine (WR.out _ _ _ hR5 hB5).mono ?_
        rintro e w6 ⟨A6, n6, c6, rfl, hR6, hB6, hS6⟩
        have hb6 : Below w6.heap.size w6 (w6.alloc (.cells #[.slice A6 n6 c6, .int .i64 v.flt] 45)) := (Below.refl _ _).alloc (Nat.le_refl _) _
        have HB6 := Lib.hid (hB6.out.later hb6)
        have HR6 := Lib.hid (hR6.out.below hb6)
        have hS6a : (w6.alloc (.cells #[.slice A6 n6 c6, .int .i64 v.flt] 45)).cell? ⟨w.heap.size + 1, 4, none⟩ = some s.F ∧ (w6.alloc (.cells #[.slice A6 n6 c6, .int .i64 v.flt] 45)).cell? ⟨wr.heap.size, 3, none⟩ = some (.slice wy.A wy.n wy.c) ∧ (w6.alloc (.cells #[.slice A6 n6 c6, .int .i64 v.flt] 45)).cell? ⟨wr.heap.size, 0, none⟩ = some (.int .i64 v.no) ∧ (w6.alloc (.cells #[.slice A6 n6 c6, .int .i64 v.flt] 45)).cell? ⟨wr.heap.size, 4, none⟩ = some (.int .i64 v.flt) := ⟨HB6.out.rs.c4, HB6.out.vis.cs.2.2.2.1, HB6.out.vis.cs.1, HB6.out.vis.cs.2.2.2.2⟩
        obtain ⟨fr, hfr, hbad⟩ := HB6.out.rs.flts
        have HFR := Lib.hid hfr
        have HBAD := Lib.hid hbad
        have hsz6 : w.heap.size + 1 + 1 ≤ w6.heap.size := by have := hB6.out.rs.lt; omega
        clear hb6 hfr hbad
        refine hK.out _ _ hS6 (fun hHeldra9 => ?_)
        clear hK K
        try simp only [Act.put, List.setIfInBounds_toArray, List.set_cons_zero, List.set_cons_succ]
        refine wpAnyK_one (j := 10) (by kernel_rfl) rfl (fun K hK => ?_)
        go_simp
        refine hK.out _ _ hS6a (fun hHeldra10 => ?_)
        clear hK K
        try simp only [Act.put, List.setIfInBounds_toArray, List.set_cons_zero, List.set_cons_succ]
        refine wpAnyK_one (j := 11) (by kernel_rfl) rfl (fun K hK => ?_)
        refine step_append_liesG _ rfl (.tmp 39) (.tmp 48) 33 rfl (w.heap.size + 1 + 1) 45 2 (.agg #[.slice none 0 0, .int .i64 0]) 32 Tryz.underlying33 info_bad14 rfl (by omega) s.F W.flts.length (badC fr) rfl HFR (by simp; omega) ⟨w6.heap.size, 0, none⟩ [.slice A6 n6 c6, .int .i64 v.flt] 1 1 rfl rfl (Row.of_block (t := 45) (fr := (0, 0)) (heap_alloc_new w6 _)) (by simp [Value.oneCell']) (by omega) (by omega) (by omega) ?_
        intro g7 cap7 w7 hown7 hgrow7 hat7
        obtain ⟨k1, k2, k3⟩ := HB6.out.grown HB6.out.ownF hgrow7.out
        have hS7 : w7.cell? ⟨w.heap.size + 1, 4, none⟩ = some s.F ∧ w7.cell? ⟨wr.heap.size, 3, none⟩ = some (.slice wy.A wy.n wy.c) ∧ w7.cell? ⟨wr.heap.size, 0, none⟩ = some (.int .i64 v.no) ∧ w7.cell? ⟨wr.heap.size, 4, none⟩ = some (.int .i64 v.flt) := ⟨(k1 4).trans hS6a.1, (k2 3).trans hS6a.2.1, (k2 0).trans hS6a.2.2.1, (k2 4).trans hS6a.2.2.2⟩
        have c7 := hS7.1
        have f7 := k3 4
        have HX := Lib.hid (HB6.out.addFlt HBAD.out HR6.out hgrow7.out hat7.out HFR.out hown7.out)
        clear k1 k2 k3 hown7 hgrow7 hat7
        refine hK.out _ _ hS7 (fun hHeldra11 => ?_)
        clear hK K
        try simp only [Act.put, List.setIfInBounds_toArray, List.set_cons_zero, List.set_cons_succ]
        refine wpAnyK_takeD (i := 12) (d := some 50) (v := ?vra12) rfl (by rfl) (by kernel_rfl) (by kernel_rfl) (by kernel_rfl) (by kernel_rfl) (fun _ _ _ h => h) (Or.inl ⟨by rfl, ?hyra12⟩) hS7 ?restra12
        case hyra12 => (intro w hSw; (try dsimp only at hSw); go_simp; try (with_reducible rfl))
        try simp only [Act.put, List.setIfInBounds_toArray, List.set_cons_zero, List.set_cons_succ]
        refine wpAnyK_last (by kernel_rfl) rfl (by kernel_rfl) (fun K hK => ?_)
        go_simp
        refine hK.out _ _ ?_
        clear hK K
        try simp only [Act.put, List.setIfInBounds_toArray, List.set_cons_zero, List.set_cons_succ]
        go_wp2
        go_roundw
        case rel =>
          obtain ⟨s', hx⟩ := HX.out
          exact ⟨s', W.bad v v.flt, A2, m, c2, ys, vs, rfl, hx.loop (hP.out.ft.flt _), fun R2 h => hDn.out R2 (.flt _ _ _ _ hz h)⟩
        case measure =>
          obtain ⟨s', hx⟩ := HX.out
          have e1 := hx.rs.c3
          have e2 := hP.out.rs.c3
          rw [e1, e2]
          simp only [Option.getD_some, intOf]
          show _ + m < _ + (m + 1)
          omega

end Go.Proofs.YtfcehhhcjlpklaaGreatDoor

/-
  The walk of WalkScans.
-/
namespace Go.Proofs.YtfcehhhcjlpklaaGreatDoor
open Go.RowKit
set_option linter.unusedVariables false
set_option linter.unusedSimpArgs false

set_option maxRecDepth 100000 in
theorem walkscans_long (A : Option Addr) (n c : Nat) (root tree fuel : Int) (w : World) (hle : n ≤ 9223372036854775807) (h : 12000 < n) :
    Calls Tryz.prog 3 #[.slice A n c, .int .i64 root, .int .i64 tree, .int .i64 fuel] w fun e w' => e = .returned (.bool true) ∧ Below w.heap.size w w' := by
  have LV := Lib.hid (lives14_any w)
  have hd : decide ((12000 : Int) < (n : Int)) = true := decide_eq_true (by omega)
  have hd2 : decide (12000 < n) = true := decide_eq_true h
  go_enter Tryz.func3, Tryz.ntmps3
  go_wp2_with (go_at_call 5; (with_reducible refine (LV.out).mono ?_); rintro e w1 ⟨rfl, hb1⟩)
  go_ret
  exact ⟨rfl, hb1⟩

theorem blks_cut14 (l : List UInt8) (q : Nat) : blks l q = blks (l.take (q * 256)) q := by
  unfold blks
  refine List.map_congr_left fun k hk => ?_
  have hk := List.mem_range.1 hk
  unfold blk
  rw [List.drop_take, List.take_take, Nat.min_eq_left (by omega)]

set_option maxRecDepth 100000 in
set_option maxHeartbeats 3200000 in
theorem walkscans_short (A : Option Addr) (n c : Nat) (l : List UInt8) (root tree fuel : Int) (w : World) (h : Bytes8 w A n c l) (hn : n ≤ 12000) (hE : ErrT w) (hbf : -9223372036854775808 ≤ fuel ∧ fuel ≤ 9223372036854775807) :
    Calls Tryz.prog 3 #[.slice A n c, .int .i64 root, .int .i64 tree, .int .i64 fuel] w fun e w' => e = .returned (.bool true) ∧ Below w.heap.size w w' := by
  have hF1 : min fuel 300 ≤ 300 := by omega
  have hlen := h.len
  obtain ⟨q, hq⟩ : ∃ q, q = n / 256 := ⟨_, rfl⟩
  have hqw : q = whole n := by rw [hq]; unfold whole; omega
  have hL : (l.take (q * 256)).length = q * 256 := by
    rw [List.length_take, hlen, hq]; omega
  have hd : decide ((12000 : Int) < (n : Int)) = false := decide_eq_false (by omega)
  have hd2 : decide (12000 < n) = false := decide_eq_false (by omega)
  have OF := Of_any A n c l w h
  rw [← hqw] at OF
  have OFF := Lib.hid OF
  have RO : Hid (∀ W, Hid (Below w.heap.size w W) → Calls Tryz.prog 10 #[.slice A n c] W fun e w' => ∃ p v, e = .returned (.pointer (some ⟨p, 0, none⟩)) ∧ Hid (∃ B, RImg w' B p v (blks (l.take (q * 256)) q)) ∧ Below W.heap.size W w') := fun W hW => by
    refine (refOf_any A n c l W (h.below hW.out) hn).mono ?_
    rintro e w' ⟨v, h1, h2, h3⟩
    rw [← hq, blks_cut14] at h2
    exact ⟨W.heap.size, v, h1, ⟨_, h2⟩, h3⟩
  clear hqw OF
  generalize l.take (q * 256) = L at *
  obtain ⟨R, hR⟩ := Done14.exists_ (nd := nd14 L q tree) (rt := rt14) (fun no => nd14_keys L q tree no) (min fuel 300) _ Wlk14.zero [Vis14.root root] (Nat.le_refl _)
  have hway := Done14.few hR (fun v hv => by rw [List.mem_singleton.1 hv]; exact Nat.zero_le _) (fun f hf => by cases hf)
  have SC : Hid (∀ W p g, Below w.heap.size w W → Img W w.heap.size p g L → Calls Tryz.prog 7 #[.pointer (some ⟨p, 0, none⟩), .int .i64 root, .int .i64 tree, .int .i64 (min fuel 300)] W fun e w' => ∃ AE cE AB cB AF cF, e = .returned (.agg #[.slice AE R.ents.length cE, .slice AB R.blks.length cB, .int .i64 R.deep, .int .i64 R.looked, .slice AF R.flts.length cF]) ∧ Hid (Wk14 w' R AE R.ents.length cE AB R.blks.length cB AF R.flts.length cF) ∧ Hid (Below w.heap.size w w')) := fun W p g hb hI => by
    refine (Scan_is14 hI hL root tree (min fuel 300) (by omega) hR).mono ?_
    rintro e w' ⟨AE, cE, AB, cB, AF, cF, h1, h2, h3⟩
    exact ⟨AE, cE, AB, cB, AF, cF, h1, h2, hb.trans (h3.mono hb.size)⟩
  have RS : Hid (∀ W p v, Hid (∃ B, RImg W B p v (blks L q)) → Calls Tryz.prog 9 #[.pointer (some ⟨p, 0, none⟩), .int .i64 root, .int .i64 tree, .int .i64 (min fuel 300)] W fun e w' => ∃ AE cE AB cB AF cF fr, e = .returned (.agg #[.slice AE R.ents.length cE, .slice AB R.blks.length cB, .int .i64 R.deep, .int .i64 R.looked, .slice AF R.flts.length cF]) ∧ Hid (Rf14 w' R AE cE AB cB AF cF fr) ∧ Below W.heap.size W w') := fun W p v hI => by
    obtain ⟨B, hI⟩ := hI.out
    refine (refScan_any14 root tree (min fuel 300) W hI hL hF1 hR).mono ?_
    rintro e w' ⟨AE, cE, AB, cB, AF, cF, fr, h1, h2, h3, ⟨h4, h5, h6, h7⟩, h8, h9, _⟩
    exact ⟨AE, cE, AB, cB, AF, cF, fr, h1, ⟨h2, h3, h4, h5, h6, h7, h8⟩, h9⟩
  have SM : Hid (∀ W AE cE AB cB AF cF AE2 cE2 AB2 cB2 AF2 cF2 fr, Hid (Below w.heap.size w W) → Hid (Wk14 W R AE R.ents.length cE AB R.blks.length cB AF R.flts.length cF) → Hid (Rf14 W R AE2 cE2 AB2 cB2 AF2 cF2 fr) → Calls Tryz.prog 6 #[.agg #[.slice AE R.ents.length cE, .slice AB R.blks.length cB, .int .i64 R.deep, .int .i64 R.looked, .slice AF R.flts.length cF], .agg #[.slice AE2 R.ents.length cE2, .slice AB2 R.blks.length cB2, .int .i64 R.deep, .int .i64 R.looked, .slice AF2 R.flts.length cF2]] W fun e w' => e = .returned (.bool true) ∧ Hid (Below w.heap.size w w')) := fun W AE cE AB cB AF cF AE2 cE2 AB2 cB2 AF2 cF2 fr hW h1 h2 => (same_any14 (hE.later hW.out) hway h1.out h2.out).mono fun e w' ⟨g1, g2⟩ => ⟨g1, hW.out.trans (g2.mono hW.out.size)⟩
  have LV : Hid (∀ W, Hid (Below w.heap.size w W) → Calls Tryz.prog 5 #[] W fun e w' => e = .returned (.bool true) ∧ Hid (Below w.heap.size w w')) := fun W hb => (lives14_any W).mono fun e w' ⟨h1, h2⟩ => ⟨h1, hb.out.trans (h2.mono hb.out.size)⟩
  clear hq hL hF1 h hbf hR hway hE
  generalize R.ents.length = nE at *
  generalize R.blks.length = nB at *
  generalize R.flts.length = nF at *
  generalize R.deep = dp at *
  generalize R.looked = lk at *
  go_enter Tryz.func3, Tryz.ntmps3
  go_wp2_with (first
    | (go_at_call 8; (with_reducible refine (OFF.out).mono ?_); rintro e w1 ⟨p, g, rfl, hI1, hb1⟩; have HI1 := Lib.hid (And.intro hb1 hI1); clear hb1 hI1)
    | (go_at_call 7; (with_reducible refine (SC.out _ _ _ HI1.out.1 HI1.out.2).mono ?_); rintro e w2 ⟨AE, cE, AB, cB, AF, cF, rfl, hW2, hb2⟩)
    | (go_at_call 10; (with_reducible refine (RO.out _ hb2).mono ?_); rintro e w3 ⟨p3, v3, rfl, hI3, hb3⟩; have hW3 := Lib.hid (hW2.out.below hb3); have HB3 := Lib.hid (hb2.out.trans (hb3.mono hb2.out.size)); clear hb3)
    | (go_at_call 9; (with_reducible refine (RS.out _ _ _ hI3).mono ?_); rintro e w4 ⟨AE2, cE2, AB2, cB2, AF2, cF2, fr, rfl, hR4, hb4⟩; have hW4 := Lib.hid (hW3.out.below hb4); have HB4 := Lib.hid (HB3.out.trans (hb4.mono HB3.out.size)); clear hb4)
    | (go_at_call 6; (with_reducible refine (SM.out _ _ _ _ _ _ _ _ _ _ _ _ _ _ HB4 hW4 hR4).mono ?_); rintro e w5 ⟨rfl, hb5⟩)
    | (go_at_call 5; (with_reducible refine (LV.out _ hb5).mono ?_); rintro e w6 ⟨rfl, hb6⟩))
  go_ret
  exact ⟨rfl, hb6.out⟩

theorem walkscans_walk (A : Option Addr) (n c : Nat) (l : List UInt8) (root tree fuel : Int) (w : World) (h : Bytes8 w A n c l) (hbr : -9223372036854775808 ≤ root ∧ root ≤ 9223372036854775807) (hbt : -9223372036854775808 ≤ tree ∧ tree ≤ 9223372036854775807) (hbf : -9223372036854775808 ≤ fuel ∧ fuel ≤ 9223372036854775807) (hE : ErrT w) :
    Calls Tryz.prog 3 #[.slice A n c, .int .i64 root, .int .i64 tree, .int .i64 fuel] w fun e w' => e = .returned (.bool true) ∧ Below w.heap.size w w' := by
  by_cases hn : n ≤ 12000
  · exact walkscans_short A n c l root tree fuel w h hn hE hbf
  · exact walkscans_long A n c root tree fuel w (Nat.le_trans h.cap h.most) (by omega)

end Go.Proofs.YtfcehhhcjlpklaaGreatDoor
