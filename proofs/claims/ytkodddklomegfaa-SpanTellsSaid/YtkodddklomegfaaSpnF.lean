/-
  Layer 13: the reference's Child and Split.
-/
import Derived.Test.YtkodddklomegfaaSpnE
import Derived.Test.YtkodddklomegfaaMemC
namespace Go.Proofs.Ytkodddklomegfaa
open Go.RowKit
set_option linter.unusedVariables false
set_option linter.unusedSimpArgs false

theorem res_ct13 {P : Program} {fn : Func} {p q : Tmp} {t1 : TypeId} (h : fn.results = #[.cell p t1, .tmp q]) (tmps : Array Value) (w : World) {a : Addr} {v : Value}
    (hp : tmps.getD p undef = .pointer (some a)) (h1 : (loadVar t1 a).run P w = .ok v w) : (results fn tmps).run P w = .ok (.tuple #[v, tmps.getD q undef]) w := by
  have hp' : tmps[p]?.getD undef = .pointer (some a) := by simpa using hp
  simp [results, h, hp', asAddr, h1, Result.andThen, Sem.run_bind]

/-- the reference's Child's own variables: the span, the result -/
structure RCh13 (w W : World) (lo hi a b : Int) : Prop where
  s : SpnAt W w.heap.size lo hi
  res : SpnAt W (w.heap.size + 1) a b
  bel : Below w.heap.size w W
theorem RCh13.later {w W W' : World} {lo hi a b : Int} (h : RCh13 w W lo hi a b) (hb : Below W.heap.size W W') : RCh13 w W' lo hi a b := ⟨h.s.later hb, h.res.later hb, h.bel.trans (hb.mono h.bel.size)⟩
theorem RCh13.start (w : World) (lo hi : Int) : RCh13 w ((w.alloc (.cells #[.int .i64 lo, .int .i64 hi] 23)).alloc (.cells #[.int .i64 0, .int .i64 0] 23)) lo hi 0 0 := by
  have b1 := (Below.refl w.heap.size w).alloc (Nat.le_refl _) (.cells #[.int .i64 lo, .int .i64 hi] 23)
  have h1 := SpnAt.new w lo hi
  generalize hw1 : w.alloc (.cells #[.int .i64 lo, .int .i64 hi] 23) = w1 at *
  have s1 : w1.heap.size = w.heap.size + 1 := by rw [← hw1]; simp
  have b2 := (Below.refl w1.heap.size w1).alloc (Nat.le_refl _) (.cells #[.int .i64 0, .int .i64 0] 23)
  have h2 := SpnAt.new w1 0 0
  rw [s1] at h2
  exact ⟨h1.later b2, h2, b1.trans (b2.mono (by omega))⟩
theorem RCh13.store {w W : World} {lo hi a b : Int} (h : RCh13 w W lo hi a b) (a' b' : Int) :
    RCh13 w ((W.setCell ⟨w.heap.size + 1, 0, none⟩ (.int .i64 a')).setCell ⟨w.heap.size + 1, 1, none⟩ (.int .i64 b')) lo hi a' b' :=
  ⟨(h.s.other (by omega) _ _).other (by omega) _ _, h.res.set a' b', (h.bel.setCell (p := ⟨w.heap.size + 1, 0, none⟩) (by simp) _).setCell (p := ⟨w.heap.size + 1, 1, none⟩) (by simp) _⟩
theorem RCh13.facts {w W : World} {lo hi a b : Int} (h : RCh13 w W lo hi a b) :
    (W.cell? ⟨w.heap.size, 0, none⟩ = some (.int .i64 lo) ∧ W.cell? ⟨w.heap.size, 1, none⟩ = some (.int .i64 hi)) ∧
    (W.cell? ⟨w.heap.size + 1, 0, none⟩ = some (.int .i64 a) ∧ W.cell? ⟨w.heap.size + 1, 1, none⟩ = some (.int .i64 b) ∧ W.frozen? ⟨w.heap.size + 1, 0, none⟩ = false ∧ W.frozen? ⟨w.heap.size + 1, 1, none⟩ = false) :=
  ⟨⟨h.s.c0, h.s.c1⟩, h.res.c0, h.res.c1, h.res.f0 0, h.res.f0 1⟩

set_option maxRecDepth 100000 in
set_option maxHeartbeats 3200000 in
theorem refChild_any13 {A : Option Addr} {n c : Nat} {L : List Int} (lo hi i : Int) (w : World) (h : Ints w A n c L) :
    Calls Try.prog 13 #[spnV lo hi, .slice A n c, .int .i64 i] w fun e w' => e = .returned (.tuple #[spnV (ch13 lo hi L i).1 (ch13 lo hi L i).2, .int .i64 (chE13 lo hi L i)]) ∧ Below w.heap.size w w' := by
  have hS := RCh13.start w lo hi
  have FT := Lib.hid (refFits_any13 lo hi _ (h.below hS.bel))
  obtain ⟨⟨a0, a1⟩, a3, a4, a5, a6⟩ := hS.facts
  have HS := Lib.hid hS
  have HI := Lib.hid h
  have hcap := h.cap
  have hmost := h.most
  have hl := h.len
  clear h hS
  by_cases hf : fit13 lo hi L = 0
  · rw [hf] at FT
    by_cases hi0 : i < 0
    · obtain ⟨e1, e2⟩ := chE13_out hf (.inl hi0)
      rw [e1, e2]
      have hd : decide (i < 0) = true := by simpa using hi0
      clear e1 e2 hf
      go_enter Try.func13, Try.ntmps13
      go_wp2_with (go_at_call 11; (with_reducible refine (FT.out).mono ?_); rintro e w1 ⟨rfl, hb1⟩; have hS1 := HS.out.later hb1; obtain ⟨⟨b0, b1⟩, b3, b4, b5, b6⟩ := hS1.facts; have HS1 := Lib.hid hS1; clear hS1 hb1 a0 a1 a3 a4 a5 a6)
      have hE := HS1.out.store 0 0
      refine bodyPost_ret (res_ct13 Try.results13 _ _ (a := ⟨w.heap.size + 1, 0, none⟩) rfl hE.res.load) rfl ?_
      exact ⟨rfl, hE.bel⟩
    · obtain ⟨k, rfl⟩ := Int.eq_ofNat_of_zero_le (Int.not_lt.1 hi0)
      have hd : decide ((k : Int) < 0) = false := by simp
      by_cases hk : k < n
      · obtain ⟨e1, e2⟩ := chE13_in (lo := lo) (hi := hi) hf (show k < L.length by omega)
        rw [e1, e2]
        have hd2 : decide ((n : Int) ≤ (k : Int)) = false := by simp; omega
        have hw : IntKind.i64.wrap ((k : Int) + 1) = ((k + 1 : Nat) : Int) := (IntWalk.i64_in _ (by omega)).trans (by simp)
        have e0 : L.getD k 0 = L[k]'(by omega) := by rw [List.getD_eq_getElem?_getD, List.getElem?_eq_getElem (by omega)]; rfl
        clear e1 e2 hf
        by_cases hn : k + 1 < n
        · have hd3 : (((k + 1 : Nat) : Int) == (n : Int)) = false := by simp; omega
          have e4 : chd13 hi L k = (L[k]'(by omega), L[k + 1]'(by omega)) := by rw [chd13, end13_next (by omega), e0, List.getD_eq_getElem?_getD, List.getElem?_eq_getElem (by omega)]; rfl
          rw [e4]
          obtain ⟨b, off, hA, _, hc⟩ := HI.out.row.lit (by rw [i64s_length]; omega)
          have ck0 := hc k _ (i64s_at L k (by omega))
          have cm0 := hc (k + 1) _ (i64s_at L (k + 1) (by omega))
          clear e0 e4 hc
          generalize L[k]'(by omega) = x at *
          generalize L[k + 1]'(by omega) = y at *
          obtain ⟨m, hm⟩ : ∃ m, k + 1 = m := ⟨_, rfl⟩
          rw [hm] at hd3 hw cm0 hn
          have HM := Lib.hid hm
          subst hA
          have hb : b < w.heap.size := cell_lt ck0
          clear hm hi0
          go_enter Try.func13, Try.ntmps13
          go_wp2_with (go_at_call 11; (with_reducible refine (FT.out).mono ?_); rintro e w1 ⟨rfl, hb1⟩; have hS1 := HS.out.later hb1; have ck := (hS1.bel.cell (p := ⟨b, off + k, none⟩) hb).trans ck0; have cm := (hS1.bel.cell (p := ⟨b, off + m, none⟩) hb).trans cm0; obtain ⟨⟨b0, b1⟩, b3, b4, b5, b6⟩ := hS1.facts; have HS1 := Lib.hid hS1; clear hS1 hb1 a0 a1 a3 a4 a5 a6 ck0 cm0)
          go_region
          go_wp2
          have hE := (HS1.out.store x y).later (Below.refl _ _).drew
          refine bodyPost_ret (res_ct13 Try.results13 _ _ (a := ⟨w.heap.size + 1, 0, none⟩) rfl hE.res.load) rfl ?_
          exact ⟨rfl, hE.bel⟩
        · have hd3 : (((k + 1 : Nat) : Int) == (n : Int)) = true := by simp; omega
          have e4 : chd13 hi L k = (L[k]'(by omega), hi) := by rw [chd13, end13_last (by omega), e0]
          rw [e4]
          obtain ⟨b, off, hA, _, hc⟩ := HI.out.row.lit (by rw [i64s_length]; omega)
          have ck0 := hc k _ (i64s_at L k (by omega))
          clear e0 e4 hc
          generalize L[k]'(by omega) = x at *
          obtain ⟨m, hm⟩ : ∃ m, k + 1 = m := ⟨_, rfl⟩
          rw [hm] at hd3 hw hn
          have HM := Lib.hid hm
          subst hA
          have hb : b < w.heap.size := cell_lt ck0
          clear hm hi0
          go_enter Try.func13, Try.ntmps13
          go_wp2_with (go_at_call 11; (with_reducible refine (FT.out).mono ?_); rintro e w1 ⟨rfl, hb1⟩; have hS1 := HS.out.later hb1; have ck := (hS1.bel.cell (p := ⟨b, off + k, none⟩) hb).trans ck0; obtain ⟨⟨b0, b1⟩, b3, b4, b5, b6⟩ := hS1.facts; have HS1 := Lib.hid hS1; clear hS1 hb1 a0 a1 a3 a4 a5 a6 ck0)
          go_region
          go_wp2
          have hE := (HS1.out.store x hi).later (Below.refl _ _).drew
          refine bodyPost_ret (res_ct13 Try.results13 _ _ (a := ⟨w.heap.size + 1, 0, none⟩) rfl hE.res.load) rfl ?_
          exact ⟨rfl, hE.bel⟩
      · obtain ⟨e1, e2⟩ := chE13_out (i := (k : Int)) hf (.inr (by omega))
        rw [e1, e2]
        have hd2 : decide ((n : Int) ≤ (k : Int)) = true := by simp; omega
        clear e1 e2 hf
        go_enter Try.func13, Try.ntmps13
        go_wp2_with (go_at_call 11; (with_reducible refine (FT.out).mono ?_); rintro e w1 ⟨rfl, hb1⟩; have hS1 := HS.out.later hb1; obtain ⟨⟨b0, b1⟩, b3, b4, b5, b6⟩ := hS1.facts; have HS1 := Lib.hid hS1; clear hS1 hb1 a0 a1 a3 a4 a5 a6)
        have hE := HS1.out.store 0 0
        refine bodyPost_ret (res_ct13 Try.results13 _ _ (a := ⟨w.heap.size + 1, 0, none⟩) rfl hE.res.load) rfl ?_
        exact ⟨rfl, hE.bel⟩
  · obtain ⟨e1, e2⟩ := chE13_bad (i := i) hf
    rw [e1, e2]
    generalize fit13 lo hi L = f at *
    have hne : (f != 0) = true := by simpa using hf
    clear hf e1 e2
    go_enter Try.func13, Try.ntmps13
    go_wp2_with (go_at_call 11; (with_reducible refine (FT.out).mono ?_); rintro e w1 ⟨rfl, hb1⟩; have hS1 := HS.out.later hb1; obtain ⟨⟨b0, b1⟩, b3, b4, b5, b6⟩ := hS1.facts; have HS1 := Lib.hid hS1; clear hS1 hb1 a0 a1 a3 a4 a5 a6)
    have hE := HS1.out.store 0 0
    refine bodyPost_ret (res_ct13 Try.results13 _ _ (a := ⟨w.heap.size + 1, 0, none⟩) rfl hE.res.load) rfl ?_
    exact ⟨rfl, hE.bel⟩

set_option maxRecDepth 100000 in
set_option maxHeartbeats 1600000 in
theorem refSplit_bad13 {A : Option Addr} {n c : Nat} {L : List Int} (lo hi : Int) (w : World) (h : Ints w A n c L) (hf : fit13 lo hi L ≠ 0) :
    Calls Try.prog 15 #[spnV lo hi, .slice A n c] w fun e w' => e = .returned (.slice none 0 0) ∧ Below w.heap.size w w' := by
  have hS := SpnAt.new w lo hi
  have hb0 := (Below.refl w.heap.size w).alloc (Nat.le_refl _) (.cells #[.int .i64 lo, .int .i64 hi] 23)
  obtain ⟨e1, e2⟩ := chE13_bad (i := 0) hf
  have CH := Lib.hid (refChild_any13 lo hi 0 _ (h.below hb0))
  rw [e1, e2] at CH
  generalize fit13 lo hi L = f at *
  have hne : (f != 0) = true := by simpa using hf
  have a0 := hS.c0
  have a1 := hS.c1
  have HB0 := Lib.hid hb0
  have hcap := h.cap
  have hmost := h.most
  clear h hS hb0 hf e1 e2
  go_enter Try.func15, Try.ntmps15
  go_wp2
  go_loopw [5, 6] (fun u i wr => u = .slice none 0 0 ∧ i = .int .i64 0 ∧ Hid (wr = w.alloc (.cells #[.int .i64 lo, .int .i64 hi] 23))) (fun _ _ _ => 0)
  case atStart => exact ⟨rfl, rfl, rfl⟩
  case round =>
    obtain ⟨rfl, rfl, hw⟩ := hrel
    have hw2 := hw.out
    subst hw2
    clear hw
    by_cases hn : 0 < n
    · have hd : decide ((0 : Int) < (n : Int)) = true := by simp; omega
      go_wp2_with (go_at_call 13; (with_reducible refine (CH.out).mono ?_); rintro e w1 ⟨rfl, hb1⟩; have HB1 := Lib.hid (HB0.out.trans (hb1.mono HB0.out.size)); clear hb1)
      go_ret
      exact ⟨rfl, HB1.out.alloc HB1.out.size _⟩
    · obtain rfl : n = 0 := by omega
      go_wp2
      go_ret
      exact ⟨rfl, HB0.out⟩

set_option maxRecDepth 100000 in
set_option maxHeartbeats 1600000 in
theorem refSplit_good13 {A : Option Addr} {n c : Nat} {L : List Int} (lo hi : Int) (w : World) (h : Ints w A n c L) (hn : n ≤ 1000000) (hf : fit13 lo hi L = 0) :
    Calls Try.prog 15 #[spnV lo hi, .slice A n c] w fun e w' => ∃ A' c', e = .returned (.slice A' n c') ∧ Prs w' A' n c' (spl13 lo hi L) ∧ Below w.heap.size w w' := by
  rw [spl13_ok hf, h.len]
  have hS := SpnAt.new w lo hi
  have hb0 := (Below.refl w.heap.size w).alloc (Nat.le_refl _) (.cells #[.int .i64 lo, .int .i64 hi] 23)
  have CH : Hid (∀ k, k < n → ∀ W, Below w.heap.size w W → Calls Try.prog 13 #[spnV lo hi, .slice A n c, .int .i64 (k : Int)] W fun e w' => e = .returned (.tuple #[spnV (L.getD k 0) (end13 hi L k), .int .i64 0]) ∧ Below W.heap.size W w') := fun k hk W hW => by
    have := refChild_any13 lo hi (k : Int) W (h.below hW)
    obtain ⟨e1, e2⟩ := chE13_in (lo := lo) (hi := hi) (k := k) hf (by have := h.len; omega)
    rwa [e1, e2] at this
  have HB0 := Lib.hid hb0
  have HS := Lib.hid hS
  have hcap := h.cap
  have hmost := h.most
  clear h hS hb0 hf
  go_enter Try.func15, Try.ntmps15
  go_wp2
  go_loopw [5, 6] (fun u i wr => ∃ k : Nat, k ≤ n ∧ i = .int .i64 k ∧ Hid (wr.ownsRow (w.heap.size + 1) 23 2 u k (pair64 ((List.range k).map (chd13 hi L)))) ∧ Hid (SpnAt wr w.heap.size lo hi) ∧ Hid (Below w.heap.size w wr)) (fun _ i _ => n - (intOf i).toNat)
  case atStart => exact ⟨0, by omega, rfl, World.ownsRow_nil _ _ _ _, HS, HB0⟩
  case round =>
    obtain ⟨k, hk, rfl, hown, hsp, hb⟩ := hrel
    have c0 := hsp.out.c0
    have c1 := hsp.out.c1
    by_cases hlt : k < n
    · have CK := Lib.hid (CH.out k hlt wr hb.out)
      have hPR : (List.range (k + 1)).map (chd13 hi L) = (List.range k).map (chd13 hi L) ++ [(L.getD k 0, end13 hi L k)] := by rw [List.range_succ, List.map_append]; rfl
      have HP := Lib.hid (show pair64 ((List.range (k + 1)).map (chd13 hi L)) = pair64 ((List.range k).map (chd13 hi L)) ++ [.int .i64 (L.getD k 0), .int .i64 (end13 hi L k)] by rw [hPR, pair64_snoc])
      clear hPR
      generalize (List.range k).map (chd13 hi L) = PR at *
      generalize L.getD k 0 = x at *
      generalize end13 hi L k = y at *
      go_wp2_with (first
        | (go_at_call 13; (with_reducible refine (CK.out).mono ?_); rintro e w1 ⟨rfl, hb1⟩; have ha := (Below.refl w1.heap.size w1).alloc (Nat.le_refl _) (.cells #[.int .i64 x, .int .i64 y] 23); have hb2 := hb1.trans (ha.mono hb1.size); have HO1 : Hid ((w1.alloc (.cells #[.int .i64 x, .int .i64 y] 23)).ownsRow (w.heap.size + 1) 23 2 u5 k (pair64 PR)) := own_below hown hb2; have HS1 := Lib.hid (hsp.out.later hb2); have HB1 := Lib.hid (hb.out.trans (hb2.mono hb.out.size)); have d0 := (SpnAt.new w1 x y).c0; have d1 := (SpnAt.new w1 x y).c1; have hsz1 : w.heap.size + 1 ≤ (w1.alloc (.cells #[.int .i64 x, .int .i64 y] 23)).heap.size := HS1.out.lt; clear hown hb2 ha hb1)
        | (at_builtin; go_must (refine wpList_append_newS (w1.alloc (.cells #[.int .i64 x, .int .i64 y] 23)) rfl _ _ 35 rfl (w.heap.size + 1) 23 23 2 (spnV 0 0) 16 Try.underlying35 info_span13 rfl (by decide) u5 k _ rfl HO1 hsz1 [.int .i64 x, .int .i64 y] 1 1 (by rw [World.size_alloc]; rfl) rfl (by simp [Value.oneCell']) (by omega) (by omega) ?_; intro v2 w2 hown2 hs2 hb2; have HS2 := Lib.hid (HS1.out.below hb2 (Nat.lt_succ_self _)); have HB2 := Lib.hid (HB1.out.trans (hb2.mono (Nat.le_succ _))); clear hb2)))
      go_roundw
      case rel => exact ⟨k + 1, by omega, by simp, by rw [HP.out]; exact hown2, HS2, HB2⟩
      case measure => simp [intOf]; omega
    · obtain rfl : k = n := by omega
      go_wp2
      go_ret
      obtain ⟨A2, c2, rfl, hP⟩ := Prs.of_own hown.out
      exact ⟨_, _, rfl, hP, hb.out⟩

end Go.Proofs.Ytkodddklomegfaa
