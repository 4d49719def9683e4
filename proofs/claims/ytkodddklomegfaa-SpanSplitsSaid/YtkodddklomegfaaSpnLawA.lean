/-
  The walk of SpanTells.
-/
import Derived.Test.YtkodddklomegfaaSpnH
namespace Go.Proofs.Ytkodddklomegfaa
open Go.RowKit
set_option linter.unusedVariables false
set_option linter.unusedSimpArgs false

/-- the law's own variables: the span -/
structure TlS (w W : World) (lo hi : Int) : Prop where
  s : SpnAt W w.heap.size lo hi
  bel : Below w.heap.size w W
theorem TlS.later {w W W' : World} {lo hi : Int} (h : TlS w W lo hi) (hb : Below W.heap.size W W') : TlS w W' lo hi := ⟨h.s.later hb, h.bel.trans (hb.mono h.bel.size)⟩
theorem TlS.start (w : World) (lo hi : Int) : TlS w (w.alloc (.cells #[.int .i64 lo, .int .i64 hi] 23)) lo hi := ⟨SpnAt.new w lo hi, (Below.refl _ _).alloc (Nat.le_refl _) _⟩
/-- the two cells -/
def TlC (w W : World) (lo hi : Int) : Prop := W.cell? ⟨w.heap.size, 0, none⟩ = some (.int .i64 lo) ∧ W.cell? ⟨w.heap.size, 1, none⟩ = some (.int .i64 hi)
theorem TlS.cs {w W : World} {lo hi : Int} (h : TlS w W lo hi) : W.cell? ⟨w.heap.size, 0, none⟩ = some (.int .i64 lo) ∧ W.cell? ⟨w.heap.size, 1, none⟩ = some (.int .i64 hi) := ⟨h.s.c0, h.s.c1⟩

/-- what the callees of the first test answer -/
structure TlK (w : World) (lo hi i : Int) (A : Option Addr) (n c : Nat) (r h : Bool) (f : Int) : Prop where
  right : ∀ W, TlS w W lo hi → Calls Try.prog 6 #[spnV lo hi] W fun e w' => e = .returned (.bool r) ∧ TlS w w' lo hi
  rright : ∀ W, TlS w W lo hi → Calls Try.prog 7 #[spnV lo hi] W fun e w' => e = .returned (.bool r) ∧ TlS w w' lo hi
  has : ∀ W, TlS w W lo hi → Calls Try.prog 8 #[spnV lo hi, .int .i64 i] W fun e w' => e = .returned (.bool h) ∧ TlS w w' lo hi
  rhas : ∀ W, TlS w W lo hi → Calls Try.prog 9 #[spnV lo hi, .int .i64 i] W fun e w' => e = .returned (.bool h) ∧ TlS w w' lo hi
  fits : ∀ W, TlS w W lo hi → Calls Try.prog 10 #[spnV lo hi, .slice A n c] W fun e w' => e = .returned (.int .i64 f) ∧ TlS w w' lo hi
  rfits : ∀ W, TlS w W lo hi → Calls Try.prog 11 #[spnV lo hi, .slice A n c] W fun e w' => e = .returned (.int .i64 f) ∧ TlS w w' lo hi

theorem TlK.mk_ {w : World} (lo hi i : Int) {A : Option Addr} {n c : Nat} {L : List Int} (hI : Ints w A n c L) : TlK w lo hi i A n c (rB13 lo hi) (hB13 lo hi i) (fit13 lo hi L) :=
  ⟨fun W h => (Right_any13 lo hi W).mono fun e w' ⟨h1, h2⟩ => ⟨h1, h.later h2⟩, fun W h => (refRight_any13 lo hi W).mono fun e w' ⟨h1, h2⟩ => ⟨h1, h.later h2⟩,
    fun W h => (Has_any13 lo hi i W).mono fun e w' ⟨h1, h2⟩ => ⟨h1, h.later h2⟩, fun W h => (refHas_any13 lo hi i W).mono fun e w' ⟨h1, h2⟩ => ⟨h1, h.later h2⟩,
    fun W h => (Fits_any13 lo hi W (hI.below h.bel)).mono fun e w' ⟨h1, h2⟩ => ⟨h1, h.later h2⟩, fun W h => (refFits_any13 lo hi W (hI.below h.bel)).mono fun e w' ⟨h1, h2⟩ => ⟨h1, h.later h2⟩⟩

/-- the span, and both Childs' spans -/
structure Tl2 (w W : World) (lo hi : Int) (p1 p2 : Nat) (a b : Int) : Prop where
  st : TlS w W lo hi
  x : SpnAt W p1 a b
  y : SpnAt W p2 a b
theorem Tl2.later {w W W' : World} {lo hi : Int} {p1 p2 : Nat} {a b : Int} (h : Tl2 w W lo hi p1 p2 a b) (hb : Below W.heap.size W W') : Tl2 w W' lo hi p1 p2 a b := ⟨h.st.later hb, h.x.later hb, h.y.later hb⟩
theorem Tl2.xy {w W : World} {lo hi : Int} {p1 p2 : Nat} {a b : Int} (h : Tl2 w W lo hi p1 p2 a b) : (W.cell? ⟨p1, 0, none⟩ = some (.int .i64 a) ∧ W.cell? ⟨p1, 1, none⟩ = some (.int .i64 b)) ∧ W.cell? ⟨p2, 0, none⟩ = some (.int .i64 a) ∧ W.cell? ⟨p2, 1, none⟩ = some (.int .i64 b) := ⟨⟨h.x.c0, h.x.c1⟩, h.y.c0, h.y.c1⟩

set_option maxRecDepth 100000 in
set_option maxHeartbeats 6400000 in
theorem spantells_walk (lo hi : Int) (A : Option Addr) (n c : Nat) (L : List Int) (i : Int) (w : World) (_hlo : -9223372036854775808 ≤ lo ∧ lo ≤ 9223372036854775807) (_hhi : -9223372036854775808 ≤ hi ∧ hi ≤ 9223372036854775807)
    (h : Ints w A n c L) (_hb : ∀ x ∈ L, -9223372036854775808 ≤ x ∧ x ≤ 9223372036854775807) (_hi : -9223372036854775808 ≤ i ∧ i ≤ 9223372036854775807) :
    Calls Try.prog 3 #[spnV lo hi, .slice A n c, .int .i64 i] w fun e w' => e = .returned (.bool true) ∧ Below w.heap.size w w' := by
  clear _hlo _hhi _hb _hi
  have hS0 := TlS.start w lo hi
  have hle := h.le
  have hcap := h.cap
  have hmost := h.most
  by_cases hn : n ≤ 200
  · have dl : decide ((200 : Int) < (n : Int)) = false := by simp; omega
    have KK := Lib.hid (TlK.mk_ (w := w) lo hi i h)
    have C1 : Hid (∀ W, TlS w W lo hi → Calls Try.prog 12 #[spnV lo hi, .slice A n c, .int .i64 i] W fun e w' => e = .returned (.tuple #[spnV (ch13 lo hi L i).1 (ch13 lo hi L i).2, .int .i64 (chE13 lo hi L i)]) ∧ TlS w w' lo hi) := fun W hW => (Child_any13 lo hi i W (h.below hW.bel)).mono fun e w' ⟨h1, h2⟩ => ⟨h1, hW.later h2⟩
    have C2 : Hid (∀ W, TlS w W lo hi → Calls Try.prog 13 #[spnV lo hi, .slice A n c, .int .i64 i] W fun e w' => e = .returned (.tuple #[spnV (ch13 lo hi L i).1 (ch13 lo hi L i).2, .int .i64 (chE13 lo hi L i)]) ∧ TlS w w' lo hi ∧ Below W.heap.size W w') := fun W hW => (refChild_any13 lo hi i W (h.below hW.bel)).mono fun e w' ⟨h1, h2⟩ => ⟨h1, hW.later h2, h2⟩
    have P1 : Hid (∀ W p1 p2 a b, Tl2 w W lo hi p1 p2 a b → Calls Try.prog 14 #[spnV lo hi, .slice A n c] W fun e w' => ∃ A' c', e = .returned (.slice A' (spl13 lo hi L).length c') ∧ Prs w' A' (spl13 lo hi L).length c' (spl13 lo hi L) ∧ Tl2 w w' lo hi p1 p2 a b) := fun W p1 p2 a b hW => (Split_any13 lo hi W (h.below hW.st.bel) (by omega)).mono fun e w' ⟨A', c', h1, h2, h3, _⟩ => ⟨A', c', h1, h2, hW.later h3⟩
    have P2 : Hid (∀ W p1 p2 a b, Tl2 w W lo hi p1 p2 a b → Calls Try.prog 15 #[spnV lo hi, .slice A n c] W fun e w' => ∃ A' c', e = .returned (.slice A' (spl13 lo hi L).length c') ∧ Prs w' A' (spl13 lo hi L).length c' (spl13 lo hi L) ∧ Tl2 w w' lo hi p1 p2 a b ∧ Below W.heap.size W w') := fun W p1 p2 a b hW => (refSplit_any13 lo hi W (h.below hW.st.bel) (by omega)).mono fun e w' ⟨A', c', h1, h2, h3⟩ => ⟨A', c', h1, h2, hW.later h3, h3⟩
    generalize rB13 lo hi = r at *
    generalize hB13 lo hi i = hh at *
    have LV : Hid (∀ W, Below w.heap.size w W → Calls Try.prog 5 #[] W fun e w' => e = .returned (.bool true) ∧ Below w.heap.size w w') := fun W hW => (lives13_any W).mono fun e w' ⟨h1, h2⟩ => ⟨h1, hW.trans (h2.mono hW.size)⟩
    obtain ⟨f, hf⟩ : ∃ f, fit13 lo hi L = f := ⟨_, rfl⟩
    rw [hf] at KK
    obtain ⟨a, ha⟩ : ∃ a, (ch13 lo hi L i).1 = a := ⟨_, rfl⟩
    obtain ⟨b, hb⟩ : ∃ b, (ch13 lo hi L i).2 = b := ⟨_, rfl⟩
    obtain ⟨x, hx⟩ : ∃ x, chE13 lo hi L i = x := ⟨_, rfl⟩
    rw [ha, hb, hx] at C1 C2
    obtain ⟨l, hl⟩ : ∃ l, spl13 lo hi L = l := ⟨_, rfl⟩
    rw [hl] at P1 P2
    obtain ⟨m, hm⟩ : ∃ m, l.length = m := ⟨_, rfl⟩
    rw [hm] at P1 P2
    clear hf h ha hb hx hl
    have HM := Lib.hid hm
    clear hm
    have d0 := hS0.cs
    have hS1 := hS0.later ((Below.refl _ _).drew)
    have d1 := hS1.cs
    go_enter Try.func3, Try.ntmps3
    go_wp2
    go_region_held3 (fun W => W.cell? ⟨w.heap.size, 0, none⟩ = some (.int .i64 lo) ∧ W.cell? ⟨w.heap.size, 1, none⟩ = some (.int .i64 hi))
      (assumption)
      (first
      | (go_at_call 6; (with_reducible refine (KK.out.right _ (by assumption)).mono ?_); rintro e w1 ⟨rfl, hS2⟩; have d2 := hS2.cs)
      | (go_at_call 7; (with_reducible refine (KK.out.rright _ hS2).mono ?_); rintro e w2 ⟨rfl, hS3⟩; have d3 := hS3.cs)
      | (go_at_call 8; (with_reducible refine (KK.out.has _ hS3).mono ?_); rintro e w3 ⟨rfl, hS4⟩; have d4 := hS4.cs)
      | (go_at_call 9; (with_reducible refine (KK.out.rhas _ hS4).mono ?_); rintro e w4 ⟨rfl, hS5⟩; have d5 := hS5.cs)
      | (go_at_call 10; (with_reducible refine (KK.out.fits _ hS5).mono ?_); rintro e w5 ⟨rfl, hS6⟩; have d6 := hS6.cs)
      | (go_at_call 11; (with_reducible refine (KK.out.rfits _ hS6).mono ?_); rintro e w6 ⟨rfl, hS7⟩; have d7 := hS7.cs))
    obtain ⟨k0, k1⟩ := d7
    clear KK d0 d1 d2 d3 d4 d5 d6 hS0 hS1 hS2 hS3 hS4 hS5 hS6
    go_wp2_with (first
      | (go_at_call 12; (with_reducible refine (C1.out _ hS7).mono ?_); rintro e w7 ⟨rfl, hS8⟩; have hx8 := SpnAt.new w7 a b; have hS9 := hS8.later ((Below.refl _ w7).alloc (Nat.le_refl _) (.cells #[.int .i64 a, .int .i64 b] 23)); obtain ⟨m0, m1⟩ := hS9.cs; clear k0 k1 hS8 C1)
      | (go_at_call 13; (with_reducible refine (C2.out _ hS9).mono ?_); rintro e w8 ⟨rfl, hS10, hk10⟩; have hy8 := SpnAt.new w8 a b; have ha8 := (Below.refl _ w8).alloc (Nat.le_refl _) (.cells #[.int .i64 a, .int .i64 b] 23); have hT : Tl2 w (w8.alloc (.cells #[.int .i64 a, .int .i64 b] 23)) lo hi w7.heap.size w8.heap.size a b := ⟨hS10.later ha8, (hx8.later hk10).later ha8, hy8⟩; clear m0 m1 hS9 hS10 hx8 hy8 hk10 ha8 C2))
    clear hS7
    generalize w7.heap.size = p1 at *
    generalize w8.heap.size = p2 at *
    generalize w8.alloc (.cells #[.int .i64 a, .int .i64 b] 23) = w9 at *
    obtain ⟨m0, m1⟩ := hT.st.cs
    have hT0 := hT.later ((Below.refl _ _).drew)
    have q0 := hT.st.cs
    have q1 := hT0.st.cs
    go_region_held3 (fun W => W.cell? ⟨w.heap.size, 0, none⟩ = some (.int .i64 lo) ∧ W.cell? ⟨w.heap.size, 1, none⟩ = some (.int .i64 hi))
      (assumption)
      (first
      | (go_at_call 14; (with_reducible refine (P1.out _ _ _ _ _ (by assumption)).mono ?_); rintro e w10 ⟨A1, c1, rfl, hP1, hT1⟩; have q2 := hT1.st.cs; have HP1 := Lib.hid hP1; clear hP1)
      | (go_at_call 15; (with_reducible refine (P2.out _ _ _ _ _ hT1).mono ?_); rintro e w11 ⟨A2, c2, rfl, hP2, hT2, hk2⟩; have q3 := hT2.st.cs; have HP2 := Lib.hid hP2; have HP3 := Lib.hid (HP1.out.below hk2); clear hP2 hk2))
    obtain ⟨⟨x0, x1⟩, y0, y1⟩ := hT2.xy
    have hb2 := Lib.hid hT2.st.bel
    have hm1 := HP3.out.cap
    have hm2 := HP3.out.most
    have hm3 := HP2.out.cap
    have hm4 := HP2.out.most
    clear q0 q1 q2 q3 m0 m1 hT hT0 hT1 hT2 P1 P2 HP1
    go_wp2
    go_loopw [13] (fun i wr => ∃ k : Nat, k ≤ m ∧ i = .int .i64 k ∧ Hid (Below w11.heap.size w11 wr)) (fun i _ => m - (intOf i).toNat)
    case atStart => exact ⟨0, by omega, rfl, Below.refl _ _⟩
    case round =>
      obtain ⟨k, hk, rfl, hbw⟩ := hrel
      by_cases hlt : k < m
      · obtain ⟨g1, o1, hA1, s0, s1⟩ := (HP3.out.below hbw.out).at_ hlt
        obtain ⟨g2, o2, hA2, t0, t1⟩ := (HP2.out.below hbw.out).at_ hlt
        generalize (l[k]'(by rw [HM.out]; exact hlt)).1 = x2 at *
        generalize (l[k]'(by rw [HM.out]; exact hlt)).2 = y2 at *
        subst hA1; subst hA2
        have s2 := s1
        have t2 := t1
        rw [← Nat.add_assoc] at s2 t2
        go_wp2
        go_quiet (fail)
        go_wp2
        go_roundw
        case rel => exact ⟨k + 1, by omega, by simp, below_drewN hbw.out _⟩
        case measure => simp [intOf]; omega
      · obtain rfl : k = m := by omega
        have hb3 := Lib.hid (hb2.out.trans (hbw.out.mono hb2.out.size))
        go_wp2_with (go_at_call 5; (with_reducible refine (LV.out _ hb3.out).mono ?_); rintro e w12 ⟨rfl, hb4⟩)
        go_ret
        exact ⟨rfl, hb4⟩
  · have dl : decide ((200 : Int) < (n : Int)) = true := by simp; omega
    have LV := Lib.hid (lives13_any (w.alloc (.cells #[.int .i64 lo, .int .i64 hi] 23)))
    have HS := Lib.hid hS0
    clear h hS0
    go_enter Try.func3, Try.ntmps3
    go_wp2_with (go_at_call 5; (with_reducible refine (LV.out).mono ?_); rintro e w5 ⟨rfl, hb5⟩)
    go_ret
    exact ⟨rfl, HS.out.bel.trans (hb5.mono HS.out.bel.size)⟩

end Go.Proofs.Ytkodddklomegfaa
