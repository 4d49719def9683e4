/-
  Joined: TlyLawC.
-/
import Derived.Test.YtoacgoelhidmbaaJTly24
import Derived.Test.YtoacgoelhidmbaaJTly16
/-
  Layer 21: TallyBack.
-/
namespace Go.Proofs.Ytoacgoelhidmbaa
open Go.RowKit
set_option linter.unusedVariables false
set_option linter.unusedSimpArgs false

theorem ov21_ent (o : List Ovr21) : ov21 (entL21 o) = o := by
  unfold ov21 entL21
  rw [List.map_map]
  exact List.map_id'' (fun _ => rfl) _
/-- what was split is joined -/
theorem back21_one {l : List Int} (h : splE21 l = 0) : splB21 l = bits21 l ∧ splO21 l = over21 l ∧ joinE21 (bits21 l) (over21 l) = 0 ∧ joinL21 (bits21 l) (over21 l) = l ∧ tot21 (bits21 l) = l.length ∧ (∀ x ∈ bits21 l, ∀ y ∈ x, -9223372036854775808 ≤ y ∧ y ≤ 9223372036854775807) ∧ ∀ q ∈ entL21 (over21 l), (-9223372036854775808 ≤ q.1 ∧ q.1 ≤ 9223372036854775807) ∧ q.2.1.length ≤ 9223372036854775807 := by
  have h1 : ¬ 65536 < l.length := fun e => by rw [splE21_many e] at h; exact absurd h (by decide)
  have h2 : ∀ n ∈ l, okC21 n := by
    by_cases ha : ∀ n ∈ l, okC21 n
    · exact ha
    · unfold splE21 at h
      rw [if_neg h1, if_neg ha] at h
      exact absurd h (by decide)
  obtain ⟨g1, g2, g3, g4, g5⟩ := split21_join h2
  have hE : joinE21 (bits21 l) (over21 l) = 0 := joinE21_zero.2 ⟨g1, by rw [g2]; exact g3, by rw [g2]; exact g4⟩
  refine ⟨if_pos h, if_pos h, hE, ?_, ?_, fun x hx y hy => ?_, fun q hq => ?_⟩
  · rw [joinL21, if_pos hE, g2, g5]
  · rw [← tot21_flat, g2, List.length_map]
  · have := g1.2 y (List.mem_flatten.2 ⟨x, hx, hy⟩)
    omega
  · obtain ⟨e, he, rfl⟩ := List.mem_map.1 hq
    obtain ⟨i, hi, h3, rfl⟩ := over21_mem.1 he
    have hlen : (cB21 (l.getD i 0)).length ≤ 1000 := by
      have hi2 := h2 _ (by rw [getD21 hi]; exact List.getElem_mem hi : l.getD i 0 ∈ l)
      have := (cnt21_back h3 hi2.2).1
      unfold rdE at this
      split at this
      · cases this
      · rename_i hn
        have : (cB21 (l.getD i 0)).length = sizeN countS := by omega
        rw [this]; decide
    refine ⟨⟨by show -9223372036854775808 ≤ (i : Int); omega, by show (i : Int) ≤ 9223372036854775807; omega⟩, Nat.le_trans hlen (by decide)⟩
/-- what was joined is split -/
theorem back21_two {b : List (List Int)} {o : List Ovr21} (h : joinE21 b o = 0) (ht : tot21 b ≤ 9600) : splE21 (joinL21 b o) = 0 ∧ splB21 (joinL21 b o) = b ∧ splO21 (joinL21 b o) = o ∧ (joinL21 b o).length ≤ 9600 ∧ ∀ x ∈ joinL21 b o, -9223372036854775808 ≤ x ∧ x ≤ 9223372036854775807 := by
  obtain ⟨h1, h2, h3⟩ := joinE21_zero.1 h
  obtain ⟨g1, g2, g3⟩ := join21_split h1 h2 h3
  have hl : (fill21 b.flatten o).length ≤ 9600 := by rw [fill21_length, tot21_flat]; exact ht
  have hE : splE21 (fill21 b.flatten o) = 0 := by unfold splE21; rw [if_neg (by omega), if_pos g1]
  rw [joinL21, if_pos h]
  refine ⟨hE, (if_pos hE).trans g2, (if_pos hE).trans g3, hl, fun x hx => ?_⟩
  have := g1 x hx
  unfold okC21 at this
  omega

set_option maxRecDepth 100000 in
set_option maxHeartbeats 6400000 in
theorem tallyback_walk (A0 : Option Addr) (n0 c0 : Nat) (l : List Int) (A : Option Addr) (n c : Nat) (b : List (List Int)) (A2 : Option Addr) (n2 c2 : Nat) (o : List Ent21) (w : World) (h0 : Ints w A0 n0 c0 l) (hl : ∀ x ∈ l, -9223372036854775808 ≤ x ∧ x ≤ 9223372036854775807) (h : Mat w A n c b) (hb : ∀ l ∈ b, l.length ≤ 140737488351232 ∧ ∀ x ∈ l, -9223372036854775808 ≤ x ∧ x ≤ 9223372036854775807) (h2 : Ens w A2 n2 c2 o) (hbd : ∀ q ∈ o, (-9223372036854775808 ≤ q.1 ∧ q.1 ≤ 9223372036854775807) ∧ q.2.1.length ≤ 9223372036854775807 ∧ (-9223372036854775808 ≤ q.2.2 ∧ q.2.2 ≤ 9223372036854775807)) :
    Calls Try.prog 5 #[.slice A0 n0 c0, .slice A n c, .slice A2 n2 c2] w fun e w' => e = .returned (.bool true) ∧ Below w.heap.size w w' := by
  have LV : Hid (∀ W, Hid (Below w.heap.size w W) → Calls Try.prog 6 #[] W fun e w' => e = .returned (.bool true) ∧ Hid (Below w.heap.size w w')) := fun W hW => (lives21_any W).mono fun e w' ⟨h1, h2⟩ => ⟨h1, hW.out.trans (h2.mono hW.out.size)⟩
  have B0 : Hid (Below w.heap.size w w) := Below.refl _ _
  have SH := Lib.hid (short_any21 A A2 n c n2 c2 b o w h h2 (fun x hx => (hb x hx).1) (fun q hq => (hbd q hq).2.1))
  have hle0 : n0 ≤ 9223372036854775807 := Nat.le_trans h0.cap h0.most
  by_cases hn : n0 ≤ 5000
  · cases hs : shB21 b o with
    | true =>
      rw [hs] at SH
      obtain ⟨s1, s2, s3, s4⟩ := of_decide_eq_true hs
      have ht : tot21 b ≤ 1000000 := by omega
      have hn2 : n2 ≤ 500 := by have := h2.len; omega
      have HMb := Lib.hid h
      have HEo := Lib.hid h2
      obtain ⟨BB, hBB⟩ : ∃ BB, splB21 l = BB := ⟨_, rfl⟩
      obtain ⟨OO, hOO⟩ : ∃ OO, splO21 l = OO := ⟨_, rfl⟩
      obtain ⟨E1, hE1⟩ : ∃ E1, splE21 l = E1 := ⟨_, rfl⟩
      obtain ⟨LL, hLL⟩ : ∃ LL, joinL21 b (ov21 o) = LL := ⟨_, rfl⟩
      obtain ⟨E2, hE2⟩ : ∃ E2, joinE21 b (ov21 o) = E2 := ⟨_, rfl⟩
      have SP : Hid (∀ W, Hid (Below w.heap.size w W) → Calls Try.prog 7 #[.slice A0 n0 c0] W fun e w' => ∃ A3 c3 A4 c4, e = .returned (.tuple #[.slice A3 BB.length c3, .slice A4 OO.length c4, .int .i64 E1]) ∧ Hid (Mat w' A3 BB.length c3 BB) ∧ Hid (Ens w' A4 OO.length c4 (entL21 OO)) ∧ Hid (Below w.heap.size w w')) := fun W hW => by
        have := Split_any21 A0 n0 c0 l W ⟨h0.len, h0.cap, h0.most, h0.row.below hW.out⟩ hl
        rw [hBB, hOO, hE1] at this
        exact this.mono fun e w' ⟨A1, c1, A2, c2, h1, h2, h3, h4⟩ => ⟨A1, c1, A2, c2, h1, h2, h3, hW.out.trans (h4.mono hW.out.size)⟩
      have J1 : Hid (E1 = 0 → ∀ W A3 c3 A4 c4, Hid (Below w.heap.size w W) → Hid (Mat W A3 BB.length c3 BB) → Hid (Ens W A4 OO.length c4 (entL21 OO)) → Calls Try.prog 12 #[.slice A3 BB.length c3, .slice A4 OO.length c4] W fun e w' => ∃ A5 c5, e = .returned (.tuple #[.slice A5 n0 c5, .int .i64 0]) ∧ Hid (Ints w' A5 n0 c5 l) ∧ Hid (Below w.heap.size w w')) := fun e0 W A3 c3 A4 c4 hW hM hN => by
        rw [e0] at hE1
        obtain ⟨g1, g2, g3, g4, g5, g6, g7⟩ := back21_one hE1
        have eB : BB = bits21 l := hBB.symm.trans g1
        have eO : OO = over21 l := hOO.symm.trans g2
        subst eB eO
        have := Join_any21 A3 A4 _ c3 _ c4 (bits21 l) (entL21 (over21 l)) W hM.out hN.out (by rw [g5, h0.len]; omega) g6 g7
        rw [ov21_ent, g3, g4, h0.len] at this
        exact this.mono fun e w' ⟨A1, c1, h1, h2, h4⟩ => ⟨A1, c1, h1, h2, hW.out.trans (h4.mono hW.out.size)⟩
      have S1 : Hid (∀ W A5 c5, Hid (Below w.heap.size w W) → Hid (Ints W A5 n0 c5 l) → Calls Try.prog 14 #[.slice A5 n0 c5, .slice A0 n0 c0] W fun e w' => e = .returned (.bool true) ∧ Hid (Below w.heap.size w w')) := fun W A5 c5 hW h1 => (Same_same A5 A0 _ c5 c0 l W h1.out ⟨h0.len, h0.cap, h0.most, h0.row.below hW.out⟩).mono fun e w' ⟨g1, g2⟩ => ⟨g1, hW.out.trans (g2.mono hW.out.size)⟩
      have J2 : Hid (∀ W, Hid (Below w.heap.size w W) → Calls Try.prog 12 #[.slice A n c, .slice A2 n2 c2] W fun e w' => ∃ A3 c3, e = .returned (.tuple #[.slice A3 LL.length c3, .int .i64 E2]) ∧ Hid (Ints w' A3 LL.length c3 LL) ∧ Hid (Below w.heap.size w w')) := fun W hW => by
        have := Join_any21 A A2 n c n2 c2 b o W (h.below hW.out) (h2.below hW.out) ht (fun l hl => (hb l hl).2) (fun q hq => ⟨(hbd q hq).1, (hbd q hq).2.1⟩)
        rw [hLL, hE2] at this
        exact this.mono fun e w' ⟨A1, c1, h1, h2, h4⟩ => ⟨A1, c1, h1, h2, hW.out.trans (h4.mono hW.out.size)⟩
      have NL : Hid (E2 ≠ 0 → LL = []) := fun hv => by rw [← hLL]; rw [← hE2] at hv; exact if_neg hv
      have S2 : Hid (E2 = 0 → ∀ W A3 c3, Hid (Below w.heap.size w W) → Hid (Ints W A3 LL.length c3 LL) → Calls Try.prog 7 #[.slice A3 LL.length c3] W fun e w' => ∃ A6 c6 A7 c7, e = .returned (.tuple #[.slice A6 n c6, .slice A7 n2 c7, .int .i64 0]) ∧ Hid (Mat w' A6 n c6 b) ∧ Hid (Ens w' A7 n2 c7 (entL21 (ov21 o))) ∧ Hid (Below w.heap.size w w')) := fun e0 W A3 c3 hW hI => by
        rw [e0] at hE2
        obtain ⟨g1, g2, g3, g4, g5⟩ := back21_two hE2 (by omega)
        rw [hLL] at g1 g2 g3 g4 g5
        have := Split_any21 A3 _ c3 LL W hI.out g5
        rw [g1, g2, g3, ov21_length, h.len, h2.len] at this
        exact this.mono fun e w' ⟨A1, c1, A2, c2, h1, h2, h3, h4⟩ => ⟨A1, c1, A2, c2, h1, h2, h3, hW.out.trans (h4.mono hW.out.size)⟩
      have SB : Hid (∀ W A6 c6, Hid (Below w.heap.size w W) → Hid (Mat W A6 n c6 b) → Calls Try.prog 9 #[.slice A6 n c6, .slice A n c] W fun e w' => e = .returned (.bool true) ∧ Hid (Below W.heap.size W w') ∧ Hid (Below w.heap.size w w')) := fun W A6 c6 hW h1 => (refSameBits_any21 A6 A n c6 n c b b W h1.out (h.below hW.out) true (by simp)).mono fun e w' ⟨g1, g2⟩ => ⟨g1, g2, hW.out.trans (g2.mono hW.out.size)⟩
      have SE : Hid (∀ W A7 c7 A8 c8, Hid (Below w.heap.size w W) → Hid (Ens W A7 n2 c7 (entL21 (ov21 o))) → Hid (Ens W A8 n2 c8 (entL21 (ov21 o))) → Calls Try.prog 10 #[.slice A7 n2 c7, .slice A8 n2 c8] W fun e w' => e = .returned (.bool true) ∧ Hid (Below w.heap.size w w')) := fun W A7 c7 A8 c8 hW h1 h2 => (refSameEnt_any21 W h1.out h2.out).mono fun e w' ⟨g1, g2⟩ => ⟨g1, hW.out.trans (g2.mono hW.out.size)⟩
      have TK : Hid (∀ k x s t, k < n2 → o.getD k zE21 = (x, s, t) → entL21 (ov21 (o.take (k + 1))) = entL21 (ov21 (o.take k)) ++ [(x, s, 0)]) := fun k x s t hk hx => by
        have hk2 : k < o.length := by have := h2.len; omega
        rw [getD21 hk2] at hx
        rw [List.take_succ_eq_append_getElem hk2, hx]
        simp [entL21, ov21]
      have TA : Hid (o.take n2 = o) := List.take_of_length_le (by have := h2.len; omega)
      have b1 := build_ent21
      clear h h2 hb hbd hs s1 s2 s3 s4 ht hLL hBB hOO hE1 hE2 h0 hl
      generalize BB.length = mb at *
      generalize OO.length = mc at *
      by_cases e1 : E1 = 0
      · have J1' := Lib.hid (J1.out e1)
        subst e1
        clear J1
        by_cases e2 : E2 = 0
        · have S2' := Lib.hid (S2.out e2)
          subst e2
          clear S2 NL
          generalize LL.length = ml at *
          go_enter Try.func5, Try.ntmps5
          go_wp2_with (first
            | (go_at_call 11; (with_reducible refine (SH.out).mono ?_); rintro e w0 ⟨rfl, rfl⟩)
            | (go_at_call 7; (with_reducible refine (SP.out _ B0).mono ?_); rintro e w1 ⟨A3, c3, A4, c4, rfl, HM1, HN1, HB1⟩)
            | (go_at_call 12; (with_reducible refine (J1'.out _ _ _ _ _ HB1 HM1 HN1).mono ?_); rintro e w2 ⟨A5, c5, rfl, HI2, HB2⟩)
            | (go_at_call 14; (with_reducible refine (S1.out _ _ _ HB2 HI2).mono ?_); rintro e w3 ⟨rfl, HB3⟩)
            | (go_at_call 12; (with_reducible refine (J2.out _ HB3).mono ?_); rintro e w4 ⟨A6, c6, rfl, HI4, HB4⟩)
            | (go_at_call 7; (with_reducible refine (S2'.out _ _ _ HB4 HI4).mono ?_); rintro e w5 ⟨A7, c7, A8, c8, rfl, HM5, HN5, HB5⟩))
          clear SP J1' J2 S1 SH
          go_loopw [17, 18] (fun v i wr => ∃ (k : Nat), k ≤ n2 ∧ i = .int .i64 k ∧ Hid (wr.ownsRow w5.heap.size 41 3 v k (entC (entL21 (ov21 (o.take k))))) ∧ Hid (Below w5.heap.size w5 wr)) (fun _ i _ => n2 - (intOf i).toNat)
          case atStart => exact ⟨0, by omega, rfl, World.ownsRow_nil _ _ _ _, Below.refl _ _⟩
          case round =>
            obtain ⟨k, hk, rfl, hO, hbel⟩ := hrel
            by_cases hlt : k < n2
            · obtain ⟨b2, off2, x, s, t, rfl, hb2, hx, d0, d1, d2⟩ := ens21_at HEo.out hlt
              have hbw := HB5.out.trans (hbel.out.mono HB5.out.size)
              have g0 := (hbw.cell (p := ⟨b2, off2 + k * 3, none⟩) hb2).trans d0
              have g1 := (hbw.cell (p := ⟨b2, off2 + k * 3 + 1, none⟩) hb2).trans d1
              have HTK := Lib.hid (TK.out k x s t hlt hx)
              have hs : w5.heap.size ≤ wr.heap.size := hbel.out.size
              have HNew := Lib.hid (Row.of_block (heap_alloc_new wr (.cells #[.int .i64 x, .string ⟨s.toArray⟩, .int .i64 0] 41)))
              clear d2 hbw hx
              go_wp2
              go_region_held3 (fun W => W.cell? ⟨b2, off2 + k * 3, none⟩ = some (.int .i64 x) ∧ W.cell? ⟨b2, off2 + k * 3 + 1, none⟩ = some (.string ⟨s.toArray⟩))
                (first | assumption | go_keep)
                ((refine step_append_rowG _ rfl _ _ 25 rfl w5.heap.size 41 3 _ 32 Try.underlying25 info_ents21 rfl (by omega) _ k _ rfl ((hO.out.alloc _).drew) (by simp; omega) ⟨wr.heap.size, 0, none⟩ [.int .i64 x, .string ⟨s.toArray⟩, .int .i64 0] 1 1 rfl rfl HNew.out (entC_one [(x, s, 0)]) (by omega) (by omega) ?_; intro v6 w6 hown6 hg6; have hb6 : Below w5.heap.size w5 w6 := ((hbel.out.alloc hs _).drew).grown hg6.out (by simp; omega) (fun q e => (own_apartS hO.out q e).1); have hb7 := HB5.out.trans (hb6.mono HB5.out.size); have e0 := (hb7.cell (p := ⟨b2, off2 + k * 3, none⟩) hb2).trans d0; have e1 := (hb7.cell (p := ⟨b2, off2 + k * 3 + 1, none⟩) hb2).trans d1; have HB6 := Lib.hid hb6; clear hb6 hb7))
              go_wp2
              go_roundw
              case rel => exact ⟨k + 1, by omega, by push_cast; rfl, by rw [HTK.out, entC_snoc]; exact hown6, HB6⟩
              case measure => simp [intOf]; omega
            · obtain rfl : k = n2 := by omega
              rw [TA.out] at hO
              obtain ⟨A9, c9, e9, hE9⟩ := Ens.of_own (show wr.ownsRow w5.heap.size 41 3 u17 k (entC (entL21 (ov21 o))) from hO.out)
              subst e9
              have HE9 := Lib.hid hE9
              have HM9 := Lib.hid (HM5.out.below hbel.out)
              have HN9 := Lib.hid (HN5.out.below hbel.out)
              have HB9 := Lib.hid (HB5.out.trans (hbel.out.mono HB5.out.size))
              clear hE9 hO TK
              go_wp2_with (first
                | (go_at_call 9; (with_reducible refine (SB.out _ _ _ HB9 HM9).mono ?_); rintro e w10 ⟨rfl, HC10, HB10⟩; have HE10 := Lib.hid (HE9.out.below HC10.out); have HN10 := Lib.hid (HN9.out.below HC10.out))
                | (go_at_call 10; (with_reducible refine (SE.out _ _ _ _ _ HB10 HN10 HE10).mono ?_); rintro e w11 ⟨rfl, HB11⟩)
                | (go_at_call 6; (with_reducible refine (LV.out _ HB11).mono ?_); rintro e w12 ⟨rfl, HB12⟩))
              go_ret
              exact ⟨rfl, HB12.out⟩
        · obtain rfl := NL.out e2
          have hyb : (E2 != 0) = true := by simpa using e2
          clear S2 NL e2
          dsimp only [List.length_nil] at J2
          go_enter Try.func5, Try.ntmps5
          go_wp2_with (first
            | (go_at_call 11; (with_reducible refine (SH.out).mono ?_); rintro e w0 ⟨rfl, rfl⟩)
            | (go_at_call 7; (with_reducible refine (SP.out _ B0).mono ?_); rintro e w1 ⟨A3, c3, A4, c4, rfl, HM1, HN1, HB1⟩)
            | (go_at_call 12; (with_reducible refine (J1'.out _ _ _ _ _ HB1 HM1 HN1).mono ?_); rintro e w2 ⟨A5, c5, rfl, HI2, HB2⟩)
            | (go_at_call 14; (with_reducible refine (S1.out _ _ _ HB2 HI2).mono ?_); rintro e w3 ⟨rfl, HB3⟩)
            | (go_at_call 12; (with_reducible refine (J2.out _ HB3).mono ?_); rintro e w4 ⟨A6, c6, rfl, HI4, HB4⟩)
            | (go_at_call 6; (with_reducible refine (LV.out _ HB4).mono ?_); rintro e w9 ⟨rfl, HB9⟩))
          go_ret
          exact ⟨rfl, HB9.out⟩
      · clear J1
        have hxb : (E1 == 0) = false := by simpa using e1
        clear e1
        by_cases e2 : E2 = 0
        · have S2' := Lib.hid (S2.out e2)
          subst e2
          clear S2 NL
          generalize LL.length = ml at *
          go_enter Try.func5, Try.ntmps5
          go_wp2_with (first
            | (go_at_call 11; (with_reducible refine (SH.out).mono ?_); rintro e w0 ⟨rfl, rfl⟩)
            | (go_at_call 7; (with_reducible refine (SP.out _ B0).mono ?_); rintro e w1 ⟨A3, c3, A4, c4, rfl, HM1, HN1, HB1⟩)
            | (go_at_call 12; (with_reducible refine (J2.out _ HB1).mono ?_); rintro e w4 ⟨A6, c6, rfl, HI4, HB4⟩)
            | (go_at_call 7; (with_reducible refine (S2'.out _ _ _ HB4 HI4).mono ?_); rintro e w5 ⟨A7, c7, A8, c8, rfl, HM5, HN5, HB5⟩))
          clear SP J2 S1 SH
          go_loopw [17, 18] (fun v i wr => ∃ (k : Nat), k ≤ n2 ∧ i = .int .i64 k ∧ Hid (wr.ownsRow w5.heap.size 41 3 v k (entC (entL21 (ov21 (o.take k))))) ∧ Hid (Below w5.heap.size w5 wr)) (fun _ i _ => n2 - (intOf i).toNat)
          case atStart => exact ⟨0, by omega, rfl, World.ownsRow_nil _ _ _ _, Below.refl _ _⟩
          case round =>
            obtain ⟨k, hk, rfl, hO, hbel⟩ := hrel
            by_cases hlt : k < n2
            · obtain ⟨b2, off2, x, s, t, rfl, hb2, hx, d0, d1, d2⟩ := ens21_at HEo.out hlt
              have hbw := HB5.out.trans (hbel.out.mono HB5.out.size)
              have g0 := (hbw.cell (p := ⟨b2, off2 + k * 3, none⟩) hb2).trans d0
              have g1 := (hbw.cell (p := ⟨b2, off2 + k * 3 + 1, none⟩) hb2).trans d1
              have HTK := Lib.hid (TK.out k x s t hlt hx)
              have hs : w5.heap.size ≤ wr.heap.size := hbel.out.size
              have HNew := Lib.hid (Row.of_block (heap_alloc_new wr (.cells #[.int .i64 x, .string ⟨s.toArray⟩, .int .i64 0] 41)))
              clear d2 hbw hx
              go_wp2
              go_region_held3 (fun W => W.cell? ⟨b2, off2 + k * 3, none⟩ = some (.int .i64 x) ∧ W.cell? ⟨b2, off2 + k * 3 + 1, none⟩ = some (.string ⟨s.toArray⟩))
                (first | assumption | go_keep)
                ((refine step_append_rowG _ rfl _ _ 25 rfl w5.heap.size 41 3 _ 32 Try.underlying25 info_ents21 rfl (by omega) _ k _ rfl ((hO.out.alloc _).drew) (by simp; omega) ⟨wr.heap.size, 0, none⟩ [.int .i64 x, .string ⟨s.toArray⟩, .int .i64 0] 1 1 rfl rfl HNew.out (entC_one [(x, s, 0)]) (by omega) (by omega) ?_; intro v6 w6 hown6 hg6; have hb6 : Below w5.heap.size w5 w6 := ((hbel.out.alloc hs _).drew).grown hg6.out (by simp; omega) (fun q e => (own_apartS hO.out q e).1); have hb7 := HB5.out.trans (hb6.mono HB5.out.size); have e0 := (hb7.cell (p := ⟨b2, off2 + k * 3, none⟩) hb2).trans d0; have e1 := (hb7.cell (p := ⟨b2, off2 + k * 3 + 1, none⟩) hb2).trans d1; have HB6 := Lib.hid hb6; clear hb6 hb7))
              go_wp2
              go_roundw
              case rel => exact ⟨k + 1, by omega, by push_cast; rfl, by rw [HTK.out, entC_snoc]; exact hown6, HB6⟩
              case measure => simp [intOf]; omega
            · obtain rfl : k = n2 := by omega
              rw [TA.out] at hO
              obtain ⟨A9, c9, e9, hE9⟩ := Ens.of_own (show wr.ownsRow w5.heap.size 41 3 u17 k (entC (entL21 (ov21 o))) from hO.out)
              subst e9
              have HE9 := Lib.hid hE9
              have HM9 := Lib.hid (HM5.out.below hbel.out)
              have HN9 := Lib.hid (HN5.out.below hbel.out)
              have HB9 := Lib.hid (HB5.out.trans (hbel.out.mono HB5.out.size))
              clear hE9 hO TK
              go_wp2_with (first
                | (go_at_call 9; (with_reducible refine (SB.out _ _ _ HB9 HM9).mono ?_); rintro e w10 ⟨rfl, HC10, HB10⟩; have HE10 := Lib.hid (HE9.out.below HC10.out); have HN10 := Lib.hid (HN9.out.below HC10.out))
                | (go_at_call 10; (with_reducible refine (SE.out _ _ _ _ _ HB10 HN10 HE10).mono ?_); rintro e w11 ⟨rfl, HB11⟩)
                | (go_at_call 6; (with_reducible refine (LV.out _ HB11).mono ?_); rintro e w12 ⟨rfl, HB12⟩))
              go_ret
              exact ⟨rfl, HB12.out⟩
        · obtain rfl := NL.out e2
          have hyb : (E2 != 0) = true := by simpa using e2
          clear S2 NL e2
          dsimp only [List.length_nil] at J2
          go_enter Try.func5, Try.ntmps5
          go_wp2_with (first
            | (go_at_call 11; (with_reducible refine (SH.out).mono ?_); rintro e w0 ⟨rfl, rfl⟩)
            | (go_at_call 7; (with_reducible refine (SP.out _ B0).mono ?_); rintro e w1 ⟨A3, c3, A4, c4, rfl, HM1, HN1, HB1⟩)
            | (go_at_call 12; (with_reducible refine (J2.out _ HB1).mono ?_); rintro e w4 ⟨A6, c6, rfl, HI4, HB4⟩)
            | (go_at_call 6; (with_reducible refine (LV.out _ HB4).mono ?_); rintro e w9 ⟨rfl, HB9⟩))
          go_ret
          exact ⟨rfl, HB9.out⟩
    | false =>
      rw [hs] at SH
      clear h h2 hb hbd hs h0 hl
      go_enter Try.func5, Try.ntmps5
      go_wp2_with (first
        | (go_at_call 11; (with_reducible refine (SH.out).mono ?_); rintro e w0 ⟨rfl, rfl⟩)
        | (go_at_call 6; (with_reducible refine (LV.out _ B0).mono ?_); rintro e w5 ⟨rfl, HB5⟩))
      go_ret
      exact ⟨rfl, HB5.out⟩
  · clear h h2 hb hbd h0 hl
    go_enter Try.func5, Try.ntmps5
    go_wp2_with (go_at_call 6; (with_reducible refine (LV.out _ B0).mono ?_); rintro e w5 ⟨rfl, HB5⟩)
    go_ret
    exact ⟨rfl, HB5.out⟩
end Go.Proofs.Ytoacgoelhidmbaa
