/-
  The walk of RefsOrder.
-/
import Derived.Test.YtojmhkdlaalifaaRefV
import Derived.Test.YtojmhkdlaalifaaCrcA
namespace Go.Proofs.Ytojmhkdlaalifaa
open Go.RowKit
set_option linter.unusedVariables false
set_option linter.unusedSimpArgs false

/-- two counters, and the list that was told of the first one -/
structure OrS (w W : World) (B2 T px gx py gy N : Nat) (A0 : Option Addr) (c0 : Nat) (a b : List Int) : Prop where
  bel : Below w.heap.size w W
  cx : Cnt W w.heap.size px gx (lstR12 N (keepR12 N a))
  cy : Cnt W B2 py gy (lstR12 N (keepR12 N b))
  told : Ints W A0 N c0 (List.replicate N 0)
  tn : Newer T A0
  lo : w.heap.size ≤ B2 ∧ px < B2 ∧ gx < B2 ∧ gx < T ∧ gy < T
theorem OrS.addx {w W W' : World} {B2 T px gx py gy N : Nat} {A0 : Option Addr} {c0 : Nat} {a b a' : List Int} (h : OrS w W B2 T px gx py gy N A0 c0 a b) (hk : Kept gx W W') (hc : Cnt W' w.heap.size px gx (lstR12 N (keepR12 N a'))) : OrS w W' B2 T px gx py gy N A0 c0 a' b := by
  obtain ⟨l1, l2, l3, l4, l5⟩ := h.lo
  have h1 := h.cy.bp
  have h2 := h.cy.hg.low
  exact ⟨h.bel.trans (hk.below h.cx.hg.low), hc, h.cy.kept hk (by omega) (by omega), h.told.newer h.tn fun k hk2 => hk.block k (by omega), h.tn, h.lo⟩
theorem OrS.addy {w W W' : World} {B2 T px gx py gy N : Nat} {A0 : Option Addr} {c0 : Nat} {a b b' : List Int} (h : OrS w W B2 T px gx py gy N A0 c0 a b) (hk : Kept gy W W') (hc : Cnt W' B2 py gy (lstR12 N (keepR12 N b'))) : OrS w W' B2 T px gx py gy N A0 c0 a b' := by
  obtain ⟨l1, l2, l3, l4, l5⟩ := h.lo
  have h2 := h.cy.hg.low
  exact ⟨h.bel.trans (hk.below (by omega)), h.cx.kept hk (by omega) (by omega), hc, h.told.newer h.tn fun k hk2 => hk.block k (by omega), h.tn, h.lo⟩

/-- both counters, with the same counts -/
structure OrF (w W : World) (px gx py gy N : Nat) (L : List Int) : Prop where
  bel : Below w.heap.size w W
  ox : Own12 W (.pointer (some ⟨px, 0, none⟩)) (some ⟨gx, 0, none⟩) N L
  oy : Own12 W (.pointer (some ⟨py, 0, none⟩)) (some ⟨gy, 0, none⟩) N L
theorem OrF.later {w W W' : World} {px gx py gy N : Nat} {L : List Int} (h : OrF w W px gx py gy N L) (hb : Below W.heap.size W W') : OrF w W' px gx py gy N L := ⟨h.bel.trans (hb.mono h.bel.size), h.ox.below hb, h.oy.below hb⟩
theorem OrS.fin {w W : World} {B2 T px gx py gy N : Nat} {A0 : Option Addr} {c0 : Nat} {l : List Int} (h : OrS w W B2 T px gx py gy N A0 c0 l l.reverse) : OrF w W px gx py gy N (lstR12 N (keepR12 N l)) := by
  have e : lstR12 N (keepR12 N l.reverse) = lstR12 N (keepR12 N l) := lstR12_perm (keepR12_rev N l)
  have h2 := Own12.of_cnt h.cy
  have h1 := Own12.of_cnt h.cx
  rw [e] at h2
  rw [lstR12_length] at h1 h2
  exact ⟨h.bel, h1, h2⟩

set_option maxRecDepth 100000 in
set_option maxHeartbeats 3200000 in
theorem refsorder_walk (nn : Int) (A : Option Addr) (n c : Nat) (l : List Int) (w : World) (_hn : -9223372036854775808 ≤ nn ∧ nn ≤ 9223372036854775807) (h : Ints w A n c l) (_hl : ∀ x ∈ l, -9223372036854775808 ≤ x ∧ x ≤ 9223372036854775807) :
    Calls Try.prog 5 #[.int .i64 nn, .slice A n c] w fun e w' => e = .returned (.bool true) ∧ Below w.heap.size w w' := by
  obtain ⟨N, hN, hN2⟩ : ∃ N : Nat, bits .and .i64 nn 255 = (N : Int) ∧ N ≤ 255 := by
    rw [i64_and255]
    obtain ⟨N, h1⟩ := Int.eq_ofNat_of_zero_le (show 0 ≤ nn % 256 by omega)
    exact ⟨N, h1, by omega⟩
  have hle := h.le
  have hcap := h.cap
  have hmost := h.most
  have LV : Hid (∀ W, Below w.heap.size w W → Calls Try.prog 9 #[] W fun e w' => e = .returned (.bool true) ∧ Below w.heap.size w w') := fun W hW => (lives12_any W).mono fun e w' ⟨h1, h2⟩ => ⟨h1, hW.trans (h2.mono hW.size)⟩
  have NW : Hid (∀ W, Calls Try.prog 7 #[.int .i64 (N : Int)] W fun e w' => ∃ p g, e = .returned (.tuple #[.pointer (some ⟨p, 0, none⟩), .int .i64 0]) ∧ Cnt w' W.heap.size p g (List.replicate N 0) ∧ Below W.heap.size W w') := fun W => New12_good N W (by omega)
  by_cases hn : n ≤ 200
  · have d1 : decide ((200 : Int) < (n : Int)) = false := by simp; omega
    have LX : Hid (∀ W w1 w2 px gx py gy, Below w.heap.size w w1 → Cnt w1 w.heap.size px gx (List.replicate N 0) → Cnt w2 w1.heap.size py gy (List.replicate N 0) → Below w1.heap.size w1 w2 → W = w2 → Calls Try.prog 16 #[.pointer (some ⟨px, 0, none⟩)] W fun e w' => ∃ A0 c0, e = .returned (.slice A0 N c0) ∧ OrS w w' w1.heap.size w2.heap.size px gx py gy N A0 c0 [] []) := by
      intro W w1 w2 px gx py gy hb1 hc1 hc2 hb2 rfl
      have hc3 := hc1.below hb2 hc1.plt hc1.glt
      have hO := Own12.of_cnt hc3
      rw [List.length_replicate] at hO
      refine (List12_any W hO).mono fun e w' ⟨A0, c0, e1, e2, e3, e4⟩ => ⟨A0, c0, e1, (hb1.trans (hb2.mono hb1.size)).trans (e3.mono (Nat.le_trans hb1.size hb2.size)), ?_, ?_, e2, e4, hb1.size, hc1.plt, hc1.glt, hc3.glt, hc2.glt⟩
      · rw [show keepR12 N [] = [] from rfl, lstR12_nil]; exact hc3.later e3
      · rw [show keepR12 N [] = [] from rfl, lstR12_nil]; exact hc2.later e3
    have HI := Lib.hid h
    have hln := h.len
    have FIN : Hid (l.take n = l ∧ l.reverse.take n = l.reverse) := ⟨by rw [← hln, List.take_length], by rw [← hln, ← List.length_reverse, List.take_length]⟩
    clear h
    go_enter Try.func5, Try.ntmps5
    go_wp2_with (first
      | (go_at_call 7; first
          | ((with_reducible refine (NW.out w).mono ?_); rintro e w1 ⟨px, gx, rfl, hC1, hb1⟩)
          | ((with_reducible refine (NW.out w1).mono ?_); rintro e w2 ⟨py, gy, rfl, hC2, hb2⟩))
      | (go_at_call 16; (with_reducible refine (LX.out _ _ _ _ _ _ _ hb1 hC1 hC2 hb2 rfl).mono ?_); rintro e w3 ⟨A0, c0, rfl, hS3⟩; have HS3 := Lib.hid hS3; clear hS3 hC1 hC2 hb1 hb2))
    clear NW LX
    obtain ⟨T, hT⟩ : ∃ T, w2.heap.size = T := ⟨_, rfl⟩
    obtain ⟨B2, hB2⟩ : ∃ B2, w1.heap.size = B2 := ⟨_, rfl⟩
    rw [hT, hB2] at HS3
    clear hT hB2
    go_loopw [10] (fun i wr => ∃ k : Nat, k ≤ n ∧ i = .int .i64 k ∧ Hid (OrS w wr B2 T px gx py gy N A0 c0 (l.take k) (l.reverse.take k))) (fun i _ => n - (intOf i).toNat)
    case atStart => exact ⟨0, by omega, rfl, HS3⟩
    case round =>
      obtain ⟨k, hk, rfl, hS⟩ := hrel
      by_cases hlt : k < n
      · obtain ⟨b, off, hA, _, hc⟩ := HI.out.row.lit (by rw [i64s_length]; omega)
        obtain ⟨j, hj⟩ : ∃ j, j = n - 1 - k := ⟨_, rfl⟩
        obtain ⟨n1, hn1⟩ : ∃ n1, n1 = n - 1 := ⟨_, rfl⟩
        have e1 : (n : Int) - 1 = (n1 : Int) := by omega
        have e2 : (n1 : Int) - (k : Int) = (j : Int) := by omega
        have hjn : j < n := by omega
        have ck0 := hc k _ (i64s_at l k (by omega))
        have cj0 := hc j _ (i64s_at l j (by omega))
        have hlb : b < w.heap.size := cell_lt ck0
        have ck : wr.cell? ⟨b, off + k, none⟩ = some (.int .i64 (l[k]'(by omega))) := (hS.out.bel.cell (p := ⟨b, off + k, none⟩) hlb).trans ck0
        have CJ : Hid (∀ W, Below w.heap.size w W → W.cell? ⟨b, off + j, none⟩ = some (.int .i64 (l[j]'(by omega)))) := fun W hW => (hW.cell (p := ⟨b, off + j, none⟩) hlb).trans cj0
        have tk : l.take (k + 1) = l.take k ++ [l[k]'(by omega)] := List.take_succ_eq_append_getElem (by omega)
        have tj : l.reverse.take (k + 1) = l.reverse.take k ++ [l[j]'(by omega)] := by
          rw [List.take_succ_eq_append_getElem (by rw [List.length_reverse]; omega), List.getElem_reverse]
          congr 3
          omega
        have HT := Lib.hid (And.intro tk tj)
        have k200 : (l.take k).length ≤ 100000 := by rw [List.length_take]; omega
        have r200 : (l.reverse.take k).length ≤ 100000 := by rw [List.length_take, List.length_reverse]; omega
        clear tk tj hc ck0 cj0
        generalize l[k]'(by omega) = x at *
        generalize l[j]'(by omega) = y at *
        have AX : Hid (∀ W a b, a.length ≤ 100000 → OrS w W B2 T px gx py gy N A0 c0 a b → Calls Try.prog 10 #[.pointer (some ⟨px, 0, none⟩), .int .i64 x] W fun e w' => ∃ r s, e = .returned (.tuple #[.int .i64 r, .int .i64 s]) ∧ OrS w w' B2 T px gx py gy N A0 c0 (a ++ [x]) b) := fun W a b ha h => (Add12_any x W h.cx ha).mono fun e w' ⟨h1, h2, h3⟩ => ⟨_, _, h1, h.addx h3 h2⟩
        have AY : Hid (∀ W a b, b.length ≤ 100000 → OrS w W B2 T px gx py gy N A0 c0 a b → Calls Try.prog 10 #[.pointer (some ⟨py, 0, none⟩), .int .i64 y] W fun e w' => ∃ r s, e = .returned (.tuple #[.int .i64 r, .int .i64 s]) ∧ OrS w w' B2 T px gx py gy N A0 c0 a (b ++ [y])) := fun W a b hb h => (Add12_any y W h.cy hb).mono fun e w' ⟨h1, h2, h3⟩ => ⟨_, _, h1, h.addy h3 h2⟩
        have hK := Lib.hid k200
        have hR := Lib.hid r200
        clear k200 r200 hj hn1
        subst hA
        go_wp2_with (first
          | (go_at_call 10; (with_reducible refine (AX.out _ _ _ hK.out hS.out).mono ?_); rintro e w5 ⟨r5, s5, rfl, hS5⟩; have cj := CJ.out _ hS5.bel; have HS5 := Lib.hid hS5; clear hS5 hS)
          | (go_at_call 10; (with_reducible refine (AY.out _ _ _ hR.out HS5.out).mono ?_); rintro e w6 ⟨r6, s6, rfl, hS6⟩; have HS6 := Lib.hid hS6; clear hS6 HS5))
        go_roundw
        case rel => exact ⟨k + 1, by omega, by simp, by rw [HT.out.1, HT.out.2]; exact HS6⟩
        case measure => simp [intOf]; omega
      · obtain rfl : k = n := by omega
        rw [FIN.out.1, FIN.out.2] at hS
        have hF := hS.out.fin
        have HF := Lib.hid hF
        have HTo := Lib.hid hS.out.told
        have hcap0 := hS.out.told.cap
        have hmost0 := hS.out.told.most
        have SU := Lib.hid (sumR12_small (N := N) (l := keepR12 N l) (Nat.le_trans (keepR12_le _ _) (by omega)) (by omega))
        clear hF hS HS3
        obtain ⟨L, hL⟩ : ∃ L, lstR12 N (keepR12 N l) = L := ⟨_, rfl⟩
        rw [hL] at HF SU
        clear hL
        have LX : Hid (∀ W, OrF w W px gx py gy N L → Calls Try.prog 16 #[.pointer (some ⟨px, 0, none⟩)] W fun e w' => ∃ A1 c1, e = .returned (.slice A1 N c1) ∧ Ints w' A1 N c1 L ∧ OrF w w' px gx py gy N L) := fun W h => (List12_any W h.ox).mono fun e w' ⟨A1, c1, e1, e2, e3, _⟩ => ⟨A1, c1, e1, e2, h.later e3⟩
        have LY : Hid (∀ W, OrF w W px gx py gy N L → Calls Try.prog 16 #[.pointer (some ⟨py, 0, none⟩)] W fun e w' => ∃ A1 c1, e = .returned (.slice A1 N c1) ∧ Ints w' A1 N c1 L ∧ OrF w w' px gx py gy N L ∧ Below W.heap.size W w') := fun W h => (List12_any W h.oy).mono fun e w' ⟨A1, c1, e1, e2, e3, _⟩ => ⟨A1, c1, e1, e2, h.later e3, e3⟩
        have SM : Hid (∀ W A1 c1 A2 c2, OrF w W px gx py gy N L → Ints W A1 N c1 L → Ints W A2 N c2 L → Calls Try.prog 15 #[.slice A1 N c1, .slice A2 N c2] W fun e w' => e = .returned (.bool true) ∧ OrF w w' px gx py gy N L) := fun W A1 c1 A2 c2 h h1 h2 => (Same_same A1 A2 _ c1 c2 L W h1 h2).mono fun e w' ⟨h3, h4⟩ => ⟨h3, h.later h4⟩
        have TX : Hid (∀ W, OrF w W px gx py gy N L → Calls Try.prog 18 #[.pointer (some ⟨px, 0, none⟩)] W fun e w' => e = .returned (.int .i64 L.sum) ∧ W = w') := fun W h => Total12_any W h.ox SU.out
        have TY : Hid (∀ W, OrF w W px gx py gy N L → Calls Try.prog 18 #[.pointer (some ⟨py, 0, none⟩)] W fun e w' => e = .returned (.int .i64 L.sum) ∧ W = w') := fun W h => Total12_any W h.oy SU.out
        generalize L.sum = sm at *
        clear SU FIN HI
        go_wp2
        go_loopw [11] (fun i ws => ∃ j : Nat, j ≤ N ∧ i = .int .i64 j ∧ wr = ws) (fun i _ => N - (intOf i).toNat)
        case atStart => exact ⟨0, by omega, rfl, rfl⟩
        case round =>
          obtain ⟨j, hj, rfl, rfl⟩ := hrel
          by_cases hlt2 : j < N
          · obtain ⟨b, off, hA, _, hc⟩ := HTo.out.row.lit (by rw [i64s_length, List.length_replicate]; omega)
            have cj := hc j _ (i64s_at _ j (by rw [List.length_replicate]; exact hlt2))
            rw [List.getElem_replicate] at cj
            subst hA
            clear hc
            go_wp2
            go_roundw
            case rel => exact ⟨j + 1, by omega, by simp, trivial⟩
            case measure => simp [intOf]; omega
          · obtain rfl : j = N := by omega
            go_wp2_with (first
              | (go_at_call 16; first
                  | ((with_reducible refine (LX.out _ HF.out).mono ?_); rintro e w7 ⟨A7, c7, rfl, hI7, hF7⟩; have HF7 := Lib.hid hF7; have HI7 := Lib.hid hI7; clear hI7 hF7)
                  | ((with_reducible refine (LY.out _ HF7.out).mono ?_); rintro e w8 ⟨A8, c8, rfl, hI8, hF8, hk8⟩; have HF8 := Lib.hid hF8; have HI8 := Lib.hid hI8; have HI9 := Lib.hid (HI7.out.below hk8); clear hI8 hF8 hk8))
              | (go_at_call 15; (with_reducible refine (SM.out _ _ _ _ _ HF8.out HI9.out HI8.out).mono ?_); rintro e w9 ⟨rfl, hF9⟩; have HF9 := Lib.hid hF9; clear hF9)
              | (go_at_call 18; first
                  | ((with_reducible refine (TX.out _ HF9.out).mono ?_); rintro e w' ⟨rfl, rfl⟩)
                  | ((with_reducible refine (TY.out _ HF9.out).mono ?_); rintro e w' ⟨rfl, rfl⟩))
              | (go_at_call 9; (with_reducible refine (LV.out _ HF9.out.bel).mono ?_); rintro e w10 ⟨rfl, hb10⟩))
            go_ret
            exact ⟨rfl, hb10⟩
  · have d1 : decide ((200 : Int) < (n : Int)) = true := by simp; omega
    clear h
    go_enter Try.func5, Try.ntmps5
    go_wp2_with (first
      | (go_at_call 7; first
          | ((with_reducible refine (NW.out w).mono ?_); rintro e w1 ⟨px, gx, rfl, _, hb1⟩)
          | ((with_reducible refine (NW.out w1).mono ?_); rintro e w2 ⟨py, gy, rfl, _, hb2⟩; have hb3 := hb1.trans (hb2.mono hb1.size); clear hb2))
      | (go_at_call 9; (with_reducible refine (LV.out _ hb3).mono ?_); rintro e w5 ⟨rfl, hb5⟩))
    go_ret
    exact ⟨rfl, hb5⟩

end Go.Proofs.Ytojmhkdlaalifaa
