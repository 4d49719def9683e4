/-
  The walk of ImagePlays.
-/
import Derived.Test.YtadoclbalcecpaaImgJ
import Derived.Deep.Quiet
import Derived.Deep.QuietTactic
import Derived.Deep.RegionWith
import Derived.Deep.RegionHeld3
namespace Go.Proofs.Ytadoclbalcecpaa
open Go.RowKit
set_option linter.unusedVariables false
set_option linter.unusedSimpArgs false

set_option maxRecDepth 100000 in
set_option maxHeartbeats 1600000 in
theorem plays_big (A A2 : Option Addr) (n c n2 c2 : Nat) (ll : List (Int × List UInt8)) (w : World) (hn : n ≤ 9223372036854775807) (h2 : Stp w A2 n2 c2 ll) (hR : ∀ s ∈ ll, s.2.length ≤ 140737488351232) (h : 6000 < n ∨ fewB ll = false) :
    Calls Try.prog 3 #[.slice A n c, .slice A2 n2 c2] w fun e w' => e = .returned (.bool true) ∧ Below w.heap.size w w' := by
  have FW := Lib.hid (few_any A2 n2 c2 ll w h2 hR)
  clear h2 hR
  by_cases h1 : 6000 < n
  · clear h
    go_enter Try.func3, Try.ntmps3
    go_wp2_with (go_at_call 9; refine (lives_any _).mono ?_; rintro e w4 ⟨rfl, hb4⟩)
    go_ret
    exact ⟨rfl, hb4⟩
  · have h3 : fewB ll = false := by rcases h with h | h; · omega
                                    · exact h
    rw [h3] at FW
    clear h
    go_enter Try.func3, Try.ntmps3
    go_wp2_with (first
      | (go_at_call 8; refine (FW.out).mono ?_; rintro e w' ⟨rfl, rfl⟩)
      | (go_at_call 9; refine (lives_any _).mono ?_; rintro e w4 ⟨rfl, hb4⟩))
    go_ret
    exact ⟨rfl, hb4⟩

set_option maxRecDepth 100000 in
set_option maxHeartbeats 4000000 in
theorem plays_pos (A : Option Addr) (n c : Nat) (l : List UInt8) (b2 off2 n2 c2 : Nat) (ll : List (Int × List UInt8)) (w : World) (h : Bytes8 w A n c l) (hn : n ≤ 6000) (h2 : Stp w (some ⟨b2, off2, none⟩) n2 c2 ll) (hp : 0 < n2) (hR : ∀ s ∈ ll, s.2.length ≤ 140737488351232) (hf : fewB ll = true) :
    Calls Try.prog 3 #[.slice A n c, .slice (some ⟨b2, off2, none⟩) n2 c2] w fun e w' => e = .returned (.bool true) ∧ Below w.heap.size w w' := by
  have hlen := h.len
  obtain ⟨q, hq⟩ : ∃ q, q = n / 256 := ⟨_, rfl⟩
  have hL : Hid ((l.take (q * 256)).length = q * 256) := by show _ = _; rw [List.length_take]; omega
  have FW := Lib.hid (few_any _ n2 c2 ll w h2 hR)
  have FO : Hid (Calls Try.prog 10 #[.slice A n c] w fun e w' => ∃ p g, e = .returned (.pointer (some ⟨p, 0, none⟩)) ∧ Img w' w.heap.size p g (l.take (q * 256)) ∧ Below w.heap.size w w') := by
    have := Of_any _ n c l w h
    rwa [whole_small hn, ← hq] at this
  have FR : Hid (∀ W, Below w.heap.size w W → Calls Try.prog 11 #[.slice A n c] W fun e w' => ∃ v, e = .returned (.pointer (some ⟨W.heap.size, 0, none⟩)) ∧ RImg w' W.heap.size W.heap.size v (blks (l.take (q * 256)) q) ∧ Below W.heap.size W w') := fun W hb => by
    have := refOf_any A n c l W (h.below hb) hn
    have e : blks l q = blks (l.take (q * 256)) q := by
      unfold blks
      exact List.map_congr_left fun j hj => (blk_take (List.mem_range.1 hj)).symm
    rw [← hq, e] at this
    exact this
  rw [hf] at FW
  obtain ⟨b', off', e, hb2, hcell⟩ := h2.lit hp
  cases e
  have HS := Lib.hid hcell
  have HN := Lib.hid h2.len
  have hcap2 := h2.cap
  have hmost2 := h2.most
  clear hcell h2 hR hf
  generalize l.take (q * 256) = L0 at *
  clear h hlen hq
  go_enter Try.func3, Try.ntmps3
  go_wp2_with (first
    | (go_at_call 8; refine (FW.out).mono ?_; rintro e w' ⟨rfl, rfl⟩)
    | (go_at_call 10; refine (FO.out).mono ?_; rintro e w1 ⟨p, g, rfl, hI1, hb1⟩)
    | (go_at_call 11; (with_reducible refine (FR.out _ hb1).mono ?_); rintro e w2 ⟨v, rfl, hR2, hb2'⟩))
  have HT0 : Hid (Two w p g w1.heap.size v L0 (blks L0 q) w2) := ⟨hb1.trans (hb2'.mono hb1.size), hI1.later hb2', ⟨hb1.size, hR2.hp, hR2.own⟩⟩
  have hgp : g < w1.heap.size := hI1.glt
  have hpp : p < w1.heap.size := hI1.plt
  clear hI1 hR2 hb1 hb2' FO FR FW
  generalize w1.heap.size = p2 at *
  have hvf : ∃ Av cv, v = .slice Av q cv ∧ q ≤ cv ∧ cv ≤ 9223372036854775807 := by
    obtain ⟨Av, cv, hv, h1, h2, _⟩ := HT0.out.ref.form
    rw [blks_length] at hv h1
    exact ⟨Av, cv, hv, h1, h2⟩
  obtain ⟨Av, cv, hv, hq1, hq2⟩ := hvf
  go_loopw [7] (fun i wr => ∃ (j : Nat) (L : List UInt8), j ≤ n2 ∧ i = .int .i64 j ∧ Hid (L.length = q * 256) ∧ Hid (Two w p g p2 v L (blks L q) wr)) (fun i _ => n2 - (intOf i).toNat)
  case atStart => exact ⟨0, L0, by omega, rfl, hL, HT0⟩
  case round =>
    obtain ⟨j, L, hj, rfl, HL, HT⟩ := hrel
    by_cases hlt : j < n2
    · have hjl : j < ll.length := by have := HN.out; omega
      obtain ⟨A', m', c', hc0, hc1, hB0⟩ := HS.out j hjl
      have hix : off2 + j * 2 + 1 = off2 + (j * 2 + 1) := by omega
      have hd : ∀ W, Below w.heap.size w W → W.cell? ⟨b2, off2 + j * 2, none⟩ = some (.int .i64 ll[j].1) ∧ W.cell? ⟨b2, off2 + (j * 2 + 1), none⟩ = some (.slice A' m' c') := fun W hW => ⟨(hW.cell (p := ⟨b2, off2 + j * 2, none⟩) hb2).trans hc0, (hW.cell (p := ⟨b2, off2 + (j * 2 + 1), none⟩) hb2).trans hc1⟩
      obtain ⟨kk, hkk⟩ : ∃ kk, kk = ll[j].1 := ⟨_, rfl⟩
      obtain ⟨lb, hlb⟩ : ∃ lb, lb = ll[j].2 := ⟨_, rfl⟩
      rw [← hlb] at hB0
      simp only [← hkk] at hd
      have HD := Lib.hid hd
      have hbl := hB0.len
      obtain ⟨L', hL'⟩ : ∃ L', L' = wL q kk m' L lb := ⟨_, rfl⟩
      have HL' : Hid (L'.length = q * 256) := by show _ = _; rw [hL']; exact wL_length HL.out hbl
      have hM := wM_blks (k := kk) HL.out hbl
      rw [← hL'] at hM
      have HWi : Hid (∀ W M, Two w p g p2 v L M W → Calls Try.prog 12 #[.pointer (some ⟨p, 0, none⟩), .int .i64 kk, .slice A' m' c'] W fun e w' => e = .returned (.int .i64 (wE q kk m')) ∧ Two w p g p2 v L' M w' ∧ w'.cell? ⟨b2, off2 + j * 2, none⟩ = some (.int .i64 kk) ∧ w'.cell? ⟨b2, off2 + (j * 2 + 1), none⟩ = some (.slice A' m' c')) := fun W M hW => (hW.write kk A' m' c' lb HL.out hgp hB0).mono fun e w' ⟨h1, h2⟩ => ⟨h1, by rw [hL']; exact h2, HD.out _ h2.bel⟩
      have HWr : Hid (∀ W K, Two w p g p2 v K (blks L q) W → Calls Try.prog 13 #[.pointer (some ⟨p2, 0, none⟩), .int .i64 kk, .slice A' m' c'] W fun e w' => e = .returned (.int .i64 (wE q kk m')) ∧ Two w p g p2 v K (blks L' q) w' ∧ w'.cell? ⟨b2, off2 + j * 2, none⟩ = some (.int .i64 kk) ∧ w'.cell? ⟨b2, off2 + (j * 2 + 1), none⟩ = some (.slice A' m' c')) := fun W K hW => (hW.refWrite kk A' m' c' lb (blks_length L q) hgp hpp hB0).mono fun e w' ⟨h1, h2⟩ => ⟨h1, by rw [← hM]; exact h2, HD.out _ h2.bel⟩
      have HRi : Hid (∀ W, Two w p g p2 v L' (blks L' q) W → Calls Try.prog 14 #[.pointer (some ⟨p, 0, none⟩), .int .i64 kk] W fun e w' => ∃ A, e = .returned (.tuple #[.slice A (rN q kk) (rN q kk), .int .i64 (rE q kk)]) ∧ Bytes8 w' A (rN q kk) (rN q kk) (rB q kk L') ∧ Below W.heap.size W w' ∧ Two w p g p2 v L' (blks L' q) w') := fun W hW => hW.read kk HL'.out
      have HRr : Hid (∀ W, Two w p g p2 v L' (blks L' q) W → Calls Try.prog 15 #[.pointer (some ⟨p2, 0, none⟩), .int .i64 kk] W fun e w' => ∃ A c, e = .returned (.tuple #[.slice A (rN q kk) c, .int .i64 (rE q kk)]) ∧ Bytes8 w' A (rN q kk) c (rB q kk L') ∧ Below W.heap.size W w' ∧ Two w p g p2 v L' (blks L' q) w') := fun W hW => hW.refRead kk HL'.out
      have HKi : Hid (∀ W, Two w p g p2 v L' (blks L' q) W → Calls Try.prog 16 #[.pointer (some ⟨p, 0, none⟩)] W fun e w' => e = .returned (.int .i64 (q : Int)) ∧ W = w') := fun W hW => Blocks_img W hW.img HL'.out
      have hdd := HD.out wr.drew HT.out.bel.drew
      obtain ⟨hd0, hd1⟩ := hdd
      have hee := HD.out wr HT.out.bel
      obtain ⟨he0, he1⟩ := hee
      have hTd : Two w p g p2 v L (blks L q) wr.drew := HT.out.later ((Below.refl _ _).drew)
      generalize wE q kk m' = xw at *
      generalize rE q kk = xr at *
      generalize rN q kk = nr at *
      generalize rB q kk L' = br at *
      clear hB0 hc0 hc1 hd hkk hlb hbl hL' hM HT HL
      go_wp2
      go_region_held3 (fun W => W.cell? ⟨b2, off2 + j * 2, none⟩ = some (.int .i64 kk) ∧ W.cell? ⟨b2, off2 + (j * 2 + 1), none⟩ = some (.slice A' m' c'))
        (first | exact ⟨hf0, hf1⟩ | exact ⟨hi0, hi1⟩ | exact ⟨hr0, hr1⟩ | exact ⟨hd0, hd1⟩)
        (first
        | (go_at_call 12; first
            | (refine (HWi.out _ _ hTr).mono ?_; rintro e w4 ⟨rfl, hTF, hf0, hf1⟩)
            | (refine (HWi.out _ _ hTd).mono ?_; rintro e w3 ⟨rfl, hTi, hi0, hi1⟩))
        | (go_at_call 13; first
            | (refine (HWr.out _ _ hTi).mono ?_; rintro e w4 ⟨rfl, hTF, hf0, hf1⟩)
            | (refine (HWr.out _ _ hTd).mono ?_; rintro e w3 ⟨rfl, hTr, hr0, hr1⟩)))
      all_goals
        clear hTd hd0 hd1 he0 he1
        have hgg := HD.out _ hTF.bel
        obtain ⟨hg0, hg1⟩ := hgg
        go_wp2_with (first
          | (go_at_call 14; (with_reducible refine (HRi.out _ hTF).mono ?_); rintro e w5 ⟨A8, rfl, hB8, hb8, hT8⟩; have hgg := HD.out _ hT8.bel; obtain ⟨hh0, hh1⟩ := hgg)
          | (go_at_call 15; (with_reducible refine (HRr.out _ hT8).mono ?_); rintro e w6 ⟨A9, c9, rfl, hB9, hb9, hT9⟩))
        have hT9d : Two w p g p2 v L' (blks L' q) w6.drew := hT9.later ((Below.refl _ _).drew)
        have hk0 : w6.drew.cell? ⟨p2, 0, none⟩ = some (.slice Av q cv) := by rw [← hv]; exact hT9d.ref.cell
        have hk1 : (convert 22 9 (.slice A8 nr nr)).run Try.prog w6.drew = .ok (.string ⟨br.toArray⟩) w6.drew := run_text (hB8.below (hb9.drew))
        have hk2 : (convert 22 9 (.slice A9 nr c9)).run Try.prog w6.drew = .ok (.string ⟨br.toArray⟩) w6.drew := run_text (hB9.below ((Below.refl _ _).drew))
        clear hB8 hB9 hb8 hb9 hT8 hh0 hh1 hg0 hg1 hf0 hf1 hi0 hi1 hTi hTF hT9
        go_region_held3 (fun W => W.cell? ⟨p2, 0, none⟩ = some (.slice Av q cv) ∧ (convert 22 9 (.slice A8 nr nr)).run Try.prog W = .ok (.string ⟨br.toArray⟩) W ∧ (convert 22 9 (.slice A9 nr c9)).run Try.prog W = .ok (.string ⟨br.toArray⟩) W)
          (first | exact ⟨hk0, hk1, hk2⟩)
          (first | (go_at_call 16; refine (HKi.out _ hT9d).mono ?_; rintro e w' ⟨rfl, rfl⟩))
        all_goals go_wp2
        all_goals go_roundw
        case rel => exact ⟨j + 1, L', by omega, by go_num, HL', Lib.hid hT9d⟩
        case measure => simp [intOf]; omega
    · obtain rfl : j = n2 := by omega
      have HBt : Hid (∀ W, Two w p g p2 v L (blks L q) W → Calls Try.prog 17 #[.pointer (some ⟨p, 0, none⟩)] W fun e w' => ∃ A, e = .returned (.slice A L.length L.length) ∧ Bytes8 w' A L.length L.length L ∧ Below W.heap.size W w' ∧ Two w p g p2 v L (blks L q) w') := fun W hW => hW.bytes
      have HBr : Hid (∀ W, Two w p g p2 v L (blks L q) W → Calls Try.prog 18 #[.pointer (some ⟨p2, 0, none⟩)] W fun e w' => ∃ A c, e = .returned (.slice A L.length c) ∧ Bytes8 w' A L.length c L ∧ Below W.heap.size W w' ∧ Two w p g p2 v L (blks L q) w') := fun W hW => hW.refBytes (blks_flatten L q HL.out)
      have hTd : Two w p g p2 v L (blks L q) wr.drew := HT.out.later ((Below.refl _ _).drew)
      clear HT
      go_wp2
      go_region_with (first
        | (go_at_call 17; refine (HBt.out _ (by assumption)).mono ?_; rintro e w3 ⟨A3, rfl, hB3, hb3, hN⟩; have cv3 := run_text hB3; (first | (have cv4 := run_text (hB4.below hb3)) | skip))
        | (go_at_call 18; refine (HBr.out _ (by assumption)).mono ?_; rintro e w4 ⟨A4, c4, rfl, hB4, hb4, hN⟩; have cv4 := run_text hB4; (first | (have cv3 := run_text (hB3.below hb4)) | skip))
        | (go_at_call 9; refine (lives_any _).mono ?_; rintro e w7 ⟨rfl, hb7⟩; have hN := hN.later hb7))
      all_goals go_wp2
      all_goals go_ret
      all_goals exact ⟨rfl, hN.bel⟩

set_option maxRecDepth 100000 in
set_option maxHeartbeats 4000000 in
theorem plays_none (A : Option Addr) (n c : Nat) (l : List UInt8) (A2 : Option Addr) (c2 : Nat) (w : World) (h : Bytes8 w A n c l) (hn : n ≤ 6000) (h2 : Stp w A2 0 c2 []) :
    Calls Try.prog 3 #[.slice A n c, .slice A2 0 c2] w fun e w' => e = .returned (.bool true) ∧ Below w.heap.size w w' := by
  have hlen := h.len
  obtain ⟨q, hq⟩ : ∃ q, q = n / 256 := ⟨_, rfl⟩
  have hL : Hid ((l.take (q * 256)).length = q * 256) := by show _ = _; rw [List.length_take]; omega
  have FW := Lib.hid (few_any A2 0 c2 [] w h2 (by simp))
  have FO : Hid (Calls Try.prog 10 #[.slice A n c] w fun e w' => ∃ p g, e = .returned (.pointer (some ⟨p, 0, none⟩)) ∧ Img w' w.heap.size p g (l.take (q * 256)) ∧ Below w.heap.size w w') := by
    have := Of_any _ n c l w h
    rwa [whole_small hn, ← hq] at this
  have FR : Hid (∀ W, Below w.heap.size w W → Calls Try.prog 11 #[.slice A n c] W fun e w' => ∃ v, e = .returned (.pointer (some ⟨W.heap.size, 0, none⟩)) ∧ RImg w' W.heap.size W.heap.size v (blks (l.take (q * 256)) q) ∧ Below W.heap.size W w') := fun W hb => by
    have := refOf_any A n c l W (h.below hb) hn
    have e : blks l q = blks (l.take (q * 256)) q := by
      unfold blks
      exact List.map_congr_left fun j hj => (blk_take (List.mem_range.1 hj)).symm
    rw [← hq, e] at this
    exact this
  have hf : fewB [] = true := rfl
  rw [hf] at FW
  clear h2 hf
  generalize l.take (q * 256) = L0 at *
  clear h hlen hq
  go_enter Try.func3, Try.ntmps3
  go_wp2_with (first
    | (go_at_call 8; refine (FW.out).mono ?_; rintro e w' ⟨rfl, rfl⟩)
    | (go_at_call 10; refine (FO.out).mono ?_; rintro e w1 ⟨p, g, rfl, hI1, hb1⟩)
    | (go_at_call 11; (with_reducible refine (FR.out _ hb1).mono ?_); rintro e w2 ⟨v, rfl, hR2, hb2'⟩))
  have HT0 : Hid (Two w p g w1.heap.size v L0 (blks L0 q) w2) := ⟨hb1.trans (hb2'.mono hb1.size), hI1.later hb2', ⟨hb1.size, hR2.hp, hR2.own⟩⟩
  have hgp : g < w1.heap.size := hI1.glt
  have hpp : p < w1.heap.size := hI1.plt
  clear hI1 hR2 hb1 hb2' FO FR FW
  generalize w1.heap.size = p2 at *
  have hvf : ∃ Av cv, v = .slice Av q cv ∧ q ≤ cv ∧ cv ≤ 9223372036854775807 := by
    obtain ⟨Av, cv, hv, h1, h2, _⟩ := HT0.out.ref.form
    rw [blks_length] at hv h1
    exact ⟨Av, cv, hv, h1, h2⟩
  obtain ⟨Av, cv, hv, hq1, hq2⟩ := hvf
  have HL := hL
  have HT := HT0
  generalize L0 = L at *
  refine wp_loop_rounds 1 ?_
  rw [rounds_succ]
  have HBt : Hid (∀ W, Two w p g p2 v L (blks L q) W → Calls Try.prog 17 #[.pointer (some ⟨p, 0, none⟩)] W fun e w' => ∃ A, e = .returned (.slice A L.length L.length) ∧ Bytes8 w' A L.length L.length L ∧ Below W.heap.size W w' ∧ Two w p g p2 v L (blks L q) w') := fun W hW => hW.bytes
  have HBr : Hid (∀ W, Two w p g p2 v L (blks L q) W → Calls Try.prog 18 #[.pointer (some ⟨p2, 0, none⟩)] W fun e w' => ∃ A c, e = .returned (.slice A L.length c) ∧ Bytes8 w' A L.length c L ∧ Below W.heap.size W w' ∧ Two w p g p2 v L (blks L q) w') := fun W hW => hW.refBytes (blks_flatten L q HL.out)
  have hTd : Two w p g p2 v L (blks L q) w2.drew := HT.out.later ((Below.refl _ _).drew)
  clear HT
  go_wp2
  go_region_with (first
    | (go_at_call 17; refine (HBt.out _ (by assumption)).mono ?_; rintro e w3 ⟨A3, rfl, hB3, hb3, hN⟩; have cv3 := run_text hB3; (first | (have cv4 := run_text (hB4.below hb3)) | skip))
    | (go_at_call 18; refine (HBr.out _ (by assumption)).mono ?_; rintro e w4 ⟨A4, c4, rfl, hB4, hb4, hN⟩; have cv4 := run_text hB4; (first | (have cv3 := run_text (hB3.below hb4)) | skip))
    | (go_at_call 9; refine (lives_any _).mono ?_; rintro e w7 ⟨rfl, hb7⟩; have hN := hN.later hb7))
  all_goals go_wp2
  all_goals go_ret
  all_goals exact ⟨rfl, hN.bel⟩

theorem plays_walk (A : Option Addr) (n c : Nat) (l : List UInt8) (A2 : Option Addr) (n2 c2 : Nat) (ll : List (Int × List UInt8)) (w : World) (h : Bytes8 w A n c l) (h2 : Stp w A2 n2 c2 ll) (hR : ∀ s ∈ ll, s.2.length ≤ 140737488351232) :
    Calls Try.prog 3 #[.slice A n c, .slice A2 n2 c2] w fun e w' => e = .returned (.bool true) ∧ Below w.heap.size w w' := by
  by_cases hbig : 6000 < n ∨ fewB ll = false
  · exact plays_big A A2 n c n2 c2 ll w h.le h2 hR hbig
  · have hn : n ≤ 6000 := by omega
    have hf : fewB ll = true := by cases hfb : fewB ll with
      | true => rfl
      | false => exact absurd (.inr hfb) hbig
    by_cases hp : 0 < n2
    · obtain ⟨b2, off2, rfl, _, _⟩ := h2.lit hp
      exact plays_pos A n c l b2 off2 n2 c2 ll w h hn h2 hp hR hf
    · obtain rfl : n2 = 0 := by omega
      obtain rfl : ll = [] := List.eq_nil_of_length_eq_zero h2.len
      exact plays_none A n c l A2 c2 w h hn h2

end Go.Proofs.Ytadoclbalcecpaa
