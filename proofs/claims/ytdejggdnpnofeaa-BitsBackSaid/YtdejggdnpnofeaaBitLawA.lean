/-
  The walk of BitsBack.
-/
import Derived.Test.YtdejggdnpnofeaaBitC
import Derived.Test.YtdejggdnpnofeaaMemI
import Derived.Test.YtdejggdnpnofeaaMemG
import Derived.Deep.QuietTactic
import Derived.BigQuiet
namespace Go.Proofs.Ytdejggdnpnofeaa
open Go.RowKit
set_option linter.unusedVariables false
set_option linter.unusedSimpArgs false

/-- what stands at the law's end: the bytes are read; of what was read the bytes are those -/
structure EndB (w : World) (A : Option Addr) (q c : Nat) (x : Int) (m : Nat) (F : List Int) (z : ByteArray) : Prop where
  rd : ∀ W, Below w.heap.size w W → Calls Try.prog 11 #[.slice A q c] W fun e w' => ∃ A' c', e = .returned (.tuple #[.slice A' m c', .int .i64 x]) ∧ Ints w' A' m c' F ∧ Below w.heap.size w w'
  wr : ∀ W A' c', Below w.heap.size w W → x = 0 → Ints W A' m c' F → Calls Try.prog 7 #[.slice A' m c'] W fun e w' => ∃ g, e = .returned (.tuple #[.slice (some ⟨g, 0, none⟩) 244 244, .int .i64 0]) ∧ (convert 24 9 (.slice (some ⟨g, 0, none⟩) 244 244)).run Try.prog w' = .ok (.string z) w' ∧ (convert 24 9 (.slice A q c)).run Try.prog w' = .ok (.string z) w' ∧ Below w.heap.size w w'
  lv : ∀ W, Below w.heap.size w W → Calls Try.prog 6 #[] W fun e w' => e = .returned (.bool true) ∧ Below w.heap.size w w'

theorem endB {w : World} {A : Option Addr} {q c : Nat} {l : List UInt8} (h : Bytes8 w A q c l) : ∃ x m F z, (x = 0 ∨ x = 7 ∧ m = 0) ∧ EndB w A q c x m F z := by
  refine ⟨readBE9 l, (readBL9 l).length, readBL9 l, ⟨l.toArray⟩, ?_, ?_, ?_, ?_⟩
  · rcases readBE9_cases l with ⟨e0, _⟩ | ⟨e0, _⟩
    · exact .inl e0
    · refine .inr ⟨e0, ?_⟩
      rcases readBE9_cases l with ⟨e1, _⟩ | ⟨_, e1, _⟩
      · rw [e0] at e1; cases e1
      · rw [e1]; rfl
  · intro W hW
    refine (BRead_any A q c l W (h.below hW)).mono ?_
    rintro e w' ⟨A', m, c', rfl, hI, hb⟩
    obtain rfl := hI.len
    exact ⟨A', c', rfl, hI, hW.trans (hb.mono hW.size)⟩
  · intro W A' c' hW e0 hI
    rcases readBE9_cases l with ⟨_, e1, h1, h2, h3⟩ | ⟨e7, _⟩
    · rw [e1] at hI ⊢
      refine (BPut_good A' _ c' _ W hI (readBits_ok h2)).mono ?_
      rintro e w' ⟨g, rfl, hO, hb⟩
      rw [h3] at hO
      exact ⟨g, rfl, run_str (hO.bytes (n := 244) h1 (by omega)), run_str (h.below (hW.trans (hb.mono hW.size))), hW.trans (hb.mono hW.size)⟩
    · rw [e7] at e0; cases e0
  · intro W hW
    exact (lives9_any W).mono fun e w' ⟨h1, h2⟩ => ⟨h1, hW.trans (h2.mono hW.size)⟩

set_option maxRecDepth 100000 in
set_option maxHeartbeats 1600000 in
theorem bback_long (A : Option Addr) (n c : Nat) (A2 : Option Addr) (n2 c2 : Nat) (a0 t0 : Int) (w : World) (hn : n ≤ 9223372036854775807) (h : 2000 < n) :
    Calls Try.prog 5 #[.slice A n c, .slice A2 n2 c2, .int .i64 a0, .int .i64 t0] w fun e w' => e = .returned (.bool true) ∧ Below w.heap.size w w' := by
  go_enter Try.func5, Try.ntmps5
  go_wp2_with (go_at_call 6; (with_reducible refine (lives9_any _).mono ?_); rintro e w1 ⟨rfl, hb1⟩)
  go_ret
  exact ⟨rfl, hb1⟩

set_option maxRecDepth 100000 in
set_option maxHeartbeats 3200000 in
theorem bback_bad (A : Option Addr) (n c : Nat) (l : List Int) (A2 : Option Addr) (n2 c2 : Nat) (l2 : List UInt8) (a0 t0 : Int) (w : World) (h : Ints w A n c l) (hn : n ≤ 2000) (h2 : Bytes8 w A2 n2 c2 l2) (hr : okB9 l = false) :
    Calls Try.prog 5 #[.slice A n c, .slice A2 n2 c2, .int .i64 a0, .int .i64 t0] w fun e w' => e = .returned (.bool true) ∧ Below w.heap.size w w' := by
  obtain ⟨q, l', hB, hq, hcase⟩ := cut_bytes 600 h2
  have hn2 := h2.le
  obtain ⟨x, m3, F, z, hx, hE⟩ := endB hB
  have E := Lib.hid hE
  have P := Lib.hid (BPut_bad A n c l w h hr)
  clear h h2 hr hB hE
  rcases hcase with ⟨h1, h3, rfl⟩ | ⟨h1, rfl⟩
  all_goals rcases hx with rfl | ⟨rfl, rfl⟩
  all_goals go_enter Try.func5, Try.ntmps5
  all_goals go_wp2_with (first
    | (go_at_call 7; (with_reducible refine (P.out).mono ?_); rintro e w' ⟨rfl, rfl⟩)
    | (go_at_call 11; (with_reducible refine (E.out.rd _ (Below.refl _ _)).mono ?_); rintro e w3 ⟨A3, c3, rfl, hI3, hb3⟩)
    | (go_at_call 7; (with_reducible refine (E.out.wr _ _ _ hb3 rfl hI3).mono ?_); rintro e w4 ⟨g4, rfl, cv1, cv2, hb4⟩)
    | (go_at_call 6; (with_reducible refine (E.out.lv _ (by first | assumption | exact hb4.drew)).mono ?_); rintro e w5 ⟨rfl, hb5⟩))
  all_goals go_ret
  all_goals exact ⟨rfl, hb5⟩

/-- what was put is read -/
theorem bits_rd {g : Nat} {l : List Int} (W : World) {B : Nat} (hO : Own8 W B g (encBits l)) (hr : okB9 l = true) :
    Calls Try.prog 11 #[.slice (some ⟨g, 0, none⟩) 244 244] W fun e w' => ∃ A' c', e = .returned (.tuple #[.slice A' l.length c', .int .i64 0]) ∧ Ints w' A' l.length c' l ∧ Below W.heap.size W w' := by
  refine (BRead_any _ 244 244 _ W (hO.bytes (n := 244) (encBits_length l) (by omega))).mono ?_
  rintro e w' ⟨A', m, c', rfl, hI, hb⟩
  have e0 := bits_readE hr
  rw [readBL9, if_pos e0, bits_read hr] at hI
  rw [e0]
  obtain rfl := hI.len
  exact ⟨A', c', rfl, hI, hb⟩

/-- which count is set -/
theorem bits_idx (x : Int) {n : Nat} (h : 0 < n) (hn : n ≤ 2000) : ∃ K : Nat, K < n ∧ (wrap64 (x.tmod (n : Int) + (n : Int))).tmod (n : Int) = (K : Int) := by
  have h1 := Int.tmod_lt_of_pos x (show (0 : Int) < n by omega)
  have h2 := Int.lt_tmod_of_pos x (show (0 : Int) < n by omega)
  generalize x.tmod n = y at *
  have e : wrap64 (y + n) = y + n := by unfold wrap64; omega
  rw [e]
  have h3 := Int.tmod_lt_of_pos (y + n) (show (0 : Int) < n by omega)
  have h4 := Int.tmod_nonneg (n : Int) (show 0 ≤ y + n by omega)
  obtain ⟨K, hK⟩ := Int.eq_ofNat_of_zero_le h4
  exact ⟨K, by omega, hK⟩

/-- a row of integers of the call's own, one of them set -/
theorem own_setI {w : World} {base n : Nat} {v : Value} {l : List Int} (h : w.ownsRow base 3 1 v n (i64s l)) (hl : l.length = n) {K : Nat} (hK : K < n) :
    ∃ g c, v = .slice (some ⟨g, 0, none⟩) n c ∧ base ≤ g ∧ n ≤ c ∧ (∃ x, w.cell? ⟨g, K, none⟩ = some (.int .i64 x)) ∧ w.frozen? ⟨g, K, none⟩ = false ∧ ∀ x, Ints (w.setCell ⟨g, K, none⟩ (.int .i64 x)) (some ⟨g, 0, none⟩) n c (l.set K x) := by
  obtain ⟨A, c, rfl, h1, h2⟩ := ownsRow_form h
  have hA : ∃ g, A = some ⟨g, 0, none⟩ ∧ base ≤ g := by
    rcases h.2 with ⟨hv, h0⟩ | ⟨g, cap, cur, hv, hg, _⟩
    · omega
    · injection hv with h1
      exact ⟨g, h1, hg⟩
  obtain ⟨g, rfl, hg⟩ := hA
  refine ⟨g, c, rfl, hg, h1, ?_, h.frozenAt K, fun x => ?_⟩
  · rw [h.cellAt K (by omega)]
    exact ⟨_, i64s_at l K (by omega)⟩
  · have hs := (h.stored K (.int .i64 x)).1
    have e : (i64s l).set K (.int .i64 x) = i64s (l.set K x) := by simp only [i64s, List.map_set]
    rw [e] at hs
    obtain ⟨A', c', hv, hI⟩ := Ints.of_own hs
    cases hv
    exact hI

theorem bits_set_ok {l : List Int} (h : okB9 l = true) (K : Nat) {v : Int} (hv : 0 ≤ v ∧ v ≤ 3) : okB9 (l.set K v) = true := by
  obtain ⟨h1, h2⟩ := okB9_iff.1 h
  rw [okB9_iff, List.length_set]
  refine ⟨h1, fun x hx => ?_⟩
  rcases List.mem_or_eq_of_mem_set hx with hx | rfl
  · exact h2 x hx
  · exact hv

set_option maxRecDepth 100000 in
set_option maxHeartbeats 3200000 in
theorem bback_good (A : Option Addr) (n c : Nat) (l : List Int) (A2 : Option Addr) (n2 c2 : Nat) (l2 : List UInt8) (a0 t0 : Int) (w : World) (h : Ints w A n c l) (hn : n ≤ 2000) (hp : 0 < n) (h2 : Bytes8 w A2 n2 c2 l2) (hr : okB9 l = true) :
    Calls Try.prog 5 #[.slice A n c, .slice A2 n2 c2, .int .i64 a0, .int .i64 t0] w fun e w' => e = .returned (.bool true) ∧ Below w.heap.size w w' := by
  obtain ⟨q, l', hB, hq, hcase⟩ := cut_bytes 600 h2
  have hn2 := h2.le
  obtain ⟨x, m3, F, z, hx, hE⟩ := endB hB
  have E := Lib.hid hE
  have P := Lib.hid (BPut_good A n c l w h hr)
  have hl := h.len
  have RD : Hid (∀ (W : World) (g : Nat), Own8 W w.heap.size g (encBits l) → Calls Try.prog 11 #[.slice (some ⟨g, 0, none⟩) 244 244] W fun e w' => ∃ b3 o3 c', e = .returned (.tuple #[.slice (some ⟨b3, o3, none⟩) n c', .int .i64 0]) ∧ n ≤ c' ∧ b3 < w'.heap.size ∧ (∀ k (h : k < l.length), w'.cell? ⟨b3, o3 + k, none⟩ = some (.int .i64 l[k])) ∧ Below W.heap.size W w') := fun W g hO =>
    (bits_rd W hO hr).mono fun e w' ⟨A', c', h1, hI, hb⟩ => by
      rw [hl] at h1 hI
      obtain ⟨b3, o3, rfl, hlt, hcell⟩ := hI.row.lit (by rw [i64s_length]; omega)
      exact ⟨b3, o3, c', h1, hI.cap, hlt, fun k hk => hcell k _ (i64s_at l k hk), hb⟩
  obtain ⟨b, off, rfl, hb, hcell⟩ := h.row.lit (by rw [i64s_length]; omega)
  have HC := Lib.hid hcell
  have HL := Lib.hid hl
  have HA := Lib.hid h
  have HR := Lib.hid hr
  have hcap := h.cap
  obtain ⟨K, hK, eK⟩ := bits_idx a0 hp hn
  obtain ⟨v, hv, ev⟩ : ∃ v : Int, (0 ≤ v ∧ v ≤ 3) ∧ bits .and .i64 t0 3 = v := ⟨_, by rw [bit_and3]; omega, rfl⟩
  have PG : Hid (∀ (W : World) (A' : Option Addr) (c' : Nat), Ints W A' n c' (l.set K v) → Calls Try.prog 7 #[.slice A' n c'] W fun e w' => ∃ g, e = .returned (.tuple #[.slice (some ⟨g, 0, none⟩) 244 244, .int .i64 0]) ∧ Own8 w' W.heap.size g (encBits (l.set K v)) ∧ Below W.heap.size W w') := fun W A' c' hI => BPut_good A' n c' _ W hI (bits_set_ok hr K hv)
  have SET : Hid (∀ (W : World) (B g j : Nat) (hj : j < (encBits l).length), j ≠ 4 + K / 4 → Own8 W B g (encBits (l.set K v)) → W.cell? ⟨g, j, none⟩ = some (.int .u8 ((encBits l)[j].toNat : Int))) := fun W B g j hj hne hO => by
    have hj2 : j < (encBits (l.set K v)).length := by rw [encBits_length] at hj ⊢; exact hj
    have := encBits_set (l := l) (k := K) v hne
    rw [List.getElem?_eq_getElem hj, List.getElem?_eq_getElem hj2] at this
    exact (hO.cell hj2).trans (congrArg (fun b : UInt8 => some (Value.int .u8 (b.toNat : Int))) (Option.some.inj this))
  have HLen := Lib.hid (encBits_length l)
  clear h h2 hr hB hE hl hcell hv
  rcases hcase with ⟨h1, h3, rfl⟩ | ⟨h1, rfl⟩
  all_goals go_enter Try.func5, Try.ntmps5
  all_goals go_wp2_with (first
    | (go_at_call 7; (with_reducible refine (P.out).mono ?_); rintro e w1 ⟨g1, rfl, hO1, hb1⟩; have HO1 := Lib.hid hO1; clear hO1)
    | (go_at_call 11; (with_reducible refine (RD.out _ _ HO1.out).mono ?_); rintro e w2 ⟨b3, o3, c3, rfl, hc3, hb3, hcell3, hb2⟩; have HC3 := Lib.hid hcell3; clear hcell3))
  all_goals go_loopw [13] (fun i wr => ∃ k : Nat, k ≤ n ∧ i = .int .i64 k ∧ Hid (Below w2.heap.size w2 wr)) (fun i _ => n - (intOf i).toNat)
  all_goals first
    | exact ⟨0, by omega, rfl, Below.refl _ _⟩
    | skip
  all_goals
    obtain ⟨k, hk, rfl, hbr⟩ := hrel
    by_cases hlt : k < n
    · have hkl : k < l.length := by have := HL.out; omega
      have hbw : b < w2.heap.size := by have := hb1.size; have := hb2.size; omega
      have hc0 : wr.cell? ⟨b3, o3 + k, none⟩ = some (.int .i64 l[k]) := (hbr.out.cell (p := ⟨b3, o3 + k, none⟩) hb3).trans (HC3.out k hkl)
      have hc1 : wr.cell? ⟨b, off + k, none⟩ = some (.int .i64 l[k]) := (hbr.out.cell (p := ⟨b, off + k, none⟩) hbw).trans ((hb2.cell (p := ⟨b, off + k, none⟩) (by have := hb1.size; show b < _; omega)).trans ((hb1.cell (p := ⟨b, off + k, none⟩) hb).trans (HC.out _ _ (i64s_at l k hkl))))
      generalize l[k] = v at *
      go_wp2
      go_quiet (fail)
      go_wp2
      go_roundw
      case rel => exact ⟨k + 1, by omega, by go_num, below_drewN hbr.out _⟩
      case measure => simp [intOf]; omega
    · obtain rfl : k = n := by omega
      clear hk hlt
      go_wp2_with (first
        | (at_builtin; refine wpList_append_row _ rfl (.tmp 86) (.tmp 87) 22 rfl wr.heap.size 3 (.int .i64 0) 8 Try.underlying22 info_i64 rfl _ 0 [] rfl (own_empty wr 3) (by simp) (some ⟨b, off, none⟩) (i64s l) k c rfl (by rw [i64s_length]; exact HL.out) ((HA.out.row.below (hb1.trans ((hb2.mono hb1.size).trans (hbr.out.mono (Nat.le_trans hb1.size hb2.size))))).below ((Below.refl _ _).alloc (Nat.le_refl _) _)) (i64s_one _) (by omega) (by omega) ?_; intro v5 w5 hown5 hs5 hb5; obtain ⟨g5, c5, rfl, hg5, hc5, ⟨x5, hx5⟩, hf5, hI5⟩ := own_setI (by have := hown5.out; rw [Nat.zero_add, List.nil_append] at this; exact this) HL.out hK; have HI5 := Lib.hid hI5; clear hown5 hI5)
        | (go_at_call 7; (with_reducible refine (PG.out _ _ _ (HI5.out v)).mono ?_); rintro e w7 ⟨g7, rfl, hO7, hb7⟩; have HO7 := Lib.hid hO7; clear hO7))
      have hq : Below wr.heap.size wr w7 := ((((Below.refl _ _).alloc (Nat.le_refl _) _).trans hb5).setCell (p := ⟨g5, K, none⟩) hg5 _).trans (hb7.mono (by simpa using hs5))
      have hq1 : Below w1.heap.size w1 w7 := (hb2.trans (hbr.out.mono hb2.size)).trans (hq.mono (Nat.le_trans hb2.size hbr.out.size))
      have HB7 : Hid (Below w.heap.size w w7) := hb1.trans (hq1.mono hb1.size)
      have HO1' := Lib.hid (HO1.out.later hq1)
      clear hq hq1 hb1 hb2 hbr hb5 hb7 hs5 HO1 HC3 HI5 PG RD hf5 hx5 hb3 HC HA hg5 hc5 P
      go_loopw [18] (fun i wx => ∃ j : Nat, j ≤ 244 ∧ i = .int .i64 j ∧ Hid (Below w7.heap.size w7 wx)) (fun i _ => 244 - (intOf i).toNat)
      case atStart => exact ⟨0, by omega, rfl, Below.refl _ _⟩
      case round =>
        obtain ⟨j, hj, rfl, hbx⟩ := hrel
        by_cases hlt2 : j < 244
        · by_cases hne : j = 4 + K / 4
          · have hd : ((j : Int) != 4 + (K : Int) / 4) = false := by simp; omega
            have hd2 : decide ((j : Int) = 4 + (K : Int) / 4) = true := decide_eq_true (by omega)
            go_wp2
            go_quiet (fail)
            go_wp2
            go_roundw
            case rel => exact ⟨j + 1, by omega, by go_num, below_drewN hbx.out _⟩
            case measure => simp [intOf]; omega
          · have hd : ((j : Int) != 4 + (K : Int) / 4) = true := by simp; omega
            have hl1 : j < (encBits l).length := by have := HLen.out; omega
            have hc0 := SET.out _ _ _ j hl1 hne (HO7.out.later hbx.out)
            have hc1 := ((HO1'.out.later hbx.out).cell hl1)
            generalize (encBits l)[j].toNat = u at *
            clear hl1
            go_wp2
            go_quiet (fail)
            go_wp2
            go_roundw
            case rel => exact ⟨j + 1, by omega, by go_num, below_drewN hbx.out _⟩
            case measure => simp [intOf]; omega
        · obtain rfl : j = 244 := by omega
          have HBX := Lib.hid (HB7.out.trans (hbx.out.mono HB7.out.size))
          rcases hx with rfl | ⟨rfl, rfl⟩
          all_goals go_wp2_with (first
            | (go_at_call 11; (with_reducible refine (E.out.rd _ HBX.out).mono ?_); rintro e w8 ⟨A8, c8, rfl, hI8, hb8⟩)
            | (go_at_call 7; (with_reducible refine (E.out.wr _ _ _ hb8 rfl hI8).mono ?_); rintro e w9 ⟨g9, rfl, cv1, cv2, hb9⟩)
            | (go_at_call 6; (with_reducible refine (E.out.lv _ (by first | assumption | exact hb9.drew)).mono ?_); rintro e w10 ⟨rfl, hb10⟩))
          all_goals go_ret
          all_goals exact ⟨rfl, hb10⟩

set_option maxRecDepth 100000 in
set_option maxHeartbeats 3200000 in
theorem bback_none (A : Option Addr) (c : Nat) (A2 : Option Addr) (n2 c2 : Nat) (l2 : List UInt8) (a0 t0 : Int) (w : World) (h : Ints w A 0 c []) (h2 : Bytes8 w A2 n2 c2 l2) :
    Calls Try.prog 5 #[.slice A 0 c, .slice A2 n2 c2, .int .i64 a0, .int .i64 t0] w fun e w' => e = .returned (.bool true) ∧ Below w.heap.size w w' := by
  obtain ⟨q, l', hB, hq, hcase⟩ := cut_bytes 600 h2
  have hn2 := h2.le
  obtain ⟨x, m3, F, z, hx, hE⟩ := endB hB
  have E := Lib.hid hE
  have P := Lib.hid (BPut_good A 0 c [] w h (by decide))
  have RD : Hid (∀ (W : World) (g : Nat), Own8 W w.heap.size g (encBits []) → Below w.heap.size w W → Calls Try.prog 11 #[.slice (some ⟨g, 0, none⟩) 244 244] W fun e w' => ∃ A' c', e = .returned (.tuple #[.slice A' 0 c', .int .i64 0]) ∧ Below w.heap.size w w') := fun W g hO hW =>
    (bits_rd W hO (by decide)).mono fun e w' ⟨A', c', h1, hI, hb⟩ => ⟨A', c', h1, hW.trans (hb.mono hW.size)⟩
  clear h h2 hB hE
  rcases hcase with ⟨h1, h3, rfl⟩ | ⟨h1, rfl⟩
  all_goals rcases hx with rfl | ⟨rfl, rfl⟩
  all_goals go_enter Try.func5, Try.ntmps5
  all_goals go_wp2_with (first
    | (go_at_call 7; (with_reducible refine (P.out).mono ?_); rintro e w1 ⟨g1, rfl, hO1, hb1⟩; have HO1 := Lib.hid hO1; clear hO1)
    | (go_at_call 11; (with_reducible refine (RD.out _ _ HO1.out hb1).mono ?_); rintro e w2 ⟨A3, c3, rfl, hb2⟩))
  all_goals refine wp_loop_rounds 1 ?_
  all_goals rw [rounds_succ]
  all_goals go_wp2_with (first
    | (go_at_call 11; (with_reducible refine (E.out.rd _ hb2).mono ?_); rintro e w8 ⟨A8, c8, rfl, hI8, hb8⟩)
    | (go_at_call 7; (with_reducible refine (E.out.wr _ _ _ hb8 rfl hI8).mono ?_); rintro e w9 ⟨g9, rfl, cv1, cv2, hb9⟩)
    | (go_at_call 6; (with_reducible refine (E.out.lv _ (by first | assumption | exact hb9.drew)).mono ?_); rintro e w10 ⟨rfl, hb10⟩))
  all_goals go_ret
  all_goals exact ⟨rfl, hb10⟩

theorem bitsback_walk (A : Option Addr) (n c : Nat) (l : List Int) (A2 : Option Addr) (n2 c2 : Nat) (l2 : List UInt8) (a0 t0 : Int) (w : World) (h : Ints w A n c l) (_hb : ∀ x ∈ l, i64b x) (h2 : Bytes8 w A2 n2 c2 l2) (_ha : i64b a0) (_ht : i64b t0) :
    Calls Try.prog 5 #[.slice A n c, .slice A2 n2 c2, .int .i64 a0, .int .i64 t0] w fun e w' => e = .returned (.bool true) ∧ Below w.heap.size w w' := by
  by_cases hn : n ≤ 2000
  · cases hr : okB9 l with
    | false => exact bback_bad A n c l A2 n2 c2 l2 a0 t0 w h hn h2 hr
    | true =>
      by_cases hp : 0 < n
      · exact bback_good A n c l A2 n2 c2 l2 a0 t0 w h hn hp h2 hr
      · obtain rfl : n = 0 := by omega
        obtain rfl : l = [] := List.eq_nil_of_length_eq_zero h.len
        exact bback_none A c A2 n2 c2 l2 a0 t0 w h h2
  · exact bback_long A n c A2 n2 c2 a0 t0 w h.le (by omega)

end Go.Proofs.Ytdejggdnpnofeaa
