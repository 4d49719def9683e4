/-
  The walk of SealBack.
-/
import Derived.Test.YtldgdgkojlohfaaSealI
import Derived.Test.YtldgdgkojlohfaaSealE
import Derived.Test.YtldgdgkojlohfaaSealH
import Derived.Test.YtldgdgkojlohfaaCrcF
import Derived.Deep.RegionHeld3
import Derived.BigRegion
import Derived.Deep.CutBlock
import Derived.Deep.DeepCutAuto
namespace Go.Proofs.Ytldgdgkojlohfaa
open Go.RowKit
set_option linter.unusedVariables false
set_option linter.unusedSimpArgs false

theorem openE_next {k no : Int} {l : List UInt8} (h : sealE k no l.length = 0) : openE (sealB k no l) k ((no + 1) % 14400) = 5 := by
  obtain ⟨h1, h2, h3, h4, h5⟩ := sealB_parts h
  have hk := knownB_iff.1 (sealE_zero h).1
  have hk2 : knownB k ((no + 1) % 14400) = true := knownB_iff.2 ⟨hk.1, by omega, by omega⟩
  rw [openE, if_neg (by simp [hk2]), if_neg (by rw [sealB_length h]; simp), if_neg (by rw [h1]; simp), if_pos (by omega)]

theorem openE_kind {k no : Int} {l : List UInt8} (h : sealE k no l.length = 0) : openE (sealB k no l) (k % 4 + 1) no = 4 := by
  obtain ⟨h1, h2, h3, h4, h5⟩ := sealB_parts h
  have hk := knownB_iff.1 (sealE_zero h).1
  have hk2 : knownB (k % 4 + 1) no = true := knownB_iff.2 ⟨by omega, hk.2⟩
  rw [openE, if_neg (by simp [hk2]), if_neg (by rw [sealB_length h]; simp), if_pos]
  intro e
  have := kind_wrong h1 (by omega : leN ((sealB k no l).drop 252) = sumN (sealB k no l) (k % 4 + 1)) hk.1 (by omega)
  omega

theorem openE_turned {k no : Int} {l : List UInt8} (h : sealE k no l.length = 0) (p x j : Nat) (hp : p + j ≤ 2048) (hx : x < 4294967296) : openE (Crc.flips (sealB k no l) p x j) k no = if smB x j = true then 4 else 0 := by
  obtain ⟨h1, h2, h3, h4, h5⟩ := sealB_parts h
  have hl := sealB_length h
  have ht := turned_wrong hl h1 (p := p) (x := x) (j := j) (by omega) hx
  cases hs : smB x j with
  | true =>
    have h0 : x % 2 ^ j ≠ 0 := by simpa [smB] using hs
    rw [openE, if_neg (by simp [(sealE_zero h).1]), if_neg (by rw [Crc.flips_length, hl]; simp), if_pos]
    · rfl
    · intro e
      exact h0 (ht.1 (by omega))
  | false =>
    have h0 : x % 2 ^ j = 0 := by simpa [smB] using hs
    have e : Crc.flips (sealB k no l) p x j = sealB k no l := by
      have key : ∀ i, x % 2 ^ i = 0 → Crc.flips (sealB k no l) p x i = sealB k no l := by
        intro i
        induction i with
        | zero => intro _; rfl
        | succ i ih =>
          intro hi
          cases hb : x.testBit i with
          | true => exact absurd hi (Crc.mod_yes x i hb)
          | false => rw [Crc.flips_no _ p x i hb]; exact ih (by rw [← Crc.mod_no x i hb]; exact hi)
      exact key j h0
    rw [e, (openE_seal h).1]
    rfl

set_option maxRecDepth 100000 in
set_option maxHeartbeats 1600000 in
theorem back_bad (k no : Int) (A : Option Addr) (n c : Nat) (p : Int) (y : Int) (w : World) (q : Nat) (l' : List UInt8) (HB : Hid (Bytes8 w A q c l')) (hq : q ≤ 600) (hcase : (600 < n ∧ 600 ≤ c ∧ q = 600) ∨ (n ≤ 600 ∧ q = n)) (he : sealE k no q ≠ 0) :
    Calls Try.prog 5 #[.int .i64 k, .int .i64 no, .slice A n c, .int .i64 p, .int .u32 y] w fun e w' => e = .returned (.bool true) ∧ Below w.heap.size w w' := by
  have S1 : Hid (Calls Try.prog 7 #[.int .i64 k, .int .i64 no, .slice A q c] w fun e w' => ∃ A' c', e = .returned (.tuple #[.slice A' 0 c', .int .i64 (sealE k no q)]) ∧ Below w.heap.size w w') :=
    (Seal_any k no A q c l' w HB.out).mono fun e w' ⟨A', m, c', h1, h2, h3⟩ => by
      have := h2.len
      rw [sealB, if_neg (by rw [HB.out.len]; exact he)] at this
      obtain rfl : 0 = m := this
      exact ⟨A', c', h1, h3⟩
  generalize sealE k no q = x at *
  have hq0 : (x != 0) = true := by simpa using he
  clear he HB
  rcases hcase with ⟨h1, h2, rfl⟩ | ⟨h1, rfl⟩
  all_goals go_enter Try.func5, Try.ntmps5
  all_goals go_wp2_with (first
    | (go_at_call 7; (with_reducible refine (S1.out).mono ?_); rintro e w1 ⟨A1, c1, rfl, hb1⟩)
    | (go_at_call 11; refine (lives4_any _).mono ?_; rintro e w4 ⟨rfl, hb4⟩))
  all_goals go_ret
  all_goals exact ⟨rfl, hb1.trans (hb4.mono hb1.size)⟩

set_option maxRecDepth 100000 in
set_option maxHeartbeats 6400000 in
theorem back_good (K N : Nat) (A : Option Addr) (n c : Nat) (p : Int) (y : Nat) (w : World) (q : Nat) (l' : List UInt8) (HB : Hid (Bytes8 w A q c l')) (hcase : (600 < n ∧ 600 ≤ c ∧ q = 600) ∨ (n ≤ 600 ∧ q = n)) (he : sealE (K : Int) (N : Int) q = 0) (hy : y < 4294967296) :
    Calls Try.prog 5 #[.int .i64 K, .int .i64 N, .slice A n c, .int .i64 p, .int .u32 (y : Int)] w fun e w' => e = .returned (.bool true) ∧ Below w.heap.size w w' := by
  have hlen := HB.out.len
  obtain ⟨hkn, hq⟩ := sealE_zero he
  obtain rfl : q = n := by omega
  clear hcase
  obtain ⟨⟨hK1, hK2⟩, hN1, hN2'⟩ := knownB_iff.1 hkn
  have hN2 : (N : Int) ≤ 14399 := by omega
  clear hN2'
  have he' : sealE (K : Int) (N : Int) l'.length = 0 := by rw [hlen]; exact he
  have SL := Lib.hid (Seal_good K N A q c l' w HB.out he)
  have OP : Hid (∀ g W, Bytes8 W (some ⟨g, 0, none⟩) 256 256 (sealB K N l') → Calls Try.prog 12 #[.slice (some ⟨g, 0, none⟩) 256 256, .int .i64 K, .int .i64 N] W fun e w' => ∃ b2 off2 c2, e = .returned (.tuple #[.slice (some ⟨b2, off2, none⟩) 244 c2, .int .i64 0]) ∧ Bytes8 w' (some ⟨b2, off2, none⟩) 244 c2 (l' ++ List.replicate (244 - q) 0) ∧ Below W.heap.size W w') :=
    fun g W hW => (Open_any _ _ _ _ K N W hW).mono fun e w' ⟨A', m, c', h1, h2, h3⟩ => by
      rw [(openE_seal he').1] at h1
      rw [(openE_seal he').2, hlen] at h2
      obtain rfl : 244 = m := by have := h2.len; simp at this; omega
      obtain ⟨b2, off2, rfl, _⟩ := h2.row.lit (by rw [u8s_length, h2.len]; omega)
      exact ⟨b2, off2, c', h1, h2, h3⟩
  have WH : Hid (∀ g W, Bytes8 W (some ⟨g, 0, none⟩) 256 256 (sealB K N l') → Calls Try.prog 14 #[.slice (some ⟨g, 0, none⟩) 256 256] W fun e w' => e = .returned (.tuple #[.int .i64 K, .int .i64 N, .bool true]) ∧ Below W.heap.size W w') :=
    fun g W hW => (Which_any _ _ _ _ W hW).mono fun e w' ⟨h1, h2⟩ => by
      have hs0 : storedN (sealB K N l') 0 4 = N := by rw [stored_0 (sealB_length he')]; exact (sealB_parts he').2.1
      obtain ⟨e1, e2, e3⟩ := which_yes (k := (K : Int)) (sealB_length he') (by rw [hs0]; exact (openE_seal he').1)
      rw [e1, e2, e3, hs0] at h1
      exact ⟨h1, h2⟩
  have ON : Hid (∀ g W, Bytes8 W (some ⟨g, 0, none⟩) 256 256 (sealB K N l') → Calls Try.prog 12 #[.slice (some ⟨g, 0, none⟩) 256 256, .int .i64 K, .int .i64 (((N : Int) + 1) % 14400)] W fun e w' => ∃ A' c', e = .returned (.tuple #[.slice A' 0 c', .int .i64 5]) ∧ Below W.heap.size W w') :=
    fun g W hW => (Open_any _ _ _ _ _ _ W hW).mono fun e w' ⟨A', m, c', h1, h2, h3⟩ => by
      rw [openE_next he'] at h1
      rw [openB, if_neg (by rw [openE_next he']; omega)] at h2
      obtain rfl : 0 = m := h2.len
      exact ⟨A', c', h1, h3⟩
  have OK : Hid (∀ g W, Bytes8 W (some ⟨g, 0, none⟩) 256 256 (sealB K N l') → Calls Try.prog 12 #[.slice (some ⟨g, 0, none⟩) 256 256, .int .i64 ((K : Int) % 4 + 1), .int .i64 N] W fun e w' => ∃ A' c', e = .returned (.tuple #[.slice A' 0 c', .int .i64 4]) ∧ Below W.heap.size W w') :=
    fun g W hW => (Open_any _ _ _ _ _ _ W hW).mono fun e w' ⟨A', m, c', h1, h2, h3⟩ => by
      rw [openE_kind he'] at h1
      rw [openB, if_neg (by rw [openE_kind he']; omega)] at h2
      obtain rfl : 0 = m := h2.len
      exact ⟨A', c', h1, h3⟩
  have OF : Hid (∀ (p j : Nat) g W, p + j ≤ 2048 → Bytes8 W (some ⟨g, 0, none⟩) 256 256 (Crc.flips (sealB K N l') p y j) → Calls Try.prog 12 #[.slice (some ⟨g, 0, none⟩) 256 256, .int .i64 K, .int .i64 N] W fun e w' => ∃ A' m' c', e = .returned (.tuple #[.slice A' m' c', .int .i64 (if smB y j = true then 4 else 0)]) ∧ Below W.heap.size W w') :=
    fun p j g W hp hW => (Open_any _ _ _ _ K N W hW).mono fun e w' ⟨A', m, c', h1, h2, h3⟩ => by
      rw [openE_turned he' p y j hp hy] at h1
      exact ⟨A', m, c', h1, h3⟩
  have HLB := Lib.hid (sealB_length he')
  generalize sealB (K : Int) (N : Int) l' = Lb at *
  have HL := Lib.hid hlen
  clear he he' hkn hlen
  go_enter Try.func5, Try.ntmps5
  go_wp2_with (first
    | (go_at_call 7; (with_reducible refine (SL.out).mono ?_); rintro e w1 ⟨g, rfl, hO1, hb1⟩; have HO1 := Lib.hid hO1; have HW1 := Lib.hid (hO1.bytes HLB.out (by omega)); clear hO1)
    | (go_at_call 12; (with_reducible refine (OP.out _ _ HW1.out).mono ?_); rintro e w2 ⟨b2, off2, c2, rfl, hX2, hb2⟩; have HX2 := Lib.hid hX2; have HW2 := Lib.hid (HW1.out.below hb2); clear hX2)
    | (go_at_call 14; (with_reducible refine (WH.out _ _ HW2.out).mono ?_); rintro e w3 ⟨rfl, hb3⟩; have HW3 := Lib.hid (HW2.out.below hb3)))
  have hc2 := HX2.out.cap
  have hq0 : (0 : Int) ≤ (q : Int) := by omega
  have hqc : (q : Int) ≤ (c2 : Int) := by omega
  have hd3 : Below w3.heap.size w3 w3.drew := (Below.refl _ _).drew
  have hX3 : Bytes8 w3.drew (some ⟨b2, off2, none⟩) 244 c2 (l' ++ List.replicate (244 - q) 0) := (HX2.out.below hb3).below hd3
  have hI3 : Bytes8 w3.drew A q c l' := by
    have h12 := hb1.trans (hb2.mono hb1.size)
    exact (HB.out.below (h12.trans (hb3.mono h12.size))).below hd3
  have hP3 : Bytes8 w3.drew (some ⟨b2, off2, none⟩) q c2 l' := by
    refine ⟨HL.out, by omega, hX3.most, ?_⟩
    have := hX3.row.take q
    rwa [u8s_take, take_app HL.out] at this
  have cvx := run_str hP3
  have cvi := run_str hI3
  have HZ : Hid (∀ m, q ≤ m → m < 244 → w3.drew.cell? ⟨b2, off2 + m, none⟩ = some (.int .u8 0)) := by
    intro m h1 h2
    have h3 : (u8s (l' ++ List.replicate (244 - q) 0))[m]? = some (.int .u8 0) := by
      rw [u8s_append, List.getElem?_append_right (by rw [u8s_length, HL.out]; exact h1), u8s_length, HL.out, u8s_at _ _ (by simp; omega)]
      simp
    have := hX3.row.at_ h3
    rwa [Addr.add_lit] at this
  have HW4 := Lib.hid (HW3.out.below hd3)
  have HO4 : Hid (Own8 w3.drew w.heap.size g Lb) := ((HO1.out.later hb2).later hb3).later hd3
  have hbel3 : Below w.heap.size w w3.drew := by
    have h12 := hb1.trans (hb2.mono hb1.size)
    exact (h12.trans (hb3.mono h12.size)).trans (hd3.mono (h12.trans (hb3.mono h12.size)).size)
  clear hX3 hI3 hP3 HX2 HW1 HW2 HW3 HO1 hb1 hb2 hb3 HB SL OP WH hd3
  generalize (⟨l'.toArray⟩ : ByteArray) = sx at *
  go_region_held3 (fun W => (convert 22 9 (.slice (some ⟨b2, off2, none⟩) q c2)).run Try.prog W = .ok (.string sx) W ∧ (convert 22 9 (.slice A q c)).run Try.prog W = .ok (.string sx) W)
    (exact ⟨cvx, cvi⟩) ((fail))
  go_wp2
  clear cvx cvi
  generalize w3.drew = w4 at *
  go_loop [18] (fun i => ∃ m : Nat, q ≤ m ∧ m ≤ 244 ∧ i = .int .i64 m) (fun i => 244 - (intOf i).toNat)
  case atStart => exact ⟨q, by omega, by omega, rfl⟩
  case round =>
    obtain ⟨m, hm1, hm2, rfl⟩ := hrel
    by_cases hlt : m < 244
    · have hz := HZ.out m hm1 hlt
      go_wp2
      go_round
      case rel => exact ⟨m + 1, by omega, by omega, by go_num⟩
      case measure => simp [intOf]; omega
    · obtain rfl : m = 244 := by omega
      clear HZ
      go_upto_block 2 with (first
        | (go_at_call 12; (with_reducible refine (ON.out _ _ HW4.out).mono ?_); rintro e w5 ⟨A5, c5, rfl, hb5⟩; have HW5 := Lib.hid (HW4.out.below hb5); have HO5 := Lib.hid (HO4.out.later hb5); have hbel5 := hbel3.trans (hb5.mono hbel3.size))
        | (go_at_call 12; (with_reducible refine (OK.out _ _ HW5.out).mono ?_); rintro e w6 ⟨A6, c6, rfl, hb6⟩; have HO6 := Lib.hid (HO5.out.later hb6); have hbel6 := hbel5.trans (hb6.mono hbel5.size)))
      have hgw : w.heap.size ≤ g := HO6.out.low
      clear HW4 HO4 HW5 HO5 hb5 hb6 hbel3 hbel5 ON OK
      go_cut [23] (fun s23 wx => ∃ (L' : List UInt8) (b : Bool), s23 = .bool b ∧ Hid (Bytes8 wx (some ⟨g, 0, none⟩) 256 256 L') ∧ Below w.heap.size w wx ∧ Hid (∀ W, Bytes8 W (some ⟨g, 0, none⟩) 256 256 L' → Calls Try.prog 12 #[.slice (some ⟨g, 0, none⟩) 256 256, .int .i64 K, .int .i64 N] W fun e w' => ∃ A' m' c', e = .returned (.tuple #[.slice A' m' c', .int .i64 (if b = true then 4 else 0)]) ∧ Below W.heap.size W w'))
      case first =>
        by_cases hp : 0 ≤ p ∧ p ≤ 2047
        · obtain ⟨hp0, hp2⟩ := hp
          obtain ⟨P, rfl⟩ := Int.eq_ofNat_of_zero_le hp0
          go_wp2_with fail
          go_loopw [23, 24] (fun sm i wr => ∃ j : Nat, j ≤ 32 ∧ P + j ≤ 2048 ∧ i = .int .i64 j ∧ sm = .bool (smB y j) ∧ Hid (Own8 wr w.heap.size g (Crc.flips Lb P y j)) ∧ Below w.heap.size w wr) (fun _ i _ => 32 - (intOf i).toNat)
          case atStart => exact ⟨0, by omega, by omega, rfl, by rw [smB_zero], HO6, hbel6⟩
          case round =>
            clear HO6 hbel6
            obtain ⟨j, hj, hpj, rfl, rfl, HO, hbel⟩ := hrel
            by_cases hlt : j < 32 ∧ P + j < 2048
            · obtain ⟨hj1, hj2⟩ := hlt
              cases hb : y.testBit j with
              | false =>
                have e1 := shr_no y j hy hb
                have HS := Lib.hid (smB_no y j hb)
                have HFF := Lib.hid (Crc.flips_no Lb P y j hb)
                go_wp2
                go_roundw
                case rel => exact ⟨j + 1, by omega, by omega, by go_num, by rw [HS.out], by rw [HFF.out]; exact HO, hbel⟩
                case measure => simp [intOf]; omega
              | true =>
                have e1 := shr_yes y j hy hb
                have HS := Lib.hid (smB_yes y j hb)
                have hjl : (P + j) / 8 < (Crc.flips Lb P y j).length := by rw [Crc.flips_length, HLB.out]; omega
                have hc0 : wr.cell? ⟨g, (P + j) / 8, none⟩ = some (.int .u8 ((Crc.flips Lb P y j)[(P + j) / 8].toNat : Int)) := by
                  rw [cell_of_row wr g _ _ _ _ HO.out.blk]
                  simpa using u8s_at _ _ hjl
                have hf0 := frozen_of_row wr g ((P + j) / 8) _ _ HO.out.blk
                have h08 : ((P : Int) + (j : Int)) / 8 ≤ 255 := by omega
                have h00 : (0 : Int) ≤ ((P : Int) + (j : Int)) / 8 := by omega
                have HFF := Lib.hid (flips_cells Lb P y j hb hjl)
                have HSET := Lib.hid (fun v => Blk.set (w := wr) (g := g) (t := 5) (cs := u8s (Crc.flips Lb P y j)) HO.out.blk ((P + j) / 8) v)
                generalize (Crc.flips Lb P y j)[(P + j) / 8] = old at *
                go_wp2
                go_region
                go_wp2
                go_roundw
                case rel =>
                  refine ⟨j + 1, by omega, by omega, by go_num, by rw [HS.out], ⟨hgw, ?_⟩, (hbel.setCell (p := ⟨g, (P + j) / 8, none⟩) hgw _).drew⟩
                  rw [HFF.out]
                  exact HSET.out _
                case measure => simp [intOf]; omega
            · have hend : j = 32 ∨ j < 32 ∧ P + j = 2048 := by omega
              have HWR : Hid (Bytes8 wr (some ⟨g, 0, none⟩) 256 256 (Crc.flips Lb P y j)) := HO.out.bytes (by rw [Crc.flips_length, HLB.out]) (by omega)
              have HF := Lib.hid (fun W => OF.out P j g W hpj)
              clear HO OF hlt
              generalize Crc.flips Lb P y j = L' at *
              generalize smB y j = b at *
              rcases hend with rfl | ⟨h1, h2⟩
              all_goals go_wp2_with fail
              all_goals go_meet
              all_goals exact ⟨L', b, rfl, HWR, hbel, HF⟩
        · have hend : p < 0 ∨ 0 ≤ p ∧ 2048 ≤ p := by omega
          have HWR : Hid (Bytes8 w6 (some ⟨g, 0, none⟩) 256 256 Lb) := HO6.out.bytes HLB.out (by omega)
          have HF : Hid (∀ W, Bytes8 W (some ⟨g, 0, none⟩) 256 256 Lb → Calls Try.prog 12 #[.slice (some ⟨g, 0, none⟩) 256 256, .int .i64 K, .int .i64 N] W fun e w' => ∃ A' m' c', e = .returned (.tuple #[.slice A' m' c', .int .i64 (if false = true then 4 else 0)]) ∧ Below W.heap.size W w') := fun W hW => by
            have := OF.out 0 0 g W (by omega) hW
            rw [smB_zero] at this
            exact this
          clear HO6 OF hp
          rcases hend with h1 | ⟨h1, h2⟩
          all_goals go_wp2_with fail
          all_goals refine wp_loop_rounds 1 ?_
          all_goals rw [rounds_succ]
          all_goals go_wp2_with fail
          all_goals go_meet
          all_goals exact ⟨Lb, false, rfl, HWR, hbel6, HF⟩
      case rest =>
        obtain ⟨L', b, rfl, HWR, hbel, HF⟩ := hcut
        clear HO6 hbel6 OF
        cases b
        all_goals go_wp2_with (first
          | (go_at_call 12; (with_reducible refine (HF.out _ HWR.out).mono ?_); rintro e w8 ⟨A8, m8, c8, rfl, hb8⟩)
          | (go_at_call 11; refine (lives4_any _).mono ?_; rintro e w9 ⟨rfl, hb9⟩))
        all_goals go_ret
        all_goals exact ⟨rfl, hbel.trans ((hb8.trans (hb9.mono hb8.size)).mono hbel.size)⟩

theorem back_walk (k no : Int) (A : Option Addr) (n c : Nat) (l : List UInt8) (p y : Int) (w : World) (_hk : -9223372036854775808 ≤ k ∧ k ≤ 9223372036854775807) (_hno : -9223372036854775808 ≤ no ∧ no ≤ 9223372036854775807) (h : Bytes8 w A n c l) (_hp : -9223372036854775808 ≤ p ∧ p ≤ 9223372036854775807) (hy : 0 ≤ y ∧ y ≤ 4294967295) :
    Calls Try.prog 5 #[.int .i64 k, .int .i64 no, .slice A n c, .int .i64 p, .int .u32 y] w fun e w' => e = .returned (.bool true) ∧ Below w.heap.size w w' := by
  obtain ⟨q, l', hB, hq, hcase⟩ := few_bytes 600 h
  by_cases he : sealE k no q = 0
  · obtain ⟨⟨hK1, hK2⟩, hN1, hN2⟩ := knownB_iff.1 (sealE_zero he).1
    obtain ⟨K, rfl⟩ := Int.eq_ofNat_of_zero_le (show 0 ≤ k by omega)
    obtain ⟨N, rfl⟩ := Int.eq_ofNat_of_zero_le hN1
    obtain ⟨Y, rfl⟩ := Int.eq_ofNat_of_zero_le hy.1
    exact back_good K N A n c p Y w q l' (Lib.hid hB) hcase he (by omega)
  · exact back_bad k no A n c p y w q l' (Lib.hid hB) hq hcase he

end Go.Proofs.Ytldgdgkojlohfaa
