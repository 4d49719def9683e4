/-
  Joined: SealG, SealH.
-/
import Derived.Deep.RegionHeld3
import Derived.Deep.RegionWith
import Derived.Deep.DeepCutAuto
import Derived.Test.YtfcehhhcjlpklaaGreatDoorJWlkA13
import Derived.Test.YtfcehhhcjlpklaaGreatDoorJWlkA12
import Derived.Test.YtfcehhhcjlpklaaGreatDoorJWlkA07
import Derived.LoopTactic
/-
  The reference's Open.
-/
namespace Go.Proofs.YtfcehhhcjlpklaaGreatDoor
open Go.RowKit
set_option linter.unusedVariables false
set_option linter.unusedSimpArgs false

set_option maxRecDepth 100000 in
theorem refOpen_arg (A : Option Addr) (n c : Nat) (k no : Int) (w : World) (h : knownB k no = false) :
    Calls Tryz.prog 103 #[.slice A n c, .int .i64 k, .int .i64 no] w fun e w' => e = .returned (.tuple #[.slice none 0 0, .int .i64 1]) ∧ w = w' := by
  have K := Lib.hid (fun W => refKnown_any k no W false h)
  clear h
  go_enter Tryz.func103, Tryz.ntmps103
  go_wp2_with (go_at_call 122; refine (K.out _).mono ?_; rintro e w' ⟨rfl, rfl⟩)
  go_ret2
  exact ⟨rfl, rfl⟩

set_option maxRecDepth 100000 in
theorem refOpen_form (A : Option Addr) (n c : Nat) (k no : Int) (w : World) (h : knownB k no = true) (hn : n ≠ 256) :
    Calls Tryz.prog 103 #[.slice A n c, .int .i64 k, .int .i64 no] w fun e w' => e = .returned (.tuple #[.slice none 0 0, .int .i64 7]) ∧ w = w' := by
  have K := Lib.hid (fun W => refKnown_any k no W true h)
  have q : ((n : Int) != 256) = true := by simp; omega
  clear h hn
  go_enter Tryz.func103, Tryz.ntmps103
  go_wp2_with (go_at_call 122; refine (K.out _).mono ?_; rintro e w' ⟨rfl, rfl⟩)
  go_ret2
  exact ⟨rfl, rfl⟩

theorem leN_two {l : List UInt8} (hl : l.length = 256) : leN ((l.drop 6).take 2) = l[6].toNat + 256 * l[7].toNat := by
  have e : (l.drop 6).take 2 = [l[6], l[7]] := by
    rw [List.drop_eq_getElem_cons (by omega), List.take_succ_cons, List.drop_eq_getElem_cons (by omega), List.take_succ_cons, List.take_zero]
  rw [e]
  simp [leN]

theorem bytes_toList (l : List UInt8) : (⟨l.toArray⟩ : ByteArray).toList = l := by
  rw [ByteArray.toList_eq]

set_option maxRecDepth 100000 in
set_option maxHeartbeats 3200000 in
theorem refOpen_deep (b off c : Nat) (l : List UInt8) (k no : Int) (w : World) (h : Bytes8 w (some ⟨b, off, none⟩) 256 c l) (hkn : knownB k no = true)
    (x1 x2 : Int) (u6 u7 : Nat) (sa sb : ByteArray) (z : Nat) (hx1 : x1 = leN (l.take 4)) (hx2 : x2 = leN ((l.drop 4).take 2)) (h6 : w.cell? ⟨b, off + 6, none⟩ = some (.int .u8 (u6 : Int))) (h7 : w.cell? ⟨b, off + 7, none⟩ = some (.int .u8 (u7 : Int)))
    (hsa : sa = ⟨(l.drop 252).toArray⟩) (hsb : sb = ⟨(encN 4 z).toArray⟩) (hz : z = sumN l k) (r : Int)
    (hr : ((sa.toList == sb.toList) = false ∧ r = 4) ∨ (sa = sb ∧ ((x1 != no) = true ∧ r = 5 ∨ x1 = no ∧ ((x2 != k) = true ∧ r = 6 ∨ x2 = k ∧ (((u6 : Int) != 0) = true ∧ r = 7 ∨ u6 = 0 ∧ (((u7 : Int) != 0) = true ∧ r = 7 ∨ u7 = 0 ∧ r = 0)))))) :
    Calls Tryz.prog 103 #[.slice (some ⟨b, off, none⟩) 256 c, .int .i64 k, .int .i64 no] w fun e w' => ∃ A' m c', e = .returned (.tuple #[.slice A' m c', .int .i64 r]) ∧ Bytes8 w' A' m c' (if r = 0 then (l.drop 8).take 244 else []) ∧ Below w.heap.size w w' := by
  have hl := h.len
  have hc1 := h.cap
  have hc2 : ¬ c = 252 := by omega
  have hc3 : (252 : Int) ≤ (c : Int) := by omega
  have hm := h.most
  have KN := Lib.hid (fun W => refKnown_any k no W true hkn)
  have hB252 : ∀ W, Bytes8 W (some ⟨b, off, none⟩) 256 c l → Bytes8 W (some ⟨b, off, none⟩) 252 c (l.take 252) := fun W hW => ⟨by rw [List.length_take, hl]; rfl, by omega, hm, by have := hW.row.take 252; rwa [u8s_take] at this⟩
  have hB4 : ∀ W, Bytes8 W (some ⟨b, off, none⟩) 256 c l → Bytes8 W (some ⟨b, off + 252, none⟩) 4 (c - 252) (l.drop 252) := fun W hW => ⟨by rw [List.length_drop, hl], by omega, by omega, by have := hW.row.drop 252; rw [u8s_drop] at this; simpa [Addr.add_lit] using this⟩
  have cvA : Hid (∀ W, Bytes8 W (some ⟨b, off, none⟩) 256 c l → (convert 22 9 (.slice (some ⟨b, off + 252, none⟩) 4 (c - 252))).run Tryz.prog W = .ok (.string sa) W) := fun W hW => by rw [hsa]; exact run_str (hB4 W hW)
  have SU : Hid (∀ W, Bytes8 W (some ⟨b, off, none⟩) 256 c l → Calls Tryz.prog 124 #[.slice (some ⟨b, off, none⟩) 252 c] W fun e w' => e = .returned (.int .i64 (Crc.sum (l.take 252) : Int)) ∧ W = w') := fun W hW => refSum_any _ 252 c _ W (hB252 W hW)
  have SA := Lib.hid (fun W => refSalt_any k W)
  have hxo := xor_salt (Crc.sum (l.take 252)) (saltN k) (Crc.sum_lt _) (saltN_lt k)
  have hzz : Crc.sum (l.take 252) ^^^ saltN k = z := hz.symm
  rw [hzz] at hxo
  have hzl : z < 4294967296 := by rw [hz]; exact sumN_lt l k
  have BY : Hid (∀ W, Calls Tryz.prog 123 #[.int .i64 z, .int .i64 4] W fun e w' => ∃ A' c', e = .returned (.slice A' 4 c') ∧ (convert 22 9 (.slice A' 4 c')).run Tryz.prog w' = .ok (.string sb) w' ∧ Below W.heap.size W w') :=
    fun W => (Bytes_any z 4 W (by omega) (by omega)).mono fun e w' ⟨v', he, ho, hb⟩ => by
      obtain ⟨A', c', rfl, hB⟩ := Bytes8.of_own ho
      exact ⟨A', c', he, by rw [hsb]; exact run_str hB, hb⟩
  have G0 : Hid (∀ W, Bytes8 W (some ⟨b, off, none⟩) 256 c l → Calls Tryz.prog 76 #[.slice (some ⟨b, off, none⟩) 256 c, .int .i64 0, .int .i64 4] W fun e w' => e = .returned (.tuple #[.int .i64 x1, .int .i64 0]) ∧ W = w') := fun W hW => by
    have := refGet_any _ 256 c l 0 4 W hW (by omega)
    have hg := get_at hl 0 4 (.inr rfl) (by omega)
    have e1 : getE l 0 4 = 0 := hg.1
    have e2 : getN l 0 4 = x1 := by rw [hx1]; simpa using hg.2
    rw [e1, e2] at this
    exact this
  have G4 : Hid (∀ W, Bytes8 W (some ⟨b, off, none⟩) 256 c l → Calls Tryz.prog 76 #[.slice (some ⟨b, off, none⟩) 256 c, .int .i64 4, .int .i64 2] W fun e w' => e = .returned (.tuple #[.int .i64 x2, .int .i64 0]) ∧ W = w') := fun W hW => by
    have := refGet_any _ 256 c l 4 2 W hW (by omega)
    have hg := get_at hl 4 2 (.inl rfl) (by omega)
    have e1 : getE l 4 2 = 0 := hg.1
    have e2 : getN l 4 2 = x2 := by rw [hx2]; exact hg.2
    rw [e1, e2] at this
    exact this
  have HROW : Hid (∀ W, Bytes8 W (some ⟨b, off, none⟩) 256 c l → Row W (some ⟨b, off + 8, none⟩) (u8s ((l.drop 8).take 244))) := fun W hW => by
    have := (hW.row.drop 8).take 244
    rw [u8s_drop, u8s_take] at this
    simpa [Addr.add_lit] using this
  have HLEN : Hid (((l.drop 8).take 244).length = 244) := by rw [Hid, List.length_take, List.length_drop]; omega
  have hB0 : Bytes8 w.drew (some ⟨b, off, none⟩) 256 c l := h.below ((Below.refl _ _).drew)
  have hbel0 : Below w.heap.size w w.drew := (Below.refl _ _).drew
  have cv0 := cvA.out _ hB0
  clear hx1 hx2 hsa hsb hz hzz hkn hB252 hB4 h
  generalize Crc.sum (l.take 252) = x at *
  generalize saltN k = y at *
  obtain ⟨q, hq⟩ : ∃ q, q = (sa.toList == sb.toList) := ⟨_, rfl⟩
  have HQ := Lib.hid hq
  go_enter Tryz.func103, Tryz.ntmps103
  go_upto_region 5 with (go_at_call 122; refine (KN.out _).mono ?_; rintro e w' ⟨rfl, rfl⟩)
  go_cut [30] (fun s30 wx => s30 = .bool (!q) ∧ Bytes8 wx (some ⟨b, off, none⟩) 256 c l ∧ Below w.heap.size w wx)
  case first =>
    clear hq hr h6 h7 HROW HLEN G0 G4
    rw [Hid] at HQ
    go_region_with (first
      | (go_at_call 124; refine (SU.out _ (by first | exact hB0 | exact hB2 | exact hB3)).mono ?_; rintro e w' ⟨rfl, rfl⟩)
      | (go_at_call 125; refine (SA.out _).mono ?_; rintro e w2 ⟨rfl, hb2⟩; have hB2 := hB0.below hb2; have cv2 := cvA.out _ hB2; have hbel2 := hbel0.trans (hb2.mono hbel0.size))
      | (go_at_call 123; refine (BY.out _).mono ?_; rintro e w3 ⟨A3, c3, rfl, cvb, hb3⟩; have hB3 := hB2.below hb3; have cv3 := cvA.out _ hB3; have hbel3 := hbel2.trans (hb3.mono hbel2.size)))
    all_goals (go_wp2_with fail; go_meet; exact ⟨by rw [HQ], by assumption, by assumption⟩)
  case rest =>
    obtain ⟨rfl, hBX, hbelX⟩ := hcut
    have HBX := Lib.hid hBX
    have hd6 : wc.cell? ⟨b, off + 6, none⟩ = some (.int .u8 (u6 : Int)) := (hbelX.cell (p := ⟨b, off + 6, none⟩) (cell_lt h6)).trans h6
    have hd7 : wc.cell? ⟨b, off + 7, none⟩ = some (.int .u8 (u7 : Int)) := (hbelX.cell (p := ⟨b, off + 7, none⟩) (cell_lt h7)).trans h7
    have HROW2 := Lib.hid (HROW.out _ hBX)
    clear hBX h6 h7 cv0 hB0 hbel0 cvA SU SA BY KN HROW
    rcases hr with ⟨hne, rfl⟩ | ⟨hse, hr⟩
    · obtain rfl : q = false := by rw [hq]; exact hne
      clear hq HQ hne
      go_wp2
      go_ret2
      exact ⟨none, 0, 0, rfl, Bytes8.nil _, hbelX⟩
    obtain rfl : q = true := by rw [hq, hse]; simp
    clear hq HQ hse
    rcases hr with ⟨hn1, rfl⟩ | ⟨rfl, hr⟩
    · go_wp2_with (first
        | (go_at_call 76; (with_reducible refine (G0.out _ HBX.out).mono ?_); rintro e w' ⟨rfl, rfl⟩)
        | (go_at_call 76; (with_reducible refine (G4.out _ HBX.out).mono ?_); rintro e w' ⟨rfl, rfl⟩))
      go_ret2
      exact ⟨none, 0, 0, rfl, Bytes8.nil _, hbelX⟩
    rcases hr with ⟨hn2, rfl⟩ | ⟨rfl, hr⟩
    · go_wp2_with (first
        | (go_at_call 76; (with_reducible refine (G0.out _ HBX.out).mono ?_); rintro e w' ⟨rfl, rfl⟩)
        | (go_at_call 76; (with_reducible refine (G4.out _ HBX.out).mono ?_); rintro e w' ⟨rfl, rfl⟩))
      go_ret2
      exact ⟨none, 0, 0, rfl, Bytes8.nil _, hbelX⟩
    rcases hr with ⟨hn6, rfl⟩ | ⟨rfl, hr⟩
    · go_wp2_with (first
        | (go_at_call 76; (with_reducible refine (G0.out _ HBX.out).mono ?_); rintro e w' ⟨rfl, rfl⟩)
        | (go_at_call 76; (with_reducible refine (G4.out _ HBX.out).mono ?_); rintro e w' ⟨rfl, rfl⟩))
      go_ret2
      exact ⟨none, 0, 0, rfl, Bytes8.nil _, hbelX⟩
    rcases hr with ⟨hn7, rfl⟩ | ⟨rfl, rfl⟩
    · go_wp2_with (first
        | (go_at_call 76; (with_reducible refine (G0.out _ HBX.out).mono ?_); rintro e w' ⟨rfl, rfl⟩)
        | (go_at_call 76; (with_reducible refine (G4.out _ HBX.out).mono ?_); rintro e w' ⟨rfl, rfl⟩))
      go_ret2
      exact ⟨none, 0, 0, rfl, Bytes8.nil _, hbelX⟩
    · go_wp2_with (first
        | (go_at_call 76; (with_reducible refine (G0.out _ HBX.out).mono ?_); rintro e w' ⟨rfl, rfl⟩)
        | (go_at_call 76; (with_reducible refine (G4.out _ HBX.out).mono ?_); rintro e w' ⟨rfl, rfl⟩)
        | (at_builtin; refine wpList_append_row _ rfl (.tmp 57) (.tmp 59) 22 rfl wc.heap.size 5 _ 1 Tryz.underlying22 info_u8 rfl _ 0 [] rfl (own_empty wc 5) (by simp) (some ⟨b, off + 8, none⟩) (u8s ((l.drop 8).take 244)) 244 _ rfl (by rw [u8s_length, HLEN.out]) (HROW2.out.below ((Below.refl _ _).alloc (Nat.le_refl _) _)) (u8s_one _) (by omega) (by omega) ?_; intro v9 w9 HO9 hs9 hb9))
      have HO10 : Hid (w9.ownsRow wc.heap.size 5 1 v9 244 (u8s ((l.drop 8).take 244))) := by
        have := HO9.out
        rw [Nat.zero_add, List.nil_append] at this
        exact this
      obtain ⟨A9, c9, rfl, hB9⟩ := Bytes8.of_own HO10.out
      go_ret2
      exact ⟨A9, 244, c9, rfl, hB9, hbelX.trans ((((Below.refl _ _).alloc (Nat.le_refl _) _).trans hb9).mono hbelX.size)⟩

end Go.Proofs.YtfcehhhcjlpklaaGreatDoor

/-
  The reference's Open, whatever the block, and its Which.
-/
namespace Go.Proofs.YtfcehhhcjlpklaaGreatDoor
open Go.RowKit
set_option linter.unusedVariables false
set_option linter.unusedSimpArgs false

theorem refOpen_any (A : Option Addr) (n c : Nat) (l : List UInt8) (k no : Int) (w : World) (h : Bytes8 w A n c l) :
    Calls Tryz.prog 103 #[.slice A n c, .int .i64 k, .int .i64 no] w fun e w' => ∃ A' m c', e = .returned (.tuple #[.slice A' m c', .int .i64 (openE l k no)]) ∧ Bytes8 w' A' m c' (openB l k no) ∧ Below w.heap.size w w' := by
  have hl := h.len
  cases hk : knownB k no with
  | false =>
    have e : openE l k no = 1 := by simp [openE, hk]
    refine (refOpen_arg A n c k no w hk).mono ?_
    rintro e' w' ⟨rfl, rfl⟩
    exact ⟨none, 0, 0, by rw [e], by rw [openB, if_neg (by rw [e]; omega)]; exact Bytes8.nil _, Below.refl _ _⟩
  | true =>
    by_cases hn : n = 256
    · subst hn
      obtain ⟨b, off, rfl, hbl, hcell⟩ := h.row.lit (by rw [u8s_length]; omega)
      have h6 := hcell 6 _ (u8s_at l 6 (by omega))
      have h7 := hcell 7 _ (u8s_at l 7 (by omega))
      have e2 := leN_two hl
      have hb6 := UInt8.toNat_lt l[6]
      have hb7 := UInt8.toNat_lt l[7]
      have hlt := sumN_lt l k
      refine (refOpen_deep b off c l k no w h hk _ _ l[6].toNat l[7].toNat _ _ (sumN l k) rfl rfl h6 h7 rfl rfl rfl (openE l k no) ?_).mono ?_
      · rw [bytes_toList, bytes_toList]
        by_cases h3 : leN (l.drop 252) = sumN l k
        · have e3 : l.drop 252 = encN 4 (sumN l k) := by
            have := encN_leN (l.drop 252)
            rw [show (l.drop 252).length = 4 by simp; omega] at this
            rw [← this, h3]
          have h3' : ¬ (leN (l.drop 252) : Int) ≠ sumN l k := by rw [h3]; simp
          refine .inr ⟨by rw [e3], ?_⟩
          by_cases h4 : (leN (l.take 4) : Int) = no
          · refine .inr ⟨h4, ?_⟩
            by_cases h5 : (leN ((l.drop 4).take 2) : Int) = k
            · refine .inr ⟨h5, ?_⟩
              by_cases g6 : l[6].toNat = 0
              · refine .inr ⟨g6, ?_⟩
                by_cases g7 : l[7].toNat = 0
                · refine .inr ⟨g7, ?_⟩
                  rw [openE, if_neg (by simp [hk]), if_neg (by omega), if_neg h3', if_neg (by omega), if_neg (by omega), if_neg (by omega)]
                · refine .inl ⟨by simp; omega, ?_⟩
                  rw [openE, if_neg (by simp [hk]), if_neg (by omega), if_neg h3', if_neg (by omega), if_neg (by omega), if_pos (by omega)]
              · refine .inl ⟨by simp; omega, ?_⟩
                rw [openE, if_neg (by simp [hk]), if_neg (by omega), if_neg h3', if_neg (by omega), if_neg (by omega), if_pos (by omega)]
            · refine .inl ⟨by simpa using h5, ?_⟩
              rw [openE, if_neg (by simp [hk]), if_neg (by omega), if_neg h3', if_neg (by omega), if_pos h5]
          · refine .inl ⟨by simpa using h4, ?_⟩
            rw [openE, if_neg (by simp [hk]), if_neg (by omega), if_neg h3', if_pos h4]
        · refine .inl ⟨?_, ?_⟩
          · refine beq_eq_false_iff_ne.2 fun e => h3 ?_
            rw [e, leN_encN _ _ (by omega)]
          · rw [openE, if_neg (by simp [hk]), if_neg (by omega), if_pos (by omega)]
      · rintro e' w' ⟨A', m, c', rfl, hB, hb⟩
        exact ⟨A', m, c', rfl, hB, hb⟩
    · have e : openE l k no = 7 := by rw [openE, if_neg (by simp [hk]), if_pos (by omega)]
      refine (refOpen_form A n c k no w hk hn).mono ?_
      rintro e' w' ⟨rfl, rfl⟩
      exact ⟨none, 0, 0, by rw [e], by rw [openB, if_neg (by rw [e]; omega)]; exact Bytes8.nil _, Below.refl _ _⟩

end Go.Proofs.YtfcehhhcjlpklaaGreatDoor
