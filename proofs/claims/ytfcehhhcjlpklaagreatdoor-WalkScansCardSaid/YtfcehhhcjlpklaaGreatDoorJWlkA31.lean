/-
  Joined: NodP, NodLawC, SlotA, SlotB, SlotC, SlotF.
-/
import Derived.Test.YtfcehhhcjlpklaaGreatDoorJWlkA30
import Derived.Test.YtfcehhhcjlpklaaGreatDoorJWlkA28
import Derived.Test.YtfcehhhcjlpklaaGreatDoorJWlkA03
import Derived.Test.YtfcehhhcjlpklaaGreatDoorJWlkA11
import Derived.Test.YtfcehhhcjlpklaaGreatDoorJWlkA13
import Derived.Test.YtfcehhhcjlpklaaGreatDoorJWlkA16
import Derived.Test.YtfcehhhcjlpklaaGreatDoorJWlkA08
import Derived.Test.YtfcehhhcjlpklaaGreatDoorJWlkA17
import Derived.Test.YtfcehhhcjlpklaaGreatDoorJWlkA21
import Derived.Test.YtfcehhhcjlpklaaGreatDoorJWlkA20
import Derived.Test.YtfcehhhcjlpklaaGreatDoorJWlkA22
import Derived.Test.YtfcehhhcjlpklaaGreatDoorJWlkA07
/-
  Layer 7: the reference's Read, whole.
-/
namespace Go.Proofs.YtfcehhhcjlpklaaGreatDoor
open Go.RowKit
set_option linter.unusedVariables false
set_option linter.unusedSimpArgs false

set_option maxRecDepth 100000 in
set_option maxHeartbeats 3200000 in
theorem refRead_good (w : World) (A : Option Addr) (n c : Nat) (l : List UInt8) (hB : Bytes8 w A n c l) (hf : formN l = true) : Calls Tryz.prog 75 #[.slice A n c] w fun e w' => RdPostF w l e w' := by
  have hF := formN_iff.1 hf
  have h := hF.len
  obtain ⟨b, off, x0, rfl, hI⟩ := rd_in hB h
  have hcnt := hF.cnt
  have hwm := widN_cases (treeR l) (leafR l)
  change (widR l = 0 ∧ capR l = 0) ∨ (widR l = 4 ∧ capR l = 18) ∨ (widR l = 8 ∧ capR l = 12) ∨ (widR l = 24 ∧ capR l = 6) ∨ (widR l = 16 ∧ capR l = 9) at hwm
  have hwm2 : 4 ≤ widR l ∧ widR l ≤ 24 ∧ capR l ≤ 18 ∧ 12 + 8 * capR l + widR l * capR l ≤ 228 := by
    have := hF.wid
    rcases hwm with ⟨a, b⟩ | ⟨a, b⟩ | ⟨a, b⟩ | ⟨a, b⟩ | ⟨a, b⟩
    · exact absurd a this
    all_goals rw [b, a]; omega
  obtain ⟨hw4, hw24, hm18, hfit⟩ := hwm2
  obtain rfl := hI.hn
  have hz := NodAt.new w 0 false (.slice none 0 0) (.slice none 0 0)
  have hb : Below w.heap.size w (w.alloc zN) := (Below.refl _ _).alloc (Nat.le_refl _) _
  have hti : i64b (treeR l) := by have := hI.tree; simp only [i64b]; omega
  have FMC : Hid (Calls Tryz.prog 104 #[.slice (some ⟨b, off, none⟩) 244 c] (w.alloc zN) fun e w' => e = .returned (.bool true) ∧ Below w.heap.size w w' ∧ NodAt w' w.heap.size 0 false (.slice none 0 0) (.slice none 0 0)) := (form_any _ _ 244 c l (hB.below hb) true hf).mono fun e w' ⟨h1, h2⟩ => ⟨h1, hb.trans (h2.mono hb.size), hz.later h2⟩
  have hk2 : w.cell? ⟨b, off + 2, none⟩ = some (.int .u8 (cntR l : Int)) := by
    obtain ⟨b', off', e, _, hc⟩ := hB.row.lit (by rw [u8s_length]; omega)
    injection e with e
    injection e with e1 e2
    subst e1; subst e2
    have := hc 2 _ (u8s_at l 2 (by omega))
    rw [this]
    have e3 : l[2] = l.getD 2 0 := by simp [List.getD_eq_getElem?_getD, h]
    rw [e3, cnt_byte h (by omega)]
  have KC : Hid (∀ W, Below w.heap.size w W → W.cell? ⟨b, off, none⟩ = some (.int .u8 (x0 : Int)) ∧ W.cell? ⟨b, off + 1, none⟩ = some (.int .u8 (treeR l)) ∧ W.cell? ⟨b, off + 2, none⟩ = some (.int .u8 (cntR l : Int))) := fun W hW => ⟨(hW.cell (p := ⟨b, off, none⟩) hI.hb).trans hI.k0, (hW.cell (p := ⟨b, off + 1, none⟩) hI.hb).trans hI.k1, (hW.cell (p := ⟨b, off + 2, none⟩) hI.hb).trans hk2⟩
  have WD : Hid (∀ w1 W, MsN w1 W (treeR l) (leafR l) 0 none 0 0 none 0 [] [] → _) := fun w1 W hW => MsN.width7 hti (widR l) rfl hW
  have MX : Hid (∀ w1 W i Ak ck j Av cv ks vs, MsN w1 W (treeR l) (leafR l) i Ak ck j Av cv ks vs → _) := fun w1 W i Ak ck j Av cv ks vs hW => MsN.max7 hti (capR l) rfl hW
  have KT : Hid (∀ k, k < cntR l → keyErr (-1) ((keysR l).take k) = 0 → keyErr (-1) ((keysR l).take (k + 1)) = followsE (keyR l k) (prevK (-1) (intsR l) k + 1) ∧ -1 ≤ prevK (-1) (intsR l) k ∧ prevK (-1) (intsR l) k ≤ maxK ∧ prevK (-1) (intsR l) (k + 1) = (keyR l k : Int)) := fun k => key_test
  have IA : Hid (∀ k, k < cntR l → (intsR l).take (k + 1) = (intsR l).take k ++ [(keyR l k : Int)]) := fun k => intsR_at
  have VA : Hid (∀ k, k < cntR l → (valsR l).take (k + 1) = (valsR l).take k ++ [valR l k]) := fun k => valsR_at
  have LN : Hid ((keysR l).length = cntR l ∧ (intsR l).length = cntR l ∧ (valsR l).length = cntR l) := ⟨keysR_len l, intsR_len l, valsR_len l⟩
  have KG : Hid (∀ k : Nat, k < 18 → ∀ W, Below w.heap.size w W → Calls Tryz.prog 76 #[.slice (some ⟨b, off, none⟩) 244 c, .int .i64 (12 + 8 * (k : Int)), .int .i64 8] W fun e w' => W = w' ∧ (keyR l k < 9223372036854775808 → e = .returned (.tuple #[.int .i64 (keyR l k : Int), .int .i64 0])) ∧ (9223372036854775808 ≤ keyR l k → e = .returned (.tuple #[.int .i64 0, .int .i64 2]))) := fun k hk W hW => rf_key hB k hk W hW
  have VB : Hid (∀ k, k < cntR l → ∀ W o m c', Below w.heap.size w W → o = off + (12 + 8 * capR l + widR l * k) → m = widR l → m ≤ c' → c' ≤ 9223372036854775807 → Bytes8 W (some ⟨b, o, none⟩) m c' (valR l k)) := fun k hk W o m c' hb ho hm1 h1 h2 => valR_bytes hB (widR l) (capR l) rfl rfl k (by have : widR l * (k + 1) ≤ widR l * capR l := Nat.mul_le_mul_left _ (by omega); rw [Nat.mul_add, Nat.mul_one] at this; omega) W o m c' hb ho hm1 h1 h2
  have GD : Hid (∀ w1 wr Ak ck Av cv cnt, keyErr (-1) (keysR l) = 0 → cnt = cntR l → Below w.heap.size w w1 → w.heap.size < w1.heap.size → MsN w1 wr (treeR l) (leafR l) cnt Ak ck cnt Av cv (intsR l) (valsR l) → RdPostF w l (.returned (.tuple #[.agg #[.int .i64 (treeR l), .bool (leafR l), .slice Ak cnt ck, .slice Av cnt cv], .int .i64 0])) ((((wr.setCell ⟨w.heap.size, 0, none⟩ (.int .i64 (treeR l))).setCell ⟨w.heap.size, 1, none⟩ (.bool (leafR l))).setCell ⟨w.heap.size, 2, none⟩ (.slice Ak cnt ck)).setCell ⟨w.heap.size, 3, none⟩ (.slice Av cnt cv))) := fun w1 wr Ak ck Av cv cnt h1 h2 h3 h4 h5 => ms_finish hf h1 h2 h3 h4 h5
  have KEnd : Hid (∀ k e, keyErr (-1) ((keysR l).take (k + 1)) = e → e ≠ 0 → readNE l = e ∧ readN l = Nod.zero) := fun k e => key_end hf
  have hmulF : Hid (∀ k, k < cntR l → 12 + 8 * capR l + widR l * k + widR l ≤ 228) := fun k hk => by
    have : widR l * (k + 1) ≤ widR l * capR l := Nat.mul_le_mul_left _ (by omega)
    rw [Nat.mul_add, Nat.mul_one] at this
    omega
  have hlf := hI.leaf
  obtain ⟨ht0, ht1⟩ := hI.tree
  have hcc := hI.cap
  have hcm := hI.most
  clear hB hf hF h hI hwm hz hb hti hk2 hfit
  generalize treeR l = tree at *
  generalize leafR l = leaf at *
  generalize cntR l = cnt at *
  generalize widR l = wd at *
  generalize capR l = mx at *
  subst hlf
  simp only [zN] at *
  go_enter Tryz.func75, Tryz.ntmps75
  go_wp2_with (go_at_call 104; (with_reducible refine (FMC.out).mono ?_); rintro e w1 ⟨rfl, hb1, hz1⟩)
  have hzs : w.heap.size < w1.heap.size := block_lt hz1
  obtain ⟨hk0, hk1, _⟩ := KC.out w1 hb1
  have a1 : ∀ o, Below w.heap.size w (w1.alloc o) := fun o => hb1.alloc hb1.size _
  obtain ⟨hj0, hj1, _⟩ := KC.out _ (a1 (.cells #[.int .i64 0, .bool false, .slice none 0 0, .slice none 0 0] 55))
  obtain ⟨hm0, hm1, _⟩ := KC.out _ (a1 (.cells #[.int .i64 tree, .bool ((x0 : Int) == 1), .slice none 0 0, .slice none 0 0] 55))
  have ST := Lib.hid ((MsN.start w1 tree ((x0 : Int) == 1)).later ((Below.refl _ _).drew))
  have HZ1 := Lib.hid hz1
  have HB1 := Lib.hid hb1
  clear a1 hz1
  go_region
  generalize ((x0 : Int) == 1) = leaf at *
  generalize (w1.alloc (.cells #[.int .i64 tree, .bool leaf, .slice none 0 0, .slice none 0 0] 55)).drew = W1 at *
  clear hk0 hk1 hj0 hj1 hm0 hm1
  have q0 := ST.out.node.c0
  have q1 := ST.out.node.c1
  go_wp2_with (go_at_call 105; (with_reducible refine (WD.out _ _ ST.out).mono ?_); rintro e w2 ⟨rfl, hS2⟩)
  have HS2 := Lib.hid hS2
  go_loopw [6] (fun i wr => ∃ k : Nat, k ≤ cnt ∧ i = .int .i64 k ∧ Hid (keyErr (-1) ((keysR l).take k) = 0) ∧ Hid (∃ Ak ck Av cv, MsN w1 wr tree leaf k Ak ck k Av cv ((intsR l).take k) ((valsR l).take k))) (fun i _ => cnt - (intOf i).toNat)
  case atStart => exact ⟨0, by omega, rfl, rfl, none, 0, none, 0, HS2.out⟩
  case round =>
    clear HS2 hS2 q0 q1
    obtain ⟨k, hk, rfl, hE, Ak, ck, Av, cv, hS⟩ := hrel
    have hbr : Below w.heap.size w wr := HB1.out.trans (hS.bel.mono HB1.out.size)
    obtain ⟨_, _, r2⟩ := KC.out wr hbr
    have hzr := HZ1.out.keep hS.bel hzs
    have z0 := hzr.c0; have z1 := hzr.c1; have z2 := hzr.c2; have z3 := hzr.c3; have y0 := Lib.frozen_of_heap hzr 0; have y1 := Lib.frozen_of_heap hzr 1; have y2 := Lib.frozen_of_heap hzr 2; have y3 := Lib.frozen_of_heap hzr 3
    by_cases hlt : k < cnt
    · obtain ⟨t1, t2, t3, t4⟩ := KT.out k hlt hE.out
      have K1 := Lib.hid (KG.out k (by omega))
      have hT1 := Lib.hid t1
      have hT4 := Lib.hid t4
      by_cases hbig : 9223372036854775808 ≤ keyR l k
      · have HEnd := Lib.hid (KEnd.out k 2 (by rw [t1]; unfold followsE; rw [if_pos (.inr (by omega))]) (by omega))
        have HBig := Lib.hid hbig
        have HS := Lib.hid hS
        clear t1 t2 t3 t4 hbig hS
        go_wp2_with (go_at_call 76; (with_reducible refine (K1.out _ hbr).mono ?_); rintro e w5 ⟨rfl, _, hhi⟩; obtain rfl := hhi HBig.out)
        refine bodyPost_ret (results_nod Tryz.results75 _ _ w.heap.size 0 false (.slice none 0 0) (.slice none 0 0) rfl rfl rfl (hzr.store _ _ _ _)) rfl ?_
        exact rdPost_bad HEnd.out (below_store7 hbr (Nat.le_refl _) _ _ _ _)
      · have HSm := Lib.hid (show keyR l k < 9223372036854775808 by omega)
        by_cases hmax : (281474976710656 : Int) ≤ (keyR l k : Int)
        · have HEnd := Lib.hid (KEnd.out k 2 (by rw [t1]; unfold followsE; rw [if_pos (.inr (by omega))]) (by omega))
          have HS := Lib.hid hS
          have hd : decide ((281474976710655 : Int) < (keyR l k : Int)) = true := decide_eq_true (by omega)
          clear t1 t2 t3 t4 hbig hS
          generalize keyR l k = key at *
          go_wp2_with (go_at_call 76; (with_reducible refine (K1.out _ hbr).mono ?_); rintro e w5 ⟨rfl, hlo, _⟩; obtain rfl := hlo HSm.out)
          refine bodyPost_ret (results_nod Tryz.results75 _ _ w.heap.size 0 false (.slice none 0 0) (.slice none 0 0) rfl rfl rfl (hzr.store _ _ _ _)) rfl ?_
          exact rdPost_bad HEnd.out (below_store7 hbr (Nat.le_refl _) _ _ _ _)
        · have hmx2 : (keyR l k : Int) ≤ 281474976710655 := by omega
          have hd : decide ((281474976710655 : Int) < (keyR l k : Int)) = false := decide_eq_false (by omega)
          obtain ⟨P, hP⟩ : ∃ P, prevK (-1) (intsR l) k = P := ⟨_, rfl⟩
          rw [hP] at t1 t2
          by_cases hle : (keyR l k : Int) ≤ P
          · have HEnd := Lib.hid (KEnd.out k 8 (by rw [t1]; unfold followsE; rw [if_neg (by omega), if_pos (by omega)]) (by omega))
            have HK : Hid (∃ k' bk ok, k = k' + 1 ∧ Ak = some ⟨bk, ok, none⟩ ∧ wr.cell? ⟨bk, ok + k', none⟩ = some (.int .i64 P)) := by
              cases k with
              | zero => exfalso; rw [prevK, if_pos rfl] at hP; omega
              | succ k' =>
                obtain ⟨bk, ok, e, hcp⟩ := hS.last (by have := LN.out.2.1; omega)
                rw [hP] at hcp
                exact ⟨k', bk, ok, rfl, e, hcp⟩
            obtain ⟨k', bk, ok, hkk, rfl, hcp⟩ := HK.out
            have e7 : wrap64 ((k : Int) - 1) = (k' : Int) := by unfold wrap64; omega
            have e8 : (k : Int) - 1 = (k' : Int) := by omega
            have e9 : decide ((0 : Int) < (k : Int)) = true := decide_eq_true (by omega)
            have e10 : k' < k := by omega
            have n2 := hS.node.c2
            have hdl : decide ((keyR l k : Int) ≤ P) = true := decide_eq_true hle
            have HS := Lib.hid hS
            clear t1 t2 t3 t4 hbig hS hmax hmx2 hkk HK hP hle
            generalize keyR l k = key at *
            go_wp2_with (go_at_call 76; (with_reducible refine (K1.out _ hbr).mono ?_); rintro e w5 ⟨rfl, hlo, _⟩; obtain rfl := hlo HSm.out)
            refine bodyPost_ret (results_nod Tryz.results75 _ _ w.heap.size 0 false (.slice none 0 0) (.slice none 0 0) rfl rfl rfl (hzr.store _ _ _ _)) rfl ?_
            exact rdPost_bad HEnd.out (below_store7 hbr (Nat.le_refl _) _ _ _ _)
          · have hE1 : Hid (keyErr (-1) ((keysR l).take (k + 1)) = 0) := by
              show _ = _
              rw [t1]; unfold followsE; rw [if_neg (by omega), if_neg (by omega)]
            have hIA := Lib.hid (IA.out k hlt)
            have hVA := Lib.hid (VA.out k hlt)
            have V1 := Lib.hid (VB.out k hlt)
            have hfk := hmulF.out k hlt
            have n2 := hS.node.c2
            have n0 := hS.node.c0
            have n1 := hS.node.c1
            obtain ⟨y, hy⟩ : ∃ y, y = wd * k := ⟨_, rfl⟩
            have hwk : Int.ofNat wd * Int.ofNat k = Int.ofNat y := by rw [hy]; exact (Int.natCast_mul wd k).symm
            have e1 : wrap64 ((wd : Int) * (k : Int)) = (y : Int) := by
              have e0 : (wd : Int) * (k : Int) = (y : Int) := hwk
              rw [e0]; unfold wrap64; omega
            rw [← hy] at hfk
            have hV2 : Hid (∀ W o m c', Below w.heap.size w W → o = off + (12 + 8 * mx + y) → m = wd → m ≤ c' → c' ≤ 9223372036854775807 → Bytes8 W (some ⟨b, o, none⟩) m c' (valR l k)) := by rw [hy]; exact V1.out
            clear V1 hwk hy t1 t2 t3 t4 hbig hmax
            have HS := Lib.hid hS
            have HK : Hid (k = 0 ∨ ∃ k' bk ok, k = k' + 1 ∧ Ak = some ⟨bk, ok, none⟩ ∧ wr.cell? ⟨bk, ok + k', none⟩ = some (.int .i64 P)) := by
              cases k with
              | zero => exact .inl rfl
              | succ k' =>
                obtain ⟨bk, ok, e, hcp⟩ := hS.last (by have := LN.out.2.1; omega)
                rw [hP] at hcp
                exact .inr ⟨k', bk, ok, rfl, e, hcp⟩
            have hdl : decide ((keyR l k : Int) ≤ P) = false := decide_eq_false hle
            clear hS hP hle hT1 hT4
            generalize valR l k = vk at *
            generalize keyR l k = key at *
            rcases HK.out with hk0 | ⟨k', bk, ok, hkk, rfl, hcp⟩
            · have e9 : decide ((0 : Int) < (k : Int)) = false := decide_eq_false (by omega)
              have e11 : ¬ 0 < k := by omega
              clear hk0 HK
              go_wp2_with (first
                | (go_at_call 76; (with_reducible refine (K1.out _ hbr).mono ?_); rintro e w5 ⟨rfl, hlo, _⟩; obtain rfl := hlo HSm.out)
                | (go_at_call 106; (with_reducible refine (MX.out _ _ _ _ _ _ _ _ _ _ HS.out).mono ?_); rintro e w4 ⟨rfl, hS4⟩; have o2 := hS4.node.c2)
                | (at_builtin; go_must (refine wpList_append_newG w4 rfl (.tmp 76) (.tmp 78) _ rfl (w1.heap.size + 1) 3 _ _ 8 Tryz.underlying26 info_i64 rfl (.slice Ak k ck) _ _ rfl hS4.ok hS4.low [_] 1 1 rfl rfl (by simp [Value.oneCell']) (by omega) (by omega) ?_); intro v6 w6 ho6 hg6; obtain ⟨Ak', ck', rfl, hn6, hS6⟩ := hS4.addKey ho6.out hg6.out; have m2 := hn6.c2; have g2 := Lib.frozen_of_heap hn6 2))
              have n3 := hS6.node.c3
              have HS6 := Lib.hid hS6
              generalize w6.setCell ⟨w1.heap.size, 2, none⟩ (.slice Ak' (k + 1) ck') = w7 at *
              clear hS6 hn6 m2 g2 ho6 hg6 n2 o2 hS4
              obtain ⟨p, hp⟩ : ∃ p, p = 12 + 8 * mx + y := ⟨_, rfl⟩
              obtain ⟨q, hq⟩ : ∃ q, q = p + wd := ⟨_, rfl⟩
              have f1 : (12 : Int) + 8 * (mx : Int) + (y : Int) = (p : Int) := by omega
              have f2 : IntKind.i64.wrap ((p : Int) + (wd : Int)) = (q : Int) := by rw [IntKind.wrap_i64]; omega
              have f3 : q ≤ c := by omega
              have f4 : p ≤ q := by omega
              have f5 : ¬ c = p := by omega
              have f6 : q - p = wd := by omega
              have hb7 : Below w.heap.size w w7 := HB1.out.trans (HS6.out.bel.mono HB1.out.size)
              have hVb := hV2.out w7.drew (off + p) wd (c - p) hb7.drew (by rw [hp]) rfl (by omega) (by omega)
              have cvs := run_str hVb
              have HSd := Lib.hid (HS6.out.later ((Below.refl _ _).alloc (Nat.le_refl _) (.cells #[.string ⟨vk.toArray⟩] 9)).drew)
              have n3A := (HS6.out.later ((Below.refl _ _).alloc (Nat.le_refl _) (.cells #[.string ⟨vk.toArray⟩] 9) : Below w7.heap.size w7 _)).node.c3
              clear hVb hp hq
              simp only [f1]
              go_region_law (first
                | (refine step_append_rowG _ rfl (.tmp 82) (.tmp 90) 53 rfl (w1.heap.size + 1) 9 1 _ 16 Tryz.underlying53 info_strvA rfl (by omega) (.slice Av k cv) k _ rfl HSd.out.ov HSd.out.low ⟨w7.heap.size, 0, none⟩ [.string ⟨vk.toArray⟩] 1 1 rfl rfl (Row.of_block (t := 9) (fr := (0, 0)) (heap_alloc_new w7 _)) (by simp [Value.oneCell']) (by omega) (by omega) ?_
                   intro v8 w8 ho8 hg8
                   obtain ⟨Av', cv', rfl, hn8, hS8⟩ := HSd.out.addVal ho8.out hg8.out
                   have m3 := hn8.c3
                   have g3 := Lib.frozen_of_heap hn8 3))
              all_goals go_wp2
              all_goals go_roundw
              all_goals first
                | exact ⟨k + 1, by omega, by go_num, hE1, Ak', ck', Av', cv', by rw [hIA.out, hVA.out]; exact hS8⟩
                | (simp [intOf]; omega)
            · have e7 : wrap64 ((k : Int) - 1) = (k' : Int) := by unfold wrap64; omega
              have e8 : (k : Int) - 1 = (k' : Int) := by omega
              have e9 : decide ((0 : Int) < (k : Int)) = true := decide_eq_true (by omega)
              have e10 : k' < k := by omega
              clear hkk HK
              go_wp2_with (first
                | (go_at_call 76; (with_reducible refine (K1.out _ hbr).mono ?_); rintro e w5 ⟨rfl, hlo, _⟩; obtain rfl := hlo HSm.out)
                | (go_at_call 106; (with_reducible refine (MX.out _ _ _ _ _ _ _ _ _ _ HS.out).mono ?_); rintro e w4 ⟨rfl, hS4⟩; have o2 := hS4.node.c2)
                | (at_builtin; go_must (refine wpList_append_newG w4 rfl (.tmp 76) (.tmp 78) _ rfl (w1.heap.size + 1) 3 _ _ 8 Tryz.underlying26 info_i64 rfl (.slice (some ⟨bk, ok, none⟩) k ck) _ _ rfl hS4.ok hS4.low [_] 1 1 rfl rfl (by simp [Value.oneCell']) (by omega) (by omega) ?_); intro v6 w6 ho6 hg6; obtain ⟨Ak', ck', rfl, hn6, hS6⟩ := hS4.addKey ho6.out hg6.out; have m2 := hn6.c2; have g2 := Lib.frozen_of_heap hn6 2))
              have n3 := hS6.node.c3
              have HS6 := Lib.hid hS6
              generalize w6.setCell ⟨w1.heap.size, 2, none⟩ (.slice Ak' (k + 1) ck') = w7 at *
              clear hS6 hn6 m2 g2 ho6 hg6 n2 o2 hS4
              obtain ⟨p, hp⟩ : ∃ p, p = 12 + 8 * mx + y := ⟨_, rfl⟩
              obtain ⟨q, hq⟩ : ∃ q, q = p + wd := ⟨_, rfl⟩
              have f1 : (12 : Int) + 8 * (mx : Int) + (y : Int) = (p : Int) := by omega
              have f2 : IntKind.i64.wrap ((p : Int) + (wd : Int)) = (q : Int) := by rw [IntKind.wrap_i64]; omega
              have f3 : q ≤ c := by omega
              have f4 : p ≤ q := by omega
              have f5 : ¬ c = p := by omega
              have f6 : q - p = wd := by omega
              have hb7 : Below w.heap.size w w7 := HB1.out.trans (HS6.out.bel.mono HB1.out.size)
              have hVb := hV2.out w7.drew (off + p) wd (c - p) hb7.drew (by rw [hp]) rfl (by omega) (by omega)
              have cvs := run_str hVb
              have HSd := Lib.hid (HS6.out.later ((Below.refl _ _).alloc (Nat.le_refl _) (.cells #[.string ⟨vk.toArray⟩] 9)).drew)
              have n3A := (HS6.out.later ((Below.refl _ _).alloc (Nat.le_refl _) (.cells #[.string ⟨vk.toArray⟩] 9) : Below w7.heap.size w7 _)).node.c3
              clear hVb hp hq
              simp only [f1]
              go_region_law (first
                | (refine step_append_rowG _ rfl (.tmp 82) (.tmp 90) 53 rfl (w1.heap.size + 1) 9 1 _ 16 Tryz.underlying53 info_strvA rfl (by omega) (.slice Av k cv) k _ rfl HSd.out.ov HSd.out.low ⟨w7.heap.size, 0, none⟩ [.string ⟨vk.toArray⟩] 1 1 rfl rfl (Row.of_block (t := 9) (fr := (0, 0)) (heap_alloc_new w7 _)) (by simp [Value.oneCell']) (by omega) (by omega) ?_
                   intro v8 w8 ho8 hg8
                   obtain ⟨Av', cv', rfl, hn8, hS8⟩ := HSd.out.addVal ho8.out hg8.out
                   have m3 := hn8.c3
                   have g3 := Lib.frozen_of_heap hn8 3))
              all_goals go_wp2
              all_goals go_roundw
              all_goals first
                | exact ⟨k + 1, by omega, by go_num, hE1, Ak', ck', Av', cv', by rw [hIA.out, hVA.out]; exact hS8⟩
                | (simp [intOf]; omega)
    · obtain rfl : k = cnt := by omega
      have hEall : keyErr (-1) (keysR l) = 0 := by
        have := hE.out
        rwa [List.take_of_length_le (by have := LN.out.1; omega)] at this
      rw [List.take_of_length_le (by have := LN.out.2.1; omega), List.take_of_length_le (by have := LN.out.2.2; omega)] at hS
      have HG1 := Lib.hid (GD.out w1 wr Ak ck Av cv k hEall rfl HB1.out hzs hS)
      have x0 := hS.node.c0; have x1 := hS.node.c1; have x2 := hS.node.c2; have x3 := hS.node.c3
      go_wp2
      refine bodyPost_ret (results_nod Tryz.results75 _ _ w.heap.size tree leaf (.slice Ak k ck) (.slice Av k cv) rfl rfl rfl (hzr.store _ _ _ _)) rfl ?_
      exact HG1.out

end Go.Proofs.YtfcehhhcjlpklaaGreatDoor

/-
  The walk of NodeReads.
-/
namespace Go.Proofs.YtfcehhhcjlpklaaGreatDoor
open Go.RowKit
set_option linter.unusedVariables false
set_option linter.unusedSimpArgs false

theorem refRead_any7F (w : World) (A : Option Addr) (n c : Nat) (l : List UInt8) (hB : Bytes8 w A n c l) : Calls Tryz.prog 75 #[.slice A n c] w fun e w' => RdPostF w l e w' := by
  cases hf : formN l with
  | false => exact refRead_bad w A n c l hB hf
  | true => exact refRead_good w A n c l hB hf

section
variable {w : World} {A : Option Addr} {q c : Nat} {l : List UInt8}
end

end Go.Proofs.YtfcehhhcjlpklaaGreatDoor

/-
  Layer 10: Put.
-/
namespace Go.Proofs.YtfcehhhcjlpklaaGreatDoor
open Go.RowKit
set_option linter.unusedVariables false
set_option linter.unusedSimpArgs false

/-- what the program's Put answers -/
def SlPut (l : List Slt) (w : World) (e : Ending) (w' : World) : Prop :=
  (okS10 l = true → ∃ g, e = .returned (.tuple #[.slice (some ⟨g, 0, none⟩) 244 244, .int .i64 0]) ∧ Own8 w' w.heap.size g (encS10 l)) ∧ (okS10 l = false → e = .returned (.tuple #[.slice none 0 0, .int .i64 1])) ∧ Below w.heap.size w w'
theorem SlPut.bad {l : List Slt} {w w' : World} (h : okS10 l = false) (hb : Below w.heap.size w w') : SlPut l w (.returned (.tuple #[.slice none 0 0, .int .i64 1])) w' :=
  ⟨fun e => (by rw [h] at e; cases e), fun _ => rfl, hb⟩
theorem SlPut.good {l : List Slt} {w w' : World} {g : Nat} (h : okS10 l = true) (hO : Own8 w' w.heap.size g (encS10 l)) (hb : Below w.heap.size w w') : SlPut l w (.returned (.tuple #[.slice (some ⟨g, 0, none⟩) 244 244, .int .i64 0])) w' :=
  ⟨fun _ => ⟨g, rfl, hO⟩, fun e => (by rw [h] at e; cases e), hb⟩
end Go.Proofs.YtfcehhhcjlpklaaGreatDoor

/-
  Layer 10: decode, and the function literal that takes from the input.
-/
namespace Go.Proofs.YtfcehhhcjlpklaaGreatDoor
open Go.RowKit
set_option linter.unusedVariables false
set_option linter.unusedSimpArgs false

/-- the bytes from s on -/
theorem Bytes8.rest {w : World} {b off m c : Nat} {l : List UInt8} (h : Bytes8 w (some ⟨b, off, none⟩) m c l) {s : Nat} (hs : s ≤ m) : Bytes8 w (if c = s then some ⟨b, off, none⟩ else some ⟨b, off + s, none⟩) (m - s) (c - s) (l.drop s) := by
  have hc := h.cap
  have hm := h.most
  refine ⟨by rw [List.length_drop, h.len], by omega, by omega, ?_⟩
  have := h.row.cut_lit (m := s) (c := c) (by rw [u8s_length, h.len]; exact hc)
  rwa [u8s_drop] at this
theorem Bytes8.first {w : World} {A : Option Addr} {m c : Nat} {l : List UInt8} (h : Bytes8 w A m c l) {s : Nat} (hs : s ≤ m) : Bytes8 w A s c (l.take s) := by
  have hc := h.cap
  refine ⟨by rw [List.length_take, h.len]; omega, by omega, h.most, ?_⟩
  have := h.row.take s
  rwa [u8s_take] at this

/-- a variable that holds a slice of bytes -/
def RestAt (w : World) (q : Nat) (A : Option Addr) (m c : Nat) : Prop := w.heap[q]? = some (.cells #[.slice A m c] 22 (0, 0))

/-! ### decode -/
end Go.Proofs.YtfcehhhcjlpklaaGreatDoor

/-
  Layer 10: Read.
-/
namespace Go.Proofs.YtfcehhhcjlpklaaGreatDoor
open Go.RowKit
set_option linter.unusedVariables false
set_option linter.unusedSimpArgs false

theorem readSE10_bad {b : List UInt8} (h : formS b = false) : readSE10 b = 7 ∧ readSL10 b = [] := by
  have e : readSE10 b = 7 := by rw [readSE10, h]; rfl
  exact ⟨e, by rw [readSL10, if_neg (by rw [e]; decide)]⟩
/-- what Read answers -/
def SlRd (b : List UInt8) (w : World) (e : Ending) (w' : World) : Prop := ∃ A m c, e = .returned (.tuple #[.slice A m c, .int .i64 (readSE10 b)]) ∧ Trs w' A m c (readSL10 b) ∧ Below w.heap.size w w'
theorem SlRd.bad {b : List UInt8} {w w' : World} (h : formS b = false) (hb : Below w.heap.size w w') : SlRd b w (.returned (.tuple #[.slice none 0 0, .int .i64 7])) w' := by
  obtain ⟨e1, e2⟩ := readSE10_bad h
  exact ⟨none, 0, 0, by rw [e1], by rw [e2]; exact Trs.nil _, hb⟩

/-- the texts as they are taken -/
def tookP (l : List UInt8) (N k : Nat) : List (List UInt8) := (List.range k).map (sltAt10 l) ++ List.replicate (N - k) []
theorem tookP_length (l : List UInt8) {N k : Nat} (h : k ≤ N) : (tookP l N k).length = N := by simp [tookP]; omega
theorem tookP_step (l : List UInt8) {N k : Nat} (hk : k < N) : (tookP l N k).set k (sltAt10 l k) = tookP l N (k + 1) := by
  rw [tookP, List.set_append_right _ _ (by simp), tookP, List.range_succ, List.map_append, show N - k = (N - (k + 1)) + 1 by omega, List.replicate_succ]
  simp

/-- what Read keeps: its variable, the texts, all below as it was -/
structure TookAt (w W : World) (q g : Nat) (l : List UInt8) (N k : Nat) : Prop where
  bel : Below w.heap.size w W
  low : w.heap.size ≤ q
  apart : g ≠ q
  txt : OwnT W w.heap.size g (tookP l N k)
  rest : ∃ A m c, RestAt W q A m c ∧ Bytes8 w A m c (l.drop (4 + 16 * k))

theorem TookAt.step {w W : World} {q g : Nat} {l : List UInt8} {N k : Nat} (h : TookAt w W q g l N k) (hk : k < N) (hl : l.length = 244) (hN : N ≤ 15) : ∃ A m c, 16 ≤ m ∧ Bytes8 w A m c (l.drop (4 + 16 * k)) ∧ RestAt W q A m c ∧
    ∀ A2, Bytes8 w A2 (m - 16) (c - 16) ((l.drop (4 + 16 * k)).drop 16) → (convert 22 9 (.slice A 16 c)).run Tryz.prog (W.setCell ⟨q, 0, none⟩ (.slice A2 (m - 16) (c - 16))) = .ok (.string ⟨(sltAt10 l k).toArray⟩) (W.setCell ⟨q, 0, none⟩ (.slice A2 (m - 16) (c - 16))) ∧
      (∃ z, (W.setCell ⟨q, 0, none⟩ (.slice A2 (m - 16) (c - 16))).cell? ⟨g, k, none⟩ = some (.string z)) ∧ (W.setCell ⟨q, 0, none⟩ (.slice A2 (m - 16) (c - 16))).frozen? ⟨g, k, none⟩ = false ∧
      TookAt w ((W.setCell ⟨q, 0, none⟩ (.slice A2 (m - 16) (c - 16))).setCell ⟨g, k, none⟩ (.string ⟨(sltAt10 l k).toArray⟩)) q g l N (k + 1) := by
  obtain ⟨A, m, c, hr, hB⟩ := h.rest
  have hm : m = 244 - (4 + 16 * k) := by rw [← hB.len, List.length_drop, hl]
  have hm2 : 16 ≤ m := by omega
  refine ⟨A, m, c, hm2, hB, hr, fun A2 hB2 => ?_⟩
  have hb2 : Below w.heap.size w (W.setCell ⟨q, 0, none⟩ (.slice A2 (m - 16) (c - 16))) := h.bel.setCell (p := ⟨q, 0, none⟩) h.low _
  have hT2 : OwnT (W.setCell ⟨q, 0, none⟩ (.slice A2 (m - 16) (c - 16))) w.heap.size g (tookP l N k) := h.txt.other _ _ h.apart
  have hr2 : RestAt (W.setCell ⟨q, 0, none⟩ (.slice A2 (m - 16) (c - 16))) q A2 (m - 16) (c - 16) := by
    unfold RestAt
    rw [heap_setCell_same _ q 0 _ _ _ hr]
    rfl
  refine ⟨run_str ((hB.first hm2).below hb2), ⟨_, hT2.cell (by rw [tookP_length l (by omega)]; exact hk)⟩, hT2.free k, ?_⟩
  refine ⟨hb2.setCell (p := ⟨g, k, none⟩) h.txt.low _, h.low, h.apart, ?_, ⟨A2, m - 16, c - 16, ?_, ?_⟩⟩
  · have := hT2.set k (sltAt10 l k)
    rw [tookP_step l hk] at this
    exact this
  · unfold RestAt
    rw [heap_setCell_other _ _ q _ (fun e => h.apart e.symm)]
    exact hr2
  · rw [List.drop_drop] at hB2
    exact hB2

end Go.Proofs.YtfcehhhcjlpklaaGreatDoor

/-
  Layer 10: the reference's Read.
-/
namespace Go.Proofs.YtfcehhhcjlpklaaGreatDoor
open Go.RowKit
set_option linter.unusedVariables false
set_option linter.unusedSimpArgs false

/-- what Read answers, and what it hands back is newer than all that stood -/
def SlRdF (b : List UInt8) (w : World) (e : Ending) (w' : World) : Prop := ∃ A m c, e = .returned (.tuple #[.slice A m c, .int .i64 (readSE10 b)]) ∧ Trs w' A m c (readSL10 b) ∧ Below w.heap.size w w' ∧ Newer w.heap.size A
theorem SlRdF.bad {b : List UInt8} {w w' : World} (h : formS b = false) (hb : Below w.heap.size w w') : SlRdF b w (.returned (.tuple #[.slice none 0 0, .int .i64 7])) w' := by
  obtain ⟨h1, h2⟩ := readSE10_bad h
  exact ⟨none, 0, 0, by rw [h1], by rw [h2]; exact Trs.nil _, hb, Newer.nil _⟩

end Go.Proofs.YtfcehhhcjlpklaaGreatDoor
