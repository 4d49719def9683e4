/-
  Joined: NodIC, NodID, NodJ, NodK, NodN, NodO.
-/
import Derived.Test.YtfcehhhcjlpklaaGreatDoorJWlkA29
import Derived.Test.YtfcehhhcjlpklaaGreatDoorJWlkA11
/-
  Layer 7's Read: the zeros, and the loop.
-/
namespace Go.Proofs.YtfcehhhcjlpklaaGreatDoor
open Go.RowKit
set_option linter.unusedVariables false
set_option linter.unusedSimpArgs false

theorem info_strvC : (Tryz.prog.info? 9).map (fun i => (i.zero, i.size, i.bytes)) = some (some (.string ByteArray.empty), 1, 16) := by kernel_rfl

set_option maxRecDepth 100000 in
set_option maxHeartbeats 1600000 in
theorem Read_restC (w : World) (A : Option Addr) (n c : Nat) (l : List UInt8) (hB : Bytes8 w A n c l) (h : l.length = 244) (hh : holdsN (treeR l) (leafR l) (cntR l) = true) (hp : l.take 12 = nodHeadB l) (wd mx : Nat) (hwm : wd = 24 ∧ mx = 6) (hw : widN (treeR l) (leafR l) = wd) (hm : capN (widN (treeR l) (leafR l)) = mx) :
    Calls Tryz.prog 96 #[.slice A n c] w fun e w' => RdPostF w l e w' := by
  obtain ⟨b, off, x0, rfl, hI⟩ := rd_in hB h
  obtain ⟨hk0, hk1, hj0, hj1, hm0, hm1⟩ := hI.three
  have G := Lib.hid (rd_get (tree := treeR l) (leaf := leafR l) hB h)
  have BG := Lib.hid (rd_begin (w := w) (tree := treeR l) (leaf := leafR l) (cntR l) hI.tree hI.cnt)
  have PK := Lib.hid (rd_pack (w := w) (tree := treeR l) (leaf := leafR l) (cntR l) hI.tree hI.cnt)
  have HO := Lib.hid (fun W => holds_any (treeR l) (leafR l) (cntR l) W true (by have := hI.cnt; omega) hh)
  have HP := Lib.hid (rd_prefix (tree := treeR l) (leaf := leafR l) hB h _ true (decide_eq_true hp))
  have HCNT := hh
  clear hh
  simp only [nodHeadB] at HP
  have WD := Lib.hid (fun W => Width_q (treeR l) (leafR l) W wd hw)
  have MX := Lib.hid (fun W => Max_q (treeR l) (leafR l) W mx hm)
  have hcm2 : cntR l ≤ mx := by
    have := HCNT; simp only [holdsN, Bool.and_eq_true, decide_eq_true_eq] at this; rw [hm] at this; exact this.1.2
  have hfit : mx ≤ 18 ∧ 12 + 8 * mx + wd * mx ≤ 244 := by obtain ⟨rfl, rfl⟩ := hwm; omega
  have hmul : wd * cntR l ≤ wd * mx := Nat.mul_le_mul_left _ hcm2
  obtain rfl := hI.hn
  have ZK := Lib.hid (fun r hr => rd_zk (tree := treeR l) (leaf := leafR l) hB mx hm hfit.1 hcm2 r hr)
  have ZV := Lib.hid (fun r hr => rd_zv (tree := treeR l) (leaf := leafR l) hB wd mx hw hm (by omega) r hr)
  have ZF : Hid (zkB l = false ∨ zvB l = false → readNE l = 7 ∧ readN l = Nod.zero) := fun hx => readNE_bad (fun hf => by
    have := (form_iff h).1 (formN_iff.1 hf)
    rcases hx with hx | hx
    · rw [hx] at this; exact absurd this.2.1 (by simp)
    · rw [hx] at this; exact absurd this.2.2 (by simp))
  have FM : Hid (zkB l = true → zvB l = true → formN l = true) := fun h1 h2 => formN_iff.2 ((form_iff h).2 ⟨⟨HCNT, hp⟩, h1, h2⟩)
  have KT : Hid (∀ k, k < cntR l → keyErr (-1) ((keysR l).take k) = 0 → keyErr (-1) ((keysR l).take (k + 1)) = followsE (keyR l k) (prevK (-1) (intsR l) k + 1) ∧ -1 ≤ prevK (-1) (intsR l) k ∧ prevK (-1) (intsR l) k ≤ maxK ∧ prevK (-1) (intsR l) (k + 1) = (keyR l k : Int)) := fun k => key_test
  have IA : Hid (∀ k, k < cntR l → (intsR l).take (k + 1) = (intsR l).take k ++ [(keyR l k : Int)]) := fun k => intsR_at
  have VA : Hid (∀ k, k < cntR l → (valsR l).take (k + 1) = (valsR l).take k ++ [valR l k]) := fun k => valsR_at
  have LN : Hid ((keysR l).length = cntR l ∧ (intsR l).length = cntR l ∧ (valsR l).length = cntR l) := ⟨keysR_len l, intsR_len l, valsR_len l⟩
  have KG : Hid (∀ k, k < mx → ∀ m c', m = 8 * mx → m ≤ c' → c' ≤ 9223372036854775807 → ∀ W, Below w.heap.size w W → Calls Tryz.prog 117 #[.slice (some ⟨b, off + 12, none⟩) m c', .int .i64 (8 * k : Int), .int .i64 8] W fun e w' => Below W.heap.size W w' ∧ (keyR l k < 9223372036854775808 → e = .returned (.tuple #[.int .i64 (keyR l k : Int), .int .i64 0])) ∧ (9223372036854775808 ≤ keyR l k → e = .returned (.tuple #[.int .i64 0, .int .i64 2]))) := fun k hk m c' e h1 h2 W hW => by
    subst e; exact rd_key hB mx hfit.1 k hk c' h1 h2 W hW
  have VB : Hid (∀ k, k < cntR l → ∀ W o m c', Below w.heap.size w W → o = off + (12 + 8 * mx + wd * k) → m = wd → m ≤ c' → c' ≤ 9223372036854775807 → Bytes8 W (some ⟨b, o, none⟩) m c' (valR l k)) := fun k hk W o m c' hb ho hm1 h1 h2 => valR_bytes hB wd mx hw hm k (by have : wd * (k + 1) ≤ wd * cntR l := Nat.mul_le_mul_left _ hk; rw [Nat.mul_add, Nat.mul_one] at this; omega) W o m c' hb ho hm1 h1 h2
  have GD : Hid (∀ w' Ak ck Av cv cnt, formN l = true → keyErr (-1) (keysR l) = 0 → cnt = cntR l → LpN w w' (treeR l) (leafR l) cnt Ak ck cnt Av cv (intsR l) (valsR l) → RdPostF w l (.returned (.tuple #[.agg #[.int .i64 (treeR l), .bool (leafR l), .slice Ak cnt ck, .slice Av cnt cv], .int .i64 0])) ((((w'.setCell ⟨w.heap.size, 0, none⟩ (.int .i64 (treeR l))).setCell ⟨w.heap.size, 1, none⟩ (.bool (leafR l))).setCell ⟨w.heap.size, 2, none⟩ (.slice Ak cnt ck)).setCell ⟨w.heap.size, 3, none⟩ (.slice Av cnt cv))) := fun w' Ak ck Av cv cnt => rdPost_good
  have ST := Lib.hid (RdN.start w (treeR l) (leafR l))
  have hlf := hI.leaf
  obtain ⟨ht0, ht1⟩ := hI.tree
  have hcn := hI.cnt
  have hcc := hI.cap
  have hcm := hI.most
  clear hB h hI hmul hfit
  generalize treeR l = tree at *
  generalize leafR l = leaf at *
  generalize cntR l = cnt at *
  subst hlf
  simp only [zN] at *
  go_enter Tryz.func96, Tryz.ntmps96
  go_wp2
  go_region
  generalize ((x0 : Int) == 1) = leaf at *
  generalize ((w.alloc (.cells #[.int .i64 0, .bool false, .slice none 0 0, .slice none 0 0] 55)).alloc (.cells #[.int .i64 tree, .bool leaf, .slice none 0 0, .slice none 0 0] 55)).drew = W1 at *
  clear hk0 hk1 hj0 hj1 hm0 hm1 hw hm
  obtain ⟨rfl, rfl⟩ := hwm
  go_wp2_with (first
    | (go_at_call 117; (with_reducible refine (G.out _ ST.out).mono ?_); rintro e w1 ⟨rfl, hS1⟩; have q0 := hS1.node.c0; have q1 := hS1.node.c1)
    | (go_at_call 31; (with_reducible refine (BG.out _ hS1).mono ?_); rintro e w2 ⟨A2, c2, rfl, hF2, hS2⟩)
    | (go_at_call 32; (with_reducible refine (PK.out _ _ _ hS2 hF2).mono ?_); rintro e w3 ⟨A3, c3, rfl, hB3, hS3⟩; have HB3 := Lib.hid hB3; clear hB3; have p0 := hS3.node.c0; have p1 := hS3.node.c1; have z0 := hS3.zero.c0; have z1 := hS3.zero.c1; have z2 := hS3.zero.c2; have z3 := hS3.zero.c3; have y0 := Lib.frozen_of_heap hS3.zero 0; have y1 := Lib.frozen_of_heap hS3.zero 1; have y2 := Lib.frozen_of_heap hS3.zero 2; have y3 := Lib.frozen_of_heap hS3.zero 3)
    | (go_at_call 55; (with_reducible refine (HO.out _).mono ?_); rintro e w' ⟨rfl, rfl⟩)
    | (go_at_call 118; (with_reducible refine (HP.out _ _ _ hS3 HB3.out).mono ?_); rintro e w' ⟨rfl, rfl⟩))
  go_quiet (first
    | (go_at_call 56; refine Calls.quiet_of_same (WD.out _))
    | (go_at_call 33; refine Calls.quiet_of_same (MX.out _)))
  go_wp2
  go_region
  have hS4 : RdN w (w3.drewN nq).drew tree leaf := hS3.later (below_drewN (Below.refl _ _) _).drew
  have z0 := hS4.zero.c0; have z1 := hS4.zero.c1; have z2 := hS4.zero.c2; have z3 := hS4.zero.c3; have y0 := Lib.frozen_of_heap hS4.zero 0; have y1 := Lib.frozen_of_heap hS4.zero 1; have y2 := Lib.frozen_of_heap hS4.zero 2; have y3 := Lib.frozen_of_heap hS4.zero 3
  generalize (w3.drewN nq).drew = w4 at *
  clear hS1 hS2 hS3 ST HB3 G BG PK HO HP WD MX
  cases hzk : zkB l with
  | false =>
    have Z1 := Lib.hid (ZK.out false hzk)
    go_wp2_with (go_at_call 119; (with_reducible refine (Z1.out _ _ _ _ hS4 (by omega) (by omega) (by omega) (by omega)).mono ?_); rintro e w' ⟨rfl, rfl⟩)
    refine bodyPost_ret (results_nod Tryz.results96 _ _ w.heap.size 0 false (.slice none 0 0) (.slice none 0 0) rfl rfl rfl (hS4.zero.store _ _ _ _)) rfl ?_
    exact rdPost_bad (ZF.out (.inl hzk)) (below_store7 hS4.bel (Nat.le_refl _) _ _ _ _)
  | true =>
    have Z1 := Lib.hid (ZK.out true hzk)
    cases hzv : zvB l with
    | false =>
      have Z2 := Lib.hid (ZV.out false hzv)
      go_wp2_with (first
        | (go_at_call 119; (with_reducible refine (Z1.out _ _ _ _ hS4 (by omega) (by omega) (by omega) (by omega)).mono ?_); rintro e w' ⟨rfl, rfl⟩)
        | (go_at_call 119; (with_reducible refine (Z2.out _ _ _ _ hS4 (by omega) (by omega) (by omega) (by omega)).mono ?_); rintro e w' ⟨rfl, rfl⟩))
      refine bodyPost_ret (results_nod Tryz.results96 _ _ w.heap.size 0 false (.slice none 0 0) (.slice none 0 0) rfl rfl rfl (hS4.zero.store _ _ _ _)) rfl ?_
      exact rdPost_bad (ZF.out (.inr hzv)) (below_store7 hS4.bel (Nat.le_refl _) _ _ _ _)
    | true =>
      have Z2 := Lib.hid (ZV.out true hzv)
      go_wp2_with (first
        | (go_at_call 119; (with_reducible refine (Z1.out _ _ _ _ hS4 (by omega) (by omega) (by omega) (by omega)).mono ?_); rintro e w' ⟨rfl, rfl⟩)
        | (go_at_call 119; (with_reducible refine (Z2.out _ _ _ _ hS4 (by omega) (by omega) (by omega) (by omega)).mono ?_); rintro e w' ⟨rfl, rfl⟩))
      have hf := FM.out hzk hzv
      have HL0 := Lib.hid hS4.loop
      clear Z1 Z2 ZK ZV ZF FM z0 z1 z2 z3 y0 y1 y2 y3 hS4 hzk hzv hp
      go_loopw [13, 100] (fun a i wr => ∃ k : Nat, k ≤ cnt ∧ i = .int .i64 k ∧ (∃ x : Int, a = .int .i64 x ∧ 0 ≤ x ∧ x ≤ 281474976710656 ∧ Hid (x = prevK (-1) (intsR l) k + 1)) ∧ Hid (keyErr (-1) ((keysR l).take k) = 0) ∧ Hid (∃ Ak ck Av cv, LpN w wr tree leaf k Ak ck k Av cv ((intsR l).take k) ((valsR l).take k))) (fun _ i _ => cnt - (intOf i).toNat)
      case atStart => exact ⟨0, by omega, rfl, ⟨0, rfl, by omega, by omega, rfl⟩, rfl, none, 0, none, 0, HL0.out⟩
      case round =>
        clear HL0
        obtain ⟨k, hk, rfl, ⟨x, rfl, hx0, hx1, hX⟩, hE, Ak, ck, Av, cv, hS⟩ := hrel
        by_cases hlt : k < cnt
        · have hkt := KT.out k hlt hE.out
          obtain ⟨t1, t2, t3, t4⟩ := hkt
          rw [← hX.out] at t1
          have hIA := Lib.hid (IA.out k hlt)
          have hVA := Lib.hid (VA.out k hlt)
          have K1 := Lib.hid (KG.out k (by omega))
          have KEnd : Hid (∀ e, keyErr (-1) ((keysR l).take (k + 1)) = e → e ≠ 0 → readNE l = e ∧ readN l = Nod.zero) := fun e => key_end hf
          have V1 := Lib.hid (VB.out k hlt)
          have hT1 := Lib.hid t1
          have hT4 := Lib.hid t4
          clear t1 t2 t3 t4
          by_cases hbig : 9223372036854775808 ≤ keyR l k
          · have hend : readNE l = 2 ∧ readN l = Nod.zero := KEnd.out 2 (by rw [hT1.out]; unfold followsE; rw [if_pos (.inr (by omega))]) (by omega)
            have HEnd := Lib.hid hend
            have HBig := Lib.hid hbig
            have HS := Lib.hid hS
            clear hend hbig hS
            go_wp2_with (go_at_call 117; (with_reducible refine (K1.out _ _ (by omega) (by omega) (by omega) _ HS.out.bel).mono ?_); rintro e w5 ⟨hb5, _, hhi⟩; obtain rfl := hhi HBig.out; have hS5 := HS.out.later hb5; have z0 := hS5.zero.c0; have z1 := hS5.zero.c1; have z2 := hS5.zero.c2; have z3 := hS5.zero.c3; have y0 := Lib.frozen_of_heap hS5.zero 0; have y1 := Lib.frozen_of_heap hS5.zero 1; have y2 := Lib.frozen_of_heap hS5.zero 2; have y3 := Lib.frozen_of_heap hS5.zero 3)
            refine bodyPost_ret (results_nod Tryz.results96 _ _ w.heap.size 0 false (.slice none 0 0) (.slice none 0 0) rfl rfl rfl (hS5.zero.store _ _ _ _)) rfl ?_
            exact rdPost_bad HEnd.out (below_store7 hS5.bel (Nat.le_refl _) _ _ _ _)
          · have hsm : keyR l k < 9223372036854775808 := by omega
            have HS := Lib.hid hS
            have HSm := Lib.hid hsm
            clear hbig hS hsm
            obtain ⟨fx, hfx⟩ : ∃ fx, followsE (keyR l k) x = fx := ⟨_, rfl⟩
            have FO := Lib.hid (fun W => follows_any (keyR l k) x W fx hfx)
            rw [hfx] at hT1
            by_cases h0 : fx = 0
            · subst h0
              have hmax : (keyR l k : Int) ≤ 281474976710655 := by
                rw [hX.out] at hfx
                exact ((followsE_ok (by have := hX.out; omega)).1 hfx).2
              have HX1 : Hid ((keyR l k : Int) + 1 = prevK (-1) (intsR l) (k + 1) + 1) := by rw [hT4.out]; rfl
              clear hfx KEnd
              generalize keyR l k = key at *
              go_wp2_with (first
                | (go_at_call 117; (with_reducible refine (K1.out _ _ (by omega) (by omega) (by omega) _ HS.out.bel).mono ?_); rintro e w5 ⟨hb5, hlo, _⟩; obtain rfl := hlo HSm.out; have hS5 := HS.out.later hb5)
                | (go_at_call 57; (with_reducible refine (FO.out _).mono ?_); rintro e w' ⟨rfl, rfl⟩; have n2 := hS5.node.c2)
                | (at_builtin; go_must (refine wpList_append_newG w5 rfl (.tmp 120) (.tmp 122) _ rfl (w.heap.size + 2) 3 _ _ 8 Tryz.underlying26 info_i64 rfl (.slice Ak k ck) _ _ rfl hS5.ok hS5.low [_] 1 1 rfl rfl (by simp [Value.oneCell']) (by omega) (by omega) ?_); intro v6 w6 ho6 hg6; obtain ⟨Ak', ck', rfl, hn6, hS6⟩ := hS5.addKey ho6.out hg6.out; have m2 := hn6.c2; have g2 := Lib.frozen_of_heap hn6 2))
              have n3 := hS6.node.c3
              have HS6 := Lib.hid hS6
              generalize w6.setCell ⟨w.heap.size + 1, 2, none⟩ (.slice Ak' (k + 1) ck') = w7 at *
              clear hS6 hn6 m2 g2 ho6 hg6 n2 hS5
              have hkc : k < 6 := by omega
              obtain ⟨p, hp⟩ : ∃ p, p = 24 * k := ⟨_, rfl⟩
              obtain ⟨q, hq⟩ : ∃ q, q = 24 * k + 24 := ⟨_, rfl⟩
              have e1 : IntKind.i64.wrap ((24 : Int) * (k : Int)) = (p : Int) := by rw [IntKind.wrap_i64]; omega
              have e2 : IntKind.i64.wrap ((24 : Int) * IntKind.i64.wrap ((k : Int) + 1)) = (q : Int) := by
                have : IntKind.i64.wrap ((k : Int) + 1) = (k : Int) + 1 := by rw [IntKind.wrap_i64]; omega
                rw [this, IntKind.wrap_i64]; omega
              have e3 : (q : Int) ≤ ((c - 60 : Nat) : Int) := by omega
              have e4 : p ≤ q := by omega
              have e5 : ¬ c - 60 = p := by omega
              have e6 : q - p = 24 := by omega
              have hVb := V1.out w7.drew (off + 60 + p) 24 (c - 60 - p) HS6.out.bel.drew (by omega) rfl (by omega) (by omega)
              have cvs := run_str hVb
              have HSd := Lib.hid (HS6.out.later ((Below.refl _ _).alloc (Nat.le_refl _) (.cells #[.string ⟨(valR l k).toArray⟩] 9)).drew)
              have n3A := (HS6.out.later ((Below.refl _ _).alloc (Nat.le_refl _) (.cells #[.string ⟨(valR l k).toArray⟩] 9) : Below w7.heap.size w7 _)).node.c3
              clear hVb hp hq
              go_region_law (first
                | (refine step_append_rowG _ rfl (.tmp 126) (.tmp 137) 53 rfl (w.heap.size + 2) 9 1 _ 16 Tryz.underlying53 info_strvC rfl (by omega) (.slice Av k cv) k _ rfl HSd.out.ov HSd.out.low ⟨w7.heap.size, 0, none⟩ [.string ⟨(valR l k).toArray⟩] 1 1 rfl rfl (Row.of_block (t := 9) (fr := (0, 0)) (heap_alloc_new w7 _)) (by simp [Value.oneCell']) (by omega) (by omega) ?_
                   intro v8 w8 ho8 hg8
                   obtain ⟨Av', cv', rfl, hn8, hS8⟩ := HSd.out.addVal ho8.out hg8.out
                   have m3 := hn8.c3
                   have g3 := Lib.frozen_of_heap hn8 3))
              all_goals go_wp2
              all_goals go_roundw
              all_goals first
                | exact ⟨k + 1, by omega, by go_num, ⟨(key : Int) + 1, by go_num, by omega, by omega, HX1⟩, hT1, Ak', ck', Av', cv', by rw [hIA.out, hVA.out]; exact hS8⟩
                | (simp [intOf]; omega)
            · have hend := KEnd.out fx hT1.out h0
              have HEnd := Lib.hid hend
              have hne : (fx == 0) = false := by rw [beq_eq_false_iff_ne]; exact h0
              have hne2 : (fx != 0) = true := by rw [bne_iff_ne]; exact h0
              clear hend hfx
              go_wp2_with (first
                | (go_at_call 117; (with_reducible refine (K1.out _ _ (by omega) (by omega) (by omega) _ HS.out.bel).mono ?_); rintro e w5 ⟨hb5, hlo, _⟩; obtain rfl := hlo HSm.out; have hS5 := HS.out.later hb5; have z0 := hS5.zero.c0; have z1 := hS5.zero.c1; have z2 := hS5.zero.c2; have z3 := hS5.zero.c3; have y0 := Lib.frozen_of_heap hS5.zero 0; have y1 := Lib.frozen_of_heap hS5.zero 1; have y2 := Lib.frozen_of_heap hS5.zero 2; have y3 := Lib.frozen_of_heap hS5.zero 3)
                | (go_at_call 57; (with_reducible refine (FO.out _).mono ?_); rintro e w' ⟨rfl, rfl⟩))
              refine bodyPost_ret (results_nod Tryz.results96 _ _ w.heap.size 0 false (.slice none 0 0) (.slice none 0 0) rfl rfl rfl (hS5.zero.store _ _ _ _)) rfl ?_
              exact rdPost_bad HEnd.out (below_store7 hS5.bel (Nat.le_refl _) _ _ _ _)
        · obtain rfl : k = cnt := by omega
          have hEall : keyErr (-1) (keysR l) = 0 := by
            have := hE.out
            rwa [List.take_of_length_le (by have := LN.out.1; omega)] at this
          rw [List.take_of_length_le (by have := LN.out.2.1; omega), List.take_of_length_le (by have := LN.out.2.2; omega)] at hS
          have HG1 := Lib.hid (GD.out wr Ak ck Av cv k hf hEall rfl hS)
          have hz := hS.zero
          have z0 := hS.zero.c0; have z1 := hS.zero.c1; have z2 := hS.zero.c2; have z3 := hS.zero.c3; have y0 := Lib.frozen_of_heap hS.zero 0; have y1 := Lib.frozen_of_heap hS.zero 1; have y2 := Lib.frozen_of_heap hS.zero 2; have y3 := Lib.frozen_of_heap hS.zero 3
          have x0 := hS.node.c0; have x1 := hS.node.c1; have x2 := hS.node.c2; have x3 := hS.node.c3
          go_wp2
          refine bodyPost_ret (results_nod Tryz.results96 _ _ w.heap.size tree leaf (.slice Ak k ck) (.slice Av k cv) rfl rfl rfl (hz.store _ _ _ _)) rfl ?_
          exact HG1.out

end Go.Proofs.YtfcehhhcjlpklaaGreatDoor

/-
  Layer 7's Read: the zeros, and the loop.
-/
namespace Go.Proofs.YtfcehhhcjlpklaaGreatDoor
open Go.RowKit
set_option linter.unusedVariables false
set_option linter.unusedSimpArgs false

theorem info_strvD : (Tryz.prog.info? 9).map (fun i => (i.zero, i.size, i.bytes)) = some (some (.string ByteArray.empty), 1, 16) := by kernel_rfl

set_option maxRecDepth 100000 in
set_option maxHeartbeats 1600000 in
theorem Read_restD (w : World) (A : Option Addr) (n c : Nat) (l : List UInt8) (hB : Bytes8 w A n c l) (h : l.length = 244) (hh : holdsN (treeR l) (leafR l) (cntR l) = true) (hp : l.take 12 = nodHeadB l) (wd mx : Nat) (hwm : wd = 16 ∧ mx = 9) (hw : widN (treeR l) (leafR l) = wd) (hm : capN (widN (treeR l) (leafR l)) = mx) :
    Calls Tryz.prog 96 #[.slice A n c] w fun e w' => RdPostF w l e w' := by
  obtain ⟨b, off, x0, rfl, hI⟩ := rd_in hB h
  obtain ⟨hk0, hk1, hj0, hj1, hm0, hm1⟩ := hI.three
  have G := Lib.hid (rd_get (tree := treeR l) (leaf := leafR l) hB h)
  have BG := Lib.hid (rd_begin (w := w) (tree := treeR l) (leaf := leafR l) (cntR l) hI.tree hI.cnt)
  have PK := Lib.hid (rd_pack (w := w) (tree := treeR l) (leaf := leafR l) (cntR l) hI.tree hI.cnt)
  have HO := Lib.hid (fun W => holds_any (treeR l) (leafR l) (cntR l) W true (by have := hI.cnt; omega) hh)
  have HP := Lib.hid (rd_prefix (tree := treeR l) (leaf := leafR l) hB h _ true (decide_eq_true hp))
  have HCNT := hh
  clear hh
  simp only [nodHeadB] at HP
  have WD := Lib.hid (fun W => Width_q (treeR l) (leafR l) W wd hw)
  have MX := Lib.hid (fun W => Max_q (treeR l) (leafR l) W mx hm)
  have hcm2 : cntR l ≤ mx := by
    have := HCNT; simp only [holdsN, Bool.and_eq_true, decide_eq_true_eq] at this; rw [hm] at this; exact this.1.2
  have hfit : mx ≤ 18 ∧ 12 + 8 * mx + wd * mx ≤ 244 := by obtain ⟨rfl, rfl⟩ := hwm; omega
  have hmul : wd * cntR l ≤ wd * mx := Nat.mul_le_mul_left _ hcm2
  obtain rfl := hI.hn
  have ZK := Lib.hid (fun r hr => rd_zk (tree := treeR l) (leaf := leafR l) hB mx hm hfit.1 hcm2 r hr)
  have ZV := Lib.hid (fun r hr => rd_zv (tree := treeR l) (leaf := leafR l) hB wd mx hw hm (by omega) r hr)
  have ZF : Hid (zkB l = false ∨ zvB l = false → readNE l = 7 ∧ readN l = Nod.zero) := fun hx => readNE_bad (fun hf => by
    have := (form_iff h).1 (formN_iff.1 hf)
    rcases hx with hx | hx
    · rw [hx] at this; exact absurd this.2.1 (by simp)
    · rw [hx] at this; exact absurd this.2.2 (by simp))
  have FM : Hid (zkB l = true → zvB l = true → formN l = true) := fun h1 h2 => formN_iff.2 ((form_iff h).2 ⟨⟨HCNT, hp⟩, h1, h2⟩)
  have KT : Hid (∀ k, k < cntR l → keyErr (-1) ((keysR l).take k) = 0 → keyErr (-1) ((keysR l).take (k + 1)) = followsE (keyR l k) (prevK (-1) (intsR l) k + 1) ∧ -1 ≤ prevK (-1) (intsR l) k ∧ prevK (-1) (intsR l) k ≤ maxK ∧ prevK (-1) (intsR l) (k + 1) = (keyR l k : Int)) := fun k => key_test
  have IA : Hid (∀ k, k < cntR l → (intsR l).take (k + 1) = (intsR l).take k ++ [(keyR l k : Int)]) := fun k => intsR_at
  have VA : Hid (∀ k, k < cntR l → (valsR l).take (k + 1) = (valsR l).take k ++ [valR l k]) := fun k => valsR_at
  have LN : Hid ((keysR l).length = cntR l ∧ (intsR l).length = cntR l ∧ (valsR l).length = cntR l) := ⟨keysR_len l, intsR_len l, valsR_len l⟩
  have KG : Hid (∀ k, k < mx → ∀ m c', m = 8 * mx → m ≤ c' → c' ≤ 9223372036854775807 → ∀ W, Below w.heap.size w W → Calls Tryz.prog 117 #[.slice (some ⟨b, off + 12, none⟩) m c', .int .i64 (8 * k : Int), .int .i64 8] W fun e w' => Below W.heap.size W w' ∧ (keyR l k < 9223372036854775808 → e = .returned (.tuple #[.int .i64 (keyR l k : Int), .int .i64 0])) ∧ (9223372036854775808 ≤ keyR l k → e = .returned (.tuple #[.int .i64 0, .int .i64 2]))) := fun k hk m c' e h1 h2 W hW => by
    subst e; exact rd_key hB mx hfit.1 k hk c' h1 h2 W hW
  have VB : Hid (∀ k, k < cntR l → ∀ W o m c', Below w.heap.size w W → o = off + (12 + 8 * mx + wd * k) → m = wd → m ≤ c' → c' ≤ 9223372036854775807 → Bytes8 W (some ⟨b, o, none⟩) m c' (valR l k)) := fun k hk W o m c' hb ho hm1 h1 h2 => valR_bytes hB wd mx hw hm k (by have : wd * (k + 1) ≤ wd * cntR l := Nat.mul_le_mul_left _ hk; rw [Nat.mul_add, Nat.mul_one] at this; omega) W o m c' hb ho hm1 h1 h2
  have GD : Hid (∀ w' Ak ck Av cv cnt, formN l = true → keyErr (-1) (keysR l) = 0 → cnt = cntR l → LpN w w' (treeR l) (leafR l) cnt Ak ck cnt Av cv (intsR l) (valsR l) → RdPostF w l (.returned (.tuple #[.agg #[.int .i64 (treeR l), .bool (leafR l), .slice Ak cnt ck, .slice Av cnt cv], .int .i64 0])) ((((w'.setCell ⟨w.heap.size, 0, none⟩ (.int .i64 (treeR l))).setCell ⟨w.heap.size, 1, none⟩ (.bool (leafR l))).setCell ⟨w.heap.size, 2, none⟩ (.slice Ak cnt ck)).setCell ⟨w.heap.size, 3, none⟩ (.slice Av cnt cv))) := fun w' Ak ck Av cv cnt => rdPost_good
  have ST := Lib.hid (RdN.start w (treeR l) (leafR l))
  have hlf := hI.leaf
  obtain ⟨ht0, ht1⟩ := hI.tree
  have hcn := hI.cnt
  have hcc := hI.cap
  have hcm := hI.most
  clear hB h hI hmul hfit
  generalize treeR l = tree at *
  generalize leafR l = leaf at *
  generalize cntR l = cnt at *
  subst hlf
  simp only [zN] at *
  go_enter Tryz.func96, Tryz.ntmps96
  go_wp2
  go_region
  generalize ((x0 : Int) == 1) = leaf at *
  generalize ((w.alloc (.cells #[.int .i64 0, .bool false, .slice none 0 0, .slice none 0 0] 55)).alloc (.cells #[.int .i64 tree, .bool leaf, .slice none 0 0, .slice none 0 0] 55)).drew = W1 at *
  clear hk0 hk1 hj0 hj1 hm0 hm1 hw hm
  obtain ⟨rfl, rfl⟩ := hwm
  go_wp2_with (first
    | (go_at_call 117; (with_reducible refine (G.out _ ST.out).mono ?_); rintro e w1 ⟨rfl, hS1⟩; have q0 := hS1.node.c0; have q1 := hS1.node.c1)
    | (go_at_call 31; (with_reducible refine (BG.out _ hS1).mono ?_); rintro e w2 ⟨A2, c2, rfl, hF2, hS2⟩)
    | (go_at_call 32; (with_reducible refine (PK.out _ _ _ hS2 hF2).mono ?_); rintro e w3 ⟨A3, c3, rfl, hB3, hS3⟩; have HB3 := Lib.hid hB3; clear hB3; have p0 := hS3.node.c0; have p1 := hS3.node.c1; have z0 := hS3.zero.c0; have z1 := hS3.zero.c1; have z2 := hS3.zero.c2; have z3 := hS3.zero.c3; have y0 := Lib.frozen_of_heap hS3.zero 0; have y1 := Lib.frozen_of_heap hS3.zero 1; have y2 := Lib.frozen_of_heap hS3.zero 2; have y3 := Lib.frozen_of_heap hS3.zero 3)
    | (go_at_call 55; (with_reducible refine (HO.out _).mono ?_); rintro e w' ⟨rfl, rfl⟩)
    | (go_at_call 118; (with_reducible refine (HP.out _ _ _ hS3 HB3.out).mono ?_); rintro e w' ⟨rfl, rfl⟩))
  go_quiet (first
    | (go_at_call 56; refine Calls.quiet_of_same (WD.out _))
    | (go_at_call 33; refine Calls.quiet_of_same (MX.out _)))
  go_wp2
  go_region
  have hS4 : RdN w (w3.drewN nq).drew tree leaf := hS3.later (below_drewN (Below.refl _ _) _).drew
  have z0 := hS4.zero.c0; have z1 := hS4.zero.c1; have z2 := hS4.zero.c2; have z3 := hS4.zero.c3; have y0 := Lib.frozen_of_heap hS4.zero 0; have y1 := Lib.frozen_of_heap hS4.zero 1; have y2 := Lib.frozen_of_heap hS4.zero 2; have y3 := Lib.frozen_of_heap hS4.zero 3
  generalize (w3.drewN nq).drew = w4 at *
  clear hS1 hS2 hS3 ST HB3 G BG PK HO HP WD MX
  cases hzk : zkB l with
  | false =>
    have Z1 := Lib.hid (ZK.out false hzk)
    go_wp2_with (go_at_call 119; (with_reducible refine (Z1.out _ _ _ _ hS4 (by omega) (by omega) (by omega) (by omega)).mono ?_); rintro e w' ⟨rfl, rfl⟩)
    refine bodyPost_ret (results_nod Tryz.results96 _ _ w.heap.size 0 false (.slice none 0 0) (.slice none 0 0) rfl rfl rfl (hS4.zero.store _ _ _ _)) rfl ?_
    exact rdPost_bad (ZF.out (.inl hzk)) (below_store7 hS4.bel (Nat.le_refl _) _ _ _ _)
  | true =>
    have Z1 := Lib.hid (ZK.out true hzk)
    cases hzv : zvB l with
    | false =>
      have Z2 := Lib.hid (ZV.out false hzv)
      go_wp2_with (first
        | (go_at_call 119; (with_reducible refine (Z1.out _ _ _ _ hS4 (by omega) (by omega) (by omega) (by omega)).mono ?_); rintro e w' ⟨rfl, rfl⟩)
        | (go_at_call 119; (with_reducible refine (Z2.out _ _ _ _ hS4 (by omega) (by omega) (by omega) (by omega)).mono ?_); rintro e w' ⟨rfl, rfl⟩))
      refine bodyPost_ret (results_nod Tryz.results96 _ _ w.heap.size 0 false (.slice none 0 0) (.slice none 0 0) rfl rfl rfl (hS4.zero.store _ _ _ _)) rfl ?_
      exact rdPost_bad (ZF.out (.inr hzv)) (below_store7 hS4.bel (Nat.le_refl _) _ _ _ _)
    | true =>
      have Z2 := Lib.hid (ZV.out true hzv)
      go_wp2_with (first
        | (go_at_call 119; (with_reducible refine (Z1.out _ _ _ _ hS4 (by omega) (by omega) (by omega) (by omega)).mono ?_); rintro e w' ⟨rfl, rfl⟩)
        | (go_at_call 119; (with_reducible refine (Z2.out _ _ _ _ hS4 (by omega) (by omega) (by omega) (by omega)).mono ?_); rintro e w' ⟨rfl, rfl⟩))
      have hf := FM.out hzk hzv
      have HL0 := Lib.hid hS4.loop
      clear Z1 Z2 ZK ZV ZF FM z0 z1 z2 z3 y0 y1 y2 y3 hS4 hzk hzv hp
      go_loopw [13, 100] (fun a i wr => ∃ k : Nat, k ≤ cnt ∧ i = .int .i64 k ∧ (∃ x : Int, a = .int .i64 x ∧ 0 ≤ x ∧ x ≤ 281474976710656 ∧ Hid (x = prevK (-1) (intsR l) k + 1)) ∧ Hid (keyErr (-1) ((keysR l).take k) = 0) ∧ Hid (∃ Ak ck Av cv, LpN w wr tree leaf k Ak ck k Av cv ((intsR l).take k) ((valsR l).take k))) (fun _ i _ => cnt - (intOf i).toNat)
      case atStart => exact ⟨0, by omega, rfl, ⟨0, rfl, by omega, by omega, rfl⟩, rfl, none, 0, none, 0, HL0.out⟩
      case round =>
        clear HL0
        obtain ⟨k, hk, rfl, ⟨x, rfl, hx0, hx1, hX⟩, hE, Ak, ck, Av, cv, hS⟩ := hrel
        by_cases hlt : k < cnt
        · have hkt := KT.out k hlt hE.out
          obtain ⟨t1, t2, t3, t4⟩ := hkt
          rw [← hX.out] at t1
          have hIA := Lib.hid (IA.out k hlt)
          have hVA := Lib.hid (VA.out k hlt)
          have K1 := Lib.hid (KG.out k (by omega))
          have KEnd : Hid (∀ e, keyErr (-1) ((keysR l).take (k + 1)) = e → e ≠ 0 → readNE l = e ∧ readN l = Nod.zero) := fun e => key_end hf
          have V1 := Lib.hid (VB.out k hlt)
          have hT1 := Lib.hid t1
          have hT4 := Lib.hid t4
          clear t1 t2 t3 t4
          by_cases hbig : 9223372036854775808 ≤ keyR l k
          · have hend : readNE l = 2 ∧ readN l = Nod.zero := KEnd.out 2 (by rw [hT1.out]; unfold followsE; rw [if_pos (.inr (by omega))]) (by omega)
            have HEnd := Lib.hid hend
            have HBig := Lib.hid hbig
            have HS := Lib.hid hS
            clear hend hbig hS
            go_wp2_with (go_at_call 117; (with_reducible refine (K1.out _ _ (by omega) (by omega) (by omega) _ HS.out.bel).mono ?_); rintro e w5 ⟨hb5, _, hhi⟩; obtain rfl := hhi HBig.out; have hS5 := HS.out.later hb5; have z0 := hS5.zero.c0; have z1 := hS5.zero.c1; have z2 := hS5.zero.c2; have z3 := hS5.zero.c3; have y0 := Lib.frozen_of_heap hS5.zero 0; have y1 := Lib.frozen_of_heap hS5.zero 1; have y2 := Lib.frozen_of_heap hS5.zero 2; have y3 := Lib.frozen_of_heap hS5.zero 3)
            refine bodyPost_ret (results_nod Tryz.results96 _ _ w.heap.size 0 false (.slice none 0 0) (.slice none 0 0) rfl rfl rfl (hS5.zero.store _ _ _ _)) rfl ?_
            exact rdPost_bad HEnd.out (below_store7 hS5.bel (Nat.le_refl _) _ _ _ _)
          · have hsm : keyR l k < 9223372036854775808 := by omega
            have HS := Lib.hid hS
            have HSm := Lib.hid hsm
            clear hbig hS hsm
            obtain ⟨fx, hfx⟩ : ∃ fx, followsE (keyR l k) x = fx := ⟨_, rfl⟩
            have FO := Lib.hid (fun W => follows_any (keyR l k) x W fx hfx)
            rw [hfx] at hT1
            by_cases h0 : fx = 0
            · subst h0
              have hmax : (keyR l k : Int) ≤ 281474976710655 := by
                rw [hX.out] at hfx
                exact ((followsE_ok (by have := hX.out; omega)).1 hfx).2
              have HX1 : Hid ((keyR l k : Int) + 1 = prevK (-1) (intsR l) (k + 1) + 1) := by rw [hT4.out]; rfl
              clear hfx KEnd
              generalize keyR l k = key at *
              go_wp2_with (first
                | (go_at_call 117; (with_reducible refine (K1.out _ _ (by omega) (by omega) (by omega) _ HS.out.bel).mono ?_); rintro e w5 ⟨hb5, hlo, _⟩; obtain rfl := hlo HSm.out; have hS5 := HS.out.later hb5)
                | (go_at_call 57; (with_reducible refine (FO.out _).mono ?_); rintro e w' ⟨rfl, rfl⟩; have n2 := hS5.node.c2)
                | (at_builtin; go_must (refine wpList_append_newG w5 rfl (.tmp 120) (.tmp 122) _ rfl (w.heap.size + 2) 3 _ _ 8 Tryz.underlying26 info_i64 rfl (.slice Ak k ck) _ _ rfl hS5.ok hS5.low [_] 1 1 rfl rfl (by simp [Value.oneCell']) (by omega) (by omega) ?_); intro v6 w6 ho6 hg6; obtain ⟨Ak', ck', rfl, hn6, hS6⟩ := hS5.addKey ho6.out hg6.out; have m2 := hn6.c2; have g2 := Lib.frozen_of_heap hn6 2))
              have n3 := hS6.node.c3
              have HS6 := Lib.hid hS6
              generalize w6.setCell ⟨w.heap.size + 1, 2, none⟩ (.slice Ak' (k + 1) ck') = w7 at *
              clear hS6 hn6 m2 g2 ho6 hg6 n2 hS5
              have hkc : k < 9 := by omega
              obtain ⟨p, hp⟩ : ∃ p, p = 16 * k := ⟨_, rfl⟩
              obtain ⟨q, hq⟩ : ∃ q, q = 16 * k + 16 := ⟨_, rfl⟩
              have e1 : IntKind.i64.wrap ((16 : Int) * (k : Int)) = (p : Int) := by rw [IntKind.wrap_i64]; omega
              have e2 : IntKind.i64.wrap ((16 : Int) * IntKind.i64.wrap ((k : Int) + 1)) = (q : Int) := by
                have : IntKind.i64.wrap ((k : Int) + 1) = (k : Int) + 1 := by rw [IntKind.wrap_i64]; omega
                rw [this, IntKind.wrap_i64]; omega
              have e3 : (q : Int) ≤ ((c - 84 : Nat) : Int) := by omega
              have e4 : p ≤ q := by omega
              have e5 : ¬ c - 84 = p := by omega
              have e6 : q - p = 16 := by omega
              have hVb := V1.out w7.drew (off + 84 + p) 16 (c - 84 - p) HS6.out.bel.drew (by omega) rfl (by omega) (by omega)
              have cvs := run_str hVb
              have HSd := Lib.hid (HS6.out.later ((Below.refl _ _).alloc (Nat.le_refl _) (.cells #[.string ⟨(valR l k).toArray⟩] 9)).drew)
              have n3A := (HS6.out.later ((Below.refl _ _).alloc (Nat.le_refl _) (.cells #[.string ⟨(valR l k).toArray⟩] 9) : Below w7.heap.size w7 _)).node.c3
              clear hVb hp hq
              go_region_law (first
                | (refine step_append_rowG _ rfl (.tmp 126) (.tmp 137) 53 rfl (w.heap.size + 2) 9 1 _ 16 Tryz.underlying53 info_strvD rfl (by omega) (.slice Av k cv) k _ rfl HSd.out.ov HSd.out.low ⟨w7.heap.size, 0, none⟩ [.string ⟨(valR l k).toArray⟩] 1 1 rfl rfl (Row.of_block (t := 9) (fr := (0, 0)) (heap_alloc_new w7 _)) (by simp [Value.oneCell']) (by omega) (by omega) ?_
                   intro v8 w8 ho8 hg8
                   obtain ⟨Av', cv', rfl, hn8, hS8⟩ := HSd.out.addVal ho8.out hg8.out
                   have m3 := hn8.c3
                   have g3 := Lib.frozen_of_heap hn8 3))
              all_goals go_wp2
              all_goals go_roundw
              all_goals first
                | exact ⟨k + 1, by omega, by go_num, ⟨(key : Int) + 1, by go_num, by omega, by omega, HX1⟩, hT1, Ak', ck', Av', cv', by rw [hIA.out, hVA.out]; exact hS8⟩
                | (simp [intOf]; omega)
            · have hend := KEnd.out fx hT1.out h0
              have HEnd := Lib.hid hend
              have hne : (fx == 0) = false := by rw [beq_eq_false_iff_ne]; exact h0
              have hne2 : (fx != 0) = true := by rw [bne_iff_ne]; exact h0
              clear hend hfx
              go_wp2_with (first
                | (go_at_call 117; (with_reducible refine (K1.out _ _ (by omega) (by omega) (by omega) _ HS.out.bel).mono ?_); rintro e w5 ⟨hb5, hlo, _⟩; obtain rfl := hlo HSm.out; have hS5 := HS.out.later hb5; have z0 := hS5.zero.c0; have z1 := hS5.zero.c1; have z2 := hS5.zero.c2; have z3 := hS5.zero.c3; have y0 := Lib.frozen_of_heap hS5.zero 0; have y1 := Lib.frozen_of_heap hS5.zero 1; have y2 := Lib.frozen_of_heap hS5.zero 2; have y3 := Lib.frozen_of_heap hS5.zero 3)
                | (go_at_call 57; (with_reducible refine (FO.out _).mono ?_); rintro e w' ⟨rfl, rfl⟩))
              refine bodyPost_ret (results_nod Tryz.results96 _ _ w.heap.size 0 false (.slice none 0 0) (.slice none 0 0) rfl rfl rfl (hS5.zero.store _ _ _ _)) rfl ?_
              exact rdPost_bad HEnd.out (below_store7 hS5.bel (Nat.le_refl _) _ _ _ _)
        · obtain rfl : k = cnt := by omega
          have hEall : keyErr (-1) (keysR l) = 0 := by
            have := hE.out
            rwa [List.take_of_length_le (by have := LN.out.1; omega)] at this
          rw [List.take_of_length_le (by have := LN.out.2.1; omega), List.take_of_length_le (by have := LN.out.2.2; omega)] at hS
          have HG1 := Lib.hid (GD.out wr Ak ck Av cv k hf hEall rfl hS)
          have hz := hS.zero
          have z0 := hS.zero.c0; have z1 := hS.zero.c1; have z2 := hS.zero.c2; have z3 := hS.zero.c3; have y0 := Lib.frozen_of_heap hS.zero 0; have y1 := Lib.frozen_of_heap hS.zero 1; have y2 := Lib.frozen_of_heap hS.zero 2; have y3 := Lib.frozen_of_heap hS.zero 3
          have x0 := hS.node.c0; have x1 := hS.node.c1; have x2 := hS.node.c2; have x3 := hS.node.c3
          go_wp2
          refine bodyPost_ret (results_nod Tryz.results96 _ _ w.heap.size tree leaf (.slice Ak k ck) (.slice Av k cv) rfl rfl rfl (hz.store _ _ _ _)) rfl ?_
          exact HG1.out

end Go.Proofs.YtfcehhhcjlpklaaGreatDoor

/-
  Layer 7: Read whole; short; lives.
-/
namespace Go.Proofs.YtfcehhhcjlpklaaGreatDoor
open Go.RowKit
set_option linter.unusedVariables false
set_option linter.unusedSimpArgs false

theorem Read_any7F (w : World) (A : Option Addr) (n c : Nat) (l : List UInt8) (hB : Bytes8 w A n c l) : Calls Tryz.prog 96 #[.slice A n c] w fun e w' => RdPostF w l e w' := by
  have bad : ¬ formN l = true → Calls Tryz.prog 96 #[.slice A n c] w (fun e w' => e = .returned (.tuple #[zeroNode, .int .i64 7]) ∧ Below w.heap.size w w') → Calls Tryz.prog 96 #[.slice A n c] w fun e w' => RdPostF w l e w' := fun hf hC =>
    hC.mono fun e w' ⟨h1, h2⟩ => by rw [h1]; exact rdPost_bad (readNE_bad hf) h2
  by_cases h : l.length = 244
  · cases hh : holdsN (treeR l) (leafR l) (cntR l) with
    | false =>
      refine bad (fun hf => ?_) (Read_holds w A n c l hB h hh)
      have := ((form_iff h).1 (formN_iff.1 hf)).1.1
      rw [hh] at this
      exact absurd this (by simp)
    | true =>
      by_cases hp : l.take 12 = nodHeadB l
      · have hc : 0 < capN (widN (treeR l) (leafR l)) := by
          have := hh; simp only [holdsN, Bool.and_eq_true, decide_eq_true_eq] at this; exact this.1.1
        rcases widN_cases (treeR l) (leafR l) with ⟨a, b⟩ | ⟨a, b⟩ | ⟨a, b⟩ | ⟨a, b⟩ | ⟨a, b⟩
        · omega
        · exact Read_restA w A n c l hB h hh hp 4 18 ⟨rfl, rfl⟩ a b
        · exact Read_restB w A n c l hB h hh hp 8 12 ⟨rfl, rfl⟩ a b
        · exact Read_restC w A n c l hB h hh hp 24 6 ⟨rfl, rfl⟩ a b
        · exact Read_restD w A n c l hB h hh hp 16 9 ⟨rfl, rfl⟩ a b
      · exact bad (fun hf => hp ((form_iff h).1 (formN_iff.1 hf)).1.2) (Read_prefix w A n c l hB h hh hp)
  · exact bad (fun hf => h (formN_iff.1 hf).len) (Read_len w A n c l hB h)

/-! ### short -/
/-! ### lives -/
end Go.Proofs.YtfcehhhcjlpklaaGreatDoor

/-
  Layer 7, NodeMost: the node that is made key by key.
-/
namespace Go.Proofs.YtfcehhhcjlpklaaGreatDoor
open Go.RowKit
set_option linter.unusedVariables false
set_option linter.unusedSimpArgs false

/-- i keys and j values so far -/
structure MsN (w0 w : World) (tree : Int) (leaf : Bool) (i : Nat) (Ak : Option Addr) (ck : Nat) (j : Nat) (Av : Option Addr) (cv : Nat) (ks : List Int) (vs : List (List UInt8)) : Prop where
  node : NodAt w w0.heap.size tree leaf (.slice Ak i ck) (.slice Av j cv)
  bel : Below w0.heap.size w0 w
  ok : w.ownsRow (w0.heap.size + 1) 3 1 (.slice Ak i ck) i (i64s ks)
  ov : w.ownsRow (w0.heap.size + 1) 9 1 (.slice Av j cv) j (strV vs)

section
variable {w0 w w' : World} {tree : Int} {leaf : Bool} {i j ck cv : Nat} {Ak Av : Option Addr} {ks : List Int} {vs : List (List UInt8)}

theorem MsN.low (h : MsN w0 w tree leaf i Ak ck j Av cv ks vs) : w0.heap.size + 1 ≤ w.heap.size := by have := block_lt h.node; omega
theorem MsN.later (h : MsN w0 w tree leaf i Ak ck j Av cv ks vs) (hb : Below w.heap.size w w') : MsN w0 w' tree leaf i Ak ck j Av cv ks vs :=
  ⟨h.node.later hb, h.bel.trans (hb.mono h.bel.size), own_kept h.ok (fun k _ hk => hb.block k hk), own_kept h.ov (fun k _ hk => hb.block k hk)⟩
theorem MsN.start (w0 : World) (tree : Int) (leaf : Bool) : MsN w0 (w0.alloc (.cells #[.int .i64 tree, .bool leaf, .slice none 0 0, .slice none 0 0] 55)) tree leaf 0 none 0 0 none 0 [] [] := ⟨NodAt.new _ _ _ _ _, (Below.refl _ _).alloc (Nat.le_refl _) _, World.ownsRow_nil _ _ _ _, World.ownsRow_nil _ _ _ _⟩

theorem MsN.apart (h : MsN w0 w tree leaf i Ak ck j Av cv ks vs) (g : Nat) (hk : (Value.slice Ak i ck).ownBlock = some g) : (Value.slice Av j cv).ownBlock ≠ some g := fun hv => by
  obtain ⟨_, c1, h1⟩ := own_apart h.ok g hk
  obtain ⟨_, c2, h2⟩ := own_apart h.ov g hv
  rw [h1] at h2
  injection h2 with h2
  injection h2 with _ h3 _
  exact absurd h3 (by decide)

theorem MsN.addKey (h : MsN w0 w tree leaf i Ak ck j Av cv ks vs) {v' : Value} {key : Int} (hown : w'.ownsRow (w0.heap.size + 1) 3 1 v' (i + 1) (i64s ks ++ [.int .i64 key])) (hg : w.grownBy w' (Value.slice Ak i ck).ownBlock) :
    ∃ Ak' ck', v' = .slice Ak' (i + 1) ck' ∧ NodAt w' w0.heap.size tree leaf (.slice Ak i ck) (.slice Av j cv) ∧ MsN w0 (w'.setCell ⟨w0.heap.size, 2, none⟩ (.slice Ak' (i + 1) ck')) tree leaf (i + 1) Ak' ck' j Av cv (ks ++ [key]) vs := by
  obtain ⟨Ak', ck', rfl, _, _⟩ := ownsRow_form hown
  have hlow := h.low
  have keep : ∀ g, g < w0.heap.size + 1 → w'.heap[g]? = w.heap[g]? := fun g hlt => hg.block g (by omega) (fun e => by have := (own_apart h.ok g e.symm).1; omega)
  have hn : NodAt w' w0.heap.size tree leaf (.slice Ak i ck) (.slice Av j cv) := (keep _ (by omega)).trans h.node
  refine ⟨Ak', ck', rfl, hn, ?_, ?_, ?_, ?_⟩
  · unfold NodAt
    rw [heap_setCell_same _ _ 2 _ _ _ hn]
    rfl
  · refine Below.setCell ?_ (p := ⟨w0.heap.size, 2, none⟩) (by simp) _
    exact h.bel.trans ⟨hg.os, hg.tape, hg.output, hg.size, fun k hk => keep k (by omega)⟩
  · have e : i64s (ks ++ [key]) = i64s ks ++ [.int .i64 key] := i64s_append _ _
    rw [e]
    refine nod_own_other hown fun k hk => ?_
    have := (own_apart hown k hk).1
    exact heap_setCell_other _ _ _ _ (by simp; omega)
  · refine nod_own_other h.ov fun k hk => ?_
    have h1 := own_apart h.ov k hk
    rw [heap_setCell_other _ _ _ _ (by simp; omega)]
    obtain ⟨hb, cur, hc⟩ := h1
    exact hg.block k (block_lt hc) (fun e => h.apart k e.symm hk)

theorem MsN.addVal (h : MsN w0 w tree leaf i Ak ck j Av cv ks vs) {v' : Value} {s : List UInt8} (hown : w'.ownsRow (w0.heap.size + 1) 9 1 v' (j + 1) (strV vs ++ [.string ⟨s.toArray⟩])) (hg : w.grownBy w' (Value.slice Av j cv).ownBlock) :
    ∃ Av' cv', v' = .slice Av' (j + 1) cv' ∧ NodAt w' w0.heap.size tree leaf (.slice Ak i ck) (.slice Av j cv) ∧ MsN w0 (w'.setCell ⟨w0.heap.size, 3, none⟩ (.slice Av' (j + 1) cv')) tree leaf i Ak ck (j + 1) Av' cv' ks (vs ++ [s]) := by
  obtain ⟨Av', cv', rfl, _, _⟩ := ownsRow_form hown
  have hlow := h.low
  have keep : ∀ g, g < w0.heap.size + 1 → w'.heap[g]? = w.heap[g]? := fun g hlt => hg.block g (by omega) (fun e => by have := (own_apart h.ov g e.symm).1; omega)
  have hn : NodAt w' w0.heap.size tree leaf (.slice Ak i ck) (.slice Av j cv) := (keep _ (by omega)).trans h.node
  refine ⟨Av', cv', rfl, hn, ?_, ?_, ?_, ?_⟩
  · unfold NodAt
    rw [heap_setCell_same _ _ 3 _ _ _ hn]
    rfl
  · refine Below.setCell ?_ (p := ⟨w0.heap.size, 3, none⟩) (by simp) _
    exact h.bel.trans ⟨hg.os, hg.tape, hg.output, hg.size, fun k hk => keep k (by omega)⟩
  · refine nod_own_other h.ok fun k hk => ?_
    have h1 := own_apart h.ok k hk
    rw [heap_setCell_other _ _ _ _ (by simp; omega)]
    obtain ⟨hb, cur, hc⟩ := h1
    exact hg.block k (block_lt hc) (fun e => h.apart k hk e.symm)
  · have e : strV (vs ++ [s]) = strV vs ++ [.string ⟨s.toArray⟩] := strV_append _ _
    rw [e]
    refine nod_own_other hown fun k hk => ?_
    have := (own_apart hown k hk).1
    exact heap_setCell_other _ _ _ _ (by simp; omega)

end

/-! ### the keys and the values -/
end Go.Proofs.YtfcehhhcjlpklaaGreatDoor

/-
  Layer 7: the reference's form.
-/
namespace Go.Proofs.YtfcehhhcjlpklaaGreatDoor
open Go.RowKit
set_option linter.unusedVariables false
set_option linter.unusedSimpArgs false

/-- the head's six integers -/
def headL (l : List UInt8) : List Int := [((l.getD 0 0).toNat : Int), treeR l, (cntR l : Int), (at2 l 4 : Int), (at2 l 6 : Int), (leN ((l.drop 8).take 4) : Int)]

structure FmSt (w0 w : World) (b6 o6 c6 : Nat) (l : List UInt8) : Prop where
  ints : Ints w (some ⟨b6, o6, none⟩) 6 c6 (headL l)
  bel : Below w0.heap.size w0 w
theorem FmSt.later {w0 w w' : World} {b6 o6 c6 : Nat} {l : List UInt8} (h : FmSt w0 w b6 o6 c6 l) (hb : Below w.heap.size w w') : FmSt w0 w' b6 o6 c6 l := ⟨h.ints.below hb, h.bel.trans (hb.mono h.bel.size)⟩
theorem FmSt.cells {w0 w : World} {b6 o6 c6 : Nat} {l : List UInt8} (h : FmSt w0 w b6 o6 c6 l) : w.cell? ⟨b6, o6, none⟩ = some (.int .i64 ((l.getD 0 0).toNat : Int)) ∧ w.cell? ⟨b6, o6 + 1, none⟩ = some (.int .i64 (treeR l)) ∧ w.cell? ⟨b6, o6 + 2, none⟩ = some (.int .i64 (cntR l : Int)) ∧ w.cell? ⟨b6, o6 + 3, none⟩ = some (.int .i64 (at2 l 4 : Int)) ∧ w.cell? ⟨b6, o6 + 4, none⟩ = some (.int .i64 (at2 l 6 : Int)) ∧ w.cell? ⟨b6, o6 + 5, none⟩ = some (.int .i64 (leN ((l.drop 8).take 4) : Int)) := by
  have g : ∀ k v, (i64s (headL l))[k]? = some v → w.cell? ⟨b6, o6 + k, none⟩ = some v := fun k v hk => by
    have := h.ints.row.at_ hk
    rwa [Addr.add_lit] at this
  exact ⟨g 0 _ rfl, g 1 _ rfl, g 2 _ rfl, g 3 _ rfl, g 4 _ rfl, g 5 _ rfl⟩

theorem fm_unpack {w : World} {A : Option Addr} {n c : Nat} {l : List UInt8} (hB : Bytes8 w A n c l) (h : l.length = 244) :
    Calls Tryz.prog 126 #[.slice A n c, .slice (some ⟨w.heap.size, 0, none⟩) 6 6] (w.alloc (.cells #[.int .i64 1, .int .i64 1, .int .i64 2, .int .i64 2, .int .i64 2, .int .i64 4] 3)) fun e w' => ∃ b6 o6 c6, e = .returned (.tuple #[.slice (some ⟨b6, o6, none⟩) 6 c6, .int .i64 0]) ∧ 6 ≤ c6 ∧ FmSt w w' b6 o6 c6 l := by
  have hb : Below w.heap.size w (w.alloc (.cells #[.int .i64 1, .int .i64 1, .int .i64 2, .int .i64 2, .int .i64 2, .int .i64 4] 3)) := (Below.refl _ _).alloc (Nat.le_refl _) _
  have hw : Ints (w.alloc (.cells #[.int .i64 1, .int .i64 1, .int .i64 2, .int .i64 2, .int .i64 2, .int .i64 4] 3)) (some ⟨w.heap.size, 0, none⟩) 6 6 [1, 1, 2, 2, 2, 4] := ⟨rfl, Nat.le_refl _, by omega, Row.of_block (heap_alloc_new w _)⟩
  have hu := unp_head h
  refine (refUnpack_any A n c l _ 6 6 [1, 1, 2, 2, 2, 4] _ (hB.below hb) hw (by simp [i64b']) (by omega) (by have := hB.len; omega)).mono ?_
  rintro e w' ⟨A', m, c', rfl, hI, hb2⟩
  rw [hu.2] at hI
  obtain rfl : 6 = m := hI.len
  obtain ⟨b6, o6, rfl, _, _⟩ := hI.row.lit (by simp [i64s])
  exact ⟨b6, o6, c', by rw [hu.1], hI.cap, hI, hb.trans (hb2.mono hb.size)⟩

theorem fm_width {w : World} {b6 o6 c6 : Nat} {l : List UInt8} {leaf : Bool} (wd : Nat) (ht : i64b (treeR l)) (hw : widN (treeR l) leaf = wd) (W : World) (hW : FmSt w W b6 o6 c6 l) : Calls Tryz.prog 105 #[.int .i64 (treeR l), .bool leaf] W fun e w' => e = .returned (.int .i64 (wd : Int)) ∧ FmSt w w' b6 o6 c6 l :=
  (refWidth_any (treeR l) leaf W wd hw ht).mono fun e w' ⟨h1, h2⟩ => ⟨h1, hW.later h2⟩
theorem fm_max {w : World} {b6 o6 c6 : Nat} {l : List UInt8} {leaf : Bool} (mx : Nat) (ht : i64b (treeR l)) (hm : capN (widN (treeR l) leaf) = mx) (W : World) (hW : FmSt w W b6 o6 c6 l) : Calls Tryz.prog 106 #[.int .i64 (treeR l), .bool leaf] W fun e w' => e = .returned (.int .i64 (mx : Int)) ∧ FmSt w w' b6 o6 c6 l :=
  (refMax_any (treeR l) leaf W mx hm ht).mono fun e w' ⟨h1, h2⟩ => ⟨h1, hW.later h2⟩

theorem fm_zk {w : World} {b off c b6 o6 c6 : Nat} {l : List UInt8} (hB : Bytes8 w (some ⟨b, off, none⟩) 244 c l) (mx : Nat) (hm : capR l = mx) (h18 : mx ≤ 18) (hc : cntR l ≤ mx) (r : Bool) (hr : zkB l = r) (W : World) (o m c' : Nat) (hW : FmSt w W b6 o6 c6 l) (ho : o = off + (12 + 8 * cntR l)) (hmm : m = 8 * mx - 8 * cntR l) (hmc : m ≤ c') (hc' : c' ≤ 9223372036854775807) :
    Calls Tryz.prog 127 #[.slice (some ⟨b, o, none⟩) m c'] W fun e w' => e = .returned (.bool r) ∧ W = w' := by
  subst ho; subst hmm
  have hS := sub_bytes (hB.below hW.bel) (12 + 8 * cntR l) (8 * mx - 8 * cntR l) c' (by omega) hmc hc'
  exact refZero_any _ _ _ _ W hS r (by rw [← hr, zkB, hm])

theorem fm_zv {w : World} {b off c b6 o6 c6 : Nat} {l : List UInt8} (hB : Bytes8 w (some ⟨b, off, none⟩) 244 c l) (wd mx : Nat) (hw : widR l = wd) (hm : capR l = mx) (hfit : 12 + 8 * mx + wd * cntR l ≤ 244) (r : Bool) (hr : zvB l = r) (W : World) (o m c' : Nat) (hW : FmSt w W b6 o6 c6 l) (ho : o = off + (12 + 8 * mx + wd * cntR l)) (hmm : m = 244 - (12 + 8 * mx + wd * cntR l)) (hmc : m ≤ c') (hc' : c' ≤ 9223372036854775807) :
    Calls Tryz.prog 127 #[.slice (some ⟨b, o, none⟩) m c'] W fun e w' => e = .returned (.bool r) ∧ W = w' := by
  subst ho; subst hmm
  have hS := sub_bytes (hB.below hW.bel) (12 + 8 * mx + wd * cntR l) (244 - (12 + 8 * mx + wd * cntR l)) c' (by omega) hmc hc'
  exact refZero_any _ _ _ _ W hS r (by rw [← hr, zvB, hm, hw, List.take_of_length_le (by rw [List.length_drop, hB.len]; exact Nat.le_refl _)])

theorem formN_no {l : List UInt8} (h : l.length ≠ 244 ∨ 1 < (l.getD 0 0).toNat ∨ widR l = 0 ∨ at2 l 4 ≠ widR l ∨ at2 l 6 ≠ capR l ∨ leN ((l.drop 8).take 4) ≠ 0 ∨ capR l < cntR l ∨ (leafR l = false ∧ cntR l = 0)) : formN l = false := by
  rw [Bool.eq_false_iff]
  intro hf
  obtain ⟨h1, h2, h3, h4, h5, h6, h7, h8, _, _⟩ := formN_iff.1 hf
  rcases h with h | h | h | h | h | h | h | h
  · exact h h1
  · omega
  · exact h3 h
  · exact h h4
  · exact h h5
  · exact h h6
  · omega
  · rcases h8 with h8 | h8
    · rw [h.1] at h8; exact absurd h8 (by simp)
    · exact h8 h.2

theorem formN_zeros {l : List UInt8} (h1 : l.length = 244) (h2 : (l.getD 0 0).toNat ≤ 1) (h3 : widR l ≠ 0) (h4 : at2 l 4 = widR l) (h5 : at2 l 6 = capR l) (h6 : leN ((l.drop 8).take 4) = 0) (h7 : cntR l ≤ capR l) (h8 : leafR l = true ∨ cntR l ≠ 0) : formN l = (zkB l && zvB l) := by
  rw [Bool.eq_iff_iff, formN_iff, Bool.and_eq_true]
  constructor
  · intro h; exact ⟨h.zk, h.zv⟩
  · intro h; exact ⟨h1, h2, h3, h4, h5, h6, h7, h8, h.1, h.2⟩

set_option maxRecDepth 100000 in
set_option maxHeartbeats 3200000 in
theorem form_any (w : World) (A : Option Addr) (n c : Nat) (l : List UInt8) (hB : Bytes8 w A n c l) (r : Bool) (hr : formN l = r) :
    Calls Tryz.prog 104 #[.slice A n c] w fun e w' => e = .returned (.bool r) ∧ Below w.heap.size w w' := by
  have hn := hB.le
  by_cases h : l.length = 244
  · obtain ⟨b, off, rfl, hb, hcell⟩ := hB.row.lit (by rw [u8s_length]; omega)
    have hx := hcell 0 _ (u8s_at l 0 (by omega))
    have ex : l[0] = l.getD 0 0 := by simp [List.getD_eq_getElem?_getD, h]
    rw [ex] at hx
    have hx0 : w.cell? ⟨b, off, none⟩ = some (.int .u8 ((l.getD 0 0).toNat : Int)) := hx
    have hcap := hB.cap
    have hmost := hB.most
    obtain rfl : n = 244 := by rw [← hB.len]; exact h
    by_cases h1 : (l.getD 0 0).toNat ≤ 1
    · have ht : 0 ≤ treeR l ∧ treeR l ≤ 255 := by simp only [treeR]; have := UInt8.toNat_lt (l.getD 1 0); omega
      have hti : i64b (treeR l) := by simp only [i64b]; omega
      have UN := Lib.hid (fm_unpack hB h)
      have hlf : (((l.getD 0 0).toNat : Int) == 1) = leafR l := by
        rw [leafR, Bool.eq_iff_iff, beq_iff_eq, beq_iff_eq]
        constructor
        · intro e; apply UInt8.toNat_inj.1; have e2 : (l.getD 0 0).toNat = 1 := by omega
          rw [e2]; rfl
        · intro e; rw [e]; rfl
      have hcn : cntR l ≤ 65535 := by
        have := leN_lt ((l.drop 2).take 2)
        simp only [List.length_take, List.length_drop, h] at this
        change cntR l < 256 ^ 2 at this
        omega
      have hwm := widN_cases (treeR l) (leafR l)
      change (widR l = 0 ∧ capR l = 0) ∨ (widR l = 4 ∧ capR l = 18) ∨ (widR l = 8 ∧ capR l = 12) ∨ (widR l = 24 ∧ capR l = 6) ∨ (widR l = 16 ∧ capR l = 9) at hwm
      have WD : Hid (∀ b6 o6 c6 W, FmSt w W b6 o6 c6 l → Calls Tryz.prog 105 #[.int .i64 (treeR l), .bool (leafR l)] W fun e w' => e = .returned (.int .i64 (widR l : Int)) ∧ FmSt w w' b6 o6 c6 l) := fun b6 o6 c6 W hW => fm_width _ hti rfl W hW
      have MX : Hid (∀ b6 o6 c6 W, FmSt w W b6 o6 c6 l → Calls Tryz.prog 106 #[.int .i64 (treeR l), .bool (leafR l)] W fun e w' => e = .returned (.int .i64 (capR l : Int)) ∧ FmSt w w' b6 o6 c6 l) := fun b6 o6 c6 W hW => fm_max _ hti rfl W hW
      have hbad : (widR l = 0 ∨ at2 l 4 ≠ widR l ∨ at2 l 6 ≠ capR l ∨ leN ((l.drop 8).take 4) ≠ 0 ∨ capR l < cntR l ∨ (leafR l = false ∧ cntR l = 0)) → r = false := fun hx => by rw [← hr]; exact formN_no (.inr (.inr hx))
      have hgood : widR l ≠ 0 → at2 l 4 = widR l → at2 l 6 = capR l → leN ((l.drop 8).take 4) = 0 → cntR l ≤ capR l → (leafR l = true ∨ cntR l ≠ 0) → r = (zkB l && zvB l) := fun a1 a2 a3 a4 a5 a6 => by rw [← hr]; exact formN_zeros h h1 a1 a2 a3 a4 a5 a6
      have HGood := Lib.hid hgood
      have HBad := Lib.hid hbad
      have HBy := Lib.hid hB
      have HFC : Hid (∀ b6 o6 c6 W, FmSt w W b6 o6 c6 l → W.cell? ⟨b6, o6, none⟩ = some (.int .i64 ((l.getD 0 0).toNat : Int)) ∧ W.cell? ⟨b6, o6 + 1, none⟩ = some (.int .i64 (treeR l)) ∧ W.cell? ⟨b6, o6 + 2, none⟩ = some (.int .i64 (cntR l : Int)) ∧ W.cell? ⟨b6, o6 + 3, none⟩ = some (.int .i64 (at2 l 4 : Int)) ∧ W.cell? ⟨b6, o6 + 4, none⟩ = some (.int .i64 (at2 l 6 : Int)) ∧ W.cell? ⟨b6, o6 + 5, none⟩ = some (.int .i64 (leN ((l.drop 8).take 4) : Int))) := fun b6 o6 c6 W hW => hW.cells
      have HWM := Lib.hid hwm
      clear hr hB hcell hx ex hbad hgood hwm
      have hwm2 : widR l ≤ 24 ∧ capR l ≤ 18 := by rcases HWM.out with ⟨a, b⟩ | ⟨a, b⟩ | ⟨a, b⟩ | ⟨a, b⟩ | ⟨a, b⟩ <;> rw [b, a] <;> omega
      obtain ⟨hw24, hm18⟩ := hwm2
      have ZK : Hid (∀ b6 o6 c6, cntR l ≤ capR l → ∀ W o m c', FmSt w W b6 o6 c6 l → o = off + (12 + 8 * cntR l) → m = 8 * capR l - 8 * cntR l → m ≤ c' → c' ≤ 9223372036854775807 → Calls Tryz.prog 127 #[.slice (some ⟨b, o, none⟩) m c'] W fun e w' => e = .returned (.bool (zkB l)) ∧ W = w') := fun b6 o6 c6 hc W o m c' hW h1 h2 h3 h4 => fm_zk HBy.out _ rfl hm18 hc _ rfl W o m c' hW h1 h2 h3 h4
      have ZV : Hid (∀ b6 o6 c6, 12 + 8 * capR l + widR l * cntR l ≤ 244 → ∀ W o m c', FmSt w W b6 o6 c6 l → o = off + (12 + 8 * capR l + widR l * cntR l) → m = 244 - (12 + 8 * capR l + widR l * cntR l) → m ≤ c' → c' ≤ 9223372036854775807 → Calls Tryz.prog 127 #[.slice (some ⟨b, o, none⟩) m c'] W fun e w' => e = .returned (.bool (zvB l)) ∧ W = w') := fun b6 o6 c6 hf W o m c' hW h1 h2 h3 h4 => fm_zv HBy.out _ _ rfl rfl hf _ rfl W o m c' hW h1 h2 h3 h4
      generalize hx : (l.getD 0 0).toNat = x at *
      generalize hTq : treeR l = T at *
      generalize hLq : leafR l = L at *
      generalize hCq : cntR l = cnt at *
      generalize hwq : at2 l 4 = w4 at *
      generalize hmq : at2 l 6 = m6 at *
      generalize hzq : leN ((l.drop 8).take 4) = z8 at *
      generalize hWq : widR l = wd at *
      generalize hMq : capR l = mx at *
      clear hx hTq hLq hCq hwq hmq hzq hWq hMq HBy
      have hx1 : ¬ (1 : Int) < (x : Int) := by omega
      have hd1 : decide ((1 : Int) < (x : Int)) = false := decide_eq_false hx1
      clear hx1
      by_cases hall : wd ≠ 0 ∧ w4 = wd ∧ m6 = mx ∧ z8 = 0 ∧ cnt ≤ mx ∧ (L = true ∨ cnt ≠ 0)
      · obtain ⟨a1, a2, a3, a4, a5, a6⟩ := hall
        have hr := HGood.out a1 a2 a3 a4 a5 a6
        subst a2; subst a3; subst a4
        have e1 : ((w4 : Int) == 0) = false := by rw [beq_eq_false_iff_ne]; omega
        have e2 : ((w4 : Int) != (w4 : Int)) = false := by simp
        have e3 : ((m6 : Int) != (m6 : Int)) = false := by simp
        have e5 : decide ((m6 : Int) < (cnt : Int)) = false := decide_eq_false (by omega)
        have hm2 : 6 ≤ m6 ∧ 12 + 8 * m6 + w4 * m6 ≤ 228 := by
          rcases HWM.out with ⟨a, b⟩ | ⟨a, b⟩ | ⟨a, b⟩ | ⟨a, b⟩ | ⟨a, b⟩
          · exact absurd a a1
          all_goals rw [b, a]; omega
        have hmul : w4 * cnt ≤ w4 * m6 := Nat.mul_le_mul_left _ a5
        obtain ⟨hm6, hfit⟩ := hm2
        obtain ⟨y, hy⟩ : ∃ y, y = w4 * cnt := ⟨_, rfl⟩
        have ey : wrap64 ((w4 : Int) * (cnt : Int)) = (y : Int) := by
          rw [hy, Int.natCast_mul]
          have : ((w4 * cnt : Nat) : Int) = (w4 : Int) * (cnt : Int) := Int.natCast_mul _ _
          unfold wrap64
          omega
        rw [← hy] at ZV hmul
        have hyb : 12 + 8 * m6 + y ≤ 228 := Nat.le_trans (Nat.add_le_add_left hmul _) hfit
        clear hy hmul hfit HGood HBad HWM
        generalize zkB l = zk at *
        generalize zvB l = zv at *
        have Z1 := Lib.hid (fun b6 o6 c6 => ZK.out b6 o6 c6 a5)
        have Z2 := Lib.hid (fun b6 o6 c6 => ZV.out b6 o6 c6 (Nat.le_trans hyb (by decide)))
        clear ZK ZV
        cases L
        · have hc0 : cnt ≠ 0 := by rcases a6 with h | h; exact absurd h (by simp); exact h
          have e6 : ((cnt : Int) == 0) = false := by rw [beq_eq_false_iff_ne]; omega
          clear a6
          cases zk
          all_goals
            cases zv
            all_goals
              subst hr
              go_enter Tryz.func104, Tryz.ntmps104
              go_wp2_with (first
                | (go_at_call 126; (with_reducible refine (UN.out).mono ?_); rintro e w1 ⟨b6, o6, c6, rfl, hc6, hS1⟩; obtain ⟨j0, j1, j2, j3, j4, j5⟩ := HFC.out _ _ _ _ hS1)
                | (go_at_call 105; (with_reducible refine (WD.out _ _ _ _ hS1).mono ?_); rintro e w2 ⟨rfl, hS2⟩; obtain ⟨q0, q1, q2, q3, q4, q5⟩ := HFC.out _ _ _ _ hS2)
                | (go_at_call 106; (with_reducible refine (MX.out _ _ _ _ hS2).mono ?_); rintro e w3 ⟨rfl, hS3⟩; obtain ⟨p0, p1, p2, p3, p4, p5⟩ := HFC.out _ _ _ _ hS3)
                | (go_at_call 127; (with_reducible refine (Z1.out _ _ _ _ _ _ _ hS3 (by omega) (by omega) (by omega) (by omega)).mono ?_); rintro e w' ⟨rfl, rfl⟩)
                | (go_at_call 127; (with_reducible refine (Z2.out _ _ _ _ _ _ _ hS3 (by omega) (by omega) (by omega) (by omega)).mono ?_); rintro e w' ⟨rfl, rfl⟩))
              go_ret
              exact ⟨rfl, hS3.bel⟩
        · clear a6
          cases zk
          all_goals
            cases zv
            all_goals
              subst hr
              go_enter Tryz.func104, Tryz.ntmps104
              go_wp2_with (first
                | (go_at_call 126; (with_reducible refine (UN.out).mono ?_); rintro e w1 ⟨b6, o6, c6, rfl, hc6, hS1⟩; obtain ⟨j0, j1, j2, j3, j4, j5⟩ := HFC.out _ _ _ _ hS1)
                | (go_at_call 105; (with_reducible refine (WD.out _ _ _ _ hS1).mono ?_); rintro e w2 ⟨rfl, hS2⟩; obtain ⟨q0, q1, q2, q3, q4, q5⟩ := HFC.out _ _ _ _ hS2)
                | (go_at_call 106; (with_reducible refine (MX.out _ _ _ _ hS2).mono ?_); rintro e w3 ⟨rfl, hS3⟩; obtain ⟨p0, p1, p2, p3, p4, p5⟩ := HFC.out _ _ _ _ hS3)
                | (go_at_call 127; (with_reducible refine (Z1.out _ _ _ _ _ _ _ hS3 (by omega) (by omega) (by omega) (by omega)).mono ?_); rintro e w' ⟨rfl, rfl⟩)
                | (go_at_call 127; (with_reducible refine (Z2.out _ _ _ _ _ _ _ hS3 (by omega) (by omega) (by omega) (by omega)).mono ?_); rintro e w' ⟨rfl, rfl⟩))
              go_ret
              exact ⟨rfl, hS3.bel⟩
      · have hr : r = false := by
          apply HBad.out
          by_cases b1 : wd = 0
          · exact .inl b1
          · by_cases b2 : w4 = wd
            · by_cases b3 : m6 = mx
              · by_cases b4 : z8 = 0
                · by_cases b5 : cnt ≤ mx
                  · refine .inr (.inr (.inr (.inr (.inr ?_))))
                    cases L
                    · refine ⟨rfl, ?_⟩
                      by_cases b6 : cnt = 0
                      · exact b6
                      · exact absurd ⟨b1, b2, b3, b4, b5, .inr b6⟩ hall
                    · exact absurd ⟨b1, b2, b3, b4, b5, .inl rfl⟩ hall
                  · exact .inr (.inr (.inr (.inr (.inl (Nat.lt_of_not_le b5)))))
                · exact .inr (.inr (.inr (.inl b4)))
              · exact .inr (.inr (.inl b3))
            · exact .inr (.inl b2)
        subst hr
        clear HGood HBad HWM ZK ZV
        by_cases b1 : wd = 0
        · have e1 : ((wd : Int) == 0) = true := by rw [beq_iff_eq]; omega
          clear hall b1
          go_enter Tryz.func104, Tryz.ntmps104
          go_wp2_with (first
            | (go_at_call 126; (with_reducible refine (UN.out).mono ?_); rintro e w1 ⟨b6, o6, c6, rfl, hc6, hS1⟩; obtain ⟨j0, j1, j2, j3, j4, j5⟩ := HFC.out _ _ _ _ hS1)
            | (go_at_call 105; (with_reducible refine (WD.out _ _ _ _ hS1).mono ?_); rintro e w2 ⟨rfl, hS2⟩; obtain ⟨q0, q1, q2, q3, q4, q5⟩ := HFC.out _ _ _ _ hS2)
            | (go_at_call 106; (with_reducible refine (MX.out _ _ _ _ hS2).mono ?_); rintro e w3 ⟨rfl, hS3⟩; obtain ⟨p0, p1, p2, p3, p4, p5⟩ := HFC.out _ _ _ _ hS3))
          go_ret
          exact ⟨rfl, hS3.bel⟩
        · have e1 : ((wd : Int) == 0) = false := by rw [beq_eq_false_iff_ne]; omega
          by_cases b2 : w4 = wd
          · subst b2
            by_cases b3 : m6 = mx
            · subst b3
              by_cases b4 : z8 = 0
              · subst b4
                by_cases b5 : cnt ≤ m6
                · have e5 : decide ((m6 : Int) < (cnt : Int)) = false := decide_eq_false (by omega)
                  cases L
                  · have hc0 : cnt = 0 := by
                      by_cases b6 : cnt = 0
                      · exact b6
                      · exact absurd ⟨b1, rfl, rfl, rfl, b5, .inr b6⟩ hall
                    have e6 : ((cnt : Int) == 0) = true := by rw [beq_iff_eq]; omega
                    clear hall hc0
                    go_enter Tryz.func104, Tryz.ntmps104
                    go_wp2_with (first
                      | (go_at_call 126; (with_reducible refine (UN.out).mono ?_); rintro e w1 ⟨b6, o6, c6, rfl, hc6, hS1⟩; obtain ⟨j0, j1, j2, j3, j4, j5⟩ := HFC.out _ _ _ _ hS1)
                      | (go_at_call 105; (with_reducible refine (WD.out _ _ _ _ hS1).mono ?_); rintro e w2 ⟨rfl, hS2⟩; obtain ⟨q0, q1, q2, q3, q4, q5⟩ := HFC.out _ _ _ _ hS2)
                      | (go_at_call 106; (with_reducible refine (MX.out _ _ _ _ hS2).mono ?_); rintro e w3 ⟨rfl, hS3⟩; obtain ⟨p0, p1, p2, p3, p4, p5⟩ := HFC.out _ _ _ _ hS3))
                    go_ret
                    exact ⟨rfl, hS3.bel⟩
                  · exact absurd ⟨b1, rfl, rfl, rfl, b5, .inl rfl⟩ hall
                · have e5 : decide ((m6 : Int) < (cnt : Int)) = true := decide_eq_true (by omega)
                  clear hall
                  go_enter Tryz.func104, Tryz.ntmps104
                  go_wp2_with (first
                    | (go_at_call 126; (with_reducible refine (UN.out).mono ?_); rintro e w1 ⟨b6, o6, c6, rfl, hc6, hS1⟩; obtain ⟨j0, j1, j2, j3, j4, j5⟩ := HFC.out _ _ _ _ hS1)
                    | (go_at_call 105; (with_reducible refine (WD.out _ _ _ _ hS1).mono ?_); rintro e w2 ⟨rfl, hS2⟩; obtain ⟨q0, q1, q2, q3, q4, q5⟩ := HFC.out _ _ _ _ hS2)
                    | (go_at_call 106; (with_reducible refine (MX.out _ _ _ _ hS2).mono ?_); rintro e w3 ⟨rfl, hS3⟩; obtain ⟨p0, p1, p2, p3, p4, p5⟩ := HFC.out _ _ _ _ hS3))
                  go_ret
                  exact ⟨rfl, hS3.bel⟩
              · have e4 : ((z8 : Int) != 0) = true := by rw [bne_iff_ne]; omega
                clear hall
                go_enter Tryz.func104, Tryz.ntmps104
                go_wp2_with (first
                  | (go_at_call 126; (with_reducible refine (UN.out).mono ?_); rintro e w1 ⟨b6, o6, c6, rfl, hc6, hS1⟩; obtain ⟨j0, j1, j2, j3, j4, j5⟩ := HFC.out _ _ _ _ hS1)
                  | (go_at_call 105; (with_reducible refine (WD.out _ _ _ _ hS1).mono ?_); rintro e w2 ⟨rfl, hS2⟩; obtain ⟨q0, q1, q2, q3, q4, q5⟩ := HFC.out _ _ _ _ hS2)
                  | (go_at_call 106; (with_reducible refine (MX.out _ _ _ _ hS2).mono ?_); rintro e w3 ⟨rfl, hS3⟩; obtain ⟨p0, p1, p2, p3, p4, p5⟩ := HFC.out _ _ _ _ hS3))
                go_ret
                exact ⟨rfl, hS3.bel⟩
            · have e3 : ((m6 : Int) != (mx : Int)) = true := by rw [bne_iff_ne]; omega
              clear hall
              go_enter Tryz.func104, Tryz.ntmps104
              go_wp2_with (first
                | (go_at_call 126; (with_reducible refine (UN.out).mono ?_); rintro e w1 ⟨b6, o6, c6, rfl, hc6, hS1⟩; obtain ⟨j0, j1, j2, j3, j4, j5⟩ := HFC.out _ _ _ _ hS1)
                | (go_at_call 105; (with_reducible refine (WD.out _ _ _ _ hS1).mono ?_); rintro e w2 ⟨rfl, hS2⟩; obtain ⟨q0, q1, q2, q3, q4, q5⟩ := HFC.out _ _ _ _ hS2)
                | (go_at_call 106; (with_reducible refine (MX.out _ _ _ _ hS2).mono ?_); rintro e w3 ⟨rfl, hS3⟩; obtain ⟨p0, p1, p2, p3, p4, p5⟩ := HFC.out _ _ _ _ hS3))
              go_ret
              exact ⟨rfl, hS3.bel⟩
          · have e2 : ((w4 : Int) != (wd : Int)) = true := by rw [bne_iff_ne]; omega
            clear hall
            go_enter Tryz.func104, Tryz.ntmps104
            go_wp2_with (first
              | (go_at_call 126; (with_reducible refine (UN.out).mono ?_); rintro e w1 ⟨b6, o6, c6, rfl, hc6, hS1⟩; obtain ⟨j0, j1, j2, j3, j4, j5⟩ := HFC.out _ _ _ _ hS1)
              | (go_at_call 105; (with_reducible refine (WD.out _ _ _ _ hS1).mono ?_); rintro e w2 ⟨rfl, hS2⟩; obtain ⟨q0, q1, q2, q3, q4, q5⟩ := HFC.out _ _ _ _ hS2)
              | (go_at_call 106; (with_reducible refine (MX.out _ _ _ _ hS2).mono ?_); rintro e w3 ⟨rfl, hS3⟩; obtain ⟨p0, p1, p2, p3, p4, p5⟩ := HFC.out _ _ _ _ hS3))
            go_ret
            exact ⟨rfl, hS3.bel⟩
    · obtain rfl : r = false := by rw [← hr]; exact formN_no (.inr (.inl (by omega)))
      generalize (l.getD 0 0).toNat = x at *
      have hgt : (1 : Int) < (x : Int) := by omega
      clear hr hB hcell hx ex
      go_enter Tryz.func104, Tryz.ntmps104
      go_wp2
      go_ret
      exact ⟨rfl, Below.refl _ _⟩
  · obtain rfl : r = false := by rw [← hr]; exact formN_no (.inl h)
    have hne : ((n : Int) != 244) = true := by rw [bne_iff_ne]; have := hB.len; omega
    clear hr hB
    go_enter Tryz.func104, Tryz.ntmps104
    go_wp2
    go_ret
    exact ⟨rfl, Below.refl _ _⟩

end Go.Proofs.YtfcehhhcjlpklaaGreatDoor

/-
  Layer 7: the reference's Read.
-/
namespace Go.Proofs.YtfcehhhcjlpklaaGreatDoor
open Go.RowKit
set_option linter.unusedVariables false
set_option linter.unusedSimpArgs false

set_option maxRecDepth 100000 in
set_option maxHeartbeats 800000 in
theorem refRead_bad (w : World) (A : Option Addr) (n c : Nat) (l : List UInt8) (hB : Bytes8 w A n c l) (hf : formN l = false) : Calls Tryz.prog 75 #[.slice A n c] w fun e w' => RdPostF w l e w' := by
  have hz := NodAt.new w 0 false (.slice none 0 0) (.slice none 0 0)
  have hb : Below w.heap.size w (w.alloc zN) := (Below.refl _ _).alloc (Nat.le_refl _) _
  have FM : Hid (Calls Tryz.prog 104 #[.slice A n c] (w.alloc zN) fun e w' => e = .returned (.bool false) ∧ Below w.heap.size w w' ∧ NodAt w' w.heap.size 0 false (.slice none 0 0) (.slice none 0 0)) := (form_any _ A n c l (hB.below hb) false hf).mono fun e w' ⟨h1, h2⟩ => ⟨h1, hb.trans (h2.mono hb.size), hz.later h2⟩
  have hE := Lib.hid (readNE_bad (l := l) (by rw [hf]; simp))
  clear hB hf hz hb
  simp only [zN] at FM
  go_enter Tryz.func75, Tryz.ntmps75
  go_wp2_with (go_at_call 104; (with_reducible refine (FM.out).mono ?_); rintro e w1 ⟨rfl, hb1, hz1⟩; have z0 := hz1.c0; have z1 := hz1.c1; have z2 := hz1.c2; have z3 := hz1.c3; have y0 := Lib.frozen_of_heap hz1 0; have y1 := Lib.frozen_of_heap hz1 1; have y2 := Lib.frozen_of_heap hz1 2; have y3 := Lib.frozen_of_heap hz1 3)
  refine bodyPost_ret (results_nod Tryz.results75 _ _ w.heap.size 0 false (.slice none 0 0) (.slice none 0 0) rfl rfl rfl (hz1.store _ _ _ _)) rfl ?_
  exact rdPost_bad hE.out (below_store7 hb1 (Nat.le_refl _) _ _ _ _)

theorem cnt_byte {l : List UInt8} (h : l.length = 244) (hc : cntR l ≤ 18) : ((l.getD 2 0).toNat : Int) = (cntR l : Int) := by
  match l, h with
  | x0 :: x1 :: x2 :: x3 :: r, _ =>
    have e : cntR (x0 :: x1 :: x2 :: x3 :: r) = x2.toNat + 256 * (x3.toNat + 256 * 0) := rfl
    rw [e] at hc ⊢
    have e2 : (x0 :: x1 :: x2 :: x3 :: r).getD 2 0 = x2 := rfl
    rw [e2]
    omega

/-- Get of a key in the reference's Read -/
theorem rf_key {w : World} {A : Option Addr} {c : Nat} {l : List UInt8} (hB : Bytes8 w A 244 c l) (k : Nat) (hk : k < 18) (W : World) (hb : Below w.heap.size w W) :
    Calls Tryz.prog 76 #[.slice A 244 c, .int .i64 (12 + 8 * k : Int), .int .i64 8] W fun e w' => W = w' ∧ (keyR l k < 9223372036854775808 → e = .returned (.tuple #[.int .i64 (keyR l k : Int), .int .i64 0])) ∧ (9223372036854775808 ≤ keyR l k → e = .returned (.tuple #[.int .i64 0, .int .i64 2])) := by
  have g := get_key (b := l) k (by rw [hB.len]; omega)
  refine (refGet_any A 244 c l (12 + 8 * k : Int) 8 W (hB.below hb) (by omega)).mono ?_
  rintro e w' ⟨rfl, rfl⟩
  refine ⟨rfl, fun h => ?_, fun h => ?_⟩
  · have := g.1 h
    rw [show ((12 + 8 * k : Nat) : Int) = 12 + 8 * (k : Int) by omega] at this
    rw [this.1, this.2]
  · have := g.2 h
    rw [show ((12 + 8 * k : Nat) : Int) = 12 + 8 * (k : Int) by omega] at this
    rw [this.1, this.2]

theorem MsN.max7 {w0 w : World} {tree : Int} {leaf : Bool} {i j ck cv : Nat} {Ak Av : Option Addr} {ks : List Int} {vs : List (List UInt8)} (ht : i64b tree) (mx : Nat) (hm : capN (widN tree leaf) = mx) (h : MsN w0 w tree leaf i Ak ck j Av cv ks vs) :
    Calls Tryz.prog 106 #[.int .i64 tree, .bool leaf] w fun e w' => e = .returned (.int .i64 (mx : Int)) ∧ MsN w0 w' tree leaf i Ak ck j Av cv ks vs :=
  (refMax_any tree leaf w mx hm ht).mono fun e w' ⟨h1, h2⟩ => ⟨h1, h.later h2⟩
theorem MsN.width7 {w0 w : World} {tree : Int} {leaf : Bool} {i j ck cv : Nat} {Ak Av : Option Addr} {ks : List Int} {vs : List (List UInt8)} (ht : i64b tree) (wd : Nat) (hw : widN tree leaf = wd) (h : MsN w0 w tree leaf i Ak ck j Av cv ks vs) :
    Calls Tryz.prog 105 #[.int .i64 tree, .bool leaf] w fun e w' => e = .returned (.int .i64 (wd : Int)) ∧ MsN w0 w' tree leaf i Ak ck j Av cv ks vs :=
  (refWidth_any tree leaf w wd hw ht).mono fun e w' ⟨h1, h2⟩ => ⟨h1, h.later h2⟩

theorem MsN.last {w0 w : World} {tree : Int} {leaf : Bool} {k j ck cv : Nat} {Ak Av : Option Addr} {ks : List Int} {vs : List (List UInt8)} (h : MsN w0 w tree leaf (k + 1) Ak ck j Av cv (ks.take (k + 1)) vs) (hk : k + 1 ≤ ks.length) :
    ∃ bk ok, Ak = some ⟨bk, ok, none⟩ ∧ w.cell? ⟨bk, ok + k, none⟩ = some (.int .i64 (prevK (-1) ks (k + 1))) := by
  obtain ⟨A1, c1, e1, h1⟩ := Ints.of_own h.ok
  injection e1 with e1 _ e3
  subst e1; subst e3
  obtain ⟨bk, ok, rfl, _, hc⟩ := h1.row.lit (by rw [i64s_length, List.length_take]; omega)
  refine ⟨bk, ok, rfl, ?_⟩
  have := hc k _ (i64s_at (ks.take (k + 1)) k (by rw [List.length_take]; omega))
  rw [this]
  have e : (ks.take (k + 1))[k]'(by rw [List.length_take]; omega) = prevK (-1) ks (k + 1) := by
    rw [List.getElem_take, prevK_succ (by omega)]
  rw [e]

/-- the zeroed result, all below it as it was, and the node that is made -/
theorem ms_finish {w w1 wr : World} {l : List UInt8} {Ak : Option Addr} {ck : Nat} {Av : Option Addr} {cv cnt : Nat} (hf : formN l = true) (h : keyErr (-1) (keysR l) = 0) (hc : cnt = cntR l) (hb1 : Below w.heap.size w w1) (hz : w.heap.size < w1.heap.size) (hL : MsN w1 wr (treeR l) (leafR l) cnt Ak ck cnt Av cv (intsR l) (valsR l)) :
    RdPostF w l (.returned (.tuple #[.agg #[.int .i64 (treeR l), .bool (leafR l), .slice Ak cnt ck, .slice Av cnt cv], .int .i64 0])) ((((wr.setCell ⟨w.heap.size, 0, none⟩ (.int .i64 (treeR l))).setCell ⟨w.heap.size, 1, none⟩ (.bool (leafR l))).setCell ⟨w.heap.size, 2, none⟩ (.slice Ak cnt ck)).setCell ⟨w.heap.size, 3, none⟩ (.slice Av cnt cv)) := by
  obtain ⟨h0, h1⟩ := key_all hf h
  refine ⟨Ak, cnt, ck, Av, cnt, cv, by rw [h0, h1]; rfl, ?_, below_store7 (hb1.trans (hL.bel.mono hb1.size)) (Nat.le_refl _) _ _ _ _, (Newer.of_own hL.ok).mono (by omega), (Newer.of_own hL.ov).mono (by omega)⟩
  rw [h1]
  have keep : ∀ k, w1.heap.size + 1 ≤ k → ((((wr.setCell ⟨w.heap.size, 0, none⟩ (.int .i64 (treeR l))).setCell ⟨w.heap.size, 1, none⟩ (.bool (leafR l))).setCell ⟨w.heap.size, 2, none⟩ (.slice Ak cnt ck)).setCell ⟨w.heap.size, 3, none⟩ (.slice Av cnt cv)).heap[k]? = wr.heap[k]? := fun k hk => by
    rw [heap_setCell_other _ _ _ _ (by simp; omega), heap_setCell_other _ _ _ _ (by simp; omega), heap_setCell_other _ _ _ _ (by simp; omega), heap_setCell_other _ _ _ _ (by simp; omega)]
  have o1 := own_kept hL.ok (fun k hk _ => keep k hk)
  have o2 := own_kept hL.ov (fun k hk _ => keep k hk)
  obtain ⟨A1, c1, e1, g1⟩ := Ints.of_own o1
  obtain ⟨A2, c2, e2, g2⟩ := Strs.of_own o2
  injection e1 with e1 _ e3
  injection e2 with e2 _ e4
  subst e1; subst e2; subst e3; subst e4
  exact ⟨g1, g2, by simp only [i64b, treeR]; have := UInt8.toNat_lt (l.getD 1 0); omega, intsR_bd h0, valsR_bd h0⟩

end Go.Proofs.YtfcehhhcjlpklaaGreatDoor
