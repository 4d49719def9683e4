/-
  Joined: NodIC, NodID, NodJ, NodK, SlotA, SlotB, SlotC, SlotF.
-/
import Derived.Test.YtnjlganofjkpfaaGreatJBldB38
import Derived.Test.YtnjlganofjkpfaaGreatJBldB16
import Derived.Test.YtnjlganofjkpfaaGreatJBldB20
import Derived.Test.YtnjlganofjkpfaaGreatJBldB24
import Derived.Test.YtnjlganofjkpfaaGreatJBldB12
import Derived.Test.YtnjlganofjkpfaaGreatJBldB25
import Derived.Test.YtnjlganofjkpfaaGreatJBldB29
import Derived.Test.YtnjlganofjkpfaaGreatJBldB28
import Derived.Test.YtnjlganofjkpfaaGreatJBldB30
import Derived.Test.YtnjlganofjkpfaaGreatJBldB11
import Derived.Test.YtnjlganofjkpfaaGreatJBldB02
/-
  Layer 7's Read: the zeros, and the loop.
-/
namespace Go.Proofs.YtnjlganofjkpfaaGreat
open Go.RowKit
set_option linter.unusedVariables false
set_option linter.unusedSimpArgs false

theorem info_strvC : (Tryz.prog.info? 9).map (fun i => (i.zero, i.size, i.bytes)) = some (some (.string ByteArray.empty), 1, 16) := by kernel_rfl

set_option maxRecDepth 100000 in
set_option maxHeartbeats 1600000 in
theorem Read_restC (w : World) (A : Option Addr) (n c : Nat) (l : List UInt8) (hB : Bytes8 w A n c l) (h : l.length = 244) (hh : holdsN (treeR l) (leafR l) (cntR l) = true) (hp : l.take 12 = nodHeadB l) (wd mx : Nat) (hwm : wd = 24 ∧ mx = 6) (hw : widN (treeR l) (leafR l) = wd) (hm : capN (widN (treeR l) (leafR l)) = mx) :
    Calls Tryz.prog 77 #[.slice A n c] w fun e w' => RdPostF w l e w' := by
  obtain ⟨b, off, x0, rfl, hI⟩ := rd_in hB h
  obtain ⟨hk0, hk1, hj0, hj1, hm0, hm1⟩ := hI.three
  have G := Lib.hid (rd_get (tree := treeR l) (leaf := leafR l) hB h)
  have BG := Lib.hid (rd_begin (w := w) (tree := treeR l) (leaf := leafR l) (cntR l) hI.tree hI.cnt)
  have PK := Lib.hid (rd_pack (w := w) (tree := treeR l) (leaf := leafR l) (cntR l) hI.tree hI.cnt)
  have HO := Lib.hid (fun W => holds_any (treeR l) (leafR l) (cntR l) W true (by have := hI.cnt; omega) hh)
  have HP := Lib.hid (rd_prefix (tree := treeR l) (leaf := leafR l) hB h _ true (decide_eq_true hp))
  have HCNT := hh
  clear hh
  simp only [nodHeadB] at HP
  have WD := Lib.hid (fun W => Width_q (treeR l) (leafR l) W wd hw)
  have MX := Lib.hid (fun W => Max_q (treeR l) (leafR l) W mx hm)
  have hcm2 : cntR l ≤ mx := by
    have := HCNT; simp only [holdsN, Bool.and_eq_true, decide_eq_true_eq] at this; rw [hm] at this; exact this.1.2
  have hfit : mx ≤ 18 ∧ 12 + 8 * mx + wd * mx ≤ 244 := by obtain ⟨rfl, rfl⟩ := hwm; omega
  have hmul : wd * cntR l ≤ wd * mx := Nat.mul_le_mul_left _ hcm2
  obtain rfl := hI.hn
  have ZK := Lib.hid (fun r hr => rd_zk (tree := treeR l) (leaf := leafR l) hB mx hm hfit.1 hcm2 r hr)
  have ZV := Lib.hid (fun r hr => rd_zv (tree := treeR l) (leaf := leafR l) hB wd mx hw hm (by omega) r hr)
  have ZF : Hid (zkB l = false ∨ zvB l = false → readNE l = 7 ∧ readN l = Nod.zero) := fun hx => readNE_bad (fun hf => by
    have := (form_iff h).1 (formN_iff.1 hf)
    rcases hx with hx | hx
    · rw [hx] at this; exact absurd this.2.1 (by simp)
    · rw [hx] at this; exact absurd this.2.2 (by simp))
  have FM : Hid (zkB l = true → zvB l = true → formN l = true) := fun h1 h2 => formN_iff.2 ((form_iff h).2 ⟨⟨HCNT, hp⟩, h1, h2⟩)
  have KT : Hid (∀ k, k < cntR l → keyErr (-1) ((keysR l).take k) = 0 → keyErr (-1) ((keysR l).take (k + 1)) = followsE (keyR l k) (prevK (-1) (intsR l) k + 1) ∧ -1 ≤ prevK (-1) (intsR l) k ∧ prevK (-1) (intsR l) k ≤ maxK ∧ prevK (-1) (intsR l) (k + 1) = (keyR l k : Int)) := fun k => key_test
  have IA : Hid (∀ k, k < cntR l → (intsR l).take (k + 1) = (intsR l).take k ++ [(keyR l k : Int)]) := fun k => intsR_at
  have VA : Hid (∀ k, k < cntR l → (valsR l).take (k + 1) = (valsR l).take k ++ [valR l k]) := fun k => valsR_at
  have LN : Hid ((keysR l).length = cntR l ∧ (intsR l).length = cntR l ∧ (valsR l).length = cntR l) := ⟨keysR_len l, intsR_len l, valsR_len l⟩
  have KG : Hid (∀ k, k < mx → ∀ m c', m = 8 * mx → m ≤ c' → c' ≤ 9223372036854775807 → ∀ W, Below w.heap.size w W → Calls Tryz.prog 90 #[.slice (some ⟨b, off + 12, none⟩) m c', .int .i64 (8 * k : Int), .int .i64 8] W fun e w' => Below W.heap.size W w' ∧ (keyR l k < 9223372036854775808 → e = .returned (.tuple #[.int .i64 (keyR l k : Int), .int .i64 0])) ∧ (9223372036854775808 ≤ keyR l k → e = .returned (.tuple #[.int .i64 0, .int .i64 2]))) := fun k hk m c' e h1 h2 W hW => by
    subst e; exact rd_key hB mx hfit.1 k hk c' h1 h2 W hW
  have VB : Hid (∀ k, k < cntR l → ∀ W o m c', Below w.heap.size w W → o = off + (12 + 8 * mx + wd * k) → m = wd → m ≤ c' → c' ≤ 9223372036854775807 → Bytes8 W (some ⟨b, o, none⟩) m c' (valR l k)) := fun k hk W o m c' hb ho hm1 h1 h2 => valR_bytes hB wd mx hw hm k (by have : wd * (k + 1) ≤ wd * cntR l := Nat.mul_le_mul_left _ hk; rw [Nat.mul_add, Nat.mul_one] at this; omega) W o m c' hb ho hm1 h1 h2
  have GD : Hid (∀ w' Ak ck Av cv cnt, formN l = true → keyErr (-1) (keysR l) = 0 → cnt = cntR l → LpN w w' (treeR l) (leafR l) cnt Ak ck cnt Av cv (intsR l) (valsR l) → RdPostF w l (.returned (.tuple #[.agg #[.int .i64 (treeR l), .bool (leafR l), .slice Ak cnt ck, .slice Av cnt cv], .int .i64 0])) ((((w'.setCell ⟨w.heap.size, 0, none⟩ (.int .i64 (treeR l))).setCell ⟨w.heap.size, 1, none⟩ (.bool (leafR l))).setCell ⟨w.heap.size, 2, none⟩ (.slice Ak cnt ck)).setCell ⟨w.heap.size, 3, none⟩ (.slice Av cnt cv))) := fun w' Ak ck Av cv cnt => rdPost_good
  have ST := Lib.hid (RdN.start w (treeR l) (leafR l))
  have hlf := hI.leaf
  obtain ⟨ht0, ht1⟩ := hI.tree
  have hcn := hI.cnt
  have hcc := hI.cap
  have hcm := hI.most
  clear hB h hI hmul hfit
  generalize treeR l = tree at *
  generalize leafR l = leaf at *
  generalize cntR l = cnt at *
  subst hlf
  simp only [zN] at *
  go_enter Tryz.func77, Tryz.ntmps77
  go_wp2
  go_region
  generalize ((x0 : Int) == 1) = leaf at *
  generalize ((w.alloc (.cells #[.int .i64 0, .bool false, .slice none 0 0, .slice none 0 0] 70)).alloc (.cells #[.int .i64 tree, .bool leaf, .slice none 0 0, .slice none 0 0] 70)).drew = W1 at *
  clear hk0 hk1 hj0 hj1 hm0 hm1 hw hm
  obtain ⟨rfl, rfl⟩ := hwm
  go_wp2_with (first
    | (go_at_call 90; (with_reducible refine (G.out _ ST.out).mono ?_); rintro e w1 ⟨rfl, hS1⟩; have q0 := hS1.node.c0; have q1 := hS1.node.c1)
    | (go_at_call 51; (with_reducible refine (BG.out _ hS1).mono ?_); rintro e w2 ⟨A2, c2, rfl, hF2, hS2⟩)
    | (go_at_call 52; (with_reducible refine (PK.out _ _ _ hS2 hF2).mono ?_); rintro e w3 ⟨A3, c3, rfl, hB3, hS3⟩; have HB3 := Lib.hid hB3; clear hB3; have p0 := hS3.node.c0; have p1 := hS3.node.c1; have z0 := hS3.zero.c0; have z1 := hS3.zero.c1; have z2 := hS3.zero.c2; have z3 := hS3.zero.c3; have y0 := Lib.frozen_of_heap hS3.zero 0; have y1 := Lib.frozen_of_heap hS3.zero 1; have y2 := Lib.frozen_of_heap hS3.zero 2; have y3 := Lib.frozen_of_heap hS3.zero 3)
    | (go_at_call 64; (with_reducible refine (HO.out _).mono ?_); rintro e w' ⟨rfl, rfl⟩)
    | (go_at_call 91; (with_reducible refine (HP.out _ _ _ hS3 HB3.out).mono ?_); rintro e w' ⟨rfl, rfl⟩))
  go_quiet (first
    | (go_at_call 28; refine Calls.quiet_of_same (WD.out _))
    | (go_at_call 22; refine Calls.quiet_of_same (MX.out _)))
  go_wp2
  go_region
  have hS4 : RdN w (w3.drewN nq).drew tree leaf := hS3.later (below_drewN (Below.refl _ _) _).drew
  have z0 := hS4.zero.c0; have z1 := hS4.zero.c1; have z2 := hS4.zero.c2; have z3 := hS4.zero.c3; have y0 := Lib.frozen_of_heap hS4.zero 0; have y1 := Lib.frozen_of_heap hS4.zero 1; have y2 := Lib.frozen_of_heap hS4.zero 2; have y3 := Lib.frozen_of_heap hS4.zero 3
  generalize (w3.drewN nq).drew = w4 at *
  clear hS1 hS2 hS3 ST HB3 G BG PK HO HP WD MX
  cases hzk : zkB l with
  | false =>
    have Z1 := Lib.hid (ZK.out false hzk)
    go_wp2_with (go_at_call 92; (with_reducible refine (Z1.out _ _ _ _ hS4 (by omega) (by omega) (by omega) (by omega)).mono ?_); rintro e w' ⟨rfl, rfl⟩)
    refine bodyPost_ret (results_nod Tryz.results77 _ _ w.heap.size 0 false (.slice none 0 0) (.slice none 0 0) rfl rfl rfl (hS4.zero.store _ _ _ _)) rfl ?_
    exact rdPost_bad (ZF.out (.inl hzk)) (below_store7 hS4.bel (Nat.le_refl _) _ _ _ _)
  | true =>
    have Z1 := Lib.hid (ZK.out true hzk)
    cases hzv : zvB l with
    | false =>
      have Z2 := Lib.hid (ZV.out false hzv)
      go_wp2_with (first
        | (go_at_call 92; (with_reducible refine (Z1.out _ _ _ _ hS4 (by omega) (by omega) (by omega) (by omega)).mono ?_); rintro e w' ⟨rfl, rfl⟩)
        | (go_at_call 92; (with_reducible refine (Z2.out _ _ _ _ hS4 (by omega) (by omega) (by omega) (by omega)).mono ?_); rintro e w' ⟨rfl, rfl⟩))
      refine bodyPost_ret (results_nod Tryz.results77 _ _ w.heap.size 0 false (.slice none 0 0) (.slice none 0 0) rfl rfl rfl (hS4.zero.store _ _ _ _)) rfl ?_
      exact rdPost_bad (ZF.out (.inr hzv)) (below_store7 hS4.bel (Nat.le_refl _) _ _ _ _)
    | true =>
      have Z2 := Lib.hid (ZV.out true hzv)
      go_wp2_with (first
        | (go_at_call 92; (with_reducible refine (Z1.out _ _ _ _ hS4 (by omega) (by omega) (by omega) (by omega)).mono ?_); rintro e w' ⟨rfl, rfl⟩)
        | (go_at_call 92; (with_reducible refine (Z2.out _ _ _ _ hS4 (by omega) (by omega) (by omega) (by omega)).mono ?_); rintro e w' ⟨rfl, rfl⟩))
      have hf := FM.out hzk hzv
      have HL0 := Lib.hid hS4.loop
      clear Z1 Z2 ZK ZV ZF FM z0 z1 z2 z3 y0 y1 y2 y3 hS4 hzk hzv hp
      go_loopw [13, 100] (fun a i wr => ∃ k : Nat, k ≤ cnt ∧ i = .int .i64 k ∧ (∃ x : Int, a = .int .i64 x ∧ 0 ≤ x ∧ x ≤ 281474976710656 ∧ Hid (x = prevK (-1) (intsR l) k + 1)) ∧ Hid (keyErr (-1) ((keysR l).take k) = 0) ∧ Hid (∃ Ak ck Av cv, LpN w wr tree leaf k Ak ck k Av cv ((intsR l).take k) ((valsR l).take k))) (fun _ i _ => cnt - (intOf i).toNat)
      case atStart => exact ⟨0, by omega, rfl, ⟨0, rfl, by omega, by omega, rfl⟩, rfl, none, 0, none, 0, HL0.out⟩
      case round =>
        clear HL0
        obtain ⟨k, hk, rfl, ⟨x, rfl, hx0, hx1, hX⟩, hE, Ak, ck, Av, cv, hS⟩ := hrel
        by_cases hlt : k < cnt
        · have hkt := KT.out k hlt hE.out
          obtain ⟨t1, t2, t3, t4⟩ := hkt
          rw [← hX.out] at t1
          have hIA := Lib.hid (IA.out k hlt)
          have hVA := Lib.hid (VA.out k hlt)
          have K1 := Lib.hid (KG.out k (by omega))
          have KEnd : Hid (∀ e, keyErr (-1) ((keysR l).take (k + 1)) = e → e ≠ 0 → readNE l = e ∧ readN l = Nod.zero) := fun e => key_end hf
          have V1 := Lib.hid (VB.out k hlt)
          have hT1 := Lib.hid t1
          have hT4 := Lib.hid t4
          clear t1 t2 t3 t4
          by_cases hbig : 9223372036854775808 ≤ keyR l k
          · have hend : readNE l = 2 ∧ readN l = Nod.zero := KEnd.out 2 (by rw [hT1.out]; unfold followsE; rw [if_pos (.inr (by omega))]) (by omega)
            have HEnd := Lib.hid hend
            have HBig := Lib.hid hbig
            have HS := Lib.hid hS
            clear hend hbig hS
            go_wp2_with (go_at_call 90; (with_reducible refine (K1.out _ _ (by omega) (by omega) (by omega) _ HS.out.bel).mono ?_); rintro e w5 ⟨hb5, _, hhi⟩; obtain rfl := hhi HBig.out; have hS5 := HS.out.later hb5; have z0 := hS5.zero.c0; have z1 := hS5.zero.c1; have z2 := hS5.zero.c2; have z3 := hS5.zero.c3; have y0 := Lib.frozen_of_heap hS5.zero 0; have y1 := Lib.frozen_of_heap hS5.zero 1; have y2 := Lib.frozen_of_heap hS5.zero 2; have y3 := Lib.frozen_of_heap hS5.zero 3)
            refine bodyPost_ret (results_nod Tryz.results77 _ _ w.heap.size 0 false (.slice none 0 0) (.slice none 0 0) rfl rfl rfl (hS5.zero.store _ _ _ _)) rfl ?_
            exact rdPost_bad HEnd.out (below_store7 hS5.bel (Nat.le_refl _) _ _ _ _)
          · have hsm : keyR l k < 9223372036854775808 := by omega
            have HS := Lib.hid hS
            have HSm := Lib.hid hsm
            clear hbig hS hsm
            obtain ⟨fx, hfx⟩ : ∃ fx, followsE (keyR l k) x = fx := ⟨_, rfl⟩
            have FO := Lib.hid (fun W => follows_any (keyR l k) x W fx hfx)
            rw [hfx] at hT1
            by_cases h0 : fx = 0
            · subst h0
              have hmax : (keyR l k : Int) ≤ 281474976710655 := by
                rw [hX.out] at hfx
                exact ((followsE_ok (by have := hX.out; omega)).1 hfx).2
              have HX1 : Hid ((keyR l k : Int) + 1 = prevK (-1) (intsR l) (k + 1) + 1) := by rw [hT4.out]; rfl
              clear hfx KEnd
              generalize keyR l k = key at *
              go_wp2_with (first
                | (go_at_call 90; (with_reducible refine (K1.out _ _ (by omega) (by omega) (by omega) _ HS.out.bel).mono ?_); rintro e w5 ⟨hb5, hlo, _⟩; obtain rfl := hlo HSm.out; have hS5 := HS.out.later hb5)
                | (go_at_call 65; (with_reducible refine (FO.out _).mono ?_); rintro e w' ⟨rfl, rfl⟩; have n2 := hS5.node.c2)
                | (at_builtin; go_must (refine wpList_append_newG w5 rfl (.tmp 120) (.tmp 122) _ rfl (w.heap.size + 2) 3 _ _ 8 Tryz.underlying33 info_i64 rfl (.slice Ak k ck) _ _ rfl hS5.ok hS5.low [_] 1 1 rfl rfl (by simp [Value.oneCell']) (by omega) (by omega) ?_); intro v6 w6 ho6 hg6; obtain ⟨Ak', ck', rfl, hn6, hS6⟩ := hS5.addKey ho6.out hg6.out; have m2 := hn6.c2; have g2 := Lib.frozen_of_heap hn6 2))
              have n3 := hS6.node.c3
              have HS6 := Lib.hid hS6
              generalize w6.setCell ⟨w.heap.size + 1, 2, none⟩ (.slice Ak' (k + 1) ck') = w7 at *
              clear hS6 hn6 m2 g2 ho6 hg6 n2 hS5
              have hkc : k < 6 := by omega
              obtain ⟨p, hp⟩ : ∃ p, p = 24 * k := ⟨_, rfl⟩
              obtain ⟨q, hq⟩ : ∃ q, q = 24 * k + 24 := ⟨_, rfl⟩
              have e1 : IntKind.i64.wrap ((24 : Int) * (k : Int)) = (p : Int) := by rw [IntKind.wrap_i64]; omega
              have e2 : IntKind.i64.wrap ((24 : Int) * IntKind.i64.wrap ((k : Int) + 1)) = (q : Int) := by
                have : IntKind.i64.wrap ((k : Int) + 1) = (k : Int) + 1 := by rw [IntKind.wrap_i64]; omega
                rw [this, IntKind.wrap_i64]; omega
              have e3 : (q : Int) ≤ ((c - 60 : Nat) : Int) := by omega
              have e4 : p ≤ q := by omega
              have e5 : ¬ c - 60 = p := by omega
              have e6 : q - p = 24 := by omega
              have hVb := V1.out w7.drew (off + 60 + p) 24 (c - 60 - p) HS6.out.bel.drew (by omega) rfl (by omega) (by omega)
              have cvs := run_str hVb
              have HSd := Lib.hid (HS6.out.later ((Below.refl _ _).alloc (Nat.le_refl _) (.cells #[.string ⟨(valR l k).toArray⟩] 9)).drew)
              have n3A := (HS6.out.later ((Below.refl _ _).alloc (Nat.le_refl _) (.cells #[.string ⟨(valR l k).toArray⟩] 9) : Below w7.heap.size w7 _)).node.c3
              clear hVb hp hq
              go_region_law (first
                | (refine step_append_rowG _ rfl (.tmp 126) (.tmp 137) 68 rfl (w.heap.size + 2) 9 1 _ 16 Tryz.underlying68 info_strvC rfl (by omega) (.slice Av k cv) k _ rfl HSd.out.ov HSd.out.low ⟨w7.heap.size, 0, none⟩ [.string ⟨(valR l k).toArray⟩] 1 1 rfl rfl (Row.of_block (t := 9) (fr := (0, 0)) (heap_alloc_new w7 _)) (by simp [Value.oneCell']) (by omega) (by omega) ?_
                   intro v8 w8 ho8 hg8
                   obtain ⟨Av', cv', rfl, hn8, hS8⟩ := HSd.out.addVal ho8.out hg8.out
                   have m3 := hn8.c3
                   have g3 := Lib.frozen_of_heap hn8 3))
              all_goals go_wp2
              all_goals go_roundw
              all_goals first
                | exact ⟨k + 1, by omega, by go_num, ⟨(key : Int) + 1, by go_num, by omega, by omega, HX1⟩, hT1, Ak', ck', Av', cv', by rw [hIA.out, hVA.out]; exact hS8⟩
                | (simp [intOf]; omega)
            · have hend := KEnd.out fx hT1.out h0
              have HEnd := Lib.hid hend
              have hne : (fx == 0) = false := by rw [beq_eq_false_iff_ne]; exact h0
              have hne2 : (fx != 0) = true := by rw [bne_iff_ne]; exact h0
              clear hend hfx
              go_wp2_with (first
                | (go_at_call 90; (with_reducible refine (K1.out _ _ (by omega) (by omega) (by omega) _ HS.out.bel).mono ?_); rintro e w5 ⟨hb5, hlo, _⟩; obtain rfl := hlo HSm.out; have hS5 := HS.out.later hb5; have z0 := hS5.zero.c0; have z1 := hS5.zero.c1; have z2 := hS5.zero.c2; have z3 := hS5.zero.c3; have y0 := Lib.frozen_of_heap hS5.zero 0; have y1 := Lib.frozen_of_heap hS5.zero 1; have y2 := Lib.frozen_of_heap hS5.zero 2; have y3 := Lib.frozen_of_heap hS5.zero 3)
                | (go_at_call 65; (with_reducible refine (FO.out _).mono ?_); rintro e w' ⟨rfl, rfl⟩))
              refine bodyPost_ret (results_nod Tryz.results77 _ _ w.heap.size 0 false (.slice none 0 0) (.slice none 0 0) rfl rfl rfl (hS5.zero.store _ _ _ _)) rfl ?_
              exact rdPost_bad HEnd.out (below_store7 hS5.bel (Nat.le_refl _) _ _ _ _)
        · obtain rfl : k = cnt := by omega
          have hEall : keyErr (-1) (keysR l) = 0 := by
            have := hE.out
            rwa [List.take_of_length_le (by have := LN.out.1; omega)] at this
          rw [List.take_of_length_le (by have := LN.out.2.1; omega), List.take_of_length_le (by have := LN.out.2.2; omega)] at hS
          have HG1 := Lib.hid (GD.out wr Ak ck Av cv k hf hEall rfl hS)
          have hz := hS.zero
          have z0 := hS.zero.c0; have z1 := hS.zero.c1; have z2 := hS.zero.c2; have z3 := hS.zero.c3; have y0 := Lib.frozen_of_heap hS.zero 0; have y1 := Lib.frozen_of_heap hS.zero 1; have y2 := Lib.frozen_of_heap hS.zero 2; have y3 := Lib.frozen_of_heap hS.zero 3
          have x0 := hS.node.c0; have x1 := hS.node.c1; have x2 := hS.node.c2; have x3 := hS.node.c3
          go_wp2
          refine bodyPost_ret (results_nod Tryz.results77 _ _ w.heap.size tree leaf (.slice Ak k ck) (.slice Av k cv) rfl rfl rfl (hz.store _ _ _ _)) rfl ?_
          exact HG1.out

end Go.Proofs.YtnjlganofjkpfaaGreat

/-
  Layer 7's Read: the zeros, and the loop.
-/
namespace Go.Proofs.YtnjlganofjkpfaaGreat
open Go.RowKit
set_option linter.unusedVariables false
set_option linter.unusedSimpArgs false

theorem info_strvD : (Tryz.prog.info? 9).map (fun i => (i.zero, i.size, i.bytes)) = some (some (.string ByteArray.empty), 1, 16) := by kernel_rfl

set_option maxRecDepth 100000 in
set_option maxHeartbeats 1600000 in
theorem Read_restD (w : World) (A : Option Addr) (n c : Nat) (l : List UInt8) (hB : Bytes8 w A n c l) (h : l.length = 244) (hh : holdsN (treeR l) (leafR l) (cntR l) = true) (hp : l.take 12 = nodHeadB l) (wd mx : Nat) (hwm : wd = 16 ∧ mx = 9) (hw : widN (treeR l) (leafR l) = wd) (hm : capN (widN (treeR l) (leafR l)) = mx) :
    Calls Tryz.prog 77 #[.slice A n c] w fun e w' => RdPostF w l e w' := by
  obtain ⟨b, off, x0, rfl, hI⟩ := rd_in hB h
  obtain ⟨hk0, hk1, hj0, hj1, hm0, hm1⟩ := hI.three
  have G := Lib.hid (rd_get (tree := treeR l) (leaf := leafR l) hB h)
  have BG := Lib.hid (rd_begin (w := w) (tree := treeR l) (leaf := leafR l) (cntR l) hI.tree hI.cnt)
  have PK := Lib.hid (rd_pack (w := w) (tree := treeR l) (leaf := leafR l) (cntR l) hI.tree hI.cnt)
  have HO := Lib.hid (fun W => holds_any (treeR l) (leafR l) (cntR l) W true (by have := hI.cnt; omega) hh)
  have HP := Lib.hid (rd_prefix (tree := treeR l) (leaf := leafR l) hB h _ true (decide_eq_true hp))
  have HCNT := hh
  clear hh
  simp only [nodHeadB] at HP
  have WD := Lib.hid (fun W => Width_q (treeR l) (leafR l) W wd hw)
  have MX := Lib.hid (fun W => Max_q (treeR l) (leafR l) W mx hm)
  have hcm2 : cntR l ≤ mx := by
    have := HCNT; simp only [holdsN, Bool.and_eq_true, decide_eq_true_eq] at this; rw [hm] at this; exact this.1.2
  have hfit : mx ≤ 18 ∧ 12 + 8 * mx + wd * mx ≤ 244 := by obtain ⟨rfl, rfl⟩ := hwm; omega
  have hmul : wd * cntR l ≤ wd * mx := Nat.mul_le_mul_left _ hcm2
  obtain rfl := hI.hn
  have ZK := Lib.hid (fun r hr => rd_zk (tree := treeR l) (leaf := leafR l) hB mx hm hfit.1 hcm2 r hr)
  have ZV := Lib.hid (fun r hr => rd_zv (tree := treeR l) (leaf := leafR l) hB wd mx hw hm (by omega) r hr)
  have ZF : Hid (zkB l = false ∨ zvB l = false → readNE l = 7 ∧ readN l = Nod.zero) := fun hx => readNE_bad (fun hf => by
    have := (form_iff h).1 (formN_iff.1 hf)
    rcases hx with hx | hx
    · rw [hx] at this; exact absurd this.2.1 (by simp)
    · rw [hx] at this; exact absurd this.2.2 (by simp))
  have FM : Hid (zkB l = true → zvB l = true → formN l = true) := fun h1 h2 => formN_iff.2 ((form_iff h).2 ⟨⟨HCNT, hp⟩, h1, h2⟩)
  have KT : Hid (∀ k, k < cntR l → keyErr (-1) ((keysR l).take k) = 0 → keyErr (-1) ((keysR l).take (k + 1)) = followsE (keyR l k) (prevK (-1) (intsR l) k + 1) ∧ -1 ≤ prevK (-1) (intsR l) k ∧ prevK (-1) (intsR l) k ≤ maxK ∧ prevK (-1) (intsR l) (k + 1) = (keyR l k : Int)) := fun k => key_test
  have IA : Hid (∀ k, k < cntR l → (intsR l).take (k + 1) = (intsR l).take k ++ [(keyR l k : Int)]) := fun k => intsR_at
  have VA : Hid (∀ k, k < cntR l → (valsR l).take (k + 1) = (valsR l).take k ++ [valR l k]) := fun k => valsR_at
  have LN : Hid ((keysR l).length = cntR l ∧ (intsR l).length = cntR l ∧ (valsR l).length = cntR l) := ⟨keysR_len l, intsR_len l, valsR_len l⟩
  have KG : Hid (∀ k, k < mx → ∀ m c', m = 8 * mx → m ≤ c' → c' ≤ 9223372036854775807 → ∀ W, Below w.heap.size w W → Calls Tryz.prog 90 #[.slice (some ⟨b, off + 12, none⟩) m c', .int .i64 (8 * k : Int), .int .i64 8] W fun e w' => Below W.heap.size W w' ∧ (keyR l k < 9223372036854775808 → e = .returned (.tuple #[.int .i64 (keyR l k : Int), .int .i64 0])) ∧ (9223372036854775808 ≤ keyR l k → e = .returned (.tuple #[.int .i64 0, .int .i64 2]))) := fun k hk m c' e h1 h2 W hW => by
    subst e; exact rd_key hB mx hfit.1 k hk c' h1 h2 W hW
  have VB : Hid (∀ k, k < cntR l → ∀ W o m c', Below w.heap.size w W → o = off + (12 + 8 * mx + wd * k) → m = wd → m ≤ c' → c' ≤ 9223372036854775807 → Bytes8 W (some ⟨b, o, none⟩) m c' (valR l k)) := fun k hk W o m c' hb ho hm1 h1 h2 => valR_bytes hB wd mx hw hm k (by have : wd * (k + 1) ≤ wd * cntR l := Nat.mul_le_mul_left _ hk; rw [Nat.mul_add, Nat.mul_one] at this; omega) W o m c' hb ho hm1 h1 h2
  have GD : Hid (∀ w' Ak ck Av cv cnt, formN l = true → keyErr (-1) (keysR l) = 0 → cnt = cntR l → LpN w w' (treeR l) (leafR l) cnt Ak ck cnt Av cv (intsR l) (valsR l) → RdPostF w l (.returned (.tuple #[.agg #[.int .i64 (treeR l), .bool (leafR l), .slice Ak cnt ck, .slice Av cnt cv], .int .i64 0])) ((((w'.setCell ⟨w.heap.size, 0, none⟩ (.int .i64 (treeR l))).setCell ⟨w.heap.size, 1, none⟩ (.bool (leafR l))).setCell ⟨w.heap.size, 2, none⟩ (.slice Ak cnt ck)).setCell ⟨w.heap.size, 3, none⟩ (.slice Av cnt cv))) := fun w' Ak ck Av cv cnt => rdPost_good
  have ST := Lib.hid (RdN.start w (treeR l) (leafR l))
  have hlf := hI.leaf
  obtain ⟨ht0, ht1⟩ := hI.tree
  have hcn := hI.cnt
  have hcc := hI.cap
  have hcm := hI.most
  clear hB h hI hmul hfit
  generalize treeR l = tree at *
  generalize leafR l = leaf at *
  generalize cntR l = cnt at *
  subst hlf
  simp only [zN] at *
  go_enter Tryz.func77, Tryz.ntmps77
  go_wp2
  go_region
  generalize ((x0 : Int) == 1) = leaf at *
  generalize ((w.alloc (.cells #[.int .i64 0, .bool false, .slice none 0 0, .slice none 0 0] 70)).alloc (.cells #[.int .i64 tree, .bool leaf, .slice none 0 0, .slice none 0 0] 70)).drew = W1 at *
  clear hk0 hk1 hj0 hj1 hm0 hm1 hw hm
  obtain ⟨rfl, rfl⟩ := hwm
  go_wp2_with (first
    | (go_at_call 90; (with_reducible refine (G.out _ ST.out).mono ?_); rintro e w1 ⟨rfl, hS1⟩; have q0 := hS1.node.c0; have q1 := hS1.node.c1)
    | (go_at_call 51; (with_reducible refine (BG.out _ hS1).mono ?_); rintro e w2 ⟨A2, c2, rfl, hF2, hS2⟩)
    | (go_at_call 52; (with_reducible refine (PK.out _ _ _ hS2 hF2).mono ?_); rintro e w3 ⟨A3, c3, rfl, hB3, hS3⟩; have HB3 := Lib.hid hB3; clear hB3; have p0 := hS3.node.c0; have p1 := hS3.node.c1; have z0 := hS3.zero.c0; have z1 := hS3.zero.c1; have z2 := hS3.zero.c2; have z3 := hS3.zero.c3; have y0 := Lib.frozen_of_heap hS3.zero 0; have y1 := Lib.frozen_of_heap hS3.zero 1; have y2 := Lib.frozen_of_heap hS3.zero 2; have y3 := Lib.frozen_of_heap hS3.zero 3)
    | (go_at_call 64; (with_reducible refine (HO.out _).mono ?_); rintro e w' ⟨rfl, rfl⟩)
    | (go_at_call 91; (with_reducible refine (HP.out _ _ _ hS3 HB3.out).mono ?_); rintro e w' ⟨rfl, rfl⟩))
  go_quiet (first
    | (go_at_call 28; refine Calls.quiet_of_same (WD.out _))
    | (go_at_call 22; refine Calls.quiet_of_same (MX.out _)))
  go_wp2
  go_region
  have hS4 : RdN w (w3.drewN nq).drew tree leaf := hS3.later (below_drewN (Below.refl _ _) _).drew
  have z0 := hS4.zero.c0; have z1 := hS4.zero.c1; have z2 := hS4.zero.c2; have z3 := hS4.zero.c3; have y0 := Lib.frozen_of_heap hS4.zero 0; have y1 := Lib.frozen_of_heap hS4.zero 1; have y2 := Lib.frozen_of_heap hS4.zero 2; have y3 := Lib.frozen_of_heap hS4.zero 3
  generalize (w3.drewN nq).drew = w4 at *
  clear hS1 hS2 hS3 ST HB3 G BG PK HO HP WD MX
  cases hzk : zkB l with
  | false =>
    have Z1 := Lib.hid (ZK.out false hzk)
    go_wp2_with (go_at_call 92; (with_reducible refine (Z1.out _ _ _ _ hS4 (by omega) (by omega) (by omega) (by omega)).mono ?_); rintro e w' ⟨rfl, rfl⟩)
    refine bodyPost_ret (results_nod Tryz.results77 _ _ w.heap.size 0 false (.slice none 0 0) (.slice none 0 0) rfl rfl rfl (hS4.zero.store _ _ _ _)) rfl ?_
    exact rdPost_bad (ZF.out (.inl hzk)) (below_store7 hS4.bel (Nat.le_refl _) _ _ _ _)
  | true =>
    have Z1 := Lib.hid (ZK.out true hzk)
    cases hzv : zvB l with
    | false =>
      have Z2 := Lib.hid (ZV.out false hzv)
      go_wp2_with (first
        | (go_at_call 92; (with_reducible refine (Z1.out _ _ _ _ hS4 (by omega) (by omega) (by omega) (by omega)).mono ?_); rintro e w' ⟨rfl, rfl⟩)
        | (go_at_call 92; (with_reducible refine (Z2.out _ _ _ _ hS4 (by omega) (by omega) (by omega) (by omega)).mono ?_); rintro e w' ⟨rfl, rfl⟩))
      refine bodyPost_ret (results_nod Tryz.results77 _ _ w.heap.size 0 false (.slice none 0 0) (.slice none 0 0) rfl rfl rfl (hS4.zero.store _ _ _ _)) rfl ?_
      exact rdPost_bad (ZF.out (.inr hzv)) (below_store7 hS4.bel (Nat.le_refl _) _ _ _ _)
    | true =>
      have Z2 := Lib.hid (ZV.out true hzv)
      go_wp2_with (first
        | (go_at_call 92; (with_reducible refine (Z1.out _ _ _ _ hS4 (by omega) (by omega) (by omega) (by omega)).mono ?_); rintro e w' ⟨rfl, rfl⟩)
        | (go_at_call 92; (with_reducible refine (Z2.out _ _ _ _ hS4 (by omega) (by omega) (by omega) (by omega)).mono ?_); rintro e w' ⟨rfl, rfl⟩))
      have hf := FM.out hzk hzv
      have HL0 := Lib.hid hS4.loop
      clear Z1 Z2 ZK ZV ZF FM z0 z1 z2 z3 y0 y1 y2 y3 hS4 hzk hzv hp
      go_loopw [13, 100] (fun a i wr => ∃ k : Nat, k ≤ cnt ∧ i = .int .i64 k ∧ (∃ x : Int, a = .int .i64 x ∧ 0 ≤ x ∧ x ≤ 281474976710656 ∧ Hid (x = prevK (-1) (intsR l) k + 1)) ∧ Hid (keyErr (-1) ((keysR l).take k) = 0) ∧ Hid (∃ Ak ck Av cv, LpN w wr tree leaf k Ak ck k Av cv ((intsR l).take k) ((valsR l).take k))) (fun _ i _ => cnt - (intOf i).toNat)
      case atStart => exact ⟨0, by omega, rfl, ⟨0, rfl, by omega, by omega, rfl⟩, rfl, none, 0, none, 0, HL0.out⟩
      case round =>
        clear HL0
        obtain ⟨k, hk, rfl, ⟨x, rfl, hx0, hx1, hX⟩, hE, Ak, ck, Av, cv, hS⟩ := hrel
        by_cases hlt : k < cnt
        · have hkt := KT.out k hlt hE.out
          obtain ⟨t1, t2, t3, t4⟩ := hkt
          rw [← hX.out] at t1
          have hIA := Lib.hid (IA.out k hlt)
          have hVA := Lib.hid (VA.out k hlt)
          have K1 := Lib.hid (KG.out k (by omega))
          have KEnd : Hid (∀ e, keyErr (-1) ((keysR l).take (k + 1)) = e → e ≠ 0 → readNE l = e ∧ readN l = Nod.zero) := fun e => key_end hf
          have V1 := Lib.hid (VB.out k hlt)
          have hT1 := Lib.hid t1
          have hT4 := Lib.hid t4
          clear t1 t2 t3 t4
          by_cases hbig : 9223372036854775808 ≤ keyR l k
          · have hend : readNE l = 2 ∧ readN l = Nod.zero := KEnd.out 2 (by rw [hT1.out]; unfold followsE; rw [if_pos (.inr (by omega))]) (by omega)
            have HEnd := Lib.hid hend
            have HBig := Lib.hid hbig
            have HS := Lib.hid hS
            clear hend hbig hS
            go_wp2_with (go_at_call 90; (with_reducible refine (K1.out _ _ (by omega) (by omega) (by omega) _ HS.out.bel).mono ?_); rintro e w5 ⟨hb5, _, hhi⟩; obtain rfl := hhi HBig.out; have hS5 := HS.out.later hb5; have z0 := hS5.zero.c0; have z1 := hS5.zero.c1; have z2 := hS5.zero.c2; have z3 := hS5.zero.c3; have y0 := Lib.frozen_of_heap hS5.zero 0; have y1 := Lib.frozen_of_heap hS5.zero 1; have y2 := Lib.frozen_of_heap hS5.zero 2; have y3 := Lib.frozen_of_heap hS5.zero 3)
            refine bodyPost_ret (results_nod Tryz.results77 _ _ w.heap.size 0 false (.slice none 0 0) (.slice none 0 0) rfl rfl rfl (hS5.zero.store _ _ _ _)) rfl ?_
            exact rdPost_bad HEnd.out (below_store7 hS5.bel (Nat.le_refl _) _ _ _ _)
          · have hsm : keyR l k < 9223372036854775808 := by omega
            have HS := Lib.hid hS
            have HSm := Lib.hid hsm
            clear hbig hS hsm
            obtain ⟨fx, hfx⟩ : ∃ fx, followsE (keyR l k) x = fx := ⟨_, rfl⟩
            have FO := Lib.hid (fun W => follows_any (keyR l k) x W fx hfx)
            rw [hfx] at hT1
            by_cases h0 : fx = 0
            · subst h0
              have hmax : (keyR l k : Int) ≤ 281474976710655 := by
                rw [hX.out] at hfx
                exact ((followsE_ok (by have := hX.out; omega)).1 hfx).2
              have HX1 : Hid ((keyR l k : Int) + 1 = prevK (-1) (intsR l) (k + 1) + 1) := by rw [hT4.out]; rfl
              clear hfx KEnd
              generalize keyR l k = key at *
              go_wp2_with (first
                | (go_at_call 90; (with_reducible refine (K1.out _ _ (by omega) (by omega) (by omega) _ HS.out.bel).mono ?_); rintro e w5 ⟨hb5, hlo, _⟩; obtain rfl := hlo HSm.out; have hS5 := HS.out.later hb5)
                | (go_at_call 65; (with_reducible refine (FO.out _).mono ?_); rintro e w' ⟨rfl, rfl⟩; have n2 := hS5.node.c2)
                | (at_builtin; go_must (refine wpList_append_newG w5 rfl (.tmp 120) (.tmp 122) _ rfl (w.heap.size + 2) 3 _ _ 8 Tryz.underlying33 info_i64 rfl (.slice Ak k ck) _ _ rfl hS5.ok hS5.low [_] 1 1 rfl rfl (by simp [Value.oneCell']) (by omega) (by omega) ?_); intro v6 w6 ho6 hg6; obtain ⟨Ak', ck', rfl, hn6, hS6⟩ := hS5.addKey ho6.out hg6.out; have m2 := hn6.c2; have g2 := Lib.frozen_of_heap hn6 2))
              have n3 := hS6.node.c3
              have HS6 := Lib.hid hS6
              generalize w6.setCell ⟨w.heap.size + 1, 2, none⟩ (.slice Ak' (k + 1) ck') = w7 at *
              clear hS6 hn6 m2 g2 ho6 hg6 n2 hS5
              have hkc : k < 9 := by omega
              obtain ⟨p, hp⟩ : ∃ p, p = 16 * k := ⟨_, rfl⟩
              obtain ⟨q, hq⟩ : ∃ q, q = 16 * k + 16 := ⟨_, rfl⟩
              have e1 : IntKind.i64.wrap ((16 : Int) * (k : Int)) = (p : Int) := by rw [IntKind.wrap_i64]; omega
              have e2 : IntKind.i64.wrap ((16 : Int) * IntKind.i64.wrap ((k : Int) + 1)) = (q : Int) := by
                have : IntKind.i64.wrap ((k : Int) + 1) = (k : Int) + 1 := by rw [IntKind.wrap_i64]; omega
                rw [this, IntKind.wrap_i64]; omega
              have e3 : (q : Int) ≤ ((c - 84 : Nat) : Int) := by omega
              have e4 : p ≤ q := by omega
              have e5 : ¬ c - 84 = p := by omega
              have e6 : q - p = 16 := by omega
              have hVb := V1.out w7.drew (off + 84 + p) 16 (c - 84 - p) HS6.out.bel.drew (by omega) rfl (by omega) (by omega)
              have cvs := run_str hVb
              have HSd := Lib.hid (HS6.out.later ((Below.refl _ _).alloc (Nat.le_refl _) (.cells #[.string ⟨(valR l k).toArray⟩] 9)).drew)
              have n3A := (HS6.out.later ((Below.refl _ _).alloc (Nat.le_refl _) (.cells #[.string ⟨(valR l k).toArray⟩] 9) : Below w7.heap.size w7 _)).node.c3
              clear hVb hp hq
              go_region_law (first
                | (refine step_append_rowG _ rfl (.tmp 126) (.tmp 137) 68 rfl (w.heap.size + 2) 9 1 _ 16 Tryz.underlying68 info_strvD rfl (by omega) (.slice Av k cv) k _ rfl HSd.out.ov HSd.out.low ⟨w7.heap.size, 0, none⟩ [.string ⟨(valR l k).toArray⟩] 1 1 rfl rfl (Row.of_block (t := 9) (fr := (0, 0)) (heap_alloc_new w7 _)) (by simp [Value.oneCell']) (by omega) (by omega) ?_
                   intro v8 w8 ho8 hg8
                   obtain ⟨Av', cv', rfl, hn8, hS8⟩ := HSd.out.addVal ho8.out hg8.out
                   have m3 := hn8.c3
                   have g3 := Lib.frozen_of_heap hn8 3))
              all_goals go_wp2
              all_goals go_roundw
              all_goals first
                | exact ⟨k + 1, by omega, by go_num, ⟨(key : Int) + 1, by go_num, by omega, by omega, HX1⟩, hT1, Ak', ck', Av', cv', by rw [hIA.out, hVA.out]; exact hS8⟩
                | (simp [intOf]; omega)
            · have hend := KEnd.out fx hT1.out h0
              have HEnd := Lib.hid hend
              have hne : (fx == 0) = false := by rw [beq_eq_false_iff_ne]; exact h0
              have hne2 : (fx != 0) = true := by rw [bne_iff_ne]; exact h0
              clear hend hfx
              go_wp2_with (first
                | (go_at_call 90; (with_reducible refine (K1.out _ _ (by omega) (by omega) (by omega) _ HS.out.bel).mono ?_); rintro e w5 ⟨hb5, hlo, _⟩; obtain rfl := hlo HSm.out; have hS5 := HS.out.later hb5; have z0 := hS5.zero.c0; have z1 := hS5.zero.c1; have z2 := hS5.zero.c2; have z3 := hS5.zero.c3; have y0 := Lib.frozen_of_heap hS5.zero 0; have y1 := Lib.frozen_of_heap hS5.zero 1; have y2 := Lib.frozen_of_heap hS5.zero 2; have y3 := Lib.frozen_of_heap hS5.zero 3)
                | (go_at_call 65; (with_reducible refine (FO.out _).mono ?_); rintro e w' ⟨rfl, rfl⟩))
              refine bodyPost_ret (results_nod Tryz.results77 _ _ w.heap.size 0 false (.slice none 0 0) (.slice none 0 0) rfl rfl rfl (hS5.zero.store _ _ _ _)) rfl ?_
              exact rdPost_bad HEnd.out (below_store7 hS5.bel (Nat.le_refl _) _ _ _ _)
        · obtain rfl : k = cnt := by omega
          have hEall : keyErr (-1) (keysR l) = 0 := by
            have := hE.out
            rwa [List.take_of_length_le (by have := LN.out.1; omega)] at this
          rw [List.take_of_length_le (by have := LN.out.2.1; omega), List.take_of_length_le (by have := LN.out.2.2; omega)] at hS
          have HG1 := Lib.hid (GD.out wr Ak ck Av cv k hf hEall rfl hS)
          have hz := hS.zero
          have z0 := hS.zero.c0; have z1 := hS.zero.c1; have z2 := hS.zero.c2; have z3 := hS.zero.c3; have y0 := Lib.frozen_of_heap hS.zero 0; have y1 := Lib.frozen_of_heap hS.zero 1; have y2 := Lib.frozen_of_heap hS.zero 2; have y3 := Lib.frozen_of_heap hS.zero 3
          have x0 := hS.node.c0; have x1 := hS.node.c1; have x2 := hS.node.c2; have x3 := hS.node.c3
          go_wp2
          refine bodyPost_ret (results_nod Tryz.results77 _ _ w.heap.size tree leaf (.slice Ak k ck) (.slice Av k cv) rfl rfl rfl (hz.store _ _ _ _)) rfl ?_
          exact HG1.out

end Go.Proofs.YtnjlganofjkpfaaGreat

/-
  Layer 7: Read whole; short; lives.
-/
namespace Go.Proofs.YtnjlganofjkpfaaGreat
open Go.RowKit
set_option linter.unusedVariables false
set_option linter.unusedSimpArgs false

theorem Read_any7F (w : World) (A : Option Addr) (n c : Nat) (l : List UInt8) (hB : Bytes8 w A n c l) : Calls Tryz.prog 77 #[.slice A n c] w fun e w' => RdPostF w l e w' := by
  have bad : ¬ formN l = true → Calls Tryz.prog 77 #[.slice A n c] w (fun e w' => e = .returned (.tuple #[zeroNode, .int .i64 7]) ∧ Below w.heap.size w w') → Calls Tryz.prog 77 #[.slice A n c] w fun e w' => RdPostF w l e w' := fun hf hC =>
    hC.mono fun e w' ⟨h1, h2⟩ => by rw [h1]; exact rdPost_bad (readNE_bad hf) h2
  by_cases h : l.length = 244
  · cases hh : holdsN (treeR l) (leafR l) (cntR l) with
    | false =>
      refine bad (fun hf => ?_) (Read_holds w A n c l hB h hh)
      have := ((form_iff h).1 (formN_iff.1 hf)).1.1
      rw [hh] at this
      exact absurd this (by simp)
    | true =>
      by_cases hp : l.take 12 = nodHeadB l
      · have hc : 0 < capN (widN (treeR l) (leafR l)) := by
          have := hh; simp only [holdsN, Bool.and_eq_true, decide_eq_true_eq] at this; exact this.1.1
        rcases widN_cases (treeR l) (leafR l) with ⟨a, b⟩ | ⟨a, b⟩ | ⟨a, b⟩ | ⟨a, b⟩ | ⟨a, b⟩
        · omega
        · exact Read_restA w A n c l hB h hh hp 4 18 ⟨rfl, rfl⟩ a b
        · exact Read_restB w A n c l hB h hh hp 8 12 ⟨rfl, rfl⟩ a b
        · exact Read_restC w A n c l hB h hh hp 24 6 ⟨rfl, rfl⟩ a b
        · exact Read_restD w A n c l hB h hh hp 16 9 ⟨rfl, rfl⟩ a b
      · exact bad (fun hf => hp ((form_iff h).1 (formN_iff.1 hf)).1.2) (Read_prefix w A n c l hB h hh hp)
  · exact bad (fun hf => h (formN_iff.1 hf).len) (Read_len w A n c l hB h)

/-! ### short -/
/-! ### lives -/
end Go.Proofs.YtnjlganofjkpfaaGreat

/-
  Layer 7, NodeMost: the node that is made key by key.
-/
namespace Go.Proofs.YtnjlganofjkpfaaGreat
open Go.RowKit
set_option linter.unusedVariables false
set_option linter.unusedSimpArgs false

/-- i keys and j values so far -/
structure MsN (w0 w : World) (tree : Int) (leaf : Bool) (i : Nat) (Ak : Option Addr) (ck : Nat) (j : Nat) (Av : Option Addr) (cv : Nat) (ks : List Int) (vs : List (List UInt8)) : Prop where
  node : NodAt w w0.heap.size tree leaf (.slice Ak i ck) (.slice Av j cv)
  bel : Below w0.heap.size w0 w
  ok : w.ownsRow (w0.heap.size + 1) 3 1 (.slice Ak i ck) i (i64s ks)
  ov : w.ownsRow (w0.heap.size + 1) 9 1 (.slice Av j cv) j (strV vs)

section
variable {w0 w w' : World} {tree : Int} {leaf : Bool} {i j ck cv : Nat} {Ak Av : Option Addr} {ks : List Int} {vs : List (List UInt8)}

theorem MsN.low (h : MsN w0 w tree leaf i Ak ck j Av cv ks vs) : w0.heap.size + 1 ≤ w.heap.size := by have := block_lt h.node; omega
theorem MsN.later (h : MsN w0 w tree leaf i Ak ck j Av cv ks vs) (hb : Below w.heap.size w w') : MsN w0 w' tree leaf i Ak ck j Av cv ks vs :=
  ⟨h.node.later hb, h.bel.trans (hb.mono h.bel.size), own_kept h.ok (fun k _ hk => hb.block k hk), own_kept h.ov (fun k _ hk => hb.block k hk)⟩
theorem MsN.start (w0 : World) (tree : Int) (leaf : Bool) : MsN w0 (w0.alloc (.cells #[.int .i64 tree, .bool leaf, .slice none 0 0, .slice none 0 0] 70)) tree leaf 0 none 0 0 none 0 [] [] := ⟨NodAt.new _ _ _ _ _, (Below.refl _ _).alloc (Nat.le_refl _) _, World.ownsRow_nil _ _ _ _, World.ownsRow_nil _ _ _ _⟩

theorem MsN.apart (h : MsN w0 w tree leaf i Ak ck j Av cv ks vs) (g : Nat) (hk : (Value.slice Ak i ck).ownBlock = some g) : (Value.slice Av j cv).ownBlock ≠ some g := fun hv => by
  obtain ⟨_, c1, h1⟩ := own_apart h.ok g hk
  obtain ⟨_, c2, h2⟩ := own_apart h.ov g hv
  rw [h1] at h2
  injection h2 with h2
  injection h2 with _ h3 _
  exact absurd h3 (by decide)

theorem MsN.addKey (h : MsN w0 w tree leaf i Ak ck j Av cv ks vs) {v' : Value} {key : Int} (hown : w'.ownsRow (w0.heap.size + 1) 3 1 v' (i + 1) (i64s ks ++ [.int .i64 key])) (hg : w.grownBy w' (Value.slice Ak i ck).ownBlock) :
    ∃ Ak' ck', v' = .slice Ak' (i + 1) ck' ∧ NodAt w' w0.heap.size tree leaf (.slice Ak i ck) (.slice Av j cv) ∧ MsN w0 (w'.setCell ⟨w0.heap.size, 2, none⟩ (.slice Ak' (i + 1) ck')) tree leaf (i + 1) Ak' ck' j Av cv (ks ++ [key]) vs := by
  obtain ⟨Ak', ck', rfl, _, _⟩ := ownsRow_form hown
  have hlow := h.low
  have keep : ∀ g, g < w0.heap.size + 1 → w'.heap[g]? = w.heap[g]? := fun g hlt => hg.block g (by omega) (fun e => by have := (own_apart h.ok g e.symm).1; omega)
  have hn : NodAt w' w0.heap.size tree leaf (.slice Ak i ck) (.slice Av j cv) := (keep _ (by omega)).trans h.node
  refine ⟨Ak', ck', rfl, hn, ?_, ?_, ?_, ?_⟩
  · unfold NodAt
    rw [heap_setCell_same _ _ 2 _ _ _ hn]
    rfl
  · refine Below.setCell ?_ (p := ⟨w0.heap.size, 2, none⟩) (by simp) _
    exact h.bel.trans ⟨hg.os, hg.tape, hg.output, hg.size, fun k hk => keep k (by omega)⟩
  · have e : i64s (ks ++ [key]) = i64s ks ++ [.int .i64 key] := i64s_append _ _
    rw [e]
    refine nod_own_other hown fun k hk => ?_
    have := (own_apart hown k hk).1
    exact heap_setCell_other _ _ _ _ (by simp; omega)
  · refine nod_own_other h.ov fun k hk => ?_
    have h1 := own_apart h.ov k hk
    rw [heap_setCell_other _ _ _ _ (by simp; omega)]
    obtain ⟨hb, cur, hc⟩ := h1
    exact hg.block k (block_lt hc) (fun e => h.apart k e.symm hk)

theorem MsN.addVal (h : MsN w0 w tree leaf i Ak ck j Av cv ks vs) {v' : Value} {s : List UInt8} (hown : w'.ownsRow (w0.heap.size + 1) 9 1 v' (j + 1) (strV vs ++ [.string ⟨s.toArray⟩])) (hg : w.grownBy w' (Value.slice Av j cv).ownBlock) :
    ∃ Av' cv', v' = .slice Av' (j + 1) cv' ∧ NodAt w' w0.heap.size tree leaf (.slice Ak i ck) (.slice Av j cv) ∧ MsN w0 (w'.setCell ⟨w0.heap.size, 3, none⟩ (.slice Av' (j + 1) cv')) tree leaf i Ak ck (j + 1) Av' cv' ks (vs ++ [s]) := by
  obtain ⟨Av', cv', rfl, _, _⟩ := ownsRow_form hown
  have hlow := h.low
  have keep : ∀ g, g < w0.heap.size + 1 → w'.heap[g]? = w.heap[g]? := fun g hlt => hg.block g (by omega) (fun e => by have := (own_apart h.ov g e.symm).1; omega)
  have hn : NodAt w' w0.heap.size tree leaf (.slice Ak i ck) (.slice Av j cv) := (keep _ (by omega)).trans h.node
  refine ⟨Av', cv', rfl, hn, ?_, ?_, ?_, ?_⟩
  · unfold NodAt
    rw [heap_setCell_same _ _ 3 _ _ _ hn]
    rfl
  · refine Below.setCell ?_ (p := ⟨w0.heap.size, 3, none⟩) (by simp) _
    exact h.bel.trans ⟨hg.os, hg.tape, hg.output, hg.size, fun k hk => keep k (by omega)⟩
  · refine nod_own_other h.ok fun k hk => ?_
    have h1 := own_apart h.ok k hk
    rw [heap_setCell_other _ _ _ _ (by simp; omega)]
    obtain ⟨hb, cur, hc⟩ := h1
    exact hg.block k (block_lt hc) (fun e => h.apart k hk e.symm)
  · have e : strV (vs ++ [s]) = strV vs ++ [.string ⟨s.toArray⟩] := strV_append _ _
    rw [e]
    refine nod_own_other hown fun k hk => ?_
    have := (own_apart hown k hk).1
    exact heap_setCell_other _ _ _ _ (by simp; omega)

theorem MsN.nodin (h : MsN w0 w tree leaf i Ak ck j Av cv ks vs) (ht : i64b tree) (hk : ∀ k ∈ ks, i64b k) (hv : ∀ v ∈ vs, v.length ≤ 9223372036854775807) : NodIn w ⟨tree, leaf, ks, vs⟩ Ak i ck Av j cv := by
  obtain ⟨A1, c1, e1, h1⟩ := Ints.of_own h.ok
  obtain ⟨A2, c2, e2, h2⟩ := Strs.of_own h.ov
  injection e1 with e1 _ e3
  injection e2 with e2 _ e4
  subst e1; subst e2; subst e3; subst e4
  exact ⟨h1, h2, ht, hk, hv⟩
end

/-! ### the keys and the values -/
end Go.Proofs.YtnjlganofjkpfaaGreat

/-
  Layer 10: Put.
-/
namespace Go.Proofs.YtnjlganofjkpfaaGreat
open Go.RowKit
set_option linter.unusedVariables false
set_option linter.unusedSimpArgs false

/-- what the program's Put answers -/
def SlPut (l : List Slt) (w : World) (e : Ending) (w' : World) : Prop :=
  (okS10 l = true → ∃ g, e = .returned (.tuple #[.slice (some ⟨g, 0, none⟩) 244 244, .int .i64 0]) ∧ Own8 w' w.heap.size g (encS10 l)) ∧ (okS10 l = false → e = .returned (.tuple #[.slice none 0 0, .int .i64 1])) ∧ Below w.heap.size w w'
theorem SlPut.bad {l : List Slt} {w w' : World} (h : okS10 l = false) (hb : Below w.heap.size w w') : SlPut l w (.returned (.tuple #[.slice none 0 0, .int .i64 1])) w' :=
  ⟨fun e => (by rw [h] at e; cases e), fun _ => rfl, hb⟩
theorem SlPut.good {l : List Slt} {w w' : World} {g : Nat} (h : okS10 l = true) (hO : Own8 w' w.heap.size g (encS10 l)) (hb : Below w.heap.size w w') : SlPut l w (.returned (.tuple #[.slice (some ⟨g, 0, none⟩) 244 244, .int .i64 0])) w' :=
  ⟨fun _ => ⟨g, rfl, hO⟩, fun e => (by rw [h] at e; cases e), hb⟩
end Go.Proofs.YtnjlganofjkpfaaGreat

/-
  Layer 10: decode, and the function literal that takes from the input.
-/
namespace Go.Proofs.YtnjlganofjkpfaaGreat
open Go.RowKit
set_option linter.unusedVariables false
set_option linter.unusedSimpArgs false

/-- the bytes from s on -/
theorem Bytes8.rest {w : World} {b off m c : Nat} {l : List UInt8} (h : Bytes8 w (some ⟨b, off, none⟩) m c l) {s : Nat} (hs : s ≤ m) : Bytes8 w (if c = s then some ⟨b, off, none⟩ else some ⟨b, off + s, none⟩) (m - s) (c - s) (l.drop s) := by
  have hc := h.cap
  have hm := h.most
  refine ⟨by rw [List.length_drop, h.len], by omega, by omega, ?_⟩
  have := h.row.cut_lit (m := s) (c := c) (by rw [u8s_length, h.len]; exact hc)
  rwa [u8s_drop] at this
theorem Bytes8.first {w : World} {A : Option Addr} {m c : Nat} {l : List UInt8} (h : Bytes8 w A m c l) {s : Nat} (hs : s ≤ m) : Bytes8 w A s c (l.take s) := by
  have hc := h.cap
  refine ⟨by rw [List.length_take, h.len]; omega, by omega, h.most, ?_⟩
  have := h.row.take s
  rwa [u8s_take] at this

/-- a variable that holds a slice of bytes -/
def RestAt (w : World) (q : Nat) (A : Option Addr) (m c : Nat) : Prop := w.heap[q]? = some (.cells #[.slice A m c] 22 (0, 0))

/-! ### decode -/
end Go.Proofs.YtnjlganofjkpfaaGreat

/-
  Layer 10: Read.
-/
namespace Go.Proofs.YtnjlganofjkpfaaGreat
open Go.RowKit
set_option linter.unusedVariables false
set_option linter.unusedSimpArgs false

theorem readSE10_bad {b : List UInt8} (h : formS b = false) : readSE10 b = 7 ∧ readSL10 b = [] := by
  have e : readSE10 b = 7 := by rw [readSE10, h]; rfl
  exact ⟨e, by rw [readSL10, if_neg (by rw [e]; decide)]⟩
/-- what Read answers -/
def SlRd (b : List UInt8) (w : World) (e : Ending) (w' : World) : Prop := ∃ A m c, e = .returned (.tuple #[.slice A m c, .int .i64 (readSE10 b)]) ∧ Trs w' A m c (readSL10 b) ∧ Below w.heap.size w w'
theorem SlRd.bad {b : List UInt8} {w w' : World} (h : formS b = false) (hb : Below w.heap.size w w') : SlRd b w (.returned (.tuple #[.slice none 0 0, .int .i64 7])) w' := by
  obtain ⟨e1, e2⟩ := readSE10_bad h
  exact ⟨none, 0, 0, by rw [e1], by rw [e2]; exact Trs.nil _, hb⟩

/-- the texts as they are taken -/
def tookP (l : List UInt8) (N k : Nat) : List (List UInt8) := (List.range k).map (sltAt10 l) ++ List.replicate (N - k) []
theorem tookP_length (l : List UInt8) {N k : Nat} (h : k ≤ N) : (tookP l N k).length = N := by simp [tookP]; omega
theorem tookP_step (l : List UInt8) {N k : Nat} (hk : k < N) : (tookP l N k).set k (sltAt10 l k) = tookP l N (k + 1) := by
  rw [tookP, List.set_append_right _ _ (by simp), tookP, List.range_succ, List.map_append, show N - k = (N - (k + 1)) + 1 by omega, List.replicate_succ]
  simp

/-- what Read keeps: its variable, the texts, all below as it was -/
structure TookAt (w W : World) (q g : Nat) (l : List UInt8) (N k : Nat) : Prop where
  bel : Below w.heap.size w W
  low : w.heap.size ≤ q
  apart : g ≠ q
  txt : OwnT W w.heap.size g (tookP l N k)
  rest : ∃ A m c, RestAt W q A m c ∧ Bytes8 w A m c (l.drop (4 + 16 * k))

theorem TookAt.step {w W : World} {q g : Nat} {l : List UInt8} {N k : Nat} (h : TookAt w W q g l N k) (hk : k < N) (hl : l.length = 244) (hN : N ≤ 15) : ∃ A m c, 16 ≤ m ∧ Bytes8 w A m c (l.drop (4 + 16 * k)) ∧ RestAt W q A m c ∧
    ∀ A2, Bytes8 w A2 (m - 16) (c - 16) ((l.drop (4 + 16 * k)).drop 16) → (convert 22 9 (.slice A 16 c)).run Tryz.prog (W.setCell ⟨q, 0, none⟩ (.slice A2 (m - 16) (c - 16))) = .ok (.string ⟨(sltAt10 l k).toArray⟩) (W.setCell ⟨q, 0, none⟩ (.slice A2 (m - 16) (c - 16))) ∧
      (∃ z, (W.setCell ⟨q, 0, none⟩ (.slice A2 (m - 16) (c - 16))).cell? ⟨g, k, none⟩ = some (.string z)) ∧ (W.setCell ⟨q, 0, none⟩ (.slice A2 (m - 16) (c - 16))).frozen? ⟨g, k, none⟩ = false ∧
      TookAt w ((W.setCell ⟨q, 0, none⟩ (.slice A2 (m - 16) (c - 16))).setCell ⟨g, k, none⟩ (.string ⟨(sltAt10 l k).toArray⟩)) q g l N (k + 1) := by
  obtain ⟨A, m, c, hr, hB⟩ := h.rest
  have hm : m = 244 - (4 + 16 * k) := by rw [← hB.len, List.length_drop, hl]
  have hm2 : 16 ≤ m := by omega
  refine ⟨A, m, c, hm2, hB, hr, fun A2 hB2 => ?_⟩
  have hb2 : Below w.heap.size w (W.setCell ⟨q, 0, none⟩ (.slice A2 (m - 16) (c - 16))) := h.bel.setCell (p := ⟨q, 0, none⟩) h.low _
  have hT2 : OwnT (W.setCell ⟨q, 0, none⟩ (.slice A2 (m - 16) (c - 16))) w.heap.size g (tookP l N k) := h.txt.other _ _ h.apart
  have hr2 : RestAt (W.setCell ⟨q, 0, none⟩ (.slice A2 (m - 16) (c - 16))) q A2 (m - 16) (c - 16) := by
    unfold RestAt
    rw [heap_setCell_same _ q 0 _ _ _ hr]
    rfl
  refine ⟨run_str ((hB.first hm2).below hb2), ⟨_, hT2.cell (by rw [tookP_length l (by omega)]; exact hk)⟩, hT2.free k, ?_⟩
  refine ⟨hb2.setCell (p := ⟨g, k, none⟩) h.txt.low _, h.low, h.apart, ?_, ⟨A2, m - 16, c - 16, ?_, ?_⟩⟩
  · have := hT2.set k (sltAt10 l k)
    rw [tookP_step l hk] at this
    exact this
  · unfold RestAt
    rw [heap_setCell_other _ _ q _ (fun e => h.apart e.symm)]
    exact hr2
  · rw [List.drop_drop] at hB2
    exact hB2

end Go.Proofs.YtnjlganofjkpfaaGreat

/-
  Layer 10: the reference's Read.
-/
namespace Go.Proofs.YtnjlganofjkpfaaGreat
open Go.RowKit
set_option linter.unusedVariables false
set_option linter.unusedSimpArgs false

/-- what Read answers, and what it hands back is newer than all that stood -/
def SlRdF (b : List UInt8) (w : World) (e : Ending) (w' : World) : Prop := ∃ A m c, e = .returned (.tuple #[.slice A m c, .int .i64 (readSE10 b)]) ∧ Trs w' A m c (readSL10 b) ∧ Below w.heap.size w w' ∧ Newer w.heap.size A
theorem SlRdF.bad {b : List UInt8} {w w' : World} (h : formS b = false) (hb : Below w.heap.size w w') : SlRdF b w (.returned (.tuple #[.slice none 0 0, .int .i64 7])) w' := by
  obtain ⟨h1, h2⟩ := readSE10_bad h
  exact ⟨none, 0, 0, by rw [h1], by rw [h2]; exact Trs.nil _, hb, Newer.nil _⟩

end Go.Proofs.YtnjlganofjkpfaaGreat
