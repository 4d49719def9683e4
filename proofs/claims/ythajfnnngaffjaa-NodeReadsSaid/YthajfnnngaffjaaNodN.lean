/-
  Layer 7: the reference's form.
-/
import Derived.Test.YthajfnnngaffjaaNodH
import Derived.Test.YthajfnnngaffjaaCodeJ
namespace Go.Proofs.Ythajfnnngaffjaa
open Go.RowKit
set_option linter.unusedVariables false
set_option linter.unusedSimpArgs false

/-- the head's six integers -/
def headL (l : List UInt8) : List Int := [((l.getD 0 0).toNat : Int), treeR l, (cntR l : Int), (at2 l 4 : Int), (at2 l 6 : Int), (leN ((l.drop 8).take 4) : Int)]

structure FmSt (w0 w : World) (b6 o6 c6 : Nat) (l : List UInt8) : Prop where
  ints : Ints w (some ⟨b6, o6, none⟩) 6 c6 (headL l)
  bel : Below w0.heap.size w0 w
theorem FmSt.later {w0 w w' : World} {b6 o6 c6 : Nat} {l : List UInt8} (h : FmSt w0 w b6 o6 c6 l) (hb : Below w.heap.size w w') : FmSt w0 w' b6 o6 c6 l := ⟨h.ints.below hb, h.bel.trans (hb.mono h.bel.size)⟩
theorem FmSt.cells {w0 w : World} {b6 o6 c6 : Nat} {l : List UInt8} (h : FmSt w0 w b6 o6 c6 l) : w.cell? ⟨b6, o6, none⟩ = some (.int .i64 ((l.getD 0 0).toNat : Int)) ∧ w.cell? ⟨b6, o6 + 1, none⟩ = some (.int .i64 (treeR l)) ∧ w.cell? ⟨b6, o6 + 2, none⟩ = some (.int .i64 (cntR l : Int)) ∧ w.cell? ⟨b6, o6 + 3, none⟩ = some (.int .i64 (at2 l 4 : Int)) ∧ w.cell? ⟨b6, o6 + 4, none⟩ = some (.int .i64 (at2 l 6 : Int)) ∧ w.cell? ⟨b6, o6 + 5, none⟩ = some (.int .i64 (leN ((l.drop 8).take 4) : Int)) := by
  have g : ∀ k v, (i64s (headL l))[k]? = some v → w.cell? ⟨b6, o6 + k, none⟩ = some v := fun k v hk => by
    have := h.ints.row.at_ hk
    rwa [Addr.add_lit] at this
  exact ⟨g 0 _ rfl, g 1 _ rfl, g 2 _ rfl, g 3 _ rfl, g 4 _ rfl, g 5 _ rfl⟩

theorem fm_unpack {w : World} {A : Option Addr} {n c : Nat} {l : List UInt8} (hB : Bytes8 w A n c l) (h : l.length = 244) :
    Calls Try.prog 39 #[.slice A n c, .slice (some ⟨w.heap.size, 0, none⟩) 6 6] (w.alloc (.cells #[.int .i64 1, .int .i64 1, .int .i64 2, .int .i64 2, .int .i64 2, .int .i64 4] 3)) fun e w' => ∃ b6 o6 c6, e = .returned (.tuple #[.slice (some ⟨b6, o6, none⟩) 6 c6, .int .i64 0]) ∧ 6 ≤ c6 ∧ FmSt w w' b6 o6 c6 l := by
  have hb : Below w.heap.size w (w.alloc (.cells #[.int .i64 1, .int .i64 1, .int .i64 2, .int .i64 2, .int .i64 2, .int .i64 4] 3)) := (Below.refl _ _).alloc (Nat.le_refl _) _
  have hw : Ints (w.alloc (.cells #[.int .i64 1, .int .i64 1, .int .i64 2, .int .i64 2, .int .i64 2, .int .i64 4] 3)) (some ⟨w.heap.size, 0, none⟩) 6 6 [1, 1, 2, 2, 2, 4] := ⟨rfl, Nat.le_refl _, by omega, Row.of_block (heap_alloc_new w _)⟩
  have hu := unp_head h
  refine (refUnpack_any A n c l _ 6 6 [1, 1, 2, 2, 2, 4] _ (hB.below hb) hw (by simp [i64b']) (by omega) (by have := hB.len; omega)).mono ?_
  rintro e w' ⟨A', m, c', rfl, hI, hb2⟩
  rw [hu.2] at hI
  obtain rfl : 6 = m := hI.len
  obtain ⟨b6, o6, rfl, _, _⟩ := hI.row.lit (by simp [i64s])
  exact ⟨b6, o6, c', by rw [hu.1], hI.cap, hI, hb.trans (hb2.mono hb.size)⟩

theorem fm_width {w : World} {b6 o6 c6 : Nat} {l : List UInt8} {leaf : Bool} (wd : Nat) (ht : i64b (treeR l)) (hw : widN (treeR l) leaf = wd) (W : World) (hW : FmSt w W b6 o6 c6 l) : Calls Try.prog 16 #[.int .i64 (treeR l), .bool leaf] W fun e w' => e = .returned (.int .i64 (wd : Int)) ∧ FmSt w w' b6 o6 c6 l :=
  (refWidth_any (treeR l) leaf W wd hw ht).mono fun e w' ⟨h1, h2⟩ => ⟨h1, hW.later h2⟩
theorem fm_max {w : World} {b6 o6 c6 : Nat} {l : List UInt8} {leaf : Bool} (mx : Nat) (ht : i64b (treeR l)) (hm : capN (widN (treeR l) leaf) = mx) (W : World) (hW : FmSt w W b6 o6 c6 l) : Calls Try.prog 18 #[.int .i64 (treeR l), .bool leaf] W fun e w' => e = .returned (.int .i64 (mx : Int)) ∧ FmSt w w' b6 o6 c6 l :=
  (refMax_any (treeR l) leaf W mx hm ht).mono fun e w' ⟨h1, h2⟩ => ⟨h1, hW.later h2⟩

theorem fm_zk {w : World} {b off c b6 o6 c6 : Nat} {l : List UInt8} (hB : Bytes8 w (some ⟨b, off, none⟩) 244 c l) (mx : Nat) (hm : capR l = mx) (h18 : mx ≤ 18) (hc : cntR l ≤ mx) (r : Bool) (hr : zkB l = r) (W : World) (o m c' : Nat) (hW : FmSt w W b6 o6 c6 l) (ho : o = off + (12 + 8 * cntR l)) (hmm : m = 8 * mx - 8 * cntR l) (hmc : m ≤ c') (hc' : c' ≤ 9223372036854775807) :
    Calls Try.prog 40 #[.slice (some ⟨b, o, none⟩) m c'] W fun e w' => e = .returned (.bool r) ∧ W = w' := by
  subst ho; subst hmm
  have hS := sub_bytes (hB.below hW.bel) (12 + 8 * cntR l) (8 * mx - 8 * cntR l) c' (by omega) hmc hc'
  exact refZero_any _ _ _ _ W hS r (by rw [← hr, zkB, hm])

theorem fm_zv {w : World} {b off c b6 o6 c6 : Nat} {l : List UInt8} (hB : Bytes8 w (some ⟨b, off, none⟩) 244 c l) (wd mx : Nat) (hw : widR l = wd) (hm : capR l = mx) (hfit : 12 + 8 * mx + wd * cntR l ≤ 244) (r : Bool) (hr : zvB l = r) (W : World) (o m c' : Nat) (hW : FmSt w W b6 o6 c6 l) (ho : o = off + (12 + 8 * mx + wd * cntR l)) (hmm : m = 244 - (12 + 8 * mx + wd * cntR l)) (hmc : m ≤ c') (hc' : c' ≤ 9223372036854775807) :
    Calls Try.prog 40 #[.slice (some ⟨b, o, none⟩) m c'] W fun e w' => e = .returned (.bool r) ∧ W = w' := by
  subst ho; subst hmm
  have hS := sub_bytes (hB.below hW.bel) (12 + 8 * mx + wd * cntR l) (244 - (12 + 8 * mx + wd * cntR l)) c' (by omega) hmc hc'
  exact refZero_any _ _ _ _ W hS r (by rw [← hr, zvB, hm, hw, List.take_of_length_le (by rw [List.length_drop, hB.len]; exact Nat.le_refl _)])

theorem formN_no {l : List UInt8} (h : l.length ≠ 244 ∨ 1 < (l.getD 0 0).toNat ∨ widR l = 0 ∨ at2 l 4 ≠ widR l ∨ at2 l 6 ≠ capR l ∨ leN ((l.drop 8).take 4) ≠ 0 ∨ capR l < cntR l ∨ (leafR l = false ∧ cntR l = 0)) : formN l = false := by
  rw [Bool.eq_false_iff]
  intro hf
  obtain ⟨h1, h2, h3, h4, h5, h6, h7, h8, _, _⟩ := formN_iff.1 hf
  rcases h with h | h | h | h | h | h | h | h
  · exact h h1
  · omega
  · exact h3 h
  · exact h h4
  · exact h h5
  · exact h h6
  · omega
  · rcases h8 with h8 | h8
    · rw [h.1] at h8; exact absurd h8 (by simp)
    · exact h8 h.2

theorem formN_zeros {l : List UInt8} (h1 : l.length = 244) (h2 : (l.getD 0 0).toNat ≤ 1) (h3 : widR l ≠ 0) (h4 : at2 l 4 = widR l) (h5 : at2 l 6 = capR l) (h6 : leN ((l.drop 8).take 4) = 0) (h7 : cntR l ≤ capR l) (h8 : leafR l = true ∨ cntR l ≠ 0) : formN l = (zkB l && zvB l) := by
  rw [Bool.eq_iff_iff, formN_iff, Bool.and_eq_true]
  constructor
  · intro h; exact ⟨h.zk, h.zv⟩
  · intro h; exact ⟨h1, h2, h3, h4, h5, h6, h7, h8, h.1, h.2⟩

set_option maxRecDepth 100000 in
set_option maxHeartbeats 3200000 in
theorem form_any (w : World) (A : Option Addr) (n c : Nat) (l : List UInt8) (hB : Bytes8 w A n c l) (r : Bool) (hr : formN l = r) :
    Calls Try.prog 31 #[.slice A n c] w fun e w' => e = .returned (.bool r) ∧ Below w.heap.size w w' := by
  have hn := hB.le
  by_cases h : l.length = 244
  · obtain ⟨b, off, rfl, hb, hcell⟩ := hB.row.lit (by rw [u8s_length]; omega)
    have hx := hcell 0 _ (u8s_at l 0 (by omega))
    have ex : l[0] = l.getD 0 0 := by simp [List.getD_eq_getElem?_getD, h]
    rw [ex] at hx
    have hx0 : w.cell? ⟨b, off, none⟩ = some (.int .u8 ((l.getD 0 0).toNat : Int)) := hx
    have hcap := hB.cap
    have hmost := hB.most
    obtain rfl : n = 244 := by rw [← hB.len]; exact h
    by_cases h1 : (l.getD 0 0).toNat ≤ 1
    · have ht : 0 ≤ treeR l ∧ treeR l ≤ 255 := by simp only [treeR]; have := UInt8.toNat_lt (l.getD 1 0); omega
      have hti : i64b (treeR l) := by simp only [i64b]; omega
      have UN := Lib.hid (fm_unpack hB h)
      have hlf : (((l.getD 0 0).toNat : Int) == 1) = leafR l := by
        rw [leafR, Bool.eq_iff_iff, beq_iff_eq, beq_iff_eq]
        constructor
        · intro e; apply UInt8.toNat_inj.1; have e2 : (l.getD 0 0).toNat = 1 := by omega
          rw [e2]; rfl
        · intro e; rw [e]; rfl
      have hcn : cntR l ≤ 65535 := by
        have := leN_lt ((l.drop 2).take 2)
        simp only [List.length_take, List.length_drop, h] at this
        change cntR l < 256 ^ 2 at this
        omega
      have hwm := widN_cases (treeR l) (leafR l)
      change (widR l = 0 ∧ capR l = 0) ∨ (widR l = 4 ∧ capR l = 18) ∨ (widR l = 8 ∧ capR l = 12) ∨ (widR l = 24 ∧ capR l = 6) ∨ (widR l = 16 ∧ capR l = 9) at hwm
      have WD : Hid (∀ b6 o6 c6 W, FmSt w W b6 o6 c6 l → Calls Try.prog 16 #[.int .i64 (treeR l), .bool (leafR l)] W fun e w' => e = .returned (.int .i64 (widR l : Int)) ∧ FmSt w w' b6 o6 c6 l) := fun b6 o6 c6 W hW => fm_width _ hti rfl W hW
      have MX : Hid (∀ b6 o6 c6 W, FmSt w W b6 o6 c6 l → Calls Try.prog 18 #[.int .i64 (treeR l), .bool (leafR l)] W fun e w' => e = .returned (.int .i64 (capR l : Int)) ∧ FmSt w w' b6 o6 c6 l) := fun b6 o6 c6 W hW => fm_max _ hti rfl W hW
      have hbad : (widR l = 0 ∨ at2 l 4 ≠ widR l ∨ at2 l 6 ≠ capR l ∨ leN ((l.drop 8).take 4) ≠ 0 ∨ capR l < cntR l ∨ (leafR l = false ∧ cntR l = 0)) → r = false := fun hx => by rw [← hr]; exact formN_no (.inr (.inr hx))
      have hgood : widR l ≠ 0 → at2 l 4 = widR l → at2 l 6 = capR l → leN ((l.drop 8).take 4) = 0 → cntR l ≤ capR l → (leafR l = true ∨ cntR l ≠ 0) → r = (zkB l && zvB l) := fun a1 a2 a3 a4 a5 a6 => by rw [← hr]; exact formN_zeros h h1 a1 a2 a3 a4 a5 a6
      have HGood := Lib.hid hgood
      have HBad := Lib.hid hbad
      have HBy := Lib.hid hB
      have HFC : Hid (∀ b6 o6 c6 W, FmSt w W b6 o6 c6 l → W.cell? ⟨b6, o6, none⟩ = some (.int .i64 ((l.getD 0 0).toNat : Int)) ∧ W.cell? ⟨b6, o6 + 1, none⟩ = some (.int .i64 (treeR l)) ∧ W.cell? ⟨b6, o6 + 2, none⟩ = some (.int .i64 (cntR l : Int)) ∧ W.cell? ⟨b6, o6 + 3, none⟩ = some (.int .i64 (at2 l 4 : Int)) ∧ W.cell? ⟨b6, o6 + 4, none⟩ = some (.int .i64 (at2 l 6 : Int)) ∧ W.cell? ⟨b6, o6 + 5, none⟩ = some (.int .i64 (leN ((l.drop 8).take 4) : Int))) := fun b6 o6 c6 W hW => hW.cells
      have HWM := Lib.hid hwm
      clear hr hB hcell hx ex hbad hgood hwm
      have hwm2 : widR l ≤ 24 ∧ capR l ≤ 18 := by rcases HWM.out with ⟨a, b⟩ | ⟨a, b⟩ | ⟨a, b⟩ | ⟨a, b⟩ | ⟨a, b⟩ <;> rw [b, a] <;> omega
      obtain ⟨hw24, hm18⟩ := hwm2
      have ZK : Hid (∀ b6 o6 c6, cntR l ≤ capR l → ∀ W o m c', FmSt w W b6 o6 c6 l → o = off + (12 + 8 * cntR l) → m = 8 * capR l - 8 * cntR l → m ≤ c' → c' ≤ 9223372036854775807 → Calls Try.prog 40 #[.slice (some ⟨b, o, none⟩) m c'] W fun e w' => e = .returned (.bool (zkB l)) ∧ W = w') := fun b6 o6 c6 hc W o m c' hW h1 h2 h3 h4 => fm_zk HBy.out _ rfl hm18 hc _ rfl W o m c' hW h1 h2 h3 h4
      have ZV : Hid (∀ b6 o6 c6, 12 + 8 * capR l + widR l * cntR l ≤ 244 → ∀ W o m c', FmSt w W b6 o6 c6 l → o = off + (12 + 8 * capR l + widR l * cntR l) → m = 244 - (12 + 8 * capR l + widR l * cntR l) → m ≤ c' → c' ≤ 9223372036854775807 → Calls Try.prog 40 #[.slice (some ⟨b, o, none⟩) m c'] W fun e w' => e = .returned (.bool (zvB l)) ∧ W = w') := fun b6 o6 c6 hf W o m c' hW h1 h2 h3 h4 => fm_zv HBy.out _ _ rfl rfl hf _ rfl W o m c' hW h1 h2 h3 h4
      generalize hx : (l.getD 0 0).toNat = x at *
      generalize hTq : treeR l = T at *
      generalize hLq : leafR l = L at *
      generalize hCq : cntR l = cnt at *
      generalize hwq : at2 l 4 = w4 at *
      generalize hmq : at2 l 6 = m6 at *
      generalize hzq : leN ((l.drop 8).take 4) = z8 at *
      generalize hWq : widR l = wd at *
      generalize hMq : capR l = mx at *
      clear hx hTq hLq hCq hwq hmq hzq hWq hMq HBy
      have hx1 : ¬ (1 : Int) < (x : Int) := by omega
      have hd1 : decide ((1 : Int) < (x : Int)) = false := decide_eq_false hx1
      clear hx1
      by_cases hall : wd ≠ 0 ∧ w4 = wd ∧ m6 = mx ∧ z8 = 0 ∧ cnt ≤ mx ∧ (L = true ∨ cnt ≠ 0)
      · obtain ⟨a1, a2, a3, a4, a5, a6⟩ := hall
        have hr := HGood.out a1 a2 a3 a4 a5 a6
        subst a2; subst a3; subst a4
        have e1 : ((w4 : Int) == 0) = false := by rw [beq_eq_false_iff_ne]; omega
        have e2 : ((w4 : Int) != (w4 : Int)) = false := by simp
        have e3 : ((m6 : Int) != (m6 : Int)) = false := by simp
        have e5 : decide ((m6 : Int) < (cnt : Int)) = false := decide_eq_false (by omega)
        have hm2 : 6 ≤ m6 ∧ 12 + 8 * m6 + w4 * m6 ≤ 228 := by
          rcases HWM.out with ⟨a, b⟩ | ⟨a, b⟩ | ⟨a, b⟩ | ⟨a, b⟩ | ⟨a, b⟩
          · exact absurd a a1
          all_goals rw [b, a]; omega
        have hmul : w4 * cnt ≤ w4 * m6 := Nat.mul_le_mul_left _ a5
        obtain ⟨hm6, hfit⟩ := hm2
        obtain ⟨y, hy⟩ : ∃ y, y = w4 * cnt := ⟨_, rfl⟩
        have ey : wrap64 ((w4 : Int) * (cnt : Int)) = (y : Int) := by
          rw [hy, Int.natCast_mul]
          have : ((w4 * cnt : Nat) : Int) = (w4 : Int) * (cnt : Int) := Int.natCast_mul _ _
          unfold wrap64
          omega
        rw [← hy] at ZV hmul
        have hyb : 12 + 8 * m6 + y ≤ 228 := Nat.le_trans (Nat.add_le_add_left hmul _) hfit
        clear hy hmul hfit HGood HBad HWM
        generalize zkB l = zk at *
        generalize zvB l = zv at *
        have Z1 := Lib.hid (fun b6 o6 c6 => ZK.out b6 o6 c6 a5)
        have Z2 := Lib.hid (fun b6 o6 c6 => ZV.out b6 o6 c6 (Nat.le_trans hyb (by decide)))
        clear ZK ZV
        cases L
        · have hc0 : cnt ≠ 0 := by rcases a6 with h | h; exact absurd h (by simp); exact h
          have e6 : ((cnt : Int) == 0) = false := by rw [beq_eq_false_iff_ne]; omega
          clear a6
          cases zk
          all_goals
            cases zv
            all_goals
              subst hr
              go_enter Try.func31, Try.ntmps31
              go_wp2_with (first
                | (go_at_call 39; (with_reducible refine (UN.out).mono ?_); rintro e w1 ⟨b6, o6, c6, rfl, hc6, hS1⟩; obtain ⟨j0, j1, j2, j3, j4, j5⟩ := HFC.out _ _ _ _ hS1)
                | (go_at_call 16; (with_reducible refine (WD.out _ _ _ _ hS1).mono ?_); rintro e w2 ⟨rfl, hS2⟩; obtain ⟨q0, q1, q2, q3, q4, q5⟩ := HFC.out _ _ _ _ hS2)
                | (go_at_call 18; (with_reducible refine (MX.out _ _ _ _ hS2).mono ?_); rintro e w3 ⟨rfl, hS3⟩; obtain ⟨p0, p1, p2, p3, p4, p5⟩ := HFC.out _ _ _ _ hS3)
                | (go_at_call 40; (with_reducible refine (Z1.out _ _ _ _ _ _ _ hS3 (by omega) (by omega) (by omega) (by omega)).mono ?_); rintro e w' ⟨rfl, rfl⟩)
                | (go_at_call 40; (with_reducible refine (Z2.out _ _ _ _ _ _ _ hS3 (by omega) (by omega) (by omega) (by omega)).mono ?_); rintro e w' ⟨rfl, rfl⟩))
              go_ret
              exact ⟨rfl, hS3.bel⟩
        · clear a6
          cases zk
          all_goals
            cases zv
            all_goals
              subst hr
              go_enter Try.func31, Try.ntmps31
              go_wp2_with (first
                | (go_at_call 39; (with_reducible refine (UN.out).mono ?_); rintro e w1 ⟨b6, o6, c6, rfl, hc6, hS1⟩; obtain ⟨j0, j1, j2, j3, j4, j5⟩ := HFC.out _ _ _ _ hS1)
                | (go_at_call 16; (with_reducible refine (WD.out _ _ _ _ hS1).mono ?_); rintro e w2 ⟨rfl, hS2⟩; obtain ⟨q0, q1, q2, q3, q4, q5⟩ := HFC.out _ _ _ _ hS2)
                | (go_at_call 18; (with_reducible refine (MX.out _ _ _ _ hS2).mono ?_); rintro e w3 ⟨rfl, hS3⟩; obtain ⟨p0, p1, p2, p3, p4, p5⟩ := HFC.out _ _ _ _ hS3)
                | (go_at_call 40; (with_reducible refine (Z1.out _ _ _ _ _ _ _ hS3 (by omega) (by omega) (by omega) (by omega)).mono ?_); rintro e w' ⟨rfl, rfl⟩)
                | (go_at_call 40; (with_reducible refine (Z2.out _ _ _ _ _ _ _ hS3 (by omega) (by omega) (by omega) (by omega)).mono ?_); rintro e w' ⟨rfl, rfl⟩))
              go_ret
              exact ⟨rfl, hS3.bel⟩
      · have hr : r = false := by
          apply HBad.out
          by_cases b1 : wd = 0
          · exact .inl b1
          · by_cases b2 : w4 = wd
            · by_cases b3 : m6 = mx
              · by_cases b4 : z8 = 0
                · by_cases b5 : cnt ≤ mx
                  · refine .inr (.inr (.inr (.inr (.inr ?_))))
                    cases L
                    · refine ⟨rfl, ?_⟩
                      by_cases b6 : cnt = 0
                      · exact b6
                      · exact absurd ⟨b1, b2, b3, b4, b5, .inr b6⟩ hall
                    · exact absurd ⟨b1, b2, b3, b4, b5, .inl rfl⟩ hall
                  · exact .inr (.inr (.inr (.inr (.inl (Nat.lt_of_not_le b5)))))
                · exact .inr (.inr (.inr (.inl b4)))
              · exact .inr (.inr (.inl b3))
            · exact .inr (.inl b2)
        subst hr
        clear HGood HBad HWM ZK ZV
        by_cases b1 : wd = 0
        · have e1 : ((wd : Int) == 0) = true := by rw [beq_iff_eq]; omega
          clear hall b1
          go_enter Try.func31, Try.ntmps31
          go_wp2_with (first
            | (go_at_call 39; (with_reducible refine (UN.out).mono ?_); rintro e w1 ⟨b6, o6, c6, rfl, hc6, hS1⟩; obtain ⟨j0, j1, j2, j3, j4, j5⟩ := HFC.out _ _ _ _ hS1)
            | (go_at_call 16; (with_reducible refine (WD.out _ _ _ _ hS1).mono ?_); rintro e w2 ⟨rfl, hS2⟩; obtain ⟨q0, q1, q2, q3, q4, q5⟩ := HFC.out _ _ _ _ hS2)
            | (go_at_call 18; (with_reducible refine (MX.out _ _ _ _ hS2).mono ?_); rintro e w3 ⟨rfl, hS3⟩; obtain ⟨p0, p1, p2, p3, p4, p5⟩ := HFC.out _ _ _ _ hS3))
          go_ret
          exact ⟨rfl, hS3.bel⟩
        · have e1 : ((wd : Int) == 0) = false := by rw [beq_eq_false_iff_ne]; omega
          by_cases b2 : w4 = wd
          · subst b2
            by_cases b3 : m6 = mx
            · subst b3
              by_cases b4 : z8 = 0
              · subst b4
                by_cases b5 : cnt ≤ m6
                · have e5 : decide ((m6 : Int) < (cnt : Int)) = false := decide_eq_false (by omega)
                  cases L
                  · have hc0 : cnt = 0 := by
                      by_cases b6 : cnt = 0
                      · exact b6
                      · exact absurd ⟨b1, rfl, rfl, rfl, b5, .inr b6⟩ hall
                    have e6 : ((cnt : Int) == 0) = true := by rw [beq_iff_eq]; omega
                    clear hall hc0
                    go_enter Try.func31, Try.ntmps31
                    go_wp2_with (first
                      | (go_at_call 39; (with_reducible refine (UN.out).mono ?_); rintro e w1 ⟨b6, o6, c6, rfl, hc6, hS1⟩; obtain ⟨j0, j1, j2, j3, j4, j5⟩ := HFC.out _ _ _ _ hS1)
                      | (go_at_call 16; (with_reducible refine (WD.out _ _ _ _ hS1).mono ?_); rintro e w2 ⟨rfl, hS2⟩; obtain ⟨q0, q1, q2, q3, q4, q5⟩ := HFC.out _ _ _ _ hS2)
                      | (go_at_call 18; (with_reducible refine (MX.out _ _ _ _ hS2).mono ?_); rintro e w3 ⟨rfl, hS3⟩; obtain ⟨p0, p1, p2, p3, p4, p5⟩ := HFC.out _ _ _ _ hS3))
                    go_ret
                    exact ⟨rfl, hS3.bel⟩
                  · exact absurd ⟨b1, rfl, rfl, rfl, b5, .inl rfl⟩ hall
                · have e5 : decide ((m6 : Int) < (cnt : Int)) = true := decide_eq_true (by omega)
                  clear hall
                  go_enter Try.func31, Try.ntmps31
                  go_wp2_with (first
                    | (go_at_call 39; (with_reducible refine (UN.out).mono ?_); rintro e w1 ⟨b6, o6, c6, rfl, hc6, hS1⟩; obtain ⟨j0, j1, j2, j3, j4, j5⟩ := HFC.out _ _ _ _ hS1)
                    | (go_at_call 16; (with_reducible refine (WD.out _ _ _ _ hS1).mono ?_); rintro e w2 ⟨rfl, hS2⟩; obtain ⟨q0, q1, q2, q3, q4, q5⟩ := HFC.out _ _ _ _ hS2)
                    | (go_at_call 18; (with_reducible refine (MX.out _ _ _ _ hS2).mono ?_); rintro e w3 ⟨rfl, hS3⟩; obtain ⟨p0, p1, p2, p3, p4, p5⟩ := HFC.out _ _ _ _ hS3))
                  go_ret
                  exact ⟨rfl, hS3.bel⟩
              · have e4 : ((z8 : Int) != 0) = true := by rw [bne_iff_ne]; omega
                clear hall
                go_enter Try.func31, Try.ntmps31
                go_wp2_with (first
                  | (go_at_call 39; (with_reducible refine (UN.out).mono ?_); rintro e w1 ⟨b6, o6, c6, rfl, hc6, hS1⟩; obtain ⟨j0, j1, j2, j3, j4, j5⟩ := HFC.out _ _ _ _ hS1)
                  | (go_at_call 16; (with_reducible refine (WD.out _ _ _ _ hS1).mono ?_); rintro e w2 ⟨rfl, hS2⟩; obtain ⟨q0, q1, q2, q3, q4, q5⟩ := HFC.out _ _ _ _ hS2)
                  | (go_at_call 18; (with_reducible refine (MX.out _ _ _ _ hS2).mono ?_); rintro e w3 ⟨rfl, hS3⟩; obtain ⟨p0, p1, p2, p3, p4, p5⟩ := HFC.out _ _ _ _ hS3))
                go_ret
                exact ⟨rfl, hS3.bel⟩
            · have e3 : ((m6 : Int) != (mx : Int)) = true := by rw [bne_iff_ne]; omega
              clear hall
              go_enter Try.func31, Try.ntmps31
              go_wp2_with (first
                | (go_at_call 39; (with_reducible refine (UN.out).mono ?_); rintro e w1 ⟨b6, o6, c6, rfl, hc6, hS1⟩; obtain ⟨j0, j1, j2, j3, j4, j5⟩ := HFC.out _ _ _ _ hS1)
                | (go_at_call 16; (with_reducible refine (WD.out _ _ _ _ hS1).mono ?_); rintro e w2 ⟨rfl, hS2⟩; obtain ⟨q0, q1, q2, q3, q4, q5⟩ := HFC.out _ _ _ _ hS2)
                | (go_at_call 18; (with_reducible refine (MX.out _ _ _ _ hS2).mono ?_); rintro e w3 ⟨rfl, hS3⟩; obtain ⟨p0, p1, p2, p3, p4, p5⟩ := HFC.out _ _ _ _ hS3))
              go_ret
              exact ⟨rfl, hS3.bel⟩
          · have e2 : ((w4 : Int) != (wd : Int)) = true := by rw [bne_iff_ne]; omega
            clear hall
            go_enter Try.func31, Try.ntmps31
            go_wp2_with (first
              | (go_at_call 39; (with_reducible refine (UN.out).mono ?_); rintro e w1 ⟨b6, o6, c6, rfl, hc6, hS1⟩; obtain ⟨j0, j1, j2, j3, j4, j5⟩ := HFC.out _ _ _ _ hS1)
              | (go_at_call 16; (with_reducible refine (WD.out _ _ _ _ hS1).mono ?_); rintro e w2 ⟨rfl, hS2⟩; obtain ⟨q0, q1, q2, q3, q4, q5⟩ := HFC.out _ _ _ _ hS2)
              | (go_at_call 18; (with_reducible refine (MX.out _ _ _ _ hS2).mono ?_); rintro e w3 ⟨rfl, hS3⟩; obtain ⟨p0, p1, p2, p3, p4, p5⟩ := HFC.out _ _ _ _ hS3))
            go_ret
            exact ⟨rfl, hS3.bel⟩
    · obtain rfl : r = false := by rw [← hr]; exact formN_no (.inr (.inl (by omega)))
      generalize (l.getD 0 0).toNat = x at *
      have hgt : (1 : Int) < (x : Int) := by omega
      clear hr hB hcell hx ex
      go_enter Try.func31, Try.ntmps31
      go_wp2
      go_ret
      exact ⟨rfl, Below.refl _ _⟩
  · obtain rfl : r = false := by rw [← hr]; exact formN_no (.inl h)
    have hne : ((n : Int) != 244) = true := by rw [bne_iff_ne]; have := hB.len; omega
    clear hr hB
    go_enter Try.func31, Try.ntmps31
    go_wp2
    go_ret
    exact ⟨rfl, Below.refl _ _⟩

end Go.Proofs.Ythajfnnngaffjaa
