/-
  Layer 8's reference: ReadDetail, ReadSlot.
-/
import Derived.Test.YtolapeocdaknjaaValR
import Derived.Test.YtolapeocdaknjaaValH
import Derived.Test.YtolapeocdaknjaaCodeJ
namespace Go.Proofs.Ytolapeocdaknjaa
open Go.RowKit
set_option linter.unusedVariables false
set_option linter.unusedSimpArgs false

theorem val_get_at {l : List UInt8} {wd : Nat} (i : Nat) (hw : isW wd = true) (hi : i + wd ≤ l.length) :
    (leN ((l.drop i).take wd) < 9223372036854775808 → getE l i wd = 0 ∧ getN l i wd = (leN ((l.drop i).take wd) : Int)) ∧ (9223372036854775808 ≤ leN ((l.drop i).take wd) → getE l i wd = 2 ∧ getN l i wd = 0) := by
  have hb : 1 ≤ (wd : Int) ∧ (wd : Int) ≤ 8 := by rcases isW_cases hw with h | h | h | h <;> omega
  have hr : roomE l.length i wd = 0 := by
    simp only [roomE, hw]
    simp
    omega
  have hp : part l i wd = (l.drop i).take wd := by simp [part]
  constructor
  · intro h
    have he : getE l i wd = 0 := by rw [getE, if_pos hr, hp, if_neg (by omega)]
    exact ⟨he, by rw [getN, if_pos he, hp]⟩
  · intro h
    have he : getE l i wd = 2 := by rw [getE, if_pos hr, hp, if_pos h]
    exact ⟨he, by rw [getN, if_neg (by rw [he]; omega)]⟩

/-- are all numbers small enough to be integers -/
def smallB (l : List Int) : Bool := l.all fun v => decide (v < 9223372036854775808)

theorem unp_parts (b : List UInt8) : ∀ (ns : List NumS) (i : Nat), (∀ p ∈ ns, isW (p.1 : Int) = true) → i + sizeN ns ≤ b.length →
    (smallB (psI (b.drop i) ns) = true → unpE b i (ns.map fun p => (p.1 : Int)) = 0 ∧ unpL b i (ns.map fun p => (p.1 : Int)) = psI (b.drop i) ns) ∧
    (smallB (psI (b.drop i) ns) = false → unpE b i (ns.map fun p => (p.1 : Int)) = 2)
  | [], _, _, _ => ⟨fun _ => ⟨rfl, rfl⟩, fun h => by cases h⟩
  | p :: r, i, hw, hs => by
    have hs2 : i + (p.1 + sizeN r) ≤ b.length := by simpa [sizeN] using hs
    obtain ⟨g1, g2⟩ := val_get_at (l := b) (wd := p.1) i (hw p List.mem_cons_self) (by omega)
    obtain ⟨i1, i2⟩ := unp_parts b r (i + p.1) (fun q hq => hw q (List.mem_cons_of_mem _ hq)) (by omega)
    have ep : psI (b.drop i) (p :: r) = (leN ((b.drop i).take p.1) : Int) :: psI (b.drop (i + p.1)) r := by
      simp [psI, partsN, List.drop_drop]
    have ec : ((i + p.1 : Nat) : Int) = (i : Int) + (p.1 : Int) := by omega
    rw [ec] at i1 i2
    simp only [ep, smallB, List.all_cons, List.map_cons, unpE, unpL]
    by_cases hb : leN ((b.drop i).take p.1) < 9223372036854775808
    · obtain ⟨q1, q2⟩ := g1 hb
      have hd : decide ((leN ((b.drop i).take p.1) : Int) < 9223372036854775808) = true := decide_eq_true (by omega)
      rw [q1, q2, hd, Bool.true_and, if_pos rfl]
      exact ⟨fun h => ⟨(i1 h).1, by rw [(i1 h).2]⟩, i2⟩
    · obtain ⟨q1, q2⟩ := g2 (by omega)
      have hd : decide ((leN ((b.drop i).take p.1) : Int) < 9223372036854775808) = false := decide_eq_false (by omega)
      rw [q1, hd, Bool.false_and]
      exact ⟨(fun h => by cases h), fun _ => by rw [if_neg (by omega)]⟩

theorem small_of_ok {s : List UInt8} {ns : List NumS} (hf : ∀ p ∈ ns, fitN p) (h : okR s ns = true) : smallB (psI s ns) = true := by
  rw [smallB, List.all_eq_true]
  intro v hv
  have := psI_bd s ns h hf v hv
  simp only [i64b] at this
  exact decide_eq_true (by omega)

/-- Unpack's answer, and what it means for the value -/
theorem rd_unp {s : List UInt8} {ns : List NumS} (hf : ∀ p ∈ ns, fitN p) (hw : ∀ p ∈ ns, isW (p.1 : Int) = true) (hl : s.length = sizeN ns) :
    (unpE s 0 (ns.map fun p => (p.1 : Int)) = 0 ∧ unpN s (ns.map fun p => (p.1 : Int)) = psI s ns) ∨ (unpE s 0 (ns.map fun p => (p.1 : Int)) = 2 ∧ rdE s ns = 2) := by
  obtain ⟨h1, h2⟩ := unp_parts s ns 0 hw (by omega)
  rw [List.drop_zero] at h1 h2
  cases hs : smallB (psI s ns) with
  | true =>
    obtain ⟨e1, e2⟩ := h1 hs
    exact Or.inl ⟨e1, by rw [unpN]; exact (if_pos e1).trans e2⟩
  | false =>
    refine Or.inr ⟨h2 hs, ?_⟩
    rw [rdE, if_neg (by omega), if_neg]
    intro e
    rw [small_of_ok hf e] at hs
    cases hs
theorem rdE_cases {s : List UInt8} {ns : List NumS} (hl : s.length = sizeN ns) : rdE s ns = if okR s ns = true then 0 else 2 := by
  rw [rdE, if_neg (by omega)]

/-- a world of ReadSlot: the result's variable, all below as it was -/
structure SltSt (w W : World) : Prop where
  bel : Below w.heap.size w W
  res : SltAt W w.heap.size 0 0 0
theorem SltSt.later {w W W' : World} (h : SltSt w W) (hb : Below W.heap.size W W') : SltSt w W' := ⟨h.bel.trans (hb.mono h.bel.size), (hb.block _ (block_lt h.res)).trans h.res⟩

set_option maxRecDepth 100000 in
set_option maxHeartbeats 3200000 in
theorem refReadSlot_any8 (w : World) (s : List UInt8) (hs : s.length ≤ 1000) :
    Calls Try.prog 22 #[.string ⟨s.toArray⟩] w fun e w' => e = .returned (.tuple #[.agg #[.int .i64 (rdV s slotS 0), .int .i64 (rdV s slotS 1), .int .i64 (rdV s slotS 2)], .int .i64 (rdE s slotS)]) ∧ Below w.heap.size w w' := by
  have hS0 : SltSt w (w.alloc (.cells #[.int .i64 0, .int .i64 0, .int .i64 0] 38)) := ⟨(Below.refl _ _).alloc (Nat.le_refl _) _, heap_alloc_new w _⟩
  have hz : (w.alloc (.cells #[.int .i64 0, .int .i64 0, .int .i64 0] 38)).heap.size = w.heap.size + 1 := by simp
  by_cases hl : s.length = 16
  · obtain ⟨c', W1, hcv, hB, hbel⟩ := conv_bytes s (w.alloc (.cells #[.int .i64 0, .int .i64 0, .int .i64 0] 38)) (by omega)
    have hc2 := hB.cap
    have hc3 := hB.most
    rw [hz, hl] at hcv
    rw [hz, hl] at hB
    have hS1 := hS0.later hbel
    have hI : Below W1.heap.size W1 (W1.alloc (.cells #[.int .i64 8, .int .i64 4, .int .i64 4] 3)) := (Below.refl _ _).alloc (Nat.le_refl _) _
    have hS2 := hS1.later hI
    have UN := (refUnpack_any _ 16 c' s _ 3 3 [8, 4, 4] (W1.alloc (.cells #[.int .i64 8, .int .i64 4, .int .i64 4] 3)) (hB.below hI) (ints_new (l := [8, 4, 4]) (heap_alloc_new W1 _) rfl (by omega)) (fun x hx => by
      simp only [List.mem_cons, List.mem_nil_iff, or_false] at hx
      simp only [i64b']
      omega) (by omega) (by omega))
    have hne : ((s.length : Int) != 16) = false := by rw [hl]; rfl
    have hE := rdE_cases (s := s) (ns := slotS) hl
    have hwd : ∀ p ∈ slotS, isW (p.1 : Int) = true := by
      intro p hp
      simp only [slotS, List.mem_cons, List.mem_nil_iff, or_false] at hp
      rcases hp with rfl | rfl | rfl <;> rfl
    rcases rd_unp slotS_fit hwd hl with ⟨u1, u2⟩ | ⟨u1, u2⟩
    · change unpE s 0 [8, 4, 4] = 0 at u1
      change unpN s [8, 4, 4] = psI s slotS at u2
      rw [u1, u2] at UN
      have hV : ∀ k, k < 3 → okR s slotS = true → rdV s slotS k = (psI s slotS).getD k 0 := fun k _ ho => by rw [rdV, if_pos (by rw [hE, if_pos ho])]
      have hVn : okR s slotS = false → ∀ k, rdV s slotS k = 0 := fun ho k => by rw [rdV, if_neg (by rw [hE, ho]; simp)]
      have hok : okR s slotS = okP (slotS.zip (psI s slotS)) := rfl
      obtain ⟨a, b, c, hps⟩ : ∃ a b c : Int, psI s slotS = [a, b, c] := ⟨_, _, _, rfl⟩
      rw [hps] at UN hV hok
      have U : Hid (Calls Try.prog 33 #[.slice (some ⟨w.heap.size + 1, 0, none⟩) 16 c', .slice (some ⟨W1.heap.size, 0, none⟩) 3 3] (W1.alloc (.cells #[.int .i64 8, .int .i64 4, .int .i64 4] 3)) fun e w' => ∃ b1 o1 c1, e = .returned (.tuple #[.slice (some ⟨b1, o1, none⟩) 3 c1, .int .i64 0]) ∧ 3 ≤ c1 ∧ c1 ≤ 9223372036854775807 ∧ SltSt w w' ∧ (w'.cell? ⟨b1, o1, none⟩ = some (.int .i64 a) ∧ w'.cell? ⟨b1, o1 + 1, none⟩ = some (.int .i64 b) ∧ w'.cell? ⟨b1, o1 + 2, none⟩ = some (.int .i64 c))) := UN.mono fun e w' h => by
        obtain ⟨A', m, c1, rfl, hI2, hb2⟩ := h
        obtain rfl : 3 = m := hI2.len
        obtain ⟨b1, o1, rfl, _, hc⟩ := hI2.row.lit (by simp [i64s])
        exact ⟨b1, o1, c1, rfl, hI2.cap, hI2.most, hS2.later hb2, hc 0 _ rfl, hc 1 _ rfl, hc 2 _ rfl⟩
      obtain ⟨y, hy⟩ : ∃ y : ByteArray, y = ⟨(slotB a b c).toArray⟩ := ⟨_, rfl⟩
      have RD : Hid (∀ W, Calls Try.prog 15 #[.agg #[.int .i64 a, .int .i64 b, .int .i64 c]] W fun e w' => e = .returned (.string y) ∧ Below W.heap.size W w') := fun W => by
        rw [hy]
        exact refSlot_any8 W a b c
      have hl2 : slotB a b c = bldP (slotS.zip [a, b, c]) := rfl
      cases ho : okR s slotS with
      | true =>
        have hye : y.toList.isEmpty = false := by
          rw [hy, hl2, ByteArray.toList_mk, Bool.eq_false_iff, ne_eq, List.isEmpty_iff]
          intro e
          have this : okP (slotS.zip [a, b, c]) = false := (bldP_nil (p := _) (l := _) (show 1 ≤ (8 : Nat) by omega)).1 e
          rw [← hok, ho] at this
          cases this
        have hE0 : rdE s slotS = 0 := by rw [hE, if_pos ho]
        have v0 : rdV s slotS 0 = a := hV 0 (by omega) ho; have v1 : rdV s slotS 1 = b := hV 1 (by omega) ho; have v2 : rdV s slotS 2 = c := hV 2 (by omega) ho
        rw [hE0, v0, v1, v2]
        clear hE0 v0 v1 v2 UN hE hV hVn hok hps hy hl2 u1 u2 ho hB hbel hI hS0 hS1 hS2 hwd hl hs
        go_enter Try.func22, Try.ntmps22
        go_wp2_with (go_at_call 33; (with_reducible refine (U.out).mono ?_); rintro e w2 ⟨b1, o1, c1, rfl, hc1, hc1m, hS, hN⟩)
        have hN1 : (w2.drew.cell? ⟨b1, o1, none⟩ = some (.int .i64 a) ∧ w2.drew.cell? ⟨b1, o1 + 1, none⟩ = some (.int .i64 b) ∧ w2.drew.cell? ⟨b1, o1 + 2, none⟩ = some (.int .i64 c)) := hN
        have hbA : ∀ ob, Below w2.heap.size w2 (w2.alloc ob) := fun ob => (Below.refl _ _).alloc (Nat.le_refl _) ob
        have hNA : ∀ ob, ((w2.alloc ob).drew.cell? ⟨b1, o1, none⟩ = some (.int .i64 a) ∧ (w2.alloc ob).drew.cell? ⟨b1, o1 + 1, none⟩ = some (.int .i64 b) ∧ (w2.alloc ob).drew.cell? ⟨b1, o1 + 2, none⟩ = some (.int .i64 c)) := fun ob => ⟨((hbA ob).cell (p := ⟨b1, o1, none⟩) (cell_lt hN.1)).trans hN.1, ((hbA ob).cell (p := ⟨b1, o1 + 1, none⟩) (cell_lt hN.2.1)).trans hN.2.1, ((hbA ob).cell (p := ⟨b1, o1 + 2, none⟩) (cell_lt hN.2.2)).trans hN.2.2⟩
        have HNA := Lib.hid hNA
        have HBA := Lib.hid hbA
        clear hNA hbA
        go_region_held3 (fun W => W.cell? ⟨b1, o1, none⟩ = some (.int .i64 a) ∧ W.cell? ⟨b1, o1 + 1, none⟩ = some (.int .i64 b) ∧ W.cell? ⟨b1, o1 + 2, none⟩ = some (.int .i64 c)) (first | exact hN1 | exact HNA.out _) ((fail))
        have hSX := (hS.later (HBA.out (.cells #[.int .i64 a, .int .i64 b, .int .i64 c] 38))).later ((Below.refl _ _).drew)
        have hvar : SltAt (w2.alloc (.cells #[.int .i64 a, .int .i64 b, .int .i64 c] 38)).drew w2.heap.size a b c := heap_alloc_new w2 _
        generalize (w2.alloc (.cells #[.int .i64 a, .int .i64 b, .int .i64 c] 38)).drew = w3 at *
        generalize w2.heap.size = gv at *
        have hvf := hvar.facts
        obtain ⟨t0, t1, t2⟩ := hvf
        clear hN hN1 HNA HBA hS
        go_wp2_with (go_at_call 15; (with_reducible refine (RD.out _).mono ?_); rintro e w4 ⟨rfl, hb4⟩; have hS4 := hSX.later hb4; have hv4 : SltAt w4 gv a b c := (hb4.block _ (block_lt hvar)).trans hvar; obtain ⟨x0, x1, x2⟩ := hv4.facts; obtain ⟨z0, z1, z2⟩ := hS4.res.facts; have y0 := Lib.frozen_of_heap hS4.res 0; have y1 := Lib.frozen_of_heap hS4.res 1; have y2 := Lib.frozen_of_heap hS4.res 2)
        refine bodyPost_ret (results_Slt Try.results22 _ _ w.heap.size a b c rfl (hS4.res.store a b c)) rfl ?_
        exact ⟨rfl, below_Slt hS4.bel (Nat.le_refl _) _ _ _⟩
      | false =>
        have hye : y.toList.isEmpty = true := by
          rw [hy, hl2, ByteArray.toList_mk, List.isEmpty_iff]
          refine (bldP_nil (p := _) (l := _) (show 1 ≤ (8 : Nat) by omega)).2 ?_
          rw [← ho]
          exact hok.symm
        have hE0 : rdE s slotS = 2 := by rw [hE, ho]; rfl
        have v0 : rdV s slotS 0 = 0 := hVn ho 0; have v1 : rdV s slotS 1 = 0 := hVn ho 1; have v2 : rdV s slotS 2 = 0 := hVn ho 2
        rw [hE0, v0, v1, v2]
        clear hE0 v0 v1 v2 UN hE hV hVn hok hps hy hl2 u1 u2 ho hB hbel hI hS0 hS1 hS2 hwd hl hs
        go_enter Try.func22, Try.ntmps22
        go_wp2_with (go_at_call 33; (with_reducible refine (U.out).mono ?_); rintro e w2 ⟨b1, o1, c1, rfl, hc1, hc1m, hS, hN⟩)
        have hN1 : (w2.drew.cell? ⟨b1, o1, none⟩ = some (.int .i64 a) ∧ w2.drew.cell? ⟨b1, o1 + 1, none⟩ = some (.int .i64 b) ∧ w2.drew.cell? ⟨b1, o1 + 2, none⟩ = some (.int .i64 c)) := hN
        have hbA : ∀ ob, Below w2.heap.size w2 (w2.alloc ob) := fun ob => (Below.refl _ _).alloc (Nat.le_refl _) ob
        have hNA : ∀ ob, ((w2.alloc ob).drew.cell? ⟨b1, o1, none⟩ = some (.int .i64 a) ∧ (w2.alloc ob).drew.cell? ⟨b1, o1 + 1, none⟩ = some (.int .i64 b) ∧ (w2.alloc ob).drew.cell? ⟨b1, o1 + 2, none⟩ = some (.int .i64 c)) := fun ob => ⟨((hbA ob).cell (p := ⟨b1, o1, none⟩) (cell_lt hN.1)).trans hN.1, ((hbA ob).cell (p := ⟨b1, o1 + 1, none⟩) (cell_lt hN.2.1)).trans hN.2.1, ((hbA ob).cell (p := ⟨b1, o1 + 2, none⟩) (cell_lt hN.2.2)).trans hN.2.2⟩
        have HNA := Lib.hid hNA
        have HBA := Lib.hid hbA
        clear hNA hbA
        go_region_held3 (fun W => W.cell? ⟨b1, o1, none⟩ = some (.int .i64 a) ∧ W.cell? ⟨b1, o1 + 1, none⟩ = some (.int .i64 b) ∧ W.cell? ⟨b1, o1 + 2, none⟩ = some (.int .i64 c)) (first | exact hN1 | exact HNA.out _) ((fail))
        have hSX := (hS.later (HBA.out (.cells #[.int .i64 a, .int .i64 b, .int .i64 c] 38))).later ((Below.refl _ _).drew)
        have hvar : SltAt (w2.alloc (.cells #[.int .i64 a, .int .i64 b, .int .i64 c] 38)).drew w2.heap.size a b c := heap_alloc_new w2 _
        generalize (w2.alloc (.cells #[.int .i64 a, .int .i64 b, .int .i64 c] 38)).drew = w3 at *
        generalize w2.heap.size = gv at *
        have hvf := hvar.facts
        obtain ⟨t0, t1, t2⟩ := hvf
        clear hN hN1 HNA HBA hS
        go_wp2_with (go_at_call 15; (with_reducible refine (RD.out _).mono ?_); rintro e w4 ⟨rfl, hb4⟩; have hS4 := hSX.later hb4; obtain ⟨z0, z1, z2⟩ := hS4.res.facts; have y0 := Lib.frozen_of_heap hS4.res 0; have y1 := Lib.frozen_of_heap hS4.res 1; have y2 := Lib.frozen_of_heap hS4.res 2)
        refine bodyPost_ret (results_Slt Try.results22 _ _ w.heap.size 0 0 0 rfl (hS4.res.store 0 0 0)) rfl ?_
        exact ⟨rfl, below_Slt hS4.bel (Nat.le_refl _) _ _ _⟩
    · change unpE s 0 [8, 4, 4] = 2 at u1
      rw [u1] at UN
      have U : Hid (Calls Try.prog 33 #[.slice (some ⟨w.heap.size + 1, 0, none⟩) 16 c', .slice (some ⟨W1.heap.size, 0, none⟩) 3 3] (W1.alloc (.cells #[.int .i64 8, .int .i64 4, .int .i64 4] 3)) fun e w' => ∃ A' m c1, e = .returned (.tuple #[.slice A' m c1, .int .i64 2]) ∧ SltSt w w') := UN.mono fun e w' h => by
        obtain ⟨A', m, c1, rfl, hI2, hb2⟩ := h
        exact ⟨A', m, c1, rfl, hS2.later hb2⟩
      have hV : ∀ k, rdV s slotS k = 0 := fun k => by rw [rdV, if_neg (by rw [u2]; omega)]
      rw [u2, hV 0, hV 1, hV 2]
      clear UN hE hV u1 u2 hB hbel hI hS0 hS1 hS2 hwd hl hs
      go_enter Try.func22, Try.ntmps22
      go_wp2_with (go_at_call 33; (with_reducible refine (U.out).mono ?_); rintro e w2 ⟨A1, m1, c1, rfl, hS⟩; obtain ⟨z0, z1, z2⟩ := hS.res.facts; have y0 := Lib.frozen_of_heap hS.res 0; have y1 := Lib.frozen_of_heap hS.res 1; have y2 := Lib.frozen_of_heap hS.res 2)
      refine bodyPost_ret (results_Slt Try.results22 _ _ w.heap.size 0 0 0 rfl (hS.res.store 0 0 0)) rfl ?_
      exact ⟨rfl, below_Slt hS.bel (Nat.le_refl _) _ _ _⟩
  · obtain ⟨e1, e2⟩ := rd_len (s := s) (ns := slotS) (by simpa [sizeN, slotS] using hl)
    rw [e1, e2 0, e2 1, e2 2]
    have hne : ((s.length : Int) != 16) = true := by rw [bne_iff_ne]; omega
    have HS0 := Lib.hid hS0
    clear e1 e2 hl hs hS0
    go_enter Try.func22, Try.ntmps22
    go_wp2
    refine bodyPost_ret (results_Slt Try.results22 _ _ w.heap.size 0 0 0 rfl HS0.out.res) rfl ?_
    exact ⟨rfl, HS0.out.bel⟩

end Go.Proofs.Ytolapeocdaknjaa
