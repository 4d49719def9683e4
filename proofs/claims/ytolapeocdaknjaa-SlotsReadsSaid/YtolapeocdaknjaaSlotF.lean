/-
  Layer 10: the reference's Read.
-/
import Derived.Test.YtolapeocdaknjaaSlotC
import Derived.Test.YtolapeocdaknjaaValS
import Derived.Test.YtolapeocdaknjaaCodeD
import Derived.Test.YtolapeocdaknjaaMemC
namespace Go.Proofs.Ytolapeocdaknjaa
open Go.RowKit
set_option linter.unusedVariables false
set_option linter.unusedSimpArgs false

theorem slot_get4 {l : List UInt8} (h : 4 ≤ l.length) : getE l 0 4 = 0 ∧ getN l 0 4 = (numS l : Int) := by
  obtain ⟨h1, _⟩ := val_get_at (l := l) (wd := 4) 0 rfl (by omega)
  have hs : leN ((l.drop 0).take 4) < 4294967296 := val_small (Nat.le_refl 4) (by rw [List.drop_zero, List.length_take]; omega)
  exact h1 (by omega)
theorem slot_sub {w : World} {b off n c : Nat} {l : List UInt8} (h : Bytes8 w (some ⟨b, off, none⟩) n c l) (i m c' : Nat) (hi : i + m ≤ n) (hm : m ≤ c') (hc : c' ≤ 9223372036854775807) : Bytes8 w (some ⟨b, off + i, none⟩) m c' ((l.drop i).take m) := by
  refine ⟨by rw [List.length_take, List.length_drop, h.len]; omega, hm, hc, ?_⟩
  have := (h.row.drop i).take m
  simp only [Option.map_some, Addr.add_lit] at this
  rwa [u8s_drop, u8s_take] at this

set_option maxHeartbeats 400000 in
theorem refSlRead_len (A : Option Addr) (n c : Nat) (l : List UInt8) (w : World) (h : Bytes8 w A n c l) (hn : n ≠ 244) :
    Calls Try.prog 10 #[.slice A n c] w (SlRd l w) := by
  have hle := h.le
  have E := Lib.hid (SlRd.bad (b := l) (w := w) (formS_no fun hh => hn (h.len.symm.trans hh.1)) (Below.refl _ _))
  have hne : ((n : Int) != 244) = true := by simp; omega
  clear h hn
  go_enter Try.func10, Try.ntmps10
  go_wp2
  go_ret2
  exact E.out

set_option maxRecDepth 100000 in
set_option maxHeartbeats 800000 in
theorem refSlRead_many (A : Option Addr) (c : Nat) (l : List UInt8) (w : World) (h : Bytes8 w A 244 c l) (hN : 15 < numS l) :
    Calls Try.prog 10 #[.slice A 244 c] w (SlRd l w) := by
  have hl := h.len
  have G := Lib.hid (refGet_any A 244 c l 0 4 w h (by omega))
  obtain ⟨e1, e2⟩ := slot_get4 (l := l) (by omega)
  rw [e1, e2] at G
  have E := Lib.hid (SlRd.bad (b := l) (w := w) (formS_no fun hh => by omega) (Below.refl _ _))
  have hd : decide ((15 : Int) < (numS l : Int)) = true := by simp; omega
  clear h hl e1 e2
  generalize numS l = N at *
  go_enter Try.func10, Try.ntmps10
  go_wp2_with (go_at_call 20; (with_reducible refine (G.out).mono ?_); rintro e w' ⟨rfl, rfl⟩)
  go_ret2
  exact E.out

set_option maxRecDepth 100000 in
set_option maxHeartbeats 1600000 in
theorem refSlRead_zero (A : Option Addr) (c : Nat) (l : List UInt8) (w : World) (h : Bytes8 w A 244 c l) (hN : numS l ≤ 15) (hz : zeroB (l.drop (4 + 16 * numS l)) = false) :
    Calls Try.prog 10 #[.slice A 244 c] w (SlRd l w) := by
  have hl := h.len
  have hcap := h.cap
  have hmost := h.most
  have G := Lib.hid (refGet_any A 244 c l 0 4 w h (by omega))
  obtain ⟨e1, e2⟩ := slot_get4 (l := l) (by omega)
  rw [e1, e2] at G
  have E := Lib.hid (SlRd.bad (b := l) (w := w) (formS_zero hl hN hz) (Below.refl _ _))
  have hd : decide ((15 : Int) < (numS l : Int)) = false := by simp; omega
  obtain ⟨b, off, rfl, _, _⟩ := h.row.lit (by rw [u8s_length]; omega)
  obtain ⟨P, hP⟩ : ∃ P, P = 4 + 16 * numS l := ⟨_, rfl⟩
  rw [← hP] at hz
  have hr := h.rest (s := P) (by omega)
  have hP2 : P ≤ 244 := by omega
  have f1 : (4 : Int) + 16 * (numS l : Int) = (P : Int) := by omega
  have Z := Lib.hid (refZero_any _ _ _ _ w hr false hz)
  clear h hl e1 e2 hr hz hP
  generalize numS l = N at *
  by_cases hcs : c = P
  · subst hcs
    rw [if_pos rfl] at Z
    obtain rfl : c = 244 := by omega
    go_enter Try.func10, Try.ntmps10
    go_wp2_with (first
      | (go_at_call 20; (with_reducible refine (G.out).mono ?_); rintro e w' ⟨rfl, rfl⟩)
      | (go_at_call 21; (with_reducible refine (Z.out).mono ?_); rintro e w' ⟨rfl, rfl⟩))
    go_ret2
    exact E.out
  · rw [if_neg hcs] at Z
    go_enter Try.func10, Try.ntmps10
    go_wp2_with (first
      | (go_at_call 20; (with_reducible refine (G.out).mono ?_); rintro e w' ⟨rfl, rfl⟩)
      | (go_at_call 21; (with_reducible refine (Z.out).mono ?_); rintro e w' ⟨rfl, rfl⟩))
    go_ret2
    exact E.out

/-- the first k slots -/
def gotP (l : List UInt8) (k : Nat) : List Slt := (List.range k).map fun i => sltR (sltAt10 l i)
theorem gotP_step (l : List UInt8) (k : Nat) {x0 x1 x2 : Int} (h : sltR (sltAt10 l k) = (x0, x1, x2)) : triC (gotP l (k + 1)) = triC (gotP l k) ++ [.int .i64 x0, .int .i64 x1, .int .i64 x2] := by
  rw [gotP, List.range_succ, List.map_append, List.map_singleton, h, triC_append]
  rfl

/-- what stands at the loop's end -/
theorem got_all {l : List UInt8} (hF : formS l = true) {N : Nat} (hN : numS l = N) (hT : ∀ q, q < N → okR (sltAt10 l q) slotS = true) : readSE10 l = 0 ∧ readSL10 l = gotP l N := by
  have hall : (List.range (numS l)).all (fun i => okR (sltAt10 l i) slotS) = true := by
    rw [List.all_eq_true]
    intro i hi
    exact hT i (by rw [← hN]; exact List.mem_range.1 hi)
  obtain ⟨e1, e2⟩ := readSE10_good hF hall
  refine ⟨e1, ?_⟩
  rw [e2, if_pos rfl, readS10, hN]
  rfl
theorem got_bad {l : List UInt8} (hF : formS l = true) {q : Nat} (hq : q < numS l) (ho : okR (sltAt10 l q) slotS = false) : readSE10 l = 2 ∧ readSL10 l = [] := by
  have hall : (List.range (numS l)).all (fun i => okR (sltAt10 l i) slotS) = false := by
    rw [← Bool.not_eq_true, List.all_eq_true]
    intro h
    rw [h q (List.mem_range.2 hq)] at ho
    cases ho
  obtain ⟨e1, e2⟩ := readSE10_good hF hall
  exact ⟨e1, e2⟩

/-- the head of the good way, whatever the capacity -/
theorem sl_rest {w : World} {b off c : Nat} {l : List UInt8} (h : Bytes8 w (some ⟨b, off, none⟩) 244 c l) (P : Nat) (hP : P ≤ 244) (hz : zeroB (l.drop P) = true) : (c = P → P = 244 ∧ Calls Try.prog 21 #[.slice (some ⟨b, off, none⟩) 0 0] w fun e w' => e = .returned (.bool true) ∧ w = w') ∧ (¬ c = P → Calls Try.prog 21 #[.slice (some ⟨b, off + P, none⟩) (244 - P) (c - P)] w fun e w' => e = .returned (.bool true) ∧ w = w') := by
  have hr := h.rest (s := P) hP
  have hcap := h.cap
  have Z := refZero_any _ _ _ _ w hr true hz
  constructor
  · intro hcs
    rw [if_pos hcs] at Z
    have e : P = 244 := by omega
    have e2 : c = 244 := by omega
    subst e; subst e2
    exact ⟨rfl, Z⟩
  · intro hcs
    rw [if_neg hcs] at Z
    exact Z

set_option maxRecDepth 100000 in
set_option maxHeartbeats 3200000 in
theorem refSlRead_good (A : Option Addr) (c : Nat) (l : List UInt8) (w : World) (h : Bytes8 w A 244 c l) (hN15 : numS l ≤ 15) (hz : zeroB (l.drop (4 + 16 * numS l)) = true) :
    Calls Try.prog 10 #[.slice A 244 c] w (SlRd l w) := by
  have hl := h.len
  have hcap := h.cap
  have hmost := h.most
  have G := Lib.hid (refGet_any A 244 c l 0 4 w h (by omega))
  obtain ⟨e1, e2⟩ := slot_get4 (l := l) (by omega)
  rw [e1, e2] at G
  have HF := Lib.hid (formS_zero hl hN15 hz)
  have hd : decide ((15 : Int) < (numS l : Int)) = false := by simp; omega
  obtain ⟨b, off, rfl, _, _⟩ := h.row.lit (by rw [u8s_length]; omega)
  obtain ⟨P, hP⟩ : ∃ P, P = 4 + 16 * numS l := ⟨_, rfl⟩
  rw [← hP] at hz
  have hP2 : P ≤ 244 := by omega
  have f1 : (4 : Int) + 16 * (numS l : Int) = (P : Int) := by omega
  have ZZ := Lib.hid (sl_rest h P hP2 hz)
  have HB := Lib.hid h
  have HL := Lib.hid hl
  clear h hl e1 e2 hz hP
  generalize hN : numS l = N at *
  have HN := Lib.hid hN
  clear hN
  have fin : c = P ∨ ¬ c = P := by omega
  rcases fin with hcs | hcs
  · obtain ⟨hP4, Z0⟩ := ZZ.out.1 hcs
    have Z := Lib.hid Z0
    subst hcs
    subst hP4
    clear ZZ Z0
    go_enter Try.func10, Try.ntmps10
    go_wp2_with (first
      | (go_at_call 20; (with_reducible refine (G.out).mono ?_); rintro e w' ⟨rfl, rfl⟩)
      | (go_at_call 21; (with_reducible refine (Z.out).mono ?_); rintro e w' ⟨rfl, rfl⟩))
    clear G Z hd
    go_loopw [6, 7] (fun v i wr => ∃ k : Nat, k ≤ N ∧ i = .int .i64 k ∧ Hid (wr.ownsRow w.heap.size 38 3 v k (triC (gotP l k))) ∧ Hid (∀ q, q < k → okR (sltAt10 l q) slotS = true) ∧ w.heap.size ≤ wr.heap.size ∧ Hid (Below w.heap.size w wr)) (fun _ i _ => N - (intOf i).toNat)
    case atStart => exact ⟨0, by omega, rfl, World.ownsRow_nil _ _ _ _, fun q hq => by omega, Nat.le_refl _, Below.refl _ _⟩
    case round =>
      obtain ⟨k, hk, rfl, hown, hT, hs, hbel⟩ := hrel
      by_cases hlt : k < N
      · obtain ⟨p, hp⟩ : ∃ p, p = 4 + 16 * k := ⟨_, rfl⟩
        obtain ⟨q, hq⟩ : ∃ q, q = p + 16 := ⟨_, rfl⟩
        have g1 : (4 : Int) + 16 * (k : Int) = (p : Int) := by omega
        have g2 : (20 : Int) + 16 * (k : Int) = (q : Int) := by omega
        have g3 : q ≤ 244 := by omega
        have g4 : p ≤ q := by omega
        have g5 : ¬ 244 = p := by omega
        have g6 : q - p = 16 := by omega
        have hVb := slot_sub (HB.out.below hbel.out) p 16 (244 - p) (by omega) (by omega) (by omega)
        have hse : (l.drop p).take 16 = sltAt10 l k := by rw [hp]; rfl
        rw [hse] at hVb
        have cvs := run_str hVb
        have h16 : (sltAt10 l k).length = 16 := by rw [sltAt10, List.length_take, List.length_drop, HL.out]; omega
        have hE := okR_slot h16
        have RS : Hid (∀ W, Calls Try.prog 22 #[.string ⟨(sltAt10 l k).toArray⟩] W fun e w' => e = .returned (.tuple #[.agg #[.int .i64 (rdV (sltAt10 l k) slotS 0), .int .i64 (rdV (sltAt10 l k) slotS 1), .int .i64 (rdV (sltAt10 l k) slotS 2)], .int .i64 (rdE (sltAt10 l k) slotS)]) ∧ Below W.heap.size W w') := fun W => refReadSlot_any8 W (sltAt10 l k) (by omega)
        have NO : Hid (okR (sltAt10 l k) slotS = false → readSE10 l = 2 ∧ readSL10 l = []) := fun e => got_bad HF.out (by rw [HN.out]; exact hlt) e
        have YES : Hid (okR (sltAt10 l k) slotS = true → ∀ q, q < k + 1 → okR (sltAt10 l q) slotS = true) := fun e q hq => by
          by_cases hqe : q = k
          · subst hqe; exact e
          · exact hT.out q (by omega)
        have HR : Hid (rdE (sltAt10 l k) slotS = 0 → triC (gotP l (k + 1)) = triC (gotP l k) ++ [.int .i64 (rdV (sltAt10 l k) slotS 0), .int .i64 (rdV (sltAt10 l k) slotS 1), .int .i64 (rdV (sltAt10 l k) slotS 2)]) := fun e => gotP_step l k (sltR_rd e)
        clear hVb hse hp hq h16
        cases ho : okR (sltAt10 l k) slotS with
        | false =>
          obtain ⟨r1, r2⟩ := NO.out ho
          have R1 := Lib.hid r1
          have R2 := Lib.hid r2
          rw [if_neg (by rw [ho]; decide)] at hE
          rw [hE] at RS
          clear ho hE HR NO YES r1 r2
          generalize rdV (sltAt10 l k) slotS 0 = x0 at *
          generalize rdV (sltAt10 l k) slotS 1 = x1 at *
          generalize rdV (sltAt10 l k) slotS 2 = x2 at *
          generalize sltAt10 l k = sk at *
          go_wp2_with (go_at_call 22; (with_reducible refine (RS.out _).mono ?_); rintro e w3 ⟨rfl, hb3⟩; have HB3 := Lib.hid (hbel.out.trans (hb3.mono hs)); clear hb3)
          go_ret2
          exact ⟨none, 0, 0, by rw [R1.out]; rfl, by rw [R2.out]; exact Trs.nil _, HB3.out.alloc HB3.out.size _⟩
        | true =>
          have HY := Lib.hid (YES.out ho)
          rw [if_pos ho] at hE
          have HR2 := Lib.hid (HR.out hE)
          rw [hE] at RS
          clear ho hE HR NO YES
          generalize rdV (sltAt10 l k) slotS 0 = x0 at *
          generalize rdV (sltAt10 l k) slotS 1 = x1 at *
          generalize rdV (sltAt10 l k) slotS 2 = x2 at *
          have HY2 : Hid (∀ q, q < k + 1 → okR (sltAt10 l q) slotS = true) := HY.out
          clear HY
          generalize hsk : sltAt10 l k = sk at RS cvs
          clear hsk
          go_wp2_with (first
            | (go_at_call 22; (with_reducible refine (RS.out _).mono ?_); rintro e w3 ⟨rfl, hb3⟩; obtain ⟨t1, t2, tb⟩ := two_new8 w3 (.cells #[.int .i64 x0, .int .i64 x1, .int .i64 x2] 38) (.cells #[.int .i64 x0, .int .i64 x1, .int .i64 x2] 38); have hs3 : w.heap.size ≤ ((w3.alloc (.cells #[.int .i64 x0, .int .i64 x1, .int .i64 x2] 38)).alloc (.cells #[.int .i64 x0, .int .i64 x1, .int .i64 x2] 38)).heap.size := (by have := hb3.size; have := tb.size; omega); have HO3 := own_below (own_below hown hb3) tb; have HR3 := Lib.hid (Row.of_block (xs := [.int .i64 x0, .int .i64 x1, .int .i64 x2]) t2); have HB3 := Lib.hid ((hbel.out.trans (hb3.mono hs)).trans (tb.mono (Nat.le_trans hs hb3.size))); clear hb3 tb t1 t2)
            | (at_builtin; go_must (refine wpList_append_rowS _ rfl (.tmp 49) (.tmp 51) 22 rfl w.heap.size 38 3 _ 24 Try.underlying22 info_slot rfl (by omega) u6 k _ rfl HO3 hs3 (some ⟨w3.heap.size + 1, 0, none⟩) [.int .i64 x0, .int .i64 x1, .int .i64 x2] 1 1 rfl rfl HR3.out (by simp [Value.oneCell']) (by omega) (by omega) ?_); intro v5 w5 hown5 hs5 hb5))
          go_roundw
          case rel => exact ⟨k + 1, by omega, by go_num, by rw [HR2.out]; exact hown5, HY2.out, hs5, HB3.out.trans hb5⟩
          case measure => simp [intOf]; omega
      · obtain rfl : k = N := by omega
        obtain ⟨r1, r2⟩ := got_all HF.out HN.out hT.out
        have R1 := Lib.hid r1
        have R2 := Lib.hid r2
        obtain ⟨A', c', rfl, hTr⟩ := Trs.of_own hown.out
        have HTr := Lib.hid hTr
        clear r1 r2 hown hTr hT hk hlt
        go_wp2
        go_ret2
        exact ⟨A', _, c', by rw [R1.out]; rfl, by rw [R2.out]; exact HTr.out, hbel.out⟩
  · have Z := Lib.hid (ZZ.out.2 hcs)
    clear ZZ
    go_enter Try.func10, Try.ntmps10
    go_wp2_with (first
      | (go_at_call 20; (with_reducible refine (G.out).mono ?_); rintro e w' ⟨rfl, rfl⟩)
      | (go_at_call 21; (with_reducible refine (Z.out).mono ?_); rintro e w' ⟨rfl, rfl⟩))
    clear G Z hd
    go_loopw [6, 7] (fun v i wr => ∃ k : Nat, k ≤ N ∧ i = .int .i64 k ∧ Hid (wr.ownsRow w.heap.size 38 3 v k (triC (gotP l k))) ∧ Hid (∀ q, q < k → okR (sltAt10 l q) slotS = true) ∧ w.heap.size ≤ wr.heap.size ∧ Hid (Below w.heap.size w wr)) (fun _ i _ => N - (intOf i).toNat)
    case atStart => exact ⟨0, by omega, rfl, World.ownsRow_nil _ _ _ _, fun q hq => by omega, Nat.le_refl _, Below.refl _ _⟩
    case round =>
      obtain ⟨k, hk, rfl, hown, hT, hs, hbel⟩ := hrel
      by_cases hlt : k < N
      · obtain ⟨p, hp⟩ : ∃ p, p = 4 + 16 * k := ⟨_, rfl⟩
        obtain ⟨q, hq⟩ : ∃ q, q = p + 16 := ⟨_, rfl⟩
        have g1 : (4 : Int) + 16 * (k : Int) = (p : Int) := by omega
        have g2 : (20 : Int) + 16 * (k : Int) = (q : Int) := by omega
        have g3 : q ≤ c := by omega
        have g4 : p ≤ q := by omega
        have g5 : ¬ c = p := by omega
        have g6 : q - p = 16 := by omega
        have hVb := slot_sub (HB.out.below hbel.out) p 16 (c - p) (by omega) (by omega) (by omega)
        have hse : (l.drop p).take 16 = sltAt10 l k := by rw [hp]; rfl
        rw [hse] at hVb
        have cvs := run_str hVb
        have h16 : (sltAt10 l k).length = 16 := by rw [sltAt10, List.length_take, List.length_drop, HL.out]; omega
        have hE := okR_slot h16
        have RS : Hid (∀ W, Calls Try.prog 22 #[.string ⟨(sltAt10 l k).toArray⟩] W fun e w' => e = .returned (.tuple #[.agg #[.int .i64 (rdV (sltAt10 l k) slotS 0), .int .i64 (rdV (sltAt10 l k) slotS 1), .int .i64 (rdV (sltAt10 l k) slotS 2)], .int .i64 (rdE (sltAt10 l k) slotS)]) ∧ Below W.heap.size W w') := fun W => refReadSlot_any8 W (sltAt10 l k) (by omega)
        have NO : Hid (okR (sltAt10 l k) slotS = false → readSE10 l = 2 ∧ readSL10 l = []) := fun e => got_bad HF.out (by rw [HN.out]; exact hlt) e
        have YES : Hid (okR (sltAt10 l k) slotS = true → ∀ q, q < k + 1 → okR (sltAt10 l q) slotS = true) := fun e q hq => by
          by_cases hqe : q = k
          · subst hqe; exact e
          · exact hT.out q (by omega)
        have HR : Hid (rdE (sltAt10 l k) slotS = 0 → triC (gotP l (k + 1)) = triC (gotP l k) ++ [.int .i64 (rdV (sltAt10 l k) slotS 0), .int .i64 (rdV (sltAt10 l k) slotS 1), .int .i64 (rdV (sltAt10 l k) slotS 2)]) := fun e => gotP_step l k (sltR_rd e)
        clear hVb hse hp hq h16
        cases ho : okR (sltAt10 l k) slotS with
        | false =>
          obtain ⟨r1, r2⟩ := NO.out ho
          have R1 := Lib.hid r1
          have R2 := Lib.hid r2
          rw [if_neg (by rw [ho]; decide)] at hE
          rw [hE] at RS
          clear ho hE HR NO YES r1 r2
          generalize rdV (sltAt10 l k) slotS 0 = x0 at *
          generalize rdV (sltAt10 l k) slotS 1 = x1 at *
          generalize rdV (sltAt10 l k) slotS 2 = x2 at *
          generalize sltAt10 l k = sk at *
          go_wp2_with (go_at_call 22; (with_reducible refine (RS.out _).mono ?_); rintro e w3 ⟨rfl, hb3⟩; have HB3 := Lib.hid (hbel.out.trans (hb3.mono hs)); clear hb3)
          go_ret2
          exact ⟨none, 0, 0, by rw [R1.out]; rfl, by rw [R2.out]; exact Trs.nil _, HB3.out.alloc HB3.out.size _⟩
        | true =>
          have HY := Lib.hid (YES.out ho)
          rw [if_pos ho] at hE
          have HR2 := Lib.hid (HR.out hE)
          rw [hE] at RS
          clear ho hE HR NO YES
          generalize rdV (sltAt10 l k) slotS 0 = x0 at *
          generalize rdV (sltAt10 l k) slotS 1 = x1 at *
          generalize rdV (sltAt10 l k) slotS 2 = x2 at *
          have HY2 : Hid (∀ q, q < k + 1 → okR (sltAt10 l q) slotS = true) := HY.out
          clear HY
          generalize hsk : sltAt10 l k = sk at RS cvs
          clear hsk
          go_wp2_with (first
            | (go_at_call 22; (with_reducible refine (RS.out _).mono ?_); rintro e w3 ⟨rfl, hb3⟩; obtain ⟨t1, t2, tb⟩ := two_new8 w3 (.cells #[.int .i64 x0, .int .i64 x1, .int .i64 x2] 38) (.cells #[.int .i64 x0, .int .i64 x1, .int .i64 x2] 38); have hs3 : w.heap.size ≤ ((w3.alloc (.cells #[.int .i64 x0, .int .i64 x1, .int .i64 x2] 38)).alloc (.cells #[.int .i64 x0, .int .i64 x1, .int .i64 x2] 38)).heap.size := (by have := hb3.size; have := tb.size; omega); have HO3 := own_below (own_below hown hb3) tb; have HR3 := Lib.hid (Row.of_block (xs := [.int .i64 x0, .int .i64 x1, .int .i64 x2]) t2); have HB3 := Lib.hid ((hbel.out.trans (hb3.mono hs)).trans (tb.mono (Nat.le_trans hs hb3.size))); clear hb3 tb t1 t2)
            | (at_builtin; go_must (refine wpList_append_rowS _ rfl (.tmp 49) (.tmp 51) 22 rfl w.heap.size 38 3 _ 24 Try.underlying22 info_slot rfl (by omega) u6 k _ rfl HO3 hs3 (some ⟨w3.heap.size + 1, 0, none⟩) [.int .i64 x0, .int .i64 x1, .int .i64 x2] 1 1 rfl rfl HR3.out (by simp [Value.oneCell']) (by omega) (by omega) ?_); intro v5 w5 hown5 hs5 hb5))
          go_roundw
          case rel => exact ⟨k + 1, by omega, by go_num, by rw [HR2.out]; exact hown5, HY2.out, hs5, HB3.out.trans hb5⟩
          case measure => simp [intOf]; omega
      · obtain rfl : k = N := by omega
        obtain ⟨r1, r2⟩ := got_all HF.out HN.out hT.out
        have R1 := Lib.hid r1
        have R2 := Lib.hid r2
        obtain ⟨A', c', rfl, hTr⟩ := Trs.of_own hown.out
        have HTr := Lib.hid hTr
        clear r1 r2 hown hTr hT hk hlt
        go_wp2
        go_ret2
        exact ⟨A', _, c', by rw [R1.out]; rfl, by rw [R2.out]; exact HTr.out, hbel.out⟩

theorem refSlRead_any (A : Option Addr) (n c : Nat) (l : List UInt8) (w : World) (h : Bytes8 w A n c l) :
    Calls Try.prog 10 #[.slice A n c] w (SlRd l w) := by
  by_cases hn : n = 244
  · subst hn
    by_cases hN : numS l ≤ 15
    · cases hz : zeroB (l.drop (4 + 16 * numS l)) with
      | false => exact refSlRead_zero A c l w h hN hz
      | true => exact refSlRead_good A c l w h hN hz
    · exact refSlRead_many A c l w h (by omega)
  · exact refSlRead_len A n c l w h hn

end Go.Proofs.Ytolapeocdaknjaa
