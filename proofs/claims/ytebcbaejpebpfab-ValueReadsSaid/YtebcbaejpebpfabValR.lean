/-
  Layer 8's reference: ReadMap, ReadRoot, ReadCount.
-/
import Derived.Test.YtebcbaejpebpfabValQ
import Derived.Test.YtebcbaejpebpfabCodeD
namespace Go.Proofs.Ytebcbaejpebpfab
open Go.RowKit
set_option linter.unusedVariables false
set_option linter.unusedSimpArgs false

/-- what is read of one number of four bytes -/
theorem rd_four {s : List UInt8} {lo hi : Int} (h : s.length = 4) : rdE s [(4, lo, hi)] = (if inB (leN s) lo hi then 0 else 2) ∧ rdV s [(4, lo, hi)] 0 = (if inB (leN s) lo hi then (leN s : Int) else 0) := by
  have ht : s.take 4 = s := List.take_of_length_le (by omega)
  have hp : psI s [(4, lo, hi)] = [(leN s : Int)] := by simp [psI, partsN, ht]
  have hk : okR s [(4, lo, hi)] = inB (leN s) lo hi := by
    rw [okR_rdL, rdL, hp]
    simp [okP]
  have he : rdE s [(4, lo, hi)] = (if inB (leN s) lo hi then 0 else 2) := by
    rw [rdE, if_neg (by rw [h]; simp [sizeN]), hk]
  refine ⟨he, ?_⟩
  rw [rdV, he, hp]
  cases inB (leN s) lo hi <;> rfl
theorem rd_len {s : List UInt8} {ns : List NumS} (h : s.length ≠ sizeN ns) : rdE s ns = 7 ∧ ∀ k, rdV s ns k = 0 := by
  have he : rdE s ns = 7 := by rw [rdE, if_pos h]
  exact ⟨he, fun k => by rw [rdV, if_neg (by rw [he]; omega)]⟩

theorem val_small {l : List UInt8} {k : Nat} (hk : k ≤ 4) (hl : l.length = k) : leN l < 4294967296 := by
  have := leN_lt l
  have h2 : 256 ^ l.length ≤ 256 ^ 4 := Nat.pow_le_pow_right (by omega) (by omega)
  omega
theorem val_get4 {l : List UInt8} (hl : l.length = 4) : getE l 0 4 = 0 ∧ getN l 0 4 = (leN l : Int) := by
  have hr : roomE l.length 0 4 = 0 := by
    rw [hl]
    rfl
  have hp : part l 0 4 = l := by
    simp only [part]
    exact List.take_of_length_le (by rw [List.length_drop, hl]; decide)
  have hs := val_small (Nat.le_refl 4) hl
  have he : getE l 0 4 = 0 := by rw [getE, if_pos hr, hp, if_neg (by omega)]
  exact ⟨he, by rw [getN, if_pos he, hp]⟩

set_option maxRecDepth 100000 in
set_option maxHeartbeats 1600000 in
theorem four_any (w : World) (s : List UInt8) (hs : s.length ≤ 1000) (lo hi : Int) (h1 : i64b lo) (h2 : i64b hi) :
    Calls Try.prog 39 #[.string ⟨s.toArray⟩, .int .i64 lo, .int .i64 hi] w fun e w' => e = .returned (.tuple #[.int .i64 (rdV s [(4, lo, hi)] 0), .int .i64 (rdE s [(4, lo, hi)])]) ∧ Below w.heap.size w w' := by
  by_cases hl : s.length = 4
  · obtain ⟨e1, e2⟩ := rd_four (lo := lo) (hi := hi) hl
    obtain ⟨g1, g2⟩ := val_get4 hl
    have hsm := val_small (Nat.le_refl 4) hl
    obtain ⟨c', W1, hcv, hB, hbel⟩ := conv_bytes s w (by omega)
    have GT : Hid (Calls Try.prog 37 #[.slice (some ⟨w.heap.size, 0, none⟩) 4 c', .int .i64 0, .int .i64 4] W1 fun e w' => e = .returned (.tuple #[.int .i64 (leN s : Int), .int .i64 0]) ∧ W1 = w') := by
      have := refGet_any _ _ _ s 0 4 W1 hB (by omega)
      rw [g1, g2, hl] at this
      exact this
    rw [hl] at hcv
    have hne : ((s.length : Int) != 4) = false := by rw [hl]; rfl
    have HBel := Lib.hid hbel
    rw [e1, e2]
    clear e1 e2 g1 g2 hB hbel hl hs
    cases hin : inB (leN s) lo hi with
    | false =>
      have IN := Lib.hid (fun W => refIn_any8 (leN s) lo hi W false hin)
      clear hin
      generalize leN s = x at *
      go_enter Try.func39, Try.ntmps39
      go_wp2_with (first
        | (go_at_call 37; (with_reducible refine (GT.out).mono ?_); rintro e w' ⟨rfl, rfl⟩)
        | (go_at_call 30; (with_reducible refine (IN.out _).mono ?_); rintro e w' ⟨rfl, rfl⟩))
      go_ret2
      exact ⟨rfl, HBel.out⟩
    | true =>
      have IN := Lib.hid (fun W => refIn_any8 (leN s) lo hi W true hin)
      clear hin
      generalize leN s = x at *
      go_enter Try.func39, Try.ntmps39
      go_wp2_with (first
        | (go_at_call 37; (with_reducible refine (GT.out).mono ?_); rintro e w' ⟨rfl, rfl⟩)
        | (go_at_call 30; (with_reducible refine (IN.out _).mono ?_); rintro e w' ⟨rfl, rfl⟩))
      go_ret2
      exact ⟨rfl, HBel.out⟩
  · obtain ⟨e1, e2⟩ := rd_len (s := s) (ns := [(4, lo, hi)]) (by simpa [sizeN] using hl)
    rw [e1, e2 0]
    have hne : ((s.length : Int) != 4) = true := by rw [bne_iff_ne]; omega
    clear e1 e2 hl hs
    go_enter Try.func39, Try.ntmps39
    go_wp2
    go_ret2
    exact ⟨rfl, Below.refl _ _⟩

theorem refReadRoot_any8 (w : World) (s : List UInt8) (hs : s.length ≤ 1000) :
    Calls Try.prog 25 #[.string ⟨s.toArray⟩] w fun e w' => e = .returned (.tuple #[.int .i64 (rdV s rootS 0), .int .i64 (rdE s rootS)]) ∧ Below w.heap.size w w' := by
  have F := Lib.hid (four_any w s hs 1 14399 (by simp [i64b]) (by simp [i64b]))
  change Hid (Calls Try.prog 39 #[.string ⟨s.toArray⟩, .int .i64 1, .int .i64 14399] w fun e w' => e = .returned (.tuple #[.int .i64 (rdV s rootS 0), .int .i64 (rdE s rootS)]) ∧ Below w.heap.size w w') at F
  generalize rdV s rootS 0 = v at *
  generalize rdE s rootS = e0 at *
  go_enter Try.func25, Try.ntmps25
  go_wp2_with (go_at_call 39; (with_reducible refine (F.out).mono ?_); rintro e w1 ⟨rfl, hb1⟩)
  go_ret2
  exact ⟨rfl, hb1⟩
theorem refReadCount_any8 (w : World) (s : List UInt8) (hs : s.length ≤ 1000) :
    Calls Try.prog 27 #[.string ⟨s.toArray⟩] w fun e w' => e = .returned (.tuple #[.int .i64 (rdV s countS 0), .int .i64 (rdE s countS)]) ∧ Below w.heap.size w w' := by
  have F := Lib.hid (four_any w s hs 3 2147483647 (by simp [i64b]) (by simp [i64b]))
  change Hid (Calls Try.prog 39 #[.string ⟨s.toArray⟩, .int .i64 3, .int .i64 2147483647] w fun e w' => e = .returned (.tuple #[.int .i64 (rdV s countS 0), .int .i64 (rdE s countS)]) ∧ Below w.heap.size w w') at F
  generalize rdV s countS 0 = v at *
  generalize rdE s countS = e0 at *
  go_enter Try.func27, Try.ntmps27
  go_wp2_with (go_at_call 39; (with_reducible refine (F.out).mono ?_); rintro e w1 ⟨rfl, hb1⟩)
  go_ret2
  exact ⟨rfl, hb1⟩

/-- what is read of a mapping -/
theorem rd_map {s : List UInt8} (h : s.length = 8) : (leN s < 9223372036854775808 → leN s / 16777216 < 65536 → rdE s mapS = 0 ∧ rdV s mapS 1 = ((leN s / 16777216 : Nat) : Int) ∧ rdV s mapS 0 = ((leN s % 16777216 : Nat) : Int)) ∧
    ((9223372036854775808 ≤ leN s ∨ 65536 ≤ leN s / 16777216) → rdE s mapS = 2 ∧ rdV s mapS 1 = 0 ∧ rdV s mapS 0 = 0) := by
  have h1 := leN_split s 3 (by omega)
  have h2 := leN_lt (s.take 3)
  have hl3 : (s.take 3).length = 3 := by rw [List.length_take]; omega
  rw [hl3] at h2
  have ht : (s.drop 3).take 5 = s.drop 3 := List.take_of_length_le (by rw [List.length_drop]; omega)
  have hp : psI s mapS = [(leN (s.take 3) : Int), (leN (s.drop 3) : Int)] := by simp [psI, mapS, partsN, ht]
  have hk : okR s mapS = (inB (leN (s.take 3)) 0 16777215 && inB (leN (s.drop 3)) 0 65535) := by
    rw [okR_rdL, rdL, hp]
    simp [okP, mapS]
  have hi3 : inB (leN (s.take 3)) 0 16777215 = true := by rw [inB_iff]; omega
  have hd : leN s / 16777216 = leN (s.drop 3) := by omega
  have hm : leN s % 16777216 = leN (s.take 3) := by omega
  rw [hi3, Bool.true_and] at hk
  have he : rdE s mapS = if inB (leN (s.drop 3)) 0 65535 = true then 0 else 2 := by
    rw [rdE, if_neg (by rw [h]; simp [sizeN, mapS]), hk]
  constructor
  · intro ha hb
    have hin : inB (leN (s.drop 3)) 0 65535 = true := by rw [inB_iff]; omega
    rw [hin] at he
    have he0 : rdE s mapS = 0 := he
    rw [rdV, rdV, if_pos he0, if_pos he0, hp, hd, hm]
    exact ⟨he0, rfl, rfl⟩
  · intro ha
    have hin : inB (leN (s.drop 3)) 0 65535 = false := by rw [← Bool.not_eq_true, inB_iff]; omega
    rw [hin] at he
    have he0 : rdE s mapS = 2 := he
    have hn : ¬ rdE s mapS = 0 := by rw [he0]; omega
    rw [rdV, rdV, if_neg hn, if_neg hn]
    exact ⟨he0, rfl, rfl⟩

set_option maxRecDepth 100000 in
set_option maxHeartbeats 1600000 in
theorem refReadMap_any8 (w : World) (s : List UInt8) (hs : s.length ≤ 1000) :
    Calls Try.prog 19 #[.string ⟨s.toArray⟩] w fun e w' => e = .returned (.tuple #[.int .i64 (rdV s mapS 1), .int .i64 (rdV s mapS 0), .int .i64 (rdE s mapS)]) ∧ Below w.heap.size w w' := by
  by_cases hl : s.length = 8
  · obtain ⟨r1, r2⟩ := rd_map hl
    obtain ⟨g1, g2⟩ := val_get_in hl
    obtain ⟨c', W1, hcv, hB, hbel⟩ := conv_bytes s w (by omega)
    have GT : Hid (Calls Try.prog 37 #[.slice (some ⟨w.heap.size, 0, none⟩) 8 c', .int .i64 0, .int .i64 8] W1 fun e w' => e = .returned (.tuple #[.int .i64 (getN s 0 8), .int .i64 (getE s 0 8)]) ∧ W1 = w') := by
      have := refGet_any _ _ _ s 0 8 W1 hB (by omega)
      rw [hl] at this
      exact this
    rw [hl] at hcv
    have hne : ((s.length : Int) != 8) = false := by rw [hl]; rfl
    have HBel := Lib.hid hbel
    clear hB hbel hl hs
    by_cases hbig : leN s < 9223372036854775808
    · obtain ⟨q1, q2⟩ := g1 hbig
      rw [q1, q2] at GT
      have hx : leN s ≤ 9223372036854775807 := by omega
      obtain ⟨q, hq⟩ : ∃ q, leN s / 16777216 = q := ⟨_, rfl⟩
      obtain ⟨r, hr⟩ : ∃ r, leN s % 16777216 = r := ⟨_, rfl⟩
      have hq2 : (leN s : Int) / 16777216 = (q : Int) := by omega
      have hr2 : (leN s : Int) % 16777216 = (r : Int) := by omega
      have hq3 : (q : Int) ≤ 549755813887 := by omega
      have hr3 : (r : Int) ≤ 16777215 := by omega
      rw [hq, hr] at r1
      rw [hq] at r2
      by_cases hd : q < 65536
      · obtain ⟨e1, e2, e3⟩ := r1 hbig hd
        rw [e1, e2, e3]
        have hdd : decide ((65536 : Int) ≤ (q : Int)) = false := decide_eq_false (by omega)
        clear r1 r2 g1 g2 q1 q2 e1 e2 e3 hbig hd hq hr hx
        generalize leN s = x at *
        go_enter Try.func19, Try.ntmps19
        go_wp2_with (go_at_call 37; (with_reducible refine (GT.out).mono ?_); rintro e w' ⟨rfl, rfl⟩)
        go_ret3
        exact ⟨by rw [← hr2]; rfl, HBel.out⟩
      · obtain ⟨e1, e2, e3⟩ := r2 (Or.inr (by omega))
        rw [e1, e2, e3]
        have hdd : decide ((65536 : Int) ≤ (q : Int)) = true := decide_eq_true (by omega)
        clear r1 r2 g1 g2 q1 q2 e1 e2 e3 hbig hd hq hr hx
        generalize leN s = x at *
        go_enter Try.func19, Try.ntmps19
        go_wp2_with (go_at_call 37; (with_reducible refine (GT.out).mono ?_); rintro e w' ⟨rfl, rfl⟩)
        go_ret3
        exact ⟨rfl, HBel.out⟩
    · obtain ⟨q1, q2⟩ := g2 (by omega)
      rw [q1, q2] at GT
      obtain ⟨e1, e2, e3⟩ := r2 (Or.inl (by omega))
      rw [e1, e2, e3]
      clear r1 r2 g1 g2 q1 q2 e1 e2 e3 hbig
      go_enter Try.func19, Try.ntmps19
      go_wp2_with (go_at_call 37; (with_reducible refine (GT.out).mono ?_); rintro e w' ⟨rfl, rfl⟩)
      go_ret3
      exact ⟨rfl, HBel.out⟩
  · obtain ⟨e1, e2⟩ := rd_len (s := s) (ns := mapS) (by simpa [sizeN, mapS] using hl)
    rw [e1, e2 0, e2 1]
    have hne : ((s.length : Int) != 8) = true := by rw [bne_iff_ne]; omega
    clear e1 e2 hl hs
    go_enter Try.func19, Try.ntmps19
    go_wp2
    go_ret3
    exact ⟨rfl, Below.refl _ _⟩

end Go.Proofs.Ytebcbaejpebpfab
