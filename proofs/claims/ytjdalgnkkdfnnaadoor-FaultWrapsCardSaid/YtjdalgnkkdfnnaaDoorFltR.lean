/-
  The reference's Digits.
-/
import Derived.Test.YtjdalgnkkdfnnaaDoorFltQ
import Derived.Deep.DeepFit
import Derived.Deep.DeepMust
namespace Go.Proofs.YtjdalgnkkdfnnaaDoor
open Go.RowKit
set_option linter.unusedVariables false
set_option linter.unusedSimpArgs false

theorem dd_small (u : Nat) (h : u < 10) : Lib.decDigits u = [UInt8.ofNat (48 + u)] := by rw [Lib.decDigits, dif_pos h]
theorem dd_big (u : Nat) (h : ¬ u < 10) : Lib.decDigits u = Lib.decDigits (u / 10) ++ [UInt8.ofNat (48 + u % 10)] := by rw [Lib.decDigits, dif_neg h]
theorem dd_len (u : Nat) (h : u ≤ 9223372036854775808) : (Lib.decDigits u).length ≤ 21 := by
  have := Lib.itoa_length_le (-(u : Int)) (by omega) (by omega)
  by_cases h0 : u = 0
  · subst h0; rw [dd_small 0 (by omega)]; simp
  · rw [Lib.itoa_neg u (by omega)] at this
    simp only [List.length_cons] at this
    omega

/-- a digit as a text -/
theorem run_digit (d : Nat) (hd : d < 10) (w : World) : (convert 54 9 (.slice (some ⟨w.heap.size, 0, none⟩) 1 1)).run Tryd.prog (w.alloc (.cells #[.int .u8 (48 + (d : Int))] 5)) = .ok (str [UInt8.ofNat (48 + d)]) (w.alloc (.cells #[.int .u8 (48 + (d : Int))] 5)) := by
  have hB : Bytes8 (w.alloc (.cells #[.int .u8 (48 + (d : Int))] 5)) (some ⟨w.heap.size, 0, none⟩) 1 1 [UInt8.ofNat (48 + d)] := by
    refine ⟨rfl, Nat.le_refl _, by omega, ?_⟩
    have h := Row.of_block (xs := [Value.int .u8 (48 + (d : Int))]) (MapKept.heap_alloc w (.cells #[.int .u8 (48 + (d : Int))] 5)).1
    have e : u8s [UInt8.ofNat (48 + d)] = [Value.int .u8 (48 + (d : Int))] := by
      simp only [u8s, List.map_cons, List.map_nil]
      congr 2
      simp
      omega
    rw [e]; exact h
  exact run_str hB

set_option maxRecDepth 100000 in
set_option maxHeartbeats 2000000 in
/-- at a number that is not negative -/
theorem Digits_nat (u : Nat) (hu : u ≤ 9223372036854775807) (w : World) :
    Calls Tryd.prog 19 #[.int .i64 (u : Int)] w fun e w' => e = .returned (str (Lib.decDigits u)) ∧ Below w.heap.size w w' := by
  have rd := run_digit
  have E0 : Hid (Lib.decDigits u ++ [] = Lib.decDigits u) := List.append_nil _
  have hs0 : Value.string ⟨#[]⟩ = str [] := rfl
  obtain ⟨D, hD⟩ : ∃ D, D = Lib.decDigits u := ⟨_, rfl⟩
  rw [← hD]
  have E0 : Hid (Lib.decDigits u ++ [] = D) := by rw [hD]; exact E0
  have HDl : Hid (D.length ≤ 21) := by rw [hD]; exact dd_len u (by omega)
  clear hD
  go_enter Tryd.func19, Tryd.ntmps19
  go_wp2
  go_loopw [0, 3] (fun a sv wr => ∃ (v : Nat) (t : List UInt8), v ≤ 9223372036854775807 ∧ a = .int .i64 (v : Int) ∧ sv = str t ∧ Hid (Lib.decDigits v ++ t = D) ∧ Hid (Below w.heap.size w wr)) (fun a _ _ => (intOf a).toNat)
  case atStart => exact ⟨u, [], hu, rfl, rfl, E0, Below.refl _ _⟩
  case round =>
    obtain ⟨v, t, hv, rfl, rfl, HD, HB⟩ := hrel
    have HL := Lib.hid (dd_len v (by omega))
    by_cases h10 : v < 10
    · have hd1 := dd_small v h10
      rw [hd1] at HD
      have r1 := rd v h10
      have hlen : t.length ≤ 100 := by
        have := HDl.out
        rw [← HD.out] at this
        simp only [List.length_append, List.length_cons, List.length_nil] at this
        omega
      have ad := run_add [UInt8.ofNat (48 + v)] t (by simp only [List.length_cons, List.length_nil]; omega)
      have hw : (48 + (v : Int)) % 256 = 48 + v := by omega
      clear hd1 hlen rd
      generalize [UInt8.ofNat (48 + v)] = dg at *
      go_wp2
      go_ret
      exact ⟨by rw [← HD.out]; rfl, HB.out.alloc HB.out.size _⟩
    · have hd1 := dd_big v h10
      rw [hd1] at HD
      have hq : v % 10 < 10 := Nat.mod_lt _ (by omega)
      have r1 := rd (v % 10) hq
      have hlen : t.length ≤ 100 := by
        have := HDl.out
        rw [← HD.out] at this
        simp only [List.length_append, List.length_cons, List.length_nil] at this
        omega
      have ad := run_add [UInt8.ofNat (48 + v % 10)] t (by simp only [List.length_cons, List.length_nil]; omega)
      have hm : ((v % 10 : Nat) : Int) = (v : Int) % 10 := by omega
      simp only [hm] at r1
      have hb1 : 0 ≤ (v : Int) % 10 := by omega
      have hb2 : (v : Int) % 10 ≤ 9 := by omega
      clear hm
      have hdv : (v : Int) / 10 = ((v / 10 : Nat) : Int) := by omega
      have HD2 : Hid (Lib.decDigits (v / 10) ++ ([UInt8.ofNat (48 + v % 10)] ++ t) = D) := by rw [← HD.out, List.append_assoc]; rfl
      have hvq : v / 10 ≤ 9223372036854775807 := by omega
      have HQ : Hid (v / 10 < v) := by show v / 10 < v; omega
      clear hd1 hlen HD
      generalize [UInt8.ofNat (48 + v % 10)] = dg at *
      generalize dg ++ t = t2 at *
      have HDV := Lib.hid hdv
      clear hdv
      go_wp2
      go_roundw
      case rel => exact ⟨v / 10, t2, hvq, by rw [HDV.out], rfl, HD2, HB.out.alloc HB.out.size _⟩
      case measure =>
        have := HQ.out
        have := HDV.out
        simp only [intOf]
        omega

set_option maxRecDepth 100000 in
set_option maxHeartbeats 2000000 in
/-- at a number of one digit, below nought -/
theorem Digits_neg1 (u : Nat) (h1 : 1 ≤ u) (h9 : u ≤ 9) (w : World) :
    Calls Tryd.prog 19 #[.int .i64 (-(u : Int))] w fun e w' => e = .returned (str (45 :: Lib.decDigits u)) ∧ Below w.heap.size w w' := by
  have DN := Lib.hid (fun W => Digits_nat u (by omega) W)
  have hl := dd_len u (by omega)
  have ad := run_add_l ⟨#[45]⟩ (Lib.decDigits u) (by simp; omega)
  have e1 : ([45] : List UInt8) ++ Lib.decDigits u = 45 :: Lib.decDigits u := rfl
  have ad2 : ∀ w, (binOp .add 9 (.string ⟨#[45]⟩) (str (Lib.decDigits u))).run Tryd.prog w = .ok (str (45 :: Lib.decDigits u)) w := ad
  clear ad hl e1
  generalize 45 :: Lib.decDigits u = D2 at *
  generalize Lib.decDigits u = D at *
  obtain ⟨x, hx⟩ : ∃ x : Int, x = -(u : Int) := ⟨_, rfl⟩
  have hx1 : x ≤ -1 := by omega
  have hx9 : -9 ≤ x := by omega
  have hu : (u : Int) = -x := by omega
  rw [← hx]
  rw [hu] at DN
  clear hx hu h1 h9
  go_enter Tryd.func19, Tryd.ntmps19
  go_wp2_with (go_at_call 19; (with_reducible refine (DN.out _).mono ?_); rintro e w1 ⟨rfl, hb⟩)
  go_ret
  exact ⟨rfl, hb⟩

set_option maxRecDepth 100000 in
set_option maxHeartbeats 2000000 in
/-- at any number below nought -/
theorem Digits_neg (w : World) : ∀ (k u : Nat), u ≤ k → 1 ≤ u → u ≤ 9223372036854775808 → ∀ w : World,
    Calls Tryd.prog 19 #[.int .i64 (-(u : Int))] w fun e w' => e = .returned (str (45 :: Lib.decDigits u)) ∧ Below w.heap.size w w'
  | 0, u, hk, h1, _, w => absurd h1 (by omega)
  | k + 1, u, hk, h1, hmax, w => by
    by_cases h9 : u ≤ 9
    · exact Digits_neg1 u h1 h9 w
    · have D1 := Lib.hid (fun W => Digits_neg w k (u / 10) (by omega) (by omega) (by omega) W)
      have D2 := Lib.hid (fun W => Digits_nat (u % 10) (by omega) W)
      have hs := dd_small (u % 10) (by omega)
      have hb := dd_big u (by omega)
      have hl := dd_len u hmax
      have hl1 := dd_len (u / 10) (by omega)
      rw [hs] at D2
      have ad := run_add (45 :: Lib.decDigits (u / 10)) [UInt8.ofNat (48 + u % 10)] (by simp only [List.length_cons, List.length_nil]; omega)
      have e1 : (45 :: Lib.decDigits (u / 10)) ++ [UInt8.ofNat (48 + u % 10)] = 45 :: Lib.decDigits u := by rw [hb]; rfl
      rw [e1] at ad
      clear e1 hs hb hl hl1
      generalize 45 :: Lib.decDigits (u / 10) = T1 at *
      generalize 45 :: Lib.decDigits u = T at *
      generalize [UInt8.ofNat (48 + u % 10)] = T2 at *
      obtain ⟨x, hx⟩ : ∃ x : Int, x = -(u : Int) := ⟨_, rfl⟩
      have hx1 : x ≤ -10 := by omega
      have hx9 : -9223372036854775808 ≤ x := by omega
      have hq : -((u / 10 : Nat) : Int) = Int.tdiv x 10 := by rw [hx, Int.neg_tdiv]; rfl
      have hr : ((u % 10 : Nat) : Int) = -(Int.tmod x 10) := by rw [hx, Int.neg_tmod, Int.neg_neg]; rfl
      rw [← hx]
      rw [hr] at D2
      rw [hq] at D1
      have hr1 : Int.tmod x 10 ≤ 0 := by omega
      have hr2 : -9 ≤ Int.tmod x 10 := by omega
      clear hx hq hr h1 h9 hk hmax
      go_enter Tryd.func19, Tryd.ntmps19
      go_wp2_with (go_at_call 19; first
        | ((with_reducible refine (D1.out _).mono ?_); rintro e w1 ⟨rfl, hb1⟩; have H1 := Lib.hid hb1; clear hb1)
        | ((with_reducible refine (D2.out _).mono ?_); rintro e w2 ⟨rfl, hb2⟩))
      go_ret
      exact ⟨rfl, H1.out.trans (hb2.mono H1.out.size)⟩
end Go.Proofs.YtjdalgnkkdfnnaaDoor
