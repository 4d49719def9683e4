/-
  Layer 12: adding any number, both counters; lives.
-/
import Derived.Test.YtojmhkdlaalifaaRefU
import Derived.Test.YtojmhkdlaalifaaCodeK
namespace Go.Proofs.Ytojmhkdlaalifaa
open Go.RowKit
set_option linter.unusedVariables false
set_option linter.unusedSimpArgs false

/-- what an addition answers, behind what was added before -/
def addR12 (N : Nat) (l : List Int) (k : Int) : Int := if hasB12 N k then (occ12 (keepR12 N (l ++ [k])) k : Int) else 0
def addE12 (N : Nat) (k : Int) : Int := if hasB12 N k then 0 else 3

theorem keepR12_bad {N : Nat} (l : List Int) {k : Int} (h : hasB12 N k = false) : keepR12 N (l ++ [k]) = keepR12 N l := keepR12_no l (hasB12_no h)
theorem cnt_occ (l : List Int) (k : Nat) : cntR12 l k = occ12 l (k : Int) := rfl

theorem Add12_any {B p g N : Nat} {l : List Int} (k : Int) (w : World) (h : Cnt w B p g (lstR12 N (keepR12 N l))) (hl : l.length ≤ 100000) :
    Calls Try.prog 10 #[.pointer (some ⟨p, 0, none⟩), .int .i64 k] w fun e w' => e = .returned (.tuple #[.int .i64 (addR12 N l k), .int .i64 (addE12 N k)]) ∧ Cnt w' B p g (lstR12 N (keepR12 N (l ++ [k]))) ∧ Kept g w w' := by
  unfold addR12 addE12
  have hN := lstR12_length N (keepR12 N l)
  cases hb : hasB12 N k with
  | false =>
    rw [if_neg (by decide), if_neg (by decide), keepR12_bad l hb]
    have := Add12_bad k w (Own12.of_cnt h) (by rw [hN]; exact hb)
    exact this.mono fun e w' ⟨h1, h2⟩ => by subst h2; exact ⟨h1, h, Kept.refl _ _⟩
  | true =>
    rw [if_pos rfl, if_pos rfl]
    obtain ⟨h1, h2⟩ := hasB12_yes hb
    obtain ⟨j, rfl⟩ := Int.eq_ofNat_of_zero_le h1
    have hj : j < N := by omega
    have hle : cntR12 (keepR12 N l) j ≤ 100000 := Nat.le_trans (cntR12_le _ _) (Nat.le_trans (keepR12_le _ _) hl)
    have e1 := lstR12_at (n := N) (l := keepR12 N l) (k := j) (by rw [hN]; exact hj)
    have := Add12_good j w h (by rw [hN]; exact hj) (by rw [e1]; omega)
    rw [e1] at this
    rw [keepR12_yes l hj, lstR12_push hj]
    have e2 : (occ12 (keepR12 N l ++ [(j : Int)]) (j : Int) : Int) = (cntR12 (keepR12 N l) j : Int) + 1 := by
      rw [← cnt_occ, cntR12_push, if_pos rfl]; omega
    rw [e2]
    exact this

theorem refAdd12_any {B q N : Nat} {v : Value} {l : List Int} (k : Int) (w : World) (h : RRef12 w B q v N (keepR12 N l)) (hB : B ≤ w.heap.size) (hl : l.length ≤ 100000) :
    Calls Try.prog 11 #[.pointer (some ⟨q, 0, none⟩), .int .i64 k] w fun e w' => ∃ v', e = .returned (.tuple #[.int .i64 (addR12 N l k), .int .i64 (addE12 N k)]) ∧ RRef12 w' B q v' N (keepR12 N (l ++ [k])) ∧ Below B w w' := by
  unfold addR12 addE12
  cases hb : hasB12 N k with
  | false =>
    rw [if_neg (by decide), if_neg (by decide), keepR12_bad l hb]
    exact (refAdd12_bad k w h (hasB12_no hb)).mono fun e w' ⟨h1, h2⟩ => by subst h2; exact ⟨v, h1, h, Below.refl _ _⟩
  | true =>
    rw [if_pos rfl, if_pos rfl]
    obtain ⟨h1, h2⟩ := hasB12_yes hb
    obtain ⟨j, rfl⟩ := Int.eq_ofNat_of_zero_le h1
    have hj : j < N := by omega
    rw [keepR12_yes l hj]
    exact refAdd12_good j w h hB hj (Nat.le_trans (keepR12_le _ _) hl)

theorem cntAt_occ (N : Nat) (l : List Int) (k : Int) : cntAt12 (lstR12 N (keepR12 N l)) k = (occ12 (keepR12 N l) k : Int) := by
  unfold cntAt12
  rw [lstR12_length]
  cases hb : hasB12 N k with
  | false =>
    rw [if_neg (by decide)]
    have : occ12 (keepR12 N l) k = 0 := by
      unfold occ12
      rw [List.count_eq_zero]
      intro hm
      obtain ⟨h1, h2⟩ := keepR12_mem hm
      rcases hasB12_no hb with h | h <;> omega
    rw [this]; rfl
  | true =>
    rw [if_pos rfl]
    obtain ⟨h1, h2⟩ := hasB12_yes hb
    obtain ⟨j, rfl⟩ := Int.eq_ofNat_of_zero_le h1
    have hj : j < (lstR12 N (keepR12 N l)).length := by rw [lstR12_length]; omega
    rw [show ((j : Int).toNat) = j by simp, List.getD_eq_getElem?_getD, List.getElem?_eq_getElem hj, Option.getD_some, lstR12_at, cnt_occ]

theorem sum_keep (N : Nat) (l : List Int) : (lstR12 N (keepR12 N l)).sum = ((keepR12 N l).length : Int) := lstR12_sum fun x hx => keepR12_mem hx

/-- the sums of the first k counts stay small -/
theorem sumR12_small {N : Nat} {l : List Int} (hl : l.length ≤ 100000) (hN : N ≤ 65536) : ∀ k, k ≤ (lstR12 N l).length → 0 ≤ sumR12 (lstR12 N l) k ∧ sumR12 (lstR12 N l) k ≤ 4611686018427387904 := by
  have key : ∀ k, k ≤ (lstR12 N l).length → 0 ≤ sumR12 (lstR12 N l) k ∧ sumR12 (lstR12 N l) k ≤ (k : Int) * 100000 := by
    intro k
    induction k with
    | zero => intro _; simp [sumR12]
    | succ k ih =>
      intro hk
      obtain ⟨h1, h2⟩ := ih (by omega)
      have hle := Nat.le_trans (cntR12_le l k) hl
      rw [sumR12_succ (by omega), lstR12_at]
      omega
  intro k hk
  obtain ⟨h1, h2⟩ := key k hk
  rw [lstR12_length] at hk
  omega

/-- 0, then 1, then 2 additions of item 1 -/
theorem lv_add {w : World} {B p g : Nat} {L L2 : List Int} (x : Int) (h : Cnt w B p g L) (hl : 1 < L.length) (hx : L[1] + 1 = x) (hb : -9223372036854775808 ≤ L[1] ∧ L[1] ≤ 9223372036854775806) (hs : L.set 1 x = L2) (hB : B ≤ w.heap.size) (w0 : World) (hw : Below B w0 w) :
    Calls Try.prog 10 #[.pointer (some ⟨p, 0, none⟩), .int .i64 1] w fun e w' => e = .returned (.tuple #[.int .i64 x, .int .i64 0]) ∧ Cnt w' B p g L2 ∧ Below B w0 w' := by
  have := Add12_good 1 w h hl hb
  rw [hx, hs] at this
  exact this.mono fun e w' ⟨h1, h2, h3⟩ => ⟨h1, h2, hw.trans (h3.below h.hg.low)⟩

set_option maxRecDepth 100000 in
set_option maxHeartbeats 1600000 in
theorem lives12_any (w : World) : Calls Try.prog 9 #[] w fun e w' => e = .returned (.bool true) ∧ Below w.heap.size w w' := by
  have NW : Hid (Calls Try.prog 7 #[.int .i64 3] w fun e w' => ∃ p g, e = .returned (.tuple #[.pointer (some ⟨p, 0, none⟩), .int .i64 0]) ∧ Cnt w' w.heap.size p g [0, 0, 0] ∧ Below w.heap.size w w') := New12_good 3 w (by omega)
  have A1 : Hid (∀ W p g, Below w.heap.size w W → Cnt W w.heap.size p g [0, 0, 0] → Calls Try.prog 10 #[.pointer (some ⟨p, 0, none⟩), .int .i64 1] W _) := fun W p g hb h => lv_add (L2 := [0, 1, 0]) 1 h (by simp) rfl (by decide) rfl hb.size w hb
  have A2 : Hid (∀ W p g, Below w.heap.size w W → Cnt W w.heap.size p g [0, 1, 0] → Calls Try.prog 10 #[.pointer (some ⟨p, 0, none⟩), .int .i64 1] W _) := fun W p g hb h => lv_add (L2 := [0, 2, 0]) 2 h (by simp) rfl (by decide) rfl hb.size w hb
  have LI : Hid (∀ W p g, Below w.heap.size w W → Cnt W w.heap.size p g [0, 2, 0] → Calls Try.prog 16 #[.pointer (some ⟨p, 0, none⟩)] W fun e w' => ∃ A' c', e = .returned (.slice A' 3 c') ∧ Ints w' A' 3 c' [0, 2, 0] ∧ Below w.heap.size w w') := fun W p g hb h => (List12_any W (Own12.of_cnt h)).mono fun e w' ⟨A', c', h1, h2, h3, _⟩ => ⟨A', c', h1, h2, hb.trans (h3.mono hb.size)⟩
  have SM : Hid (∀ W A c, Ints W A 3 c [0, 2, 0] → Below w.heap.size w W → Calls Try.prog 15 #[.slice A 3 c, .slice (some ⟨W.heap.size, 0, none⟩) 3 3] (W.alloc (.cells #[.int .i64 0, .int .i64 2, .int .i64 0] 3)) fun e w' => e = .returned (.bool true) ∧ Below w.heap.size w w') := fun W A c h hb => by
    have ha := (Below.refl W.heap.size W).alloc (Nat.le_refl _) (.cells #[.int .i64 0, .int .i64 2, .int .i64 0] 3)
    have h2 : Ints (W.alloc (.cells #[.int .i64 0, .int .i64 2, .int .i64 0] 3)) (some ⟨W.heap.size, 0, none⟩) 3 3 [0, 2, 0] := ⟨rfl, Nat.le_refl _, by omega, Row.of_block (heap_alloc_new W _)⟩
    have hb2 := hb.trans (ha.mono hb.size)
    exact (Same_same A (some ⟨W.heap.size, 0, none⟩) 3 c 3 [0, 2, 0] _ (h.below ha) h2).mono fun e w' ⟨h3, h4⟩ => ⟨h3, hb2.trans (h4.mono hb2.size)⟩
  go_enter Try.func9, Try.ntmps9
  go_wp2_with (first
    | (go_at_call 7; (with_reducible refine (NW.out).mono ?_); rintro e w1 ⟨p, g, rfl, hC1, hb1⟩)
    | (go_at_call 10; (with_reducible refine (A1.out _ _ _ hb1 hC1).mono ?_); rintro e w2 ⟨rfl, hC2, hb2⟩; clear hC1)
    | (go_at_call 10; (with_reducible refine (A2.out _ _ _ hb2 hC2).mono ?_); rintro e w3 ⟨rfl, hC3, hb3⟩)
    | (go_at_call 16; (with_reducible refine (LI.out _ _ _ hb3 hC3).mono ?_); rintro e w4 ⟨A4, c4, rfl, hI4, hb4⟩; have HI4 := Lib.hid hI4; clear hI4)
    | (go_at_call 15; (with_reducible refine (SM.out _ _ _ HI4.out hb4).mono ?_); rintro e w5 ⟨rfl, hb5⟩))
  go_ret
  exact ⟨rfl, hb5⟩

end Go.Proofs.Ytojmhkdlaalifaa
