/-
  Joined: PgC, PgD, PgN, PolSt, PolLawB.
-/
import Derived.Test.YtlmpaelcnnnkfaaJPolB20
import Derived.Test.YtlmpaelcnnnkfaaJPolB16
import Derived.Test.YtlmpaelcnnnkfaaJPolB02
import Derived.Test.YtlmpaelcnnnkfaaJPolB00
import Derived.Test.YtlmpaelcnnnkfaaJPolB17
import Derived.Laws.Small
import Derived.Test.YtlmpaelcnnnkfaaJPolB15
/-
  Layer 18: apart; devices in blocks of their own; Copy.
-/
namespace Go.Proofs.Ytlmpaelcnnnkfaa
open Go.RowKit
set_option linter.unusedVariables false
set_option linter.unusedSimpArgs false

/-! ### rows of mappings -/
theorem own_low18 {w : World} {b : Nat} {e : TypeId} {size n : Nat} {v : Value} {xs : List Value} (h : w.ownsRow b e size v n xs) {a : Addr} (ha : a.block < b) (u : Value) : (w.setCell a u).ownsRow b e size v n xs :=
  ownsRow_setCell_other h (fun e' => by have := (own_apartS h _ e').1; omega) u

/-! ### devices in a row of their own, each with a row of mappings of its own -/
abbrev DevL18 := Dev18 × Option Addr × Nat × Nat
abbrev rowV18 (x : DevL18) : Value := .slice x.2.1 x.2.2.1 x.2.2.2
def devC18 : List DevL18 → List Value
  | [] => []
  | x :: r => .int .i64 x.1.id :: .int .i64 x.1.tx :: .int .i64 x.1.made :: .int .i64 x.1.snap :: rowV18 x :: devC18 r
theorem devC18_length (l : List DevL18) : (devC18 l).length = l.length * 5 := by
  induction l with
  | nil => rfl
  | cons x r ih => simp only [devC18, List.length_cons, ih]; omega
theorem devC18_at : ∀ (l : List DevL18) (k : Nat) (h : k < l.length), (devC18 l)[k * 5]? = some (.int .i64 l[k].1.id) ∧ (devC18 l)[k * 5 + 1]? = some (.int .i64 l[k].1.tx) ∧ (devC18 l)[k * 5 + 2]? = some (.int .i64 l[k].1.made) ∧ (devC18 l)[k * 5 + 3]? = some (.int .i64 l[k].1.snap) ∧ (devC18 l)[k * 5 + 4]? = some (rowV18 l[k])
  | x :: r, 0, _ => ⟨rfl, rfl, rfl, rfl, rfl⟩
  | x :: r, k + 1, h => by
    have := devC18_at r k (by simpa using h)
    rw [show (k + 1) * 5 = k * 5 + 1 + 1 + 1 + 1 + 1 by omega]
    simpa [devC18] using this
structure OwnD18 (w : World) (B : Nat) (v : Value) (n : Nat) (L : List DevL18) : Prop where
  row : w.ownsRow B 32 5 v n (devC18 L)
  each : ∀ k (h : k < L.length), w.ownsRow B 43 3 (rowV18 L[k]) L[k].2.2.1 (triC L[k].1.maps)
  two : ∀ j k (hj : j < L.length) (hk : k < L.length), j ≠ k → ∀ g, (rowV18 L[j]).ownBlock = some g → (rowV18 L[k]).ownBlock ≠ some g
theorem OwnD18.len {w : World} {B : Nat} {v : Value} {n : Nat} {L : List DevL18} (h : OwnD18 w B v n L) : L.length = n := by
  have := h.row.1
  rw [devC18_length] at this
  omega
theorem OwnD18.later {w w' : World} {B : Nat} {v : Value} {n : Nat} {L : List DevL18} (h : OwnD18 w B v n L) (hb : Below w.heap.size w w') : OwnD18 w' B v n L :=
  ⟨own_keptS h.row fun k _ hk => hb.block k hk, fun k hk => own_keptS (h.each k hk) fun k _ hk => hb.block k hk, h.two⟩
theorem OwnD18.low {w : World} {B : Nat} {v : Value} {n : Nat} {L : List DevL18} (h : OwnD18 w B v n L) {a : Addr} (ha : a.block < B) (u : Value) : OwnD18 (w.setCell a u) B v n L :=
  ⟨own_low18 h.row ha u, fun k hk => own_low18 (h.each k hk) ha u, h.two⟩
theorem OwnD18.dvs {w : World} {B : Nat} {A : Option Addr} {n c : Nat} {L : List DevL18} (h : OwnD18 w B (.slice A n c) n L) : Dvs w A n c (L.map (·.1)) := by
  obtain ⟨A', c', e, h1, h2⟩ := ownsRow_form h.row
  cases e
  have hr : Row w A (devC18 L) := Row.of_own h.row
  refine ⟨by simp [h.len], h1, by simpa [maxLen] using h2, fun k hk => ?_⟩
  have hk : k < L.length := by simpa using hk
  obtain ⟨t0, t1, t2, t3, t4⟩ := devC18_at L k hk
  obtain ⟨ad, rfl, g0⟩ := hr _ _ t0
  refine ⟨ad, rfl, L[k].2.1, L[k].2.2.1, L[k].2.2.2, ?_, ?_, ?_, ?_, ?_, ?_⟩
  · rw [List.getElem_map]; exact g0
  · rw [List.getElem_map, addr_add_add]; exact hr.at_ t1
  · rw [List.getElem_map, addr_add_add]; exact hr.at_ t2
  · rw [List.getElem_map, addr_add_add]; exact hr.at_ t3
  · rw [addr_add_add]; exact hr.at_ t4
  · rw [List.getElem_map]
    obtain ⟨A2, c2, e2, hT⟩ := Trs.of_own (h.each k hk)
    cases e2
    exact hT
theorem OwnD18.nil (w : World) (B : Nat) : OwnD18 w B (.slice none 0 0) 0 [] := ⟨World.ownsRow_nil _ _ _ _, fun k hk => (by cases hk), fun j k hj => (by cases hj)⟩
end Go.Proofs.Ytlmpaelcnnnkfaa

/-
  Layer 18: Find.
-/
namespace Go.Proofs.Ytlmpaelcnnnkfaa
open Go.RowKit
set_option linter.unusedVariables false
set_option linter.unusedSimpArgs false

end Go.Proofs.Ytlmpaelcnnnkfaa

/-
  Layer 18: Copy.
-/
namespace Go.Proofs.Ytlmpaelcnnnkfaa
open Go.RowKit
set_option linter.unusedVariables false
set_option linter.unusedSimpArgs false

theorem PolC.free {W : World} {b : Nat} {v0 v1 v2 v3 v4 : Value} (h : PolC W b v0 v1 v2 v3 v4) (j : Nat) : W.frozen? ⟨b, j, none⟩ = false := frozen_of_row W b j _ _ h

end Go.Proofs.Ytlmpaelcnnnkfaa

/-
  Layer 18: what the laws keep; Refs of any pool.
-/
namespace Go.Proofs.Ytlmpaelcnnnkfaa
open Go.RowKit
set_option linter.unusedVariables false
set_option linter.unusedSimpArgs false

/-- what Refs answers -/
def refL18 (p : Pol18) : List Int := if chkE18 p = 0 then refs18 p.data.toNat (blks18 p.devs) else []
theorem chk18_data {p : Pol18} (h : chkE18 p = 0) : 0 ≤ p.data ∧ p.data ≤ 65536 := by
  cases hh : headR18 p with
  | false => rw [chkE18_head hh] at h; cases h
  | true =>
    unfold headR18 at hh
    simp only [Bool.and_eq_true, in18_yes] at hh
    exact hh.2
theorem Refs_any18 (p : Pol18) (A : Option Addr) (n c : Nat) (w : World) (h : Dvs w A n c p.devs) (hc : cnt18 p.devs ≤ 1000000) :
    Calls Try.prog 19 #[polV18 p A n c] w fun e w' => ∃ A' c', e = .returned (.slice A' (refL18 p).length c') ∧ Ints w' A' (refL18 p).length c' (refL18 p) ∧ Below w.heap.size w w' := by
  by_cases hv : chkE18 p = 0
  · have hd := chk18_data hv
    have e : refL18 p = refs18 p.data.toNat (blks18 p.devs) := if_pos hv
    have := Refs_good18 p A n c w h hc hv p.data.toNat (by omega) (by omega)
    rw [e, refs18_length]
    exact this
  · have e : refL18 p = [] := if_neg hv
    rw [e]
    exact (Refs_bad18 p A n c w h hc hv).mono fun e w' ⟨h1, h2⟩ => ⟨none, 0, h1, Ints.nil _, h2⟩
/-- one pool in a variable, and in memory -/
structure St18 (w W : World) (b : Nat) (p : Pol18) (A : Option Addr) (n c : Nat) : Prop where
  box : PolC W b (.int .i64 p.tx) (.int .i64 p.time) (.int .i64 p.unit) (.int .i64 p.data) (.slice A n c)
  dvs : Dvs W A n c p.devs
  bel : Below w.heap.size w W
theorem St18.later {w W W' : World} {b : Nat} {p : Pol18} {A : Option Addr} {n c : Nat} (h : St18 w W b p A n c) (hb : Below W.heap.size W W') : St18 w W' b p A n c :=
  ⟨(hb.block _ (block_lt h.box)).trans h.box, h.dvs.below hb, h.bel.trans (hb.mono h.bel.size)⟩
theorem St18.cs {w W : World} {b : Nat} {p : Pol18} {A : Option Addr} {n c : Nat} (h : St18 w W b p A n c) : W.cell? ⟨b, 0, none⟩ = some (.int .i64 p.tx) ∧ W.cell? ⟨b, 1, none⟩ = some (.int .i64 p.time) ∧ W.cell? ⟨b, 2, none⟩ = some (.int .i64 p.unit) ∧ W.cell? ⟨b, 3, none⟩ = some (.int .i64 p.data) ∧ W.cell? ⟨b, 4, none⟩ = some (.slice A n c) := h.box.cs
/-- two pools -/
structure Sq18 (w W : World) (p : Pol18) (A : Option Addr) (n c : Nat) (q : Pol18) (A2 : Option Addr) (n2 c2 : Nat) : Prop where
  p : St18 w W w.heap.size p A n c
  q : St18 w W (w.heap.size + 1) q A2 n2 c2
theorem Sq18.later {w W W' : World} {p q : Pol18} {A A2 : Option Addr} {n c n2 c2 : Nat} (h : Sq18 w W p A n c q A2 n2 c2) (hb : Below W.heap.size W W') : Sq18 w W' p A n c q A2 n2 c2 := ⟨h.p.later hb, h.q.later hb⟩
theorem Sq18.cs {w W : World} {p q : Pol18} {A A2 : Option Addr} {n c n2 c2 : Nat} (h : Sq18 w W p A n c q A2 n2 c2) : (W.cell? ⟨w.heap.size, 0, none⟩ = some (.int .i64 p.tx) ∧ W.cell? ⟨w.heap.size, 1, none⟩ = some (.int .i64 p.time) ∧ W.cell? ⟨w.heap.size, 2, none⟩ = some (.int .i64 p.unit) ∧ W.cell? ⟨w.heap.size, 3, none⟩ = some (.int .i64 p.data) ∧ W.cell? ⟨w.heap.size, 4, none⟩ = some (.slice A n c)) ∧ W.cell? ⟨w.heap.size + 1, 0, none⟩ = some (.int .i64 q.tx) ∧ W.cell? ⟨w.heap.size + 1, 1, none⟩ = some (.int .i64 q.time) ∧ W.cell? ⟨w.heap.size + 1, 2, none⟩ = some (.int .i64 q.unit) ∧ W.cell? ⟨w.heap.size + 1, 3, none⟩ = some (.int .i64 q.data) ∧ W.cell? ⟨w.heap.size + 1, 4, none⟩ = some (.slice A2 n2 c2) := ⟨h.p.cs, h.q.cs⟩
theorem st18_start {p : Pol18} {A : Option Addr} {n c : Nat} {w : World} (h : Dvs w A n c p.devs) : St18 w (w.alloc (.cells #[.int .i64 p.tx, .int .i64 p.time, .int .i64 p.unit, .int .i64 p.data, .slice A n c] 24)) w.heap.size p A n c := by
  have b1 := (Below.refl w.heap.size w).alloc (Nat.le_refl _) (.cells #[.int .i64 p.tx, .int .i64 p.time, .int .i64 p.unit, .int .i64 p.data, .slice A n c] 24)
  exact ⟨heap_alloc_new w _, h.below b1, b1⟩
end Go.Proofs.Ytlmpaelcnnnkfaa

/-
  The walk of PoolAdds.
-/
namespace Go.Proofs.Ytlmpaelcnnnkfaa
open Go.RowKit
set_option linter.unusedVariables false
set_option linter.unusedSimpArgs false

theorem refs18_bd (n : Nat) (bs : List Int) (k : Nat) : 0 ≤ (refs18 n bs).getD k 0 ∧ (refs18 n bs).getD k 0 ≤ (bs.length : Int) := by
  by_cases h : k < (refs18 n bs).length
  · rw [getD18 h]
    have := List.count_le_length (a := (k : Int)) (l := bs)
    simp only [refs18, List.getElem_map, List.getElem_range]
    omega
  · rw [List.getD_eq_getElem?_getD, List.getElem?_eq_none (by omega)]
    simp
theorem sumTake18 {l : List Int} {k : Nat} (h : k < l.length) : (l.take (k + 1)).sum = (l.take k).sum + l.getD k 0 := by
  rw [List.take_succ_eq_append_getElem h, List.sum_append, getD18 h]
  simp
theorem sumTake18_bd {l : List Int} {M : Int} (h : ∀ k, 0 ≤ l.getD k 0 ∧ l.getD k 0 ≤ M) : ∀ k : Nat, k ≤ l.length → 0 ≤ (l.take k).sum ∧ (l.take k).sum ≤ M * k := by
  intro k
  induction k with
  | zero => intro _; simp
  | succ k ih =>
    intro hk
    have h1 := ih (by omega)
    have h2 := h k
    rw [sumTake18 (by omega)]
    have e : M * ((k + 1 : Nat) : Int) = M * (k : Int) + M := by push_cast; rw [Int.mul_add, Int.mul_one]
    omega

set_option maxRecDepth 100000 in
set_option maxHeartbeats 3200000 in
theorem pooladds_walk (A : Option Addr) (n c : Nat) (p : Pol18) (w : World) (h : Dvs w A n c p.devs) (hbd : p.bd) :
    Calls Try.prog 4 #[polV18 p A n c] w fun e w' => e = .returned (.bool true) ∧ Below w.heap.size w w' := by
  obtain ⟨W0, hW0⟩ : ∃ W0, w.alloc (.cells #[.int .i64 p.tx, .int .i64 p.time, .int .i64 p.unit, .int .i64 p.data, .slice A n c] 24) = W0 := ⟨_, rfl⟩
  have hS0 : St18 w W0 w.heap.size p A n c := by rw [← hW0]; exact st18_start h
  obtain ⟨c0, c1, c2, c3, c4⟩ := hS0.cs
  have FW : Hid (∀ W, St18 w W w.heap.size p A n c → Calls Try.prog 6 #[polV18 p A n c] W fun e w' => e = .returned (.int .i64 (if few18 p = true then 1 else 0)) ∧ St18 w w' w.heap.size p A n c) := fun W hS => (Few_any18 p A n c W hS.dvs (fun d hd => (hbd.2.2.2.2.1 d hd).2.2.2.2.2)).mono fun e w' ⟨h1, h2⟩ => ⟨h1, hS.later h2⟩
  have LV : Hid (∀ W, St18 w W w.heap.size p A n c → Calls Try.prog 7 #[] W fun e w' => e = .returned (.bool true) ∧ Hid (Below w.heap.size w w')) := fun W hS => (lives18_any W).mono fun e w' ⟨h1, h2⟩ => ⟨h1, (hS.later h2).bel⟩
  have HS0 := Lib.hid hS0
  unfold polV18 at FW ⊢
  cases hf : few18 p with
  | false =>
    rw [hf] at FW
    clear h hbd hS0 hf
    go_enter Try.func4, Try.ntmps4
    go_wp2_with (first
      | (go_at_call 6; (with_reducible refine (FW.out _ HS0.out).mono ?_); rintro e w1 ⟨rfl, hS1⟩; have HS1 := Lib.hid hS1; clear hS1)
      | (go_at_call 7; (with_reducible refine (LV.out _ HS1.out).mono ?_); rintro e w2 ⟨rfl, hb2⟩))
    go_ret
    exact ⟨rfl, hb2.out⟩
  | true =>
    rw [hf] at FW
    obtain ⟨hf1, hf2⟩ := few18_yes.1 hf
    have hc : cnt18 p.devs ≤ 1000000 := by omega
    have RF : Hid (∀ W, St18 w W w.heap.size p A n c → Calls Try.prog 19 #[polV18 p A n c] W fun e w' => ∃ A' c', e = .returned (.slice A' (refL18 p).length c') ∧ Hid (Ints w' A' (refL18 p).length c' (refL18 p)) ∧ St18 w w' w.heap.size p A n c) := fun W hS => (Refs_any18 p A n c W hS.dvs hc).mono fun e w' ⟨A', c', h1, h2, h3⟩ => ⟨A', c', h1, h2, hS.later h3⟩
    have CK : Hid (∀ W A' (k : Nat) c' (L : List Int), St18 w W w.heap.size p A n c → Hid (Ints W A' k c' L) → Calls Try.prog 8 #[polV18 p A n c] W fun e w' => e = .returned (.int .i64 (chkE18 p)) ∧ St18 w w' w.heap.size p A n c ∧ Hid (Ints w' A' k c' L)) := fun W A' k c' L hS hI => (Check_any18 p A n c W hS.dvs hc).mono fun e w' ⟨h1, h2⟩ => ⟨h1, hS.later h2, hI.out.below h2⟩
    have CT : Hid (∀ W, St18 w W w.heap.size p A n c → Calls Try.prog 12 #[polV18 p A n c] W fun e w' => e = .returned (.int .i64 (cnt18 p.devs : Int)) ∧ St18 w w' w.heap.size p A n c) := fun W hS => (Count_any18 p A n c W hS.dvs hc).mono fun e w' ⟨h1, h2⟩ => ⟨h1, hS.later h2⟩
    unfold polV18 at RF CK CT
    by_cases hv : chkE18 p = 0
    · have hd := chk18_data hv
      have e1 : refL18 p = refs18 p.data.toNat (blks18 p.devs) := if_pos hv
      obtain ⟨D, hD⟩ := Int.eq_ofNat_of_zero_le hd.1
      have hD2 : D ≤ 65536 := by omega
      have eD : p.data.toNat = D := by omega
      rw [eD] at e1
      have hlen : (refL18 p).length = D := by rw [e1, refs18_length]
      have hsum : (refL18 p).sum = (cnt18 p.devs : Int) := by
        rw [e1, refs18_sum D (blks18 p.devs) (fun b hb => by have := blks18_in hv b hb; omega), blks18_length]
      have hsb : Hid (∀ k : Nat, k ≤ D → 0 ≤ ((refL18 p).take k).sum ∧ ((refL18 p).take k).sum ≤ 2000 * k) := fun k hk => by
        refine sumTake18_bd (fun j => ?_) k (by omega)
        have := refs18_bd D (blks18 p.devs) j
        rw [e1]
        rw [blks18_length] at this
        omega
      have hst : Hid (∀ k : Nat, k < D → ((refL18 p).take (k + 1)).sum = ((refL18 p).take k).sum + (refL18 p).getD k 0) := fun k hk => sumTake18 (by omega)
      have hta : Hid ((refL18 p).take D = refL18 p) := List.take_of_length_le (by omega)
      rw [hlen] at RF
      rw [hv] at CK
      have HSUM := Lib.hid hsum
      have HLEN := Lib.hid hlen
      rw [hD] at c3 FW RF CK CT
      rw [hD] at hW0
      rw [hD]
      have HD := Lib.hid hD
      clear h hbd hS0 hf hf1 hf2 hv e1 hlen hsum hd hD eD
      generalize cnt18 p.devs = x at *
      generalize refL18 p = L at *
      go_enter Try.func4, Try.ntmps4
      go_wp2_with (first
        | (go_at_call 6; (with_reducible refine (FW.out _ HS0.out).mono ?_); rintro e w1 ⟨rfl, hS1⟩; have HS1 := Lib.hid hS1; obtain ⟨d0, d1, d2, d3, d4⟩ := hS1.cs; rw [HD.out] at d3; clear hS1)
        | (go_at_call 19; (with_reducible refine (RF.out _ HS1.out).mono ?_); rintro e w2 ⟨A2, c2', rfl, hI2, hS2⟩; have HS2 := Lib.hid hS2; obtain ⟨e0, e1, e2, e3, e4⟩ := hS2.cs; rw [HD.out] at e3; clear hS2)
        | (go_at_call 8; (with_reducible refine (CK.out _ _ _ _ _ HS2.out hI2).mono ?_); rintro e w3 ⟨rfl, hS3, hI3⟩; have HS3 := Lib.hid hS3; obtain ⟨f0, f1, f2, f3, f4⟩ := hS3.cs; rw [HD.out] at f3; clear hS3))
      go_loopw [4, 5] (fun v i wr => ∃ (k : Nat), k ≤ D ∧ i = .int .i64 k ∧ v = .int .i64 ((L.take k).sum) ∧ wr = w3) (fun _ i _ => D - (intOf i).toNat)
      case atStart => exact ⟨0, by omega, rfl, by simp, rfl⟩
      case round =>
        obtain ⟨k, hk, rfl, rfl, rfl⟩ := hrel
        by_cases hlt : k < D
        · obtain ⟨b, off, rfl, _, hcell⟩ := hI3.out.row.lit (by rw [i64s_length, HLEN.out]; omega)
          have hkl : k < L.length := by rw [HLEN.out]; exact hlt
          have hck := hcell k _ (i64s_at L k hkl)
          have hs1 := hsb.out k hk
          have hs2 := hsb.out (k + 1) hlt
          have hs3 := hst.out k hlt
          rw [getD18 hkl] at hs3
          have HS3' := Lib.hid hs3
          rw [hs3] at hs2
          clear hs3 hcell
          generalize (L.take k).sum = s at *
          generalize L[k]'hkl = y at *
          clear hkl
          go_wp2
          go_roundw
          case rel => exact ⟨k + 1, by omega, by push_cast; rfl, by rw [HS3'.out], trivial⟩
          case measure => simp [intOf]; omega
        · obtain rfl : k = D := by omega
          rw [hta.out, HSUM.out]
          go_wp2_with (first
            | (go_at_call 12; (with_reducible refine (CT.out _ HS3.out).mono ?_); rintro e w4 ⟨rfl, hS4⟩; have HS4 := Lib.hid hS4; obtain ⟨g0, g1, g2, g3, g4⟩ := hS4.cs; rw [HD.out] at g3; clear hS4)
            | (go_at_call 7; (with_reducible refine (LV.out _ HS4.out).mono ?_); rintro e w5 ⟨rfl, hb5⟩))
          go_ret
          exact ⟨rfl, hb5.out⟩
    · have e1 : refL18 p = [] := if_neg hv
      rw [e1] at RF
      have hyb : (chkE18 p != 0) = true := by simpa using hv
      clear h hbd hS0 hf hf1 hf2 hv e1
      generalize chkE18 p = y at *
      simp only [List.length_nil] at RF
      go_enter Try.func4, Try.ntmps4
      go_wp2_with (first
        | (go_at_call 6; (with_reducible refine (FW.out _ HS0.out).mono ?_); rintro e w1 ⟨rfl, hS1⟩; have HS1 := Lib.hid hS1; obtain ⟨d0, d1, d2, d3, d4⟩ := hS1.cs; clear hS1)
        | (go_at_call 19; (with_reducible refine (RF.out _ HS1.out).mono ?_); rintro e w2 ⟨A2, c2', rfl, hI2, hS2⟩; have HS2 := Lib.hid hS2; obtain ⟨e0, e1, e2, e3, e4⟩ := hS2.cs; clear hS2)
        | (go_at_call 8; (with_reducible refine (CK.out _ _ _ _ _ HS2.out hI2).mono ?_); rintro e w3 ⟨rfl, hS3, hI3⟩; have HS3 := Lib.hid hS3; obtain ⟨f0, f1, f2, f3, f4⟩ := hS3.cs; clear hS3)
        | (go_at_call 7; (with_reducible refine (LV.out _ HS3.out).mono ?_); rintro e w5 ⟨rfl, hb5⟩))
      go_ret
      exact ⟨rfl, hb5.out⟩
end Go.Proofs.Ytlmpaelcnnnkfaa
