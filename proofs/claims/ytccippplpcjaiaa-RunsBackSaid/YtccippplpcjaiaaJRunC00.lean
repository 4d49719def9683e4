/-
  Joined, on top of RunB: OpenH 1, RunMath 10, RunChk 1, RunLv 4, RunLawD 1, RunLawC 4.
-/
import Derived.Test.YtccippplpcjaiaaJRunB00
import Derived.Test.YtccippplpcjaiaaJRunB01
import Derived.Test.YtccippplpcjaiaaJRunB02
import Derived.Test.YtccippplpcjaiaaJRunB03
import Derived.Test.YtccippplpcjaiaaJRunB04
import Derived.Test.YtccippplpcjaiaaJRunB05
import Derived.Test.YtccippplpcjaiaaJRunB06
import Derived.Test.YtccippplpcjaiaaJRunB07
import Derived.Test.YtccippplpcjaiaaJRunB08
import Derived.Test.YtccippplpcjaiaaJRunB09
import Derived.Test.YtccippplpcjaiaaJRunB10
import Derived.Test.YtccippplpcjaiaaJRunB11
import Derived.Test.YtccippplpcjaiaaJRunB12
import Derived.Test.YtccippplpcjaiaaJRunB13
import Derived.Test.YtccippplpcjaiaaJRunB14
import Derived.Test.YtccippplpcjaiaaJRunB15
/-
  Slices of structs of integers, opened; of three and of four integers as lists.
-/
namespace Go.Proofs.Ytccippplpcjaiaa
open Go.ChangeShapes Go.WideShapes Go.ChangeAt Go.RowKit Go.Deep
set_option linter.unusedVariables false
set_option linter.unusedSimpArgs false

section
variable {H : Type} {enc : TypeId × Value → H} {P : Program} {w : World} {base : Nat} {held : Bool}

end

theorem open_trs {H : Type} {enc : TypeId × Value → H} {P : Program} {w : World} {base : Nat} {held : Bool} {t e : TypeId} {fs : Array Field} {A : Option Addr} {n c : Nat} {d : DataW H} {p : List MemPlace} (ht : P.underlying t = some (.slice e)) (he : P.underlying e = some (.struct fs)) (h3 : fs.size = 3)
    (hone : oneCellFields P fs = true) (hC : P.cellsOf e = 3) (hf : fs.toList.map (fun f => P.underlying f.type) = List.replicate 3 (some (.int .i64)))
    (h : DataW.Trod enc P w base (fun _ => true) held t (.slice A n c) d p) :
    ∃ l : List (Int × Int × Int), Trs w A n c l ∧ ∀ q ∈ l, (-9223372036854775808 ≤ q.1 ∧ q.1 ≤ 9223372036854775807) ∧ (-9223372036854775808 ≤ q.2.1 ∧ q.2.1 ≤ 9223372036854775807) ∧ (-9223372036854775808 ≤ q.2.2 ∧ q.2.2 ≤ 9223372036854775807) := by
  obtain ⟨h1, h2, f, hfx⟩ := open_islice ht he hone (hC.trans h3.symm) (by rw [h3]; exact hf) h
  rw [h3] at hfx
  refine ⟨(List.range n).map fun i => (f i 0, f i 1, f i 2), ⟨by simp, h1, h2, fun k hk => ?_⟩, fun q hq => ?_⟩
  · have hk' : k < n := by simpa using hk
    obtain ⟨x, e, hx⟩ := hfx k hk'
    simp only [List.getElem_map, List.getElem_range]
    exact ⟨x, e, by simpa using (hx 0 (by omega)).1, (hx 1 (by omega)).1, (hx 2 (by omega)).1⟩
  · obtain ⟨i, hi, rfl⟩ := List.mem_map.1 hq
    obtain ⟨x, e, hx⟩ := hfx i (List.mem_range.1 hi)
    exact ⟨(hx 0 (by omega)).2, (hx 1 (by omega)).2, (hx 2 (by omega)).2⟩

end Go.Proofs.Ytccippplpcjaiaa

/-
  Layer 19's mathematics: runs of mappings, mappings of runs, runs joined.
-/
namespace Go.Proofs.Ytccippplpcjaiaa
open Go.RowKit
set_option linter.unusedVariables false
set_option linter.unusedSimpArgs false

theorem exp19_one (x : Map19) : exp19 (one19 x) = [x] := by simp [exp19, one19]
theorem of19_pos : ∀ l : List Map19, Pos19 (of19 l) := fun l => by
  induction h : l.length generalizing l with
  | zero =>
    rw [List.eq_nil_of_length_eq_zero h]
    exact fun x hx => by cases hx
  | succ k ih =>
    rcases last19 l with rfl | ⟨o, a, rfl⟩
    · simp at h
    · rw [of19_snoc]
      exact addR19_pos (ih o (by simpa using h)) (by simp [one19])
/-- the runs' mappings are those -/
theorem of19_maps : ∀ l : List Map19, maps19 (of19 l) = l := fun l => by
  induction h : l.length generalizing l with
  | zero => rw [List.eq_nil_of_length_eq_zero h]; rfl
  | succ k ih =>
    rcases last19 l with rfl | ⟨o, a, rfl⟩
    · simp at h
    · rw [of19_snoc, addM19, addR19_maps (of19_pos o) (by simp [one19]), ih o (by simpa using h), exp19_one]
/-- no run goes on with the one ahead -/
def Apart19 : List Run19 → Prop
  | [] => True
  | [_] => True
  | a :: b :: r => ¬ cont19 a b ∧ Apart19 (b :: r)
theorem apart19_snoc : ∀ {o : List Run19} {a r : Run19}, Apart19 (o ++ [a]) → ¬ cont19 a r → Apart19 (o ++ [a] ++ [r])
  | [], a, r, _, h => ⟨h, trivial⟩
  | [x], a, r, h, h2 => ⟨h.1, h2, trivial⟩
  | x :: y :: o, a, r, h, h2 => ⟨h.1, apart19_snoc (o := y :: o) h.2 h2⟩
theorem apart19_last : ∀ {o : List Run19} {a b : Run19}, Apart19 (o ++ [a]) → b.v = a.v → b.b = a.b → b.t = a.t → Apart19 (o ++ [b])
  | [], _, _, _, _, _, _ => trivial
  | [x], a, b, h, h1, h2, h3 => ⟨fun hc => h.1 ⟨by have := hc.1; rw [h1] at this; exact this, by have := hc.2.1; rw [h2] at this; exact this, by have := hc.2.2; rw [h3] at this; exact this⟩, trivial⟩
  | x :: y :: o, a, b, h, h1, h2, h3 => ⟨h.1, apart19_last (o := y :: o) h.2 h1 h2 h3⟩
theorem addR19_apart {out : List Run19} {r : Run19} (h : Apart19 out) : Apart19 (addR19 out r) := by
  rcases last19 out with rfl | ⟨o, a, rfl⟩
  · exact trivial
  · by_cases hc : cont19 a r
    · rw [addR19_yes hc]
      exact apart19_last h rfl rfl rfl
    · rw [addR19_no hc]
      exact apart19_snoc h hc
theorem of19_apart : ∀ l : List Map19, Apart19 (of19 l) := fun l => by
  induction h : l.length generalizing l with
  | zero => rw [List.eq_nil_of_length_eq_zero h]; exact trivial
  | succ k ih =>
    rcases last19 l with rfl | ⟨o, a, rfl⟩
    · simp at h
    · rw [of19_snoc]
      exact addR19_apart (ih o (by simpa using h))
theorem apart19_at : ∀ {l : List Run19} {i : Nat} (h : i + 1 < l.length), Apart19 l → ¬ cont19 l[i] l[i + 1]
  | [], i, h, _ => by simp at h
  | [a], i, h, _ => by simp at h
  | a :: b :: r, 0, _, hA => hA.1
  | a :: b :: r, i + 1, h, hA => by
    have := apart19_at (l := b :: r) (i := i) (by simpa using h) hA.2
    simpa using this
/-- runs that don't go on with each other stay as they are -/
theorem merge19_same : ∀ {l : List Run19}, Apart19 l → merge19 l = l := fun {l} hA => by
  have key : ∀ (l o : List Run19) , Apart19 (o ++ l) → l.foldl addR19 o = o ++ l := fun l => by
    induction l with
    | nil => intro o _; simp
    | cons r t ih =>
      intro o hA
      rw [List.foldl_cons]
      have e : addR19 o r = o ++ [r] := by
        rcases last19 o with rfl | ⟨o', a, rfl⟩
        · rfl
        · refine addR19_no ?_
          have := apart19_at (l := o' ++ [a] ++ (r :: t)) (i := o'.length) (by simp) hA
          simpa using this
      rw [e, ih (o ++ [r]) (by simpa using hA)]
      simp
  exact key l [] hA
end Go.Proofs.Ytccippplpcjaiaa

/-
  Layer 19's mathematics: whether runs may be; runs and mappings one by one, as loops meet them.
-/
namespace Go.Proofs.Ytccippplpcjaiaa
open Go.RowKit
set_option linter.unusedVariables false
set_option linter.unusedSimpArgs false

/-! ### a run's mappings -/
/-! ### what Check answers -/
/-- mappings that may be have runs that may be -/
theorem of19_chk {l : List Map19} (h : Good19 l) : chkE19 0 none (of19 l) = 0 := by
  rw [chk19_good (of19_pos l), of19_maps]
  exact h
/-! ### Check's loop -/
/-! ### the reference's runs -/
end Go.Proofs.Ytccippplpcjaiaa

/-
  Layer 19: the law's example; are mappings' numbers small.
-/
namespace Go.Proofs.Ytccippplpcjaiaa
open Go.RowKit
set_option linter.unusedVariables false
set_option linter.unusedSimpArgs false

/-- what small answers -/
def sm19 (l : List Map19) : Bool := decide (l.length ≤ 2000 ∧ ∀ k, k < l.length → 0 ≤ (l.getD k zeroM19).1 ∧ (l.getD k zeroM19).1 ≤ 281474976710655 ∧ 0 ≤ (l.getD k zeroM19).2.1 ∧ (l.getD k zeroM19).2.1 ≤ 281474976710655)
theorem sm19_yes {l : List Map19} : sm19 l = true ↔ l.length ≤ 2000 ∧ ∀ k, k < l.length → 0 ≤ (l.getD k zeroM19).1 ∧ (l.getD k zeroM19).1 ≤ 281474976710655 ∧ 0 ≤ (l.getD k zeroM19).2.1 ∧ (l.getD k zeroM19).2.1 ≤ 281474976710655 := by unfold sm19; exact decide_eq_true_iff
theorem sm19_small {l : List Map19} (h : sm19 l = true) : l.length ≤ 2000 ∧ Small19 l := by
  obtain ⟨h1, h2⟩ := sm19_yes.1 h
  refine ⟨h1, fun x hx => ?_⟩
  obtain ⟨k, hk, rfl⟩ := List.getElem_of_mem hx
  have := h2 k hk
  rwa [getD19 hk] at this

set_option maxRecDepth 100000 in
set_option maxHeartbeats 1600000 in
theorem small_any19 (l : List Map19) (A : Option Addr) (n c : Nat) (w : World) (h : Trs w A n c l) : Calls Try.prog 7 #[.slice A n c] w fun e w' => e = .returned (.bool (sm19 l)) ∧ w = w' := by
  have hle : n ≤ 9223372036854775807 := Nat.le_trans h.cap h.most
  have hl := h.len
  have NO : Hid (∀ k x0 x1 x2, k < n → l.getD k zeroM19 = (x0, x1, x2) → ¬ (0 ≤ x0 ∧ x0 ≤ 281474976710655 ∧ 0 ≤ x1 ∧ x1 ≤ 281474976710655) → sm19 l = false) := fun k x0 x1 x2 hk e hx => by
    cases hs : sm19 l with
    | false => rfl
    | true =>
      have := (sm19_yes.1 hs).2 k (by omega)
      rw [e] at this
      exact absurd this hx
  have MANY : Hid (2000 < n → sm19 l = false) := fun hn => by
    cases hs : sm19 l with
    | false => rfl
    | true => have := (sm19_yes.1 hs).1; omega
  have YES : Hid (n ≤ 2000 → (∀ k, k < n → ∃ x0 x1 x2, l.getD k zeroM19 = (x0, x1, x2) ∧ 0 ≤ x0 ∧ x0 ≤ 281474976710655 ∧ 0 ≤ x1 ∧ x1 ≤ 281474976710655) → sm19 l = true) := fun hn hk => by
    refine sm19_yes.2 ⟨by omega, fun k h2 => ?_⟩
    obtain ⟨x0, x1, x2, e, hx⟩ := hk k (by omega)
    rw [e]
    exact hx
  have HT := Lib.hid h
  clear h hl
  generalize sm19 l = r at *
  go_enter Try.func7, Try.ntmps7
  go_wp2
  go_loopw [3] (fun i wr => ∃ k : Nat, k ≤ n ∧ k ≤ 2001 ∧ i = .int .i64 k ∧ Hid (∀ j, j < k → ∃ x0 x1 x2, l.getD j zeroM19 = (x0, x1, x2) ∧ 0 ≤ x0 ∧ x0 ≤ 281474976710655 ∧ 0 ≤ x1 ∧ x1 ≤ 281474976710655) ∧ w = wr) (fun i _ => n - (intOf i).toNat)
  case atStart => exact ⟨0, by omega, by omega, rfl, fun j hj => absurd hj (Nat.not_lt_zero _), rfl⟩
  case round =>
    obtain ⟨k, hk, hk2, rfl, HK, rfl⟩ := hrel
    by_cases hlt : k < n
    · by_cases hlt2 : k < 2001
      · obtain ⟨b, off, x0, x1, x2, rfl, hb, hx, d0, d1, d2⟩ := trs_at19 HT.out hlt
        have HX := Lib.hid hx
        clear hx
        by_cases h0 : 0 ≤ x0
        · by_cases h1 : x0 ≤ 281474976710655
          · by_cases h2 : 0 ≤ x1
            · by_cases h3 : x1 ≤ 281474976710655
              · have HK2 : Hid (∀ j, j < k + 1 → ∃ x0 x1 x2, l.getD j zeroM19 = (x0, x1, x2) ∧ 0 ≤ x0 ∧ x0 ≤ 281474976710655 ∧ 0 ≤ x1 ∧ x1 ≤ 281474976710655) := fun j hj => by
                  by_cases hjk : j < k
                  · exact HK.out j hjk
                  · obtain rfl : j = k := by omega
                    exact ⟨x0, x1, x2, HX.out, h0, h1, h2, h3⟩
                clear HK HX YES NO MANY HT
                go_wp2
                go_roundw
                case rel => exact ⟨k + 1, by omega, by omega, by push_cast; rfl, HK2, trivial⟩
                case measure => simp [intOf]; omega
              · obtain rfl := NO.out k x0 x1 x2 hlt HX.out (fun h => h3 h.2.2.2)
                go_wp2
                go_ret
                exact ⟨rfl, rfl⟩
            · obtain rfl := NO.out k x0 x1 x2 hlt HX.out (fun h => h2 h.2.2.1)
              go_wp2
              go_ret
              exact ⟨rfl, rfl⟩
          · obtain rfl := NO.out k x0 x1 x2 hlt HX.out (fun h => h1 h.2.1)
            go_wp2
            go_ret
            exact ⟨rfl, rfl⟩
        · obtain rfl := NO.out k x0 x1 x2 hlt HX.out (fun h => h0 h.1)
          go_wp2
          go_ret
          exact ⟨rfl, rfl⟩
      · obtain rfl := MANY.out (by omega)
        have hg : ¬ n ≤ 2000 := by omega
        go_wp2
        go_ret
        exact ⟨by show Ending.returned (.bool (decide ((n : Int) ≤ 2000))) = _; rw [decide_eq_false (by omega)], rfl⟩
    · obtain rfl : k = n := by omega
      by_cases h2 : k ≤ 2000
      · obtain rfl := YES.out h2 HK.out
        go_wp2
        go_ret
        exact ⟨by show Ending.returned (.bool (decide ((k : Int) ≤ 2000))) = _; rw [decide_eq_true (by omega)], rfl⟩
      · obtain rfl := MANY.out (by omega)
        go_wp2
        go_ret
        exact ⟨by show Ending.returned (.bool (decide ((k : Int) ≤ 2000))) = _; rw [decide_eq_false (by omega)], rfl⟩
end Go.Proofs.Ytccippplpcjaiaa

/-
  Layer 19: RunsMerged.
-/
namespace Go.Proofs.Ytccippplpcjaiaa
open Go.RowKit
set_option linter.unusedVariables false
set_option linter.unusedSimpArgs false

/-- what may be has numbers of 64 bits -/
theorem chk19_bd : ∀ {l : List Run19} {all : Int} {p : Option Run19}, 0 ≤ all → chkE19 all p l = 0 → Bd19 l
  | [], _, _, _, _ => fun q hq => by cases hq
  | r :: l, all, p, ha, h => by
    obtain ⟨h1, _, h3⟩ := chk19_cons.1 h
    have hr := runR19_yes.1 h1
    have ih := chk19_bd (by omega) h3
    intro q hq
    rcases List.mem_cons.1 hq with rfl | hq
    · omega
    · exact ih q hq
end Go.Proofs.Ytccippplpcjaiaa

/-
  Layer 19: RunsBack.
-/
namespace Go.Proofs.Ytccippplpcjaiaa
open Go.RowKit
set_option linter.unusedVariables false
set_option linter.unusedSimpArgs false

/-- what the law asks of mapping k -/
def ok19 (l : List Map19) (k : Nat) : Prop := (l.getD k zeroM19).2.1 ≤ 65535 ∧ 0 ≤ (l.getD k zeroM19).2.2 ∧ (l.getD k zeroM19).2.2 ≤ 16777215 ∧ (0 < k → (l.getD (k - 1) zeroM19).1 < (l.getD k zeroM19).1)
theorem ok19_rises {l : List Map19} (h : ∀ k, k < l.length → ok19 l k) {i : Nat} : ∀ j, i < j → j < l.length → (l.getD i zeroM19).1 < (l.getD j zeroM19).1
  | 0, hi, _ => absurd hi (Nat.not_lt_zero _)
  | j + 1, hi, hj => by
    have h1 := (h (j + 1) hj).2.2.2 (by omega)
    rw [show j + 1 - 1 = j by omega] at h1
    by_cases e : i = j
    · subst e; exact h1
    · exact Int.lt_trans (ok19_rises h j (by omega) (by omega)) h1
theorem ok19_good {l : List Map19} (hs : sm19 l = true) (h : ∀ k, k < l.length → ok19 l k) : Good19 l := by
  obtain ⟨h1, h2⟩ := sm19_yes.1 hs
  refine ⟨fun x hx => ?_, ?_, by omega⟩
  · obtain ⟨k, hk, rfl⟩ := List.getElem_of_mem hx
    have ha := h2 k hk
    have hb := h k hk
    unfold ok19 at hb
    rw [getD19 hk] at ha hb
    unfold InR19
    omega
  · rw [List.pairwise_iff_getElem]
    intro i j hi hj hij
    have := ok19_rises h j hij hj
    rwa [getD19 hi, getD19 hj] at this

set_option maxRecDepth 100000 in
set_option maxHeartbeats 3200000 in
theorem runsback_walk (A : Option Addr) (n c : Nat) (l : List Map19) (w : World) (h : Trs w A n c l) (hbd : ∀ q ∈ l, (-9223372036854775808 ≤ q.1 ∧ q.1 ≤ 9223372036854775807) ∧ (-9223372036854775808 ≤ q.2.1 ∧ q.2.1 ≤ 9223372036854775807) ∧ (-9223372036854775808 ≤ q.2.2 ∧ q.2.2 ≤ 9223372036854775807)) :
    Calls Try.prog 5 #[.slice A n c] w fun e w' => e = .returned (.bool true) ∧ Below w.heap.size w w' := by
  have SL := Lib.hid (small_any19 l A n c w h)
  have LV : Hid (∀ W, Hid (Below w.heap.size w W) → Calls Try.prog 8 #[] W fun e w' => e = .returned (.bool true) ∧ Hid (Below w.heap.size w w')) := fun W hW => (lives19_any W).mono fun e w' ⟨h1, h2⟩ => ⟨h1, hW.out.trans (h2.mono hW.out.size)⟩
  have B0 : Hid (Below w.heap.size w w) := Below.refl _ _
  have hle : n ≤ 9223372036854775807 := Nat.le_trans h.cap h.most
  cases hs : sm19 l with
  | false =>
    rw [hs] at SL
    clear h hbd hs
    go_enter Try.func5, Try.ntmps5
    go_wp2_with (first
      | (go_at_call 7; (with_reducible refine (SL.out).mono ?_); rintro e w1 ⟨rfl, rfl⟩)
      | (go_at_call 8; (with_reducible refine (LV.out _ B0).mono ?_); rintro e w2 ⟨rfl, HB2⟩))
    go_ret
    exact ⟨rfl, HB2.out⟩
  | true =>
    rw [hs] at SL
    obtain ⟨hl2, hsm⟩ := sm19_small hs
    have hl := h.len
    have HSM := Lib.hid hsm
    have HS := Lib.hid hs
    have HT := Lib.hid h
    have hn2 : n ≤ 2000 := by omega
    have HL := Lib.hid hl
    clear h hbd hs hsm hl2 hl
    go_enter Try.func5, Try.ntmps5
    go_wp2_with (go_at_call 7; (with_reducible refine (SL.out).mono ?_); rintro e w1 ⟨rfl, rfl⟩)
    clear SL
    go_loopw [3] (fun i wr => ∃ k : Nat, k ≤ n ∧ i = .int .i64 k ∧ Hid (∀ j, j < k → ok19 l j) ∧ Hid (Below w.heap.size w wr)) (fun i _ => n - (intOf i).toNat)
    case atStart => exact ⟨0, by omega, rfl, fun j hj => absurd hj (Nat.not_lt_zero _), B0⟩
    case round =>
      clear B0
      obtain ⟨k, hk, rfl, HK, HB⟩ := hrel
      by_cases hlt : k < n
      · obtain ⟨b, off, x0, x1, x2, rfl, hb, hx, d0, d1, d2⟩ := trs_at19 HT.out hlt
        have e0 := (HB.out.cell (p := ⟨b, off + k * 3, none⟩) hb).trans d0
        have e1 := (HB.out.cell (p := ⟨b, off + k * 3 + 1, none⟩) hb).trans d1
        have e2 := (HB.out.cell (p := ⟨b, off + k * 3 + 2, none⟩) hb).trans d2
        have HX := Lib.hid hx
        clear hx d0 d1 d2
        by_cases c1 : 65536 ≤ x1
        · have f1 : decide (x1 ≥ 65536) = true := by simpa using c1
          clear HX HK HT HSM HS
          go_wp2
          go_quiet (fail)
          go_wp2_with (go_at_call 8; (with_reducible refine (LV.out _ (by first | exact HB | exact Lib.hid (below_drewN HB.out _))).mono ?_); rintro e w3 ⟨rfl, HB3⟩)
          go_ret
          exact ⟨rfl, HB3.out⟩
        · have f1 : decide (x1 ≥ 65536) = false := by simpa using c1
          by_cases c2 : x2 < 0
          · have f2 : decide (x2 < 0) = true := by simpa using c2
            clear HX HK HT HSM HS
            go_wp2
            go_quiet (fail)
            go_wp2_with (go_at_call 8; (with_reducible refine (LV.out _ (by first | exact HB | exact Lib.hid (below_drewN HB.out _))).mono ?_); rintro e w3 ⟨rfl, HB3⟩)
            go_ret
            exact ⟨rfl, HB3.out⟩
          · have f2 : decide (x2 < 0) = false := by simpa using c2
            by_cases c3 : 16777215 < x2
            · have f3 : decide (x2 > 16777215) = true := by simpa using c3
              clear HX HK HT HSM HS
              go_wp2
              go_quiet (fail)
              go_wp2_with (go_at_call 8; (with_reducible refine (LV.out _ (by first | exact HB | exact Lib.hid (below_drewN HB.out _))).mono ?_); rintro e w3 ⟨rfl, HB3⟩)
              go_ret
              exact ⟨rfl, HB3.out⟩
            · have f3 : decide (x2 > 16777215) = false := by simpa using c3
              by_cases hk0 : k = 0
              · have HK2 : Hid (∀ j, j < k + 1 → ok19 l j) := fun j hj => by
                  obtain rfl : j = k := by omega
                  unfold ok19
                  rw [HX.out]
                  exact ⟨by dsimp only; omega, by dsimp only; omega, by dsimp only; omega, fun h => absurd hk0 (by omega)⟩
                have hkz : ¬ (0 : Int) < (k : Int) := by omega
                have hkd : decide ((0 : Int) < (k : Int)) = false := by simpa using hkz
                have hkd2 : decide (0 < k) = false := by simpa using hk0
                have hkd3 : decide ((k : Int) > 0) = false := by simpa using hkz
                clear HX HK HT HSM HS c1 c2 c3 hk0
                go_wp2
                go_quiet (fail)
                go_wp2
                go_roundw
                case rel => exact ⟨k + 1, by omega, by push_cast; rfl, HK2, by first | exact HB | exact (HB.out.drew) | exact below_drewN HB.out _⟩
                case measure => simp [intOf]; omega
              · obtain ⟨k', hkk⟩ : ∃ k', k = k' + 1 := ⟨k - 1, by omega⟩
                obtain ⟨b9, off9, y0, y1, y2, hA, hb9, hy, p0, p1, p2⟩ := trs_at19 HT.out (k := k') (by omega)
                cases hA
                have q0 := (HB.out.cell (p := ⟨b, off + k' * 3, none⟩) hb).trans p0
                have hw : IntKind.i64.wrap ((k : Int) - 1) = (k' : Int) := (IntWalk.i64_in _ (by omega)).trans (by omega)
                have hw2 : IntKind.i64.wrap (k' : Int) = (k' : Int) := IntWalk.i64_in _ (by omega)
                have hkp : 0 < k := by omega
                have hkp2 : k' < n := by omega
                have hkd : decide ((0 : Int) < (k : Int)) = true := by simpa using hkp
                have hkd2 : decide (0 < k) = true := by simpa using hkp
                have hkd3 : decide ((k : Int) > 0) = true := by simpa using hkp
                by_cases c4 : x0 ≤ y0
                · have f4 : decide (x0 ≤ y0) = true := by simpa using c4
                  clear hy p0 p1 p2 c1 c2 c3 hk0 hkk
                  clear HX HK HT HSM HS
                  go_wp2
                  go_quiet (fail)
                  go_wp2_with (go_at_call 8; (with_reducible refine (LV.out _ (by first | exact HB | exact Lib.hid (below_drewN HB.out _))).mono ?_); rintro e w3 ⟨rfl, HB3⟩)
                  go_ret
                  exact ⟨rfl, HB3.out⟩
                · have f4 : decide (x0 ≤ y0) = false := by simpa using c4
                  have HK2 : Hid (∀ j, j < k + 1 → ok19 l j) := fun j hj => by
                    by_cases hjk : j < k
                    · exact HK.out j hjk
                    · obtain rfl : j = k := by omega
                      unfold ok19
                      rw [HX.out, show j - 1 = k' by omega, hy]
                      exact ⟨by dsimp only; omega, by dsimp only; omega, by dsimp only; omega, fun _ => by dsimp only; omega⟩
                  clear HX HK HT HSM HS c1 c2 c3 c4 hk0 hkk hy p0 p1 p2
                  go_wp2
                  go_quiet (fail)
                  go_wp2
                  go_roundw
                  case rel => exact ⟨k + 1, by omega, by push_cast; rfl, HK2, by first | exact HB | exact (HB.out.drew) | exact below_drewN HB.out _⟩
                  case measure => simp [intOf]; omega
      · obtain rfl : k = n := by omega
        have hll := HL.out
        have HG : Hid (Good19 l) := ok19_good HS.out fun j hj => HK.out j (by omega)
        have f1 : chkE19 0 none (of19 l) = 0 := of19_chk HG.out
        have f2 : Bd19 (of19 l) := chk19_bd (Int.le_refl 0) f1
        have f3 : mapL19 (of19 l) = l := by rw [mapL19, if_pos f1, of19_maps]
        have f4 : merL19 (of19 l) = of19 l := by rw [merL19, if_pos f1, merge19_same (of19_apart l)]
        have f5 := of19_apart l
        have f6 := of19_length l
        have OF : Hid (Calls Try.prog 10 #[.slice A k c] wr fun e w' => ∃ A' c', e = .returned (.slice A' (of19 l).length c') ∧ Hid (Rns w' A' (of19 l).length c' (of19 l)) ∧ Hid (Below w.heap.size w w')) := (Of_any19 l A k c wr (HT.out.below HB.out) (by omega) HSM.out).mono fun e w' ⟨A', c', h1, h2, h3⟩ => ⟨A', c', h1, h2, HB.out.trans (h3.mono HB.out.size)⟩
        have MP : Hid (∀ W A1 c1, Hid (Below w.heap.size w W) → Hid (Rns W A1 (of19 l).length c1 (of19 l)) → Calls Try.prog 12 #[.slice A1 (of19 l).length c1] W fun e w' => ∃ A' c', e = .returned (.tuple #[.slice A' k c', .int .i64 0]) ∧ Hid (Trs w' A' k c' l) ∧ Hid (Rns w' A1 (of19 l).length c1 (of19 l)) ∧ Hid (Below w.heap.size w w')) := fun W A1 c1 hW hR => by
          have := Maps_any19 (of19 l) A1 _ c1 W hR.out f2
          rw [f3, f1, hll] at this
          exact this.mono fun e w' ⟨A', c', h1, h2, h3⟩ => ⟨A', c', h1, h2, hR.out.below h3, hW.out.trans (h3.mono hW.out.size)⟩
        have ST : Hid (∀ W A1 n1 c1 A3 n3 c3, Hid (Trs W A1 n1 c1 l) → Hid (Rns W A3 n3 c3 (of19 l)) → Hid (Below w.heap.size w W) → Calls Try.prog 14 #[.slice A1 n1 c1, .slice A k c] W fun e w' => e = .returned (.bool true) ∧ Hid (Rns w' A3 n3 c3 (of19 l)) ∧ Hid (Below w.heap.size w w')) := fun W A1 n1 c1 A3 n3 c3 h1 hR hW => (refSameMaps_any18 A1 A n1 c1 k c _ _ W h1.out (HT.out.below hW.out) true (by simp)).mono fun e w' ⟨h3, h4⟩ => ⟨h3, hR.out.below h4, hW.out.trans (h4.mono hW.out.size)⟩
        have MG : Hid (∀ W A1 c1, Hid (Below w.heap.size w W) → Hid (Rns W A1 (of19 l).length c1 (of19 l)) → Calls Try.prog 17 #[.slice A1 (of19 l).length c1] W fun e w' => ∃ A' c', e = .returned (.slice A' (of19 l).length c') ∧ Hid (Rns w' A' (of19 l).length c' (of19 l)) ∧ Hid (Rns w' A1 (of19 l).length c1 (of19 l)) ∧ Hid (Below w.heap.size w w')) := fun W A1 c1 hW hR => by
          have := Merge_any19 (of19 l) A1 _ c1 W hR.out f2
          rw [f4] at this
          exact this.mono fun e w' ⟨A', c', h1, h2, h3⟩ => ⟨A', c', h1, h2, hR.out.below h3, hW.out.trans (h3.mono hW.out.size)⟩
        have SM : Hid (∀ W A1 n1 c1 A2 n2 c2, Hid (Rns W A1 n1 c1 (of19 l)) → Hid (Rns W A2 n2 c2 (of19 l)) → Hid (Below w.heap.size w W) → Calls Try.prog 9 #[.slice A1 n1 c1, .slice A2 n2 c2] W fun e w' => e = .returned (.bool true) ∧ Hid (Below w.heap.size w w')) := fun W A1 n1 c1 A2 n2 c2 h1 h2 hW => (refSame_any19 A1 A2 n1 c1 n2 c2 _ _ W h1.out h2.out true (by simp)).mono fun e w' ⟨h1, h2⟩ => ⟨h1, hW.out.trans (h2.mono hW.out.size)⟩
        have AP : Hid (∀ i (a r : Run19), i + 1 < (of19 l).length → (of19 l).getD i ⟨0, 0, 0, 0⟩ = a → (of19 l).getD (i + 1) ⟨0, 0, 0, 0⟩ = r → ¬ cont19 a r ∧ 0 ≤ a.v ∧ a.v ≤ 281474976710655 ∧ 1 ≤ a.n ∧ a.n ≤ 65536 ∧ 0 ≤ a.b ∧ a.b ≤ 65536) := fun i a r hi ha hr => by
          rw [getD19 (by omega)] at ha
          rw [getD19 hi] at hr
          have h1 := apart19_at hi f5
          rw [ha, hr] at h1
          have hin := chk19_in (Int.le_refl 0) f1 a (by rw [← ha]; exact List.getElem_mem _)
          exact ⟨h1, hin⟩
        have hm2 : (of19 l).length ≤ 2000 := by omega
        clear f1 f2 f3 f4 f5 f6 HG HS HSM HK HT HL hlt hll
        generalize (of19 l).length = m at *
        go_wp2_with (first
          | (go_at_call 10; (with_reducible refine (OF.out).mono ?_); rintro e w3 ⟨A1, c1, rfl, HR1, HB1⟩)
          | (go_at_call 12; (with_reducible refine (MP.out _ _ _ HB1 HR1).mono ?_); rintro e w4 ⟨A2, c2, rfl, HT2, HR2, HB2⟩))
        have h1max := HR2.out.cap
        have hc1max := HR2.out.most
        have hle2 : m ≤ 9223372036854775807 := by omega
        clear OF MP HB HR1 HB1
        go_loopw [7] (fun i wr => ∃ k : Nat, 1 ≤ k ∧ (k ≤ m ∨ k = 1) ∧ i = .int .i64 k ∧ Hid (Below w4.heap.size w4 wr)) (fun i _ => m - (intOf i).toNat)
        case atStart => exact ⟨1, by omega, .inr rfl, rfl, Below.refl _ _⟩
        case round =>
          obtain ⟨i, hi1, hi2, rfl, HB⟩ := hrel
          by_cases hlt : i < m
          · obtain ⟨j, rfl⟩ : ∃ j, i = j + 1 := ⟨i - 1, by omega⟩
            obtain ⟨b, off, r, rfl, hb, hr, hkl, d0, d1, d2, d3⟩ := rns_at HR2.out hlt
            obtain ⟨b', off', a, hA', hb', ha, hkl', p0, p1, p2, p3⟩ := rns_at HR2.out (k := j) (by omega)
            cases hA'
            obtain ⟨hap, v0, v1, n0, n1, bb0, bb1⟩ := AP.out j a r hlt ha hr
            have e0 := (HB.out.cell (p := ⟨b, off + (j + 1) * 4, none⟩) hb).trans d0
            have e1 := (HB.out.cell (p := ⟨b, off + (j + 1) * 4 + 1, none⟩) hb).trans d1
            have e2 := (HB.out.cell (p := ⟨b, off + (j + 1) * 4 + 2, none⟩) hb).trans d2
            have e3 := (HB.out.cell (p := ⟨b, off + (j + 1) * 4 + 3, none⟩) hb).trans d3
            have q0 := (HB.out.cell (p := ⟨b, off + j * 4, none⟩) hb).trans p0
            have q1 := (HB.out.cell (p := ⟨b, off + j * 4 + 1, none⟩) hb).trans p1
            have q2 := (HB.out.cell (p := ⟨b, off + j * 4 + 2, none⟩) hb).trans p2
            have q3 := (HB.out.cell (p := ⟨b, off + j * 4 + 3, none⟩) hb).trans p3
            have hw : IntKind.i64.wrap (((j + 1 : Nat) : Int) - 1) = (j : Int) := (IntWalk.i64_in _ (by omega)).trans (by omega)
            have hjm : j < m := by omega
            clear d0 d1 d2 d3 p0 p1 p2 p3 AP hr ha hkl hkl'
            have hbw : b < wr.heap.size := Nat.lt_of_lt_of_le hb HB.out.size
            have up : ∀ {o : Nat} {x : Value}, wr.cell? ⟨b, o, none⟩ = some x → ((wr.alloc (.cells #[.int .i64 0, .int .i64 0, .int .i64 0, .int .i64 0] 41)).alloc (.cells #[.int .i64 0, .int .i64 0, .int .i64 0, .int .i64 0] 41)).drew.cell? ⟨b, o, none⟩ = some x := fun {o x} hx => by
              have h1 := (((Below.refl wr.heap.size wr).alloc (Nat.le_refl _) (.cells #[.int .i64 0, .int .i64 0, .int .i64 0, .int .i64 0] 41)).alloc (by simp) (.cells #[.int .i64 0, .int .i64 0, .int .i64 0, .int .i64 0] 41)).drew
              exact (h1.cell (p := ⟨b, o, none⟩) hbw).trans hx
            have u0 := up e0
            have u1 := up e1
            have u2 := up e2
            have u3 := up e3
            have s0 := up q0
            have s1 := up q1
            have s2 := up q2
            have s3 := up q3
            have hw2 : IntKind.i64.wrap (j : Int) = (j : Int) := IntWalk.i64_in _ (by omega)
            obtain ⟨rv, rb, rn, rt⟩ := r
            obtain ⟨av, ab, an, at'⟩ := a
            dsimp only at *
            have hwv : IntKind.i64.wrap (av + an) = av + an := IntWalk.i64_in _ (by omega)
            have hwb : IntKind.i64.wrap (ab + an) = ab + an := IntWalk.i64_in _ (by omega)
            have HB5 : Hid (Below w4.heap.size w4 ((wr.alloc (.cells #[.int .i64 av, .int .i64 ab, .int .i64 an, .int .i64 at'] 41)).alloc (.cells #[.int .i64 rv, .int .i64 rb, .int .i64 rn, .int .i64 rt] 41)).drew) := HB.out.trans ((((Below.refl wr.heap.size wr).alloc (Nat.le_refl _) _).alloc (by simp) _).drew.mono HB.out.size)
            have HB6 : Hid (Below w4.heap.size w4 ((wr.alloc (.cells #[.int .i64 rv, .int .i64 rb, .int .i64 rn, .int .i64 rt] 41)).alloc (.cells #[.int .i64 av, .int .i64 ab, .int .i64 an, .int .i64 at'] 41)).drew) := HB.out.trans ((((Below.refl wr.heap.size wr).alloc (Nat.le_refl _) _).alloc (by simp) _).drew.mono HB.out.size)
            clear up hw HB LV ST MG SM HR2 HT2 HB2
            go_wp2
            go_region
            all_goals
              by_cases g1 : av + an = rv
              · have g1b : (av + an == rv) = true := by simpa using g1
                by_cases g2 : ab + an = rb
                · have g2b : (ab + an == rb) = true := by simpa using g2
                  have g3b : (at' == rt) = false := by
                    have : ¬ at' = rt := fun g3 => hap ⟨g1, g2, g3⟩
                    simpa using this
                  clear g1 g2
                  go_wp2
                  go_roundw
                  all_goals first
                    | exact ⟨j + 1 + 1, by omega, by omega, by push_cast; rfl, by first | exact HB5 | exact HB6⟩
                    | (simp only [intOf]; omega)
                · have g2b : (ab + an == rb) = false := by simpa using g2
                  clear g1 g2
                  go_wp2
                  go_roundw
                  all_goals first
                    | exact ⟨j + 1 + 1, by omega, by omega, by push_cast; rfl, by first | exact HB5 | exact HB6⟩
                    | (simp only [intOf]; omega)
              · have g1b : (av + an == rv) = false := by simpa using g1
                clear g1
                go_wp2
                go_roundw
                all_goals first
                  | exact ⟨j + 1 + 1, by omega, by omega, by push_cast; rfl, by first | exact HB5 | exact HB6⟩
                  | (simp only [intOf]; omega)
          · have HT3 := Lib.hid (HT2.out.below HB.out)
            have HR3 := Lib.hid (HR2.out.below HB.out)
            have HB3 := Lib.hid (HB2.out.trans (HB.out.mono HB2.out.size))
            clear HT2 HR2 HB2 HB AP
            go_wp2_with (first
              | (go_at_call 14; (with_reducible refine (ST.out _ _ _ _ _ _ _ HT3 HR3 HB3).mono ?_); rintro e w5 ⟨rfl, HR5, HB5⟩)
              | (go_at_call 17; (with_reducible refine (MG.out _ _ _ HB5 HR5).mono ?_); rintro e w6 ⟨A6, c6, rfl, HR6, HR7, HB6⟩)
              | (go_at_call 9; (with_reducible refine (SM.out _ _ _ _ _ _ _ HR6 HR7 HB6).mono ?_); rintro e w7 ⟨rfl, HB7⟩)
              | (go_at_call 8; (with_reducible refine (LV.out _ HB7).mono ?_); rintro e w8 ⟨rfl, HB8⟩))
            go_ret
            exact ⟨rfl, HB8.out⟩
end Go.Proofs.Ytccippplpcjaiaa
