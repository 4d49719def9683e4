/-
  Joined: TlyA, TlyB, TlyC.
-/
import Derived.Test.YtoacgoelhidmbaaJTly15
import Derived.Test.YtoacgoelhidmbaaJTly18
import Derived.Test.YtoacgoelhidmbaaJTly09
/-
  Layer 21: the reference's find, form and SameBits.
-/
namespace Go.Proofs.Ytoacgoelhidmbaa
open Go.RowKit
set_option linter.unusedVariables false
set_option linter.unusedSimpArgs false

/-- where a key is -/
def At21 (l : List (Int × List UInt8 × Int)) (key z : Int) : Prop := (z = -1 ∧ ∀ k, k < l.length → (l.getD k (0, [], 0)).1 ≠ key) ∨ ∃ i : Nat, z = (i : Int) ∧ i < l.length ∧ (l.getD i (0, [], 0)).1 = key ∧ ∀ k, k < i → (l.getD k (0, [], 0)).1 ≠ key
theorem getD21 {α : Type} {l : List α} {k : Nat} (h : k < l.length) (d : α) : l.getD k d = l[k] := by simp [List.getD_eq_getElem?_getD, h]

set_option maxRecDepth 100000 in
theorem refFind_any21 (A : Option Addr) (n c : Nat) (l : List (Int × List UInt8 × Int)) (key : Int) (w : World) (h : Ens w A n c l) :
    Calls Try.prog 23 #[.slice A n c, .int .i64 key] w fun e w' => (∃ z, e = .returned (.int .i64 z) ∧ At21 l key z) ∧ w = w' := by
  have hle : n ≤ 9223372036854775807 := Nat.le_trans h.cap h.most
  have hl := h.len
  have HC := Lib.hid h
  have HL := Lib.hid hl
  clear h hl
  go_enter Try.func23, Try.ntmps23
  go_wp2
  go_loopw [5] (fun i wr => ∃ k : Nat, k ≤ n ∧ i = .int .i64 k ∧ Hid (∀ j, j < k → (l.getD j (0, [], 0)).1 ≠ key) ∧ w = wr) (fun i _ => n - (intOf i).toNat)
  case atStart => exact ⟨0, by omega, rfl, fun j hj => absurd hj (Nat.not_lt_zero _), rfl⟩
  case round =>
    obtain ⟨k, hk, rfl, HK, rfl⟩ := hrel
    by_cases hlt : k < n
    · obtain ⟨b, off, rfl, d0, d1, d2⟩ := HC.out.at_ hlt
      have hkl : k < l.length := by have := HL.out; omega
      obtain ⟨x, hx⟩ : ∃ x, l[k].1 = x := ⟨_, rfl⟩
      have HX : Hid ((l.getD k (0, [], 0)).1 = x) := by rw [getD21 hkl]; exact hx
      rw [hx] at d0
      clear d1 d2 hx
      by_cases hxk : x = key
      · have HF : Hid (At21 l key (k : Int)) := .inr ⟨k, rfl, hkl, HX.out.trans hxk, HK.out⟩
        subst hxk
        clear HK HX
        go_wp2
        go_ret
        exact ⟨⟨_, rfl, HF.out⟩, rfl⟩
      · have HK2 : Hid (∀ j, j < k + 1 → (l.getD j (0, [], 0)).1 ≠ key) := fun j hj => by
          by_cases hjk : j < k
          · exact HK.out j hjk
          · obtain rfl : j = k := by omega
            rw [HX.out]
            exact hxk
        clear HK HX
        go_wp2
        go_roundw
        case rel => exact ⟨k + 1, by omega, by push_cast; rfl, HK2, trivial⟩
        case measure => simp [intOf]; omega
    · obtain rfl : k = n := by omega
      have HF : Hid (At21 l key (-1)) := .inl ⟨rfl, fun j hj => HK.out j (by have := HL.out; omega)⟩
      clear HK
      go_wp2
      go_ret
      exact ⟨⟨_, rfl, HF.out⟩, rfl⟩

/-- is a list of counts formed so, where it stands; are its counts of two bits -/
def len21 (b : List (List Int)) (k : Nat) : Prop := 1 ≤ (b.getD k []).length ∧ (b.getD k []).length ≤ 960 ∧ (k + 1 < b.length → 960 ≤ (b.getD k []).length)
def two21 (b : List (List Int)) (k j : Nat) : Prop := 0 ≤ (b.getD k []).getD j 0 ∧ (b.getD k []).getD j 0 ≤ 3
theorem form21_iff : ∀ {b : List (List Int)}, form21 b ↔ ∀ k, k < b.length → len21 b k
  | [] => by simp [form21]
  | [x] => by
    constructor
    · rintro ⟨h1, h2⟩ k hk
      obtain rfl : k = 0 := by simp at hk; exact hk
      exact ⟨h1, h2, fun h => by simp at h⟩
    · intro h
      obtain ⟨h1, h2, _⟩ := h 0 (by simp)
      exact ⟨h1, h2⟩
  | x :: y :: r => by
    constructor
    · rintro ⟨h1, h2⟩ k hk
      cases k with
      | zero =>
        refine ⟨?_, ?_, fun _ => ?_⟩ <;> simp only [List.getD_cons_zero] <;> omega
      | succ k =>
        obtain ⟨a1, a2, a3⟩ := form21_iff.1 h2 k (by simpa using hk)
        exact ⟨by simpa using a1, by simpa using a2, fun h => by simpa using a3 (by simpa using h)⟩
    · intro h
      obtain ⟨h1, h2, h3⟩ := h 0 (by simp)
      have h4 := h3 (by simp)
      simp only [List.getD_cons_zero] at h1 h2 h4
      refine ⟨by omega, form21_iff.2 fun k hk => ?_⟩
      obtain ⟨a1, a2, a3⟩ := h (k + 1) (by simpa using hk)
      exact ⟨by simpa using a1, by simpa using a2, fun h => by simpa using a3 (by simpa using h)⟩
theorem okB21_iff {b : List (List Int)} : okB21 b ↔ (∀ k, k < b.length → len21 b k) ∧ ∀ k j, k < b.length → j < (b.getD k []).length → two21 b k j := by
  unfold okB21
  rw [form21_iff]
  refine and_congr_right fun _ => ⟨fun h k j hk hj => ?_, fun h x hx => ?_⟩
  · refine h _ (List.mem_flatten.2 ⟨b.getD k [], ?_, ?_⟩)
    · rw [getD21 hk]; exact List.getElem_mem hk
    · rw [getD21 hj]; exact List.getElem_mem hj
  · obtain ⟨y, hy, hxy⟩ := List.mem_flatten.1 hx
    obtain ⟨k, hk, rfl⟩ := List.getElem_of_mem hy
    obtain ⟨j, hj, rfl⟩ := List.getElem_of_mem hxy
    have := h k j hk (by rw [getD21 hk]; exact hj)
    unfold two21 at this
    rw [getD21 hk, getD21 hj] at this
    exact this

set_option maxRecDepth 100000 in
set_option maxHeartbeats 1600000 in
theorem refForm_any21 (A : Option Addr) (n c : Nat) (b : List (List Int)) (w : World) (h : Mat w A n c b) (r : Bool) (hr : r = true ↔ okB21 b) :
    Calls Try.prog 21 #[.slice A n c] w fun e w' => e = .returned (.bool r) ∧ w = w' := by
  have hle : n ≤ 9223372036854775807 := Nat.le_trans h.cap h.most
  have hl := h.len
  rw [okB21_iff] at hr
  have NL : Hid (∀ k, k < n → ¬ len21 b k → r = false) := fun k hk hn => by
    cases hq : r with
    | false => rfl
    | true => exact absurd ((hr.1 hq).1 k (by omega)) hn
  have NT : Hid (∀ k j, k < n → j < (b.getD k []).length → ¬ two21 b k j → r = false) := fun k j hk hj hn => by
    cases hq : r with
    | false => rfl
    | true => exact absurd ((hr.1 hq).2 k j (by omega) hj) hn
  have YS : Hid ((∀ k, k < n → len21 b k ∧ ∀ j, j < (b.getD k []).length → two21 b k j) → r = true) := fun hk => hr.2 ⟨fun k h2 => (hk k (by omega)).1, fun k j h2 hj => (hk k (by omega)).2 j hj⟩
  have HM := Lib.hid h
  have HL := Lib.hid hl
  clear h hl hr
  go_enter Try.func21, Try.ntmps21
  go_wp2
  go_loopw [3] (fun i wr => ∃ k : Nat, k ≤ n ∧ i = .int .i64 k ∧ Hid (∀ q, q < k → len21 b q ∧ ∀ j, j < (b.getD q []).length → two21 b q j) ∧ w = wr) (fun i _ => n - (intOf i).toNat)
  case atStart => exact ⟨0, by omega, rfl, fun j hj => absurd hj (Nat.not_lt_zero _), rfl⟩
  case round =>
    obtain ⟨k, hk, rfl, HK, rfl⟩ := hrel
    by_cases hlt : k < n
    · obtain ⟨bb, off, A', m, c', rfl, hb, hkl, d0, hI⟩ := mat_at HM.out hlt
      have hml := hI.len
      have hme : m ≤ 9223372036854775807 := Nat.le_trans hI.cap hI.most
      have hcap := hI.cap
      have hmost := hI.most
      have HI := Lib.hid hI
      have HML := Lib.hid hml
      have LN : Hid (len21 b k ↔ 1 ≤ m ∧ m ≤ 960 ∧ (k + 1 < n → 960 ≤ m)) := by
        unfold len21
        rw [hml, HL.out]
        exact Lib.hid Iff.rfl
      have TW : Hid (∀ j x, j < m → (b.getD k []).getD j 0 = x → (two21 b k j ↔ 0 ≤ x ∧ x ≤ 3)) := fun j x hj hx => by
        unfold two21
        rw [hx]
      clear hI hml
      by_cases hlen : 1 ≤ m ∧ m ≤ 960 ∧ (k + 1 < n → 960 ≤ m)
      · have hm1 : 1 ≤ m := hlen.1
        have hm2 : m ≤ 960 := hlen.2.1
        have HLK := Lib.hid (LN.out.2 hlen)
        have hcase : (k + 1 < n ∧ m = 960) ∨ ¬ k + 1 < n := by
          by_cases hkn : k + 1 < n
          · exact .inl ⟨hkn, by have := hlen.2.2 hkn; omega⟩
          · exact .inr hkn
        clear hlen LN NL
        rcases hcase with ⟨hkn, hm9⟩ | hkn
        · have hz0 : ¬ (m : Int) = 0 := by omega
          have hzb : ((m : Int) == 0) = false := by simpa using hz0
          have hzn : ¬ (960 : Int) < (m : Int) := by omega
          have hzd : decide ((960 : Int) < (m : Int)) = false := decide_eq_false hzn
          go_wp2
          go_loopw [5] (fun i' wr' => ∃ j : Nat, j ≤ m ∧ i' = .int .i64 j ∧ Hid (∀ q, q < j → two21 b k q) ∧ w = wr') (fun i' _ => m - (intOf i').toNat)
          case atStart => exact ⟨0, by omega, rfl, fun j hj => absurd hj (Nat.not_lt_zero _), rfl⟩
          case round =>
            obtain ⟨j, hj, rfl, HJ, rfl⟩ := hrel
            by_cases hjl : j < m
            · obtain ⟨b2, off2, hA2, hb2, hc2⟩ := HI.out.row.lit (by rw [i64s_length]; have := HML.out; omega)
              have hck := hc2 j _ (i64s_at _ j (by have := HML.out; omega))
              subst hA2
              obtain ⟨x, hx⟩ : ∃ x, (b.getD k []).getD j 0 = x := ⟨_, rfl⟩
              have HX := Lib.hid (TW.out j x hjl hx)
              rw [getD21 (by have := HML.out; omega)] at hx
              rw [hx] at hck
              clear hc2 hx
              by_cases hx0 : 0 ≤ x
              · by_cases hx3 : x ≤ 3
                · have HJ2 : Hid (∀ q, q < j + 1 → two21 b k q) := fun q hq => by
                    by_cases hqj : q < j
                    · exact HJ.out q hqj
                    · obtain rfl : q = j := by omega
                      exact HX.out.2 ⟨hx0, hx3⟩
                  clear HJ HX HLK HK NT YS TW HM HI
                  go_wp2
                  go_roundw
                  case rel => exact ⟨j + 1, by omega, by push_cast; rfl, HJ2, trivial⟩
                  case measure => simp [intOf]; omega
                · obtain rfl := NT.out k j hlt (by have := HML.out; omega) (fun h => hx3 (HX.out.1 h).2)
                  clear HJ HX HLK HK NT YS TW HM HI
                  go_wp2
                  go_ret
                  exact ⟨rfl, rfl⟩
              · obtain rfl := NT.out k j hlt (by have := HML.out; omega) (fun h => hx0 (HX.out.1 h).1)
                clear HJ HX HLK HK NT YS TW HM HI
                go_wp2
                go_ret
                exact ⟨rfl, rfl⟩
            · obtain rfl : j = m := by omega
              have HK2 : Hid (∀ q, q < k + 1 → len21 b q ∧ ∀ j, j < (b.getD q []).length → two21 b q j) := fun q hq => by
                by_cases hqk : q < k
                · exact HK.out q hqk
                · obtain rfl : q = k := by omega
                  exact ⟨HLK.out, fun i hi => HJ.out i (by have := HML.out; omega)⟩
              clear HJ HLK HK NT YS TW HM HI
              go_wp2
              go_roundw
              case rel => exact ⟨k + 1, by omega, by push_cast; rfl, HK2, trivial⟩
              case measure => simp [intOf]; omega
        · have hz0 : ¬ (m : Int) = 0 := by omega
          have hzb : ((m : Int) == 0) = false := by simpa using hz0
          have hzn : ¬ (960 : Int) < (m : Int) := by omega
          have hzd : decide ((960 : Int) < (m : Int)) = false := decide_eq_false hzn
          have hknI : ¬ (k : Int) + 1 < (n : Int) := by omega
          have hknD : decide ((k : Int) + 1 < (n : Int)) = false := by simpa using hknI
          go_wp2
          go_loopw [5] (fun i' wr' => ∃ j : Nat, j ≤ m ∧ i' = .int .i64 j ∧ Hid (∀ q, q < j → two21 b k q) ∧ w = wr') (fun i' _ => m - (intOf i').toNat)
          case atStart => exact ⟨0, by omega, rfl, fun j hj => absurd hj (Nat.not_lt_zero _), rfl⟩
          case round =>
            obtain ⟨j, hj, rfl, HJ, rfl⟩ := hrel
            by_cases hjl : j < m
            · obtain ⟨b2, off2, hA2, hb2, hc2⟩ := HI.out.row.lit (by rw [i64s_length]; have := HML.out; omega)
              have hck := hc2 j _ (i64s_at _ j (by have := HML.out; omega))
              subst hA2
              obtain ⟨x, hx⟩ : ∃ x, (b.getD k []).getD j 0 = x := ⟨_, rfl⟩
              have HX := Lib.hid (TW.out j x hjl hx)
              rw [getD21 (by have := HML.out; omega)] at hx
              rw [hx] at hck
              clear hc2 hx
              by_cases hx0 : 0 ≤ x
              · by_cases hx3 : x ≤ 3
                · have HJ2 : Hid (∀ q, q < j + 1 → two21 b k q) := fun q hq => by
                    by_cases hqj : q < j
                    · exact HJ.out q hqj
                    · obtain rfl : q = j := by omega
                      exact HX.out.2 ⟨hx0, hx3⟩
                  clear HJ HX HLK HK NT YS TW HM HI
                  go_wp2
                  go_roundw
                  case rel => exact ⟨j + 1, by omega, by push_cast; rfl, HJ2, trivial⟩
                  case measure => simp [intOf]; omega
                · obtain rfl := NT.out k j hlt (by have := HML.out; omega) (fun h => hx3 (HX.out.1 h).2)
                  clear HJ HX HLK HK NT YS TW HM HI
                  go_wp2
                  go_ret
                  exact ⟨rfl, rfl⟩
              · obtain rfl := NT.out k j hlt (by have := HML.out; omega) (fun h => hx0 (HX.out.1 h).1)
                clear HJ HX HLK HK NT YS TW HM HI
                go_wp2
                go_ret
                exact ⟨rfl, rfl⟩
            · obtain rfl : j = m := by omega
              have HK2 : Hid (∀ q, q < k + 1 → len21 b q ∧ ∀ j, j < (b.getD q []).length → two21 b q j) := fun q hq => by
                by_cases hqk : q < k
                · exact HK.out q hqk
                · obtain rfl : q = k := by omega
                  exact ⟨HLK.out, fun i hi => HJ.out i (by have := HML.out; omega)⟩
              clear HJ HLK HK NT YS TW HM HI
              go_wp2
              go_roundw
              case rel => exact ⟨k + 1, by omega, by push_cast; rfl, HK2, trivial⟩
              case measure => simp [intOf]; omega
      · obtain rfl := NL.out k hlt (fun h => hlen (LN.out.1 h))
        clear LN NL NT YS TW HK HM HI HML
        by_cases hm0 : m = 0
        · subst hm0
          go_wp2
          go_ret
          exact ⟨rfl, rfl⟩
        · by_cases hm9 : 960 < m
          · go_wp2
            go_ret
            exact ⟨rfl, rfl⟩
          · have hkn : k + 1 < n := by
              by_cases hkn : k + 1 < n
              · exact hkn
              · exact absurd ⟨by omega, by omega, fun h => absurd h hkn⟩ hlen
            have hm8 : m < 960 := by
              by_cases h8 : m < 960
              · exact h8
              · exact absurd ⟨by omega, by omega, fun _ => by omega⟩ hlen
            clear hlen
            go_wp2
            go_ret
            exact ⟨rfl, rfl⟩
    · obtain rfl : k = n := by omega
      obtain rfl := YS.out HK.out
      clear NL NT YS HK
      go_wp2
      go_ret
      exact ⟨rfl, rfl⟩
end Go.Proofs.Ytoacgoelhidmbaa

/-
  Layer 21: the reference's SameBits.
-/
namespace Go.Proofs.Ytoacgoelhidmbaa
open Go.RowKit
set_option linter.unusedVariables false
set_option linter.unusedSimpArgs false

theorem ints_at21 {w : World} {A : Option Addr} {n c : Nat} {l : List Int} (h : Ints w A n c l) {j : Nat} (hj : j < n) : ∃ b off x, A = some ⟨b, off, none⟩ ∧ b < w.heap.size ∧ l.getD j 0 = x ∧ j < l.length ∧ w.cell? ⟨b, off + j, none⟩ = some (.int .i64 x) := by
  have hl := h.len
  obtain ⟨b, off, hA, hb, hc⟩ := h.row.lit (by rw [i64s_length]; omega)
  have hck := hc j _ (i64s_at l j (by omega))
  exact ⟨b, off, _, hA, hb, getD21 (by omega) 0, by omega, hck⟩

set_option maxRecDepth 100000 in
set_option maxHeartbeats 1600000 in
theorem refSameBits_any21 (A A2 : Option Addr) (n c n2 c2 : Nat) (l l2 : List (List Int)) (w : World) (h : Mat w A n c l) (h2 : Mat w A2 n2 c2 l2) (r : Bool) (hr : decide (l = l2) = r) :
    Calls Try.prog 9 #[.slice A n c, .slice A2 n2 c2] w fun e w' => e = .returned (.bool r) ∧ Below w.heap.size w w' := by
  have hle : n ≤ 9223372036854775807 := Nat.le_trans h.cap h.most
  have hle2 : n2 ≤ 9223372036854775807 := Nat.le_trans h2.cap h2.most
  have hl := h.len
  have hl2 := h2.len
  by_cases hn : n = n2
  · subst hn
    have HR := Lib.hid hr
    have HC := Lib.hid (fun (k : Nat) (hk : k < n) => mat_at h hk)
    have HC2 := Lib.hid (fun (k : Nat) (hk : k < n) => mat_at h2 hk)
    clear h h2 hr
    go_enter Try.func9, Try.ntmps9
    go_wp2
    go_loopw [5] (fun i wr => ∃ k : Nat, k ≤ n ∧ i = .int .i64 k ∧ Hid (l.take k = l2.take k) ∧ Hid (Below w.heap.size w wr)) (fun i _ => n - (intOf i).toNat)
    case atStart => exact ⟨0, by omega, rfl, rfl, Below.refl _ _⟩
    case round =>
      obtain ⟨k, hk, rfl, hT, hbel⟩ := hrel
      by_cases hlt : k < n
      · obtain ⟨b, off, A', m, c', rfl, hb, hkl, d0, hI⟩ := HC.out k hlt
        obtain ⟨b2, off2, A2', m2, c2', rfl, hb2, hkl2, e0, hI2⟩ := HC2.out k hlt
        have g0 := (hbel.out.cell (p := ⟨b, off + k, none⟩) hb).trans d0
        have g2 := (hbel.out.cell (p := ⟨b2, off2 + k, none⟩) hb2).trans e0
        have hm := hI.len
        have hm2 := hI2.len
        have hme : m ≤ 9223372036854775807 := Nat.le_trans hI.cap hI.most
        have hme2 : m2 ≤ 9223372036854775807 := Nat.le_trans hI2.cap hI2.most
        have HI := Lib.hid hI
        have HI2 := Lib.hid hI2
        have HM := Lib.hid hm
        have HM2 := Lib.hid hm2
        have NE : Hid (l.getD k [] ≠ l2.getD k [] → r = false) := fun hne => by
          rw [← HR.out]
          exact decide_eq_false fun e => hne (by rw [e])
        clear hI hI2 hm hm2
        by_cases hmm : m = m2
        · subst hmm
          go_wp2
          go_region
          all_goals go_wp2
          all_goals
            go_loopw [6] (fun i' wr' => ∃ j : Nat, j ≤ m ∧ i' = .int .i64 j ∧ Hid ((l.getD k []).take j = (l2.getD k []).take j) ∧ Hid (Below w.heap.size w wr')) (fun i' _ => m - (intOf i').toNat)
            case atStart => exact ⟨0, by omega, rfl, rfl, hbel.out.drew⟩
            case round =>
              clear hbel
              obtain ⟨j, hj, rfl, hJ, hbel⟩ := hrel
              clear g0 g2
              have g0 := (hbel.out.cell (p := ⟨b, off + k, none⟩) hb).trans d0
              have g2 := (hbel.out.cell (p := ⟨b2, off2 + k, none⟩) hb2).trans e0
              by_cases hjm : j < m
              · obtain ⟨b3, off3, x, rfl, hb3, hx, hjl, f0⟩ := ints_at21 HI.out hjm
                obtain ⟨b4, off4, y, rfl, hb4, hy, hjl2, f2⟩ := ints_at21 HI2.out hjm
                have u0 := (hbel.out.cell (p := ⟨b3, off3 + j, none⟩) hb3).trans f0
                have u2 := (hbel.out.cell (p := ⟨b4, off4 + j, none⟩) hb4).trans f2
                by_cases hxy : x = y
                · subst hxy
                  have hJ1 : Hid ((l.getD k []).take (j + 1) = (l2.getD k []).take (j + 1)) := by
                    rw [getD21 hjl] at hx
                    rw [getD21 hjl2] at hy
                    rw [List.take_succ_eq_append_getElem hjl, List.take_succ_eq_append_getElem hjl2, hJ.out, hx, hy]; rfl
                  clear hx hy hJ NE HR HC HC2
                  go_wp2
                  go_region
                  all_goals go_wp2
                  all_goals go_roundw
                  all_goals first
                    | exact ⟨j + 1, by omega, by push_cast; rfl, hJ1, hbel.out.drew⟩
                    | (simp only [intOf]; omega)
                · obtain rfl := NE.out (fun e => hxy (by rw [← hx, ← hy, e]))
                  have hnb : (x != y) = true := by simpa using hxy
                  clear hx hy hJ NE HR HC HC2
                  go_wp2
                  go_region
                  all_goals go_wp2
                  all_goals go_ret
                  all_goals exact ⟨rfl, hbel.out.drew⟩
              · obtain rfl : j = m := by omega
                have hT1 : Hid (l.take (k + 1) = l2.take (k + 1)) := by
                  have e := hJ.out
                  rw [List.take_of_length_le (by have := HM.out; omega), List.take_of_length_le (by have := HM2.out; omega), getD21 hkl, getD21 hkl2] at e
                  rw [List.take_succ_eq_append_getElem hkl, List.take_succ_eq_append_getElem hkl2, hT.out, e]; rfl
                clear hJ NE HR HC HC2
                go_wp2
                go_roundw
                all_goals first
                  | exact ⟨k + 1, by omega, by push_cast; rfl, hT1, hbel⟩
                  | (simp only [intOf]; omega)
        · obtain rfl := NE.out (fun e => hmm (by rw [← HM.out, ← HM2.out, e]))
          have hnI : ¬ (m : Int) = (m2 : Int) := by omega
          clear NE HR HC HC2
          go_wp2
          go_region
          all_goals go_wp2
          all_goals go_ret
          all_goals exact ⟨rfl, hbel.out.drew⟩
      · obtain rfl : k = n := by omega
        obtain rfl : true = r := by
          rw [← HR.out]
          symm
          apply decide_eq_true
          have := hT.out
          rwa [List.take_of_length_le (by omega), List.take_of_length_le (by omega)] at this
        go_wp2
        go_ret
        exact ⟨rfl, hbel.out⟩
  · obtain rfl : false = r := by
      rw [← hr]
      symm
      apply decide_eq_false
      intro h
      subst h
      omega
    have hnI : ¬ (n : Int) = (n2 : Int) := by omega
    clear h h2 hr
    go_enter Try.func9, Try.ntmps9
    go_wp2
    go_ret
    exact ⟨rfl, Below.refl _ _⟩
end Go.Proofs.Ytoacgoelhidmbaa

/-
  Layer 21: the law's short.
-/
namespace Go.Proofs.Ytoacgoelhidmbaa
open Go.RowKit
set_option linter.unusedVariables false
set_option linter.unusedSimpArgs false

def tot21 (b : List (List Int)) : Nat := (b.map List.length).sum
theorem tot21_flat (b : List (List Int)) : b.flatten.length = tot21 b := by simp [tot21, List.length_flatten]
theorem tot21_take {b : List (List Int)} {k : Nat} (h : k < b.length) : tot21 (b.take (k + 1)) = tot21 (b.take k) + (b.getD k []).length := by
  rw [List.take_succ_eq_append_getElem h, getD21 h]
  unfold tot21
  rw [List.map_append, List.sum_append]
  rfl
theorem tot21_most {b : List (List Int)} (h : ∀ x ∈ b, x.length ≤ 140737488351232) : tot21 b ≤ b.length * 140737488351232 := by
  induction b with
  | nil => simp [tot21]
  | cons d r ih =>
    have h1 := h d (by simp)
    have h2 := ih fun x hx => h x (List.mem_cons_of_mem _ hx)
    simp only [tot21, List.map_cons, List.sum_cons, List.length_cons] at h2 ⊢
    omega

/-- the bytes of entries' values, as the law adds them up -/
def wsum21 (o : List (Int × List UInt8 × Int)) : Int := o.foldl (fun z e => wrap64 (z + (e.2.1.length : Int))) 0
theorem wsum21_take {o : List (Int × List UInt8 × Int)} {j : Nat} (h : j < o.length) : wsum21 (o.take (j + 1)) = wrap64 (wsum21 (o.take j) + (o[j].2.1.length : Int)) := by
  unfold wsum21
  rw [List.take_succ_eq_append_getElem h, List.foldl_append]
  rfl
theorem wsum21_in (o : List (Int × List UInt8 × Int)) : -9223372036854775808 ≤ wsum21 o ∧ wsum21 o ≤ 9223372036854775807 := by
  rcases List.eq_nil_or_concat o with h | ⟨r, x, h⟩
  · rw [h]; exact ⟨by decide, by decide⟩
  · rw [h, List.concat_eq_append]
    unfold wsum21
    rw [List.foldl_append]
    simp only [List.foldl_cons, List.foldl_nil]
    unfold wrap64
    omega
/-- what short answers -/
def shB21 (b : List (List Int)) (o : List (Int × List UInt8 × Int)) : Bool := decide (b.length ≤ 10 ∧ tot21 b ≤ 9600 ∧ o.length ≤ 500 ∧ wsum21 o ≤ 9000)

set_option maxRecDepth 100000 in
set_option maxHeartbeats 1600000 in
theorem short_any21 (A A2 : Option Addr) (n c n2 c2 : Nat) (b : List (List Int)) (o : List (Int × List UInt8 × Int)) (w : World) (h : Mat w A n c b) (h2 : Ens w A2 n2 c2 o) (hbd : ∀ x ∈ b, x.length ≤ 140737488351232) (hbd2 : ∀ q ∈ o, q.2.1.length ≤ 9223372036854775807) :
    Calls Try.prog 11 #[.slice A n c, .slice A2 n2 c2] w fun e w' => e = .returned (.bool (shB21 b o)) ∧ w = w' := by
  have hle : n ≤ 9223372036854775807 := Nat.le_trans h.cap h.most
  have hle2 : n2 ≤ 9223372036854775807 := Nat.le_trans h2.cap h2.most
  have hl := h.len
  have hl2 := h2.len
  have HD : Hid (∀ k, k < n → ∃ bb off A' m c', A = some ⟨bb, off, none⟩ ∧ w.cell? ⟨bb, off + k, none⟩ = some (.slice A' m c') ∧ m ≤ 140737488351232 ∧ tot21 (b.take (k + 1)) = tot21 (b.take k) + m) := fun k hk => by
    obtain ⟨bb, off, A', m, c', e, hb, hkl, d0, hI⟩ := mat_at h hk
    have hm := hI.len
    refine ⟨bb, off, A', m, c', e, d0, ?_, by rw [tot21_take hkl, hm]⟩
    rw [← hm, getD21 hkl]
    exact hbd _ (List.getElem_mem hkl)
  have SL : Hid (∀ k, k ≤ n → tot21 (b.take k) ≤ k * 140737488351232) := fun k hk => by
    have := tot21_most (b := b.take k) fun d hd => hbd d (List.mem_of_mem_take hd)
    rwa [List.length_take, show min k b.length = k by omega] at this
  obtain ⟨r, hr⟩ : ∃ r, shB21 b o = r := ⟨_, rfl⟩
  rw [hr]
  have FIN : Hid (∀ k j, k ≤ n → k = n ∨ k = 11 → j ≤ n2 → j = n2 ∨ j = 501 → r = decide (n ≤ 10 ∧ tot21 (b.take k) ≤ 9600 ∧ n2 ≤ 500 ∧ wsum21 (o.take j) ≤ 9000)) := fun k j hk hk2 hj hj2 => by
    rw [← hr, shB21, hl, hl2]
    by_cases h1 : n ≤ 10 ∧ n2 ≤ 500
    · obtain rfl : k = n := by omega
      obtain rfl : j = n2 := by omega
      rw [List.take_of_length_le (by omega), List.take_of_length_le (by omega)]
    · rw [decide_eq_false (by omega), decide_eq_false (by omega)]
  have WB : Hid (∀ j, -9223372036854775808 ≤ wsum21 (o.take j) ∧ wsum21 (o.take j) ≤ 9223372036854775807) := fun j => wsum21_in _
  have HE : Hid (∀ j, j < n2 → ∃ b2 off2 s, A2 = some ⟨b2, off2, none⟩ ∧ w.cell? ⟨b2, off2 + j * 3 + 1, none⟩ = some (.string s) ∧ s.size ≤ 9223372036854775807 ∧ wsum21 (o.take (j + 1)) = wrap64 (wsum21 (o.take j) + (s.size : Int))) := fun j hj => by
    obtain ⟨b2, off2, e, _, d1, _⟩ := h2.at_ hj
    exact ⟨b2, off2, _, e, by rw [Nat.add_assoc]; exact d1, by have := hbd2 _ (List.getElem_mem (l := o) (n := j) (by omega)); simpa [ByteArray.size] using this, by rw [wsum21_take (by omega)]; simp [ByteArray.size]⟩
  clear hr
  clear h h2 hbd hbd2 hl hl2
  go_enter Try.func11, Try.ntmps11
  go_wp2
  go_loopw [5, 6] (fun v i wr => ∃ k : Nat, k ≤ n ∧ k ≤ 11 ∧ i = .int .i64 k ∧ v = .int .i64 (tot21 (b.take k) : Int) ∧ w = wr) (fun _ i _ => n - (intOf i).toNat)
  case atStart => exact ⟨0, by omega, by omega, rfl, rfl, rfl⟩
  case round =>
    obtain ⟨k, hk, hk11, rfl, rfl, rfl⟩ := hrel
    by_cases hlt : k < n ∧ k < 11
    · obtain ⟨hlt, hlt2⟩ := hlt
      obtain ⟨bb, off, A', m, c', rfl, g4, hm2, hst⟩ := HD.out k hlt
      have h2 := SL.out k hk
      have HST := Lib.hid hst
      clear hst HD SL FIN HE
      generalize tot21 (b.take k) = x at *
      go_wp2
      go_roundw
      all_goals first
        | exact ⟨k + 1, by omega, by omega, by push_cast; rfl, by rw [HST.out]; push_cast; rfl, trivial⟩
        | (simp only [intOf]; omega)
    · have hend : k = n ∨ k = 11 := by omega
      have FN := Lib.hid (fun j hj hj2 => FIN.out k j hk hend hj hj2)
      have h2 := SL.out k hk
      clear HD SL FIN
      generalize tot21 (b.take k) = x at *
      have hkk : ((k : Nat) = n ∨ (k = 11 ∧ k < n)) := by omega
      have hcl : (k < n ∧ k < 11) = False := by simp; omega
      clear hend hlt
      rcases hkk with rfl | ⟨rfl, hkn⟩
      · go_wp2
        go_loopw [7, 8] (fun v i wr => ∃ (j : Nat) (z : Int), j ≤ n2 ∧ j ≤ 501 ∧ i = .int .i64 j ∧ v = .int .i64 z ∧ Hid (z = wsum21 (o.take j)) ∧ w = wr) (fun _ i _ => n2 - (intOf i).toNat)
        case atStart => exact ⟨0, 0, by omega, by omega, rfl, rfl, rfl, rfl⟩
        case round =>
          obtain ⟨j, z, hj, hj5, rfl, rfl, hz, rfl⟩ := hrel
          by_cases hlt : j < n2 ∧ j < 501
          · obtain ⟨hlt, hlt2⟩ := hlt
            obtain ⟨b2, off2, s, rfl, d1, hs, hst⟩ := HE.out j hlt
            rw [← hz.out] at hst
            have HST := Lib.hid hst
            have hzb := WB.out j
            rw [← hz.out] at hzb
            obtain ⟨z0, z1⟩ := hzb
            clear HE FN hst WB
            go_wp2
            go_roundw
            case rel => exact ⟨j + 1, _, by omega, by omega, by push_cast; rfl, rfl, HST.out.symm, trivial⟩
            case measure => simp [intOf]; omega
          · have hje : j = n2 ∨ j = 501 := by omega
            have hrr := FN.out j hj hje
            rw [← hz.out] at hrr
            have HRR := Lib.hid hrr
            clear HE FN hrr hz WB
            have hcj : (j = n2 ∨ (j = 501 ∧ j < n2)) := by omega
            clear hje hlt
            rcases hcj with rfl | ⟨rfl, hjn⟩
            · by_cases c1 : k ≤ 10
              · by_cases c2 : x ≤ 9600
                · by_cases c3 : j ≤ 500
                  · by_cases c4 : z ≤ 9000
                    · obtain rfl : r = true := by rw [HRR.out]; simp [c1, c2, c3, c4]
                      clear HRR
                      go_wp2
                      go_ret
                      exact ⟨rfl, rfl⟩
                    · obtain rfl : r = false := by rw [HRR.out]; simp [c4]
                      clear HRR
                      go_wp2
                      go_ret
                      exact ⟨rfl, rfl⟩
                  · obtain rfl : r = false := by rw [HRR.out]; simp [c3]
                    clear HRR
                    go_wp2
                    go_ret
                    exact ⟨rfl, rfl⟩
                · obtain rfl : r = false := by rw [HRR.out]; simp [c2]
                  clear HRR
                  go_wp2
                  go_ret
                  exact ⟨rfl, rfl⟩
              · obtain rfl : r = false := by rw [HRR.out]; simp [c1]
                clear HRR
                go_wp2
                go_ret
                exact ⟨rfl, rfl⟩
            · by_cases c1 : k ≤ 10
              · have c3 : ¬ n2 ≤ 500 := by omega
                by_cases c2 : x ≤ 9600
                · obtain rfl : r = false := by rw [HRR.out]; simp [c3]
                  clear HRR
                  go_wp2
                  go_ret
                  exact ⟨rfl, rfl⟩
                · obtain rfl : r = false := by rw [HRR.out]; simp [c2]
                  clear HRR
                  go_wp2
                  go_ret
                  exact ⟨rfl, rfl⟩
              · obtain rfl : r = false := by rw [HRR.out]; simp [c1]
                clear HRR
                go_wp2
                go_ret
                exact ⟨rfl, rfl⟩
      · go_wp2
        go_loopw [7, 8] (fun v i wr => ∃ (j : Nat) (z : Int), j ≤ n2 ∧ j ≤ 501 ∧ i = .int .i64 j ∧ v = .int .i64 z ∧ Hid (z = wsum21 (o.take j)) ∧ w = wr) (fun _ i _ => n2 - (intOf i).toNat)
        case atStart => exact ⟨0, 0, by omega, by omega, rfl, rfl, rfl, rfl⟩
        case round =>
          obtain ⟨j, z, hj, hj5, rfl, rfl, hz, rfl⟩ := hrel
          by_cases hlt : j < n2 ∧ j < 501
          · obtain ⟨hlt, hlt2⟩ := hlt
            obtain ⟨b2, off2, s, rfl, d1, hs, hst⟩ := HE.out j hlt
            rw [← hz.out] at hst
            have HST := Lib.hid hst
            have hzb := WB.out j
            rw [← hz.out] at hzb
            obtain ⟨z0, z1⟩ := hzb
            clear HE FN hst WB
            go_wp2
            go_roundw
            case rel => exact ⟨j + 1, _, by omega, by omega, by push_cast; rfl, rfl, HST.out.symm, trivial⟩
            case measure => simp [intOf]; omega
          · have hje : j = n2 ∨ j = 501 := by omega
            have hrr := FN.out j hj hje
            rw [← hz.out] at hrr
            have HRR := Lib.hid hrr
            clear HE FN hrr hz WB
            have hcj : (j = n2 ∨ (j = 501 ∧ j < n2)) := by omega
            clear hje hlt
            rcases hcj with rfl | ⟨rfl, hjn⟩
            · have c1 : ¬ n ≤ 10 := by omega
              obtain rfl : r = false := by rw [HRR.out]; simp [c1]
              clear HRR
              go_wp2
              go_ret
              exact ⟨rfl, rfl⟩
            · have c1 : ¬ n ≤ 10 := by omega
              obtain rfl : r = false := by rw [HRR.out]; simp [c1]
              clear HRR
              go_wp2
              go_ret
              exact ⟨rfl, rfl⟩
end Go.Proofs.Ytoacgoelhidmbaa
