/-
  Layer 1's Pack.
-/
import Derived.Test.YtolapeocdaknjaaCodeG
namespace Go.Proofs.Ytolapeocdaknjaa
open Go.RowKit
set_option linter.unusedVariables false
set_option linter.unusedSimpArgs false

/-- fields as cells -/
def flds (l : List (Int × Int)) : List Value := l.flatMap fun p => [.int .i64 p.1, .int .i64 p.2]

theorem flds_length (l : List (Int × Int)) : (flds l).length = l.length * 2 := by
  induction l with
  | nil => rfl
  | cons p r ih => simp only [flds, List.flatMap_cons, List.length_append, List.length_cons, List.length_nil] at *; omega

theorem flds_at (l : List (Int × Int)) (k : Nat) (h : k < l.length) : (flds l)[k * 2]? = some (.int .i64 l[k].1) ∧ (flds l)[k * 2 + 1]? = some (.int .i64 l[k].2) := by
  induction l generalizing k with
  | nil => simp at h
  | cons p r ih =>
    cases k with
    | zero => simp [flds]
    | succ k =>
      have := ih k (by simpa using h)
      simp only [flds, List.flatMap_cons] at *
      rw [List.getElem?_append_right (by simp; omega), List.getElem?_append_right (by simp; omega)]
      simp only [List.length_cons, List.length_nil, List.getElem_cons_succ]
      rw [show (k + 1) * 2 - (0 + 1 + 1) = k * 2 by omega, show (k + 1) * 2 + 1 - (0 + 1 + 1) = k * 2 + 1 by omega]
      exact this

def i64b (x : Int) : Prop := -9223372036854775808 ≤ x ∧ x ≤ 9223372036854775807

/-- a slice of fields -/
structure Flds (w : World) (A : Option Addr) (n c : Nat) (l : List (Int × Int)) : Prop where
  len : l.length = n
  cap : n ≤ c
  most : c ≤ 9223372036854775807
  row : Row w A (flds l)
  bds : ∀ p ∈ l, i64b p.1 ∧ i64b p.2

theorem Flds.below {w w' : World} {A : Option Addr} {n c : Nat} {l : List (Int × Int)} (h : Flds w A n c l) (hb : Below w.heap.size w w') : Flds w' A n c l := ⟨h.len, h.cap, h.most, h.row.below hb, h.bds⟩

def packE : List (Int × Int) → Int
  | [] => 0
  | p :: r => if isW p.1 = false then 1 else if fitsB p.2 p.1 = false then 2 else packE r

def encs (l : List (Int × Int)) : List UInt8 := l.flatMap fun p => encN p.1.toNat p.2.toNat

def packB (l : List (Int × Int)) : List UInt8 := if packE l = 0 then encs l else []

theorem packE_append (a b : List (Int × Int)) : packE (a ++ b) = if packE a = 0 then packE b else packE a := by
  induction a with
  | nil => simp [packE]
  | cons p r ih =>
    simp only [List.cons_append, packE]
    split
    · simp
    · split
      · simp
      · exact ih

theorem packE_at {l : List (Int × Int)} {k : Nat} (hk : k < l.length) (h : packE (l.take k) = 0) : packE l = packE (l[k] :: l.drop (k + 1)) := by
  conv => lhs; rw [← List.take_append_drop k l, packE_append, h, List.drop_eq_getElem_cons hk]
  simp

theorem packE_step {l : List (Int × Int)} {k : Nat} (hk : k < l.length) (h : packE (l.take k) = 0) (hw : isW l[k].1 = true) (hf : fitsB l[k].2 l[k].1 = true) : packE (l.take (k + 1)) = 0 := by
  rw [List.take_succ_eq_append_getElem hk, packE_append, h]
  simp [packE, hw, hf]

theorem encs_step {l : List (Int × Int)} {k : Nat} (hk : k < l.length) : encs (l.take (k + 1)) = encs (l.take k) ++ encN l[k].1.toNat l[k].2.toNat := by
  simp only [encs]
  rw [List.take_succ_eq_append_getElem hk, List.flatMap_append]
  simp only [List.flatMap_cons, List.flatMap_nil, List.append_nil]

theorem encs_le {l : List (Int × Int)} (h : packE l = 0) : (encs l).length ≤ l.length * 8 := by
  induction l with
  | nil => simp [encs]
  | cons p r ih =>
    simp only [packE] at h
    split at h
    · simp at h
    · rename_i hw
      split at h
      · simp at h
      · have := ih h
        have hw' : isW p.1 = true := by simpa using hw
        have : p.1.toNat ≤ 8 := by rcases isW_cases hw' with h | h | h | h <;> omega
        simp only [encs, List.flatMap_cons, List.length_append, encN_length, List.length_cons] at *
        omega

theorem fits_bounds {x wd : Int} (h : fitsB x wd = true) : 0 ≤ x := by simp [fitsB] at h; exact h.1

set_option maxHeartbeats 400000 in
theorem Pack_any (A : Option Addr) (n c : Nat) (l : List (Int × Int)) (w : World) (h : Flds w A n c l) (hn : n ≤ 1000000) :
    Calls Try.prog 35 #[.slice A n c] w fun e w' => ∃ A' m c', e = .returned (.tuple #[.slice A' m c', .int .i64 (packE l)]) ∧ Bytes8 w' A' m c' (packB l) ∧ Below w.heap.size w w' := by
  by_cases hp : 0 < n
  · obtain ⟨b, off, rfl, hb, hcell⟩ := h.row.lit (by rw [flds_length, h.len]; omega)
    have HF := Lib.hid h
    have HC := Lib.hid hcell
    clear h hcell
    go_enter Try.func35, Try.ntmps35
    go_wp2
    go_loopw [4, 9] (fun v i wr => ∃ k : Nat, k ≤ n ∧ i = .int .i64 k ∧ Hid (packE (l.take k) = 0) ∧ Hid (wr.ownsRow w.heap.size 5 1 v (encs (l.take k)).length (u8s (encs (l.take k)))) ∧ w.heap.size ≤ wr.heap.size ∧ Below w.heap.size w wr) (fun _ i _ => n - (intOf i).toNat)
    case atStart => exact ⟨0, by omega, rfl, rfl, World.ownsRow_nil _ _ _ _, Nat.le_refl _, Below.refl _ _⟩
    case round =>
      obtain ⟨k, hk, rfl, hE, hown, hs, hbel⟩ := hrel
      by_cases hlt : k < n
      · have hkl : k < l.length := by have := HF.out.len; omega
        have h0 := flds_at l k hkl
        have hc0 : wr.cell? ⟨b, off + k * 2, none⟩ = some (.int .i64 l[k].1) := (hbel.cell (p := ⟨b, off + k * 2, none⟩) hb).trans (HC.out _ _ h0.1)
        have hc1 : wr.cell? ⟨b, off + k * 2 + 1, none⟩ = some (.int .i64 l[k].2) := (hbel.cell (p := ⟨b, off + k * 2 + 1, none⟩) hb).trans (HC.out _ _ h0.2)
        obtain ⟨⟨hb1, hb2⟩, hb3, hb4⟩ := HF.out.bds l[k] (List.getElem_mem _)
        have hat := packE_at hkl hE.out
        have hst := packE_step hkl hE.out
        have hen := encs_step hkl
        have hle := encs_le hE.out
        rw [List.length_take] at hle
        clear h0
        simp only [packE] at hat
        generalize hp1 : l[k].1 = a at *
        generalize hp2 : l[k].2 = x at *
        clear hp1 hp2
        cases hw : isW a with
        | false =>
          have hr : Hid (packE l = 1) := by rw [hat]; simp [hw, Hid]
          have W := Lib.hid (fun W => isWidth_any a W false hw)
          clear hat hst hen hle hw
          go_wp2_with (go_at_call 34; refine (W.out _).mono ?_; rintro e w' ⟨rfl, rfl⟩)
          go_ret2
          exact ⟨none, 0, 0, by rw [hr.out]; rfl, by simpa [packB, hr.out] using Bytes8.nil _, hbel.alloc hs _⟩
        | true =>
          have W := Lib.hid (fun W => isWidth_any a W true hw)
          cases hf : fitsB x a with
          | false =>
            have hr : Hid (packE l = 2) := by rw [hat]; simp [hw, hf, Hid]
            have F := Lib.hid (fun W => fits_any x a W hw ⟨hb3, hb4⟩ false hf)
            clear hat hst hen hle hw hf
            go_wp2_with (first
              | (go_at_call 34; refine (W.out _).mono ?_; rintro e w' ⟨rfl, rfl⟩)
              | (go_at_call 24; refine (F.out _).mono ?_; rintro e w' ⟨rfl, rfl⟩))
            go_ret2
            exact ⟨none, 0, 0, by rw [hr.out]; rfl, by simpa [packB, hr.out] using Bytes8.nil _, hbel.alloc hs _⟩
          | true =>
            have F := Lib.hid (fun W => fits_any x a W hw ⟨hb3, hb4⟩ true hf)
            have S := Lib.hid (fun (W : World) (hO : W.ownsRow w.heap.size 5 1 u4 (encs (l.take k)).length (u8s (encs (l.take k)))) (hs : w.heap.size ≤ W.heap.size) => split_any w.heap.size u4 _ _ x a W hO hs (by omega) (fits_bounds hf) (by omega) hw)
            have hst' := Lib.hid (hst hw hf)
            have hen' := Lib.hid hen
            clear hat hst hen hle hw hf
            go_wp2_with (first
              | (go_at_call 34; refine (W.out _).mono ?_; rintro e w' ⟨rfl, rfl⟩)
              | (go_at_call 24; refine (F.out _).mono ?_; rintro e w' ⟨rfl, rfl⟩)
              | (go_at_call 25; refine (S.out _ (hown.out.alloc _) (by simp; omega)).mono ?_; rintro e w1 ⟨v1, rfl, hown1, hb1⟩; have HO1 := Lib.hid hown1; clear hown1))
            go_roundw
            case rel =>
              have hb2 := (hbel.alloc hs _).trans hb1
              refine ⟨k + 1, by omega, by go_num, hst', ?_, hb2.size, hb2⟩
              have := HO1.out
              rw [← u8s_append] at this
              rw [hen'.out, List.length_append, encN_length]
              exact this
            case measure => simp [intOf]; omega
      · obtain rfl : k = n := by omega
        have hE' : Hid (packE l = 0) := by
          have := hE.out
          rwa [List.take_of_length_le (by have := HF.out.len; omega)] at this
        have hown' : Hid (wr.ownsRow w.heap.size 5 1 u4 (encs l).length (u8s (encs l))) := by
          have := hown.out
          rwa [List.take_of_length_le (by have := HF.out.len; omega)] at this
        obtain ⟨A', c', hv, hB⟩ := Bytes8.of_own hown'.out
        have HV := Lib.hid hv
        clear hv
        go_wp2
        go_ret2
        exact ⟨A', _, c', by rw [hE'.out, ← HV.out]; rfl, by simpa [packB, hE'.out] using hB, hbel⟩
  · obtain rfl : n = 0 := by omega
    obtain rfl : l = [] := List.eq_nil_of_length_eq_zero h.len
    clear h
    go_enter Try.func35, Try.ntmps35
    go_wp2
    refine wp_loop_rounds 1 ?_
    rw [rounds_succ]
    go_wp2
    go_ret2
    exact ⟨none, 0, 0, rfl, Bytes8.nil _, Below.refl _ _⟩

end Go.Proofs.Ytolapeocdaknjaa
