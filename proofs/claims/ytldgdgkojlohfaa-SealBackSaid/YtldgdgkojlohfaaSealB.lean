/-
  Layer 4's checks: the six closures, what hands them over, and Open.
-/
import Derived.Test.YtldgdgkojlohfaaSealA
import Derived.Deep.RegionHeld3
import Derived.Laws.EntriesVeiled
namespace Go.Proofs.Ytldgdgkojlohfaa
open Go.RowKit
set_option linter.unusedVariables false
set_option linter.unusedSimpArgs false

/-- what the checks of a block answer, one by one -/
def chk (l : List UInt8) (k no : Int) : Nat → Int
  | 0 => if knownB k no = true then 0 else 1
  | 1 => if l.length = 256 then 0 else 7
  | 2 => if (leN (l.drop 252) : Int) = sumN l k then 0 else 4
  | 3 => if (leN (l.take 4) : Int) = no then 0 else 5
  | 4 => if (leN ((l.drop 4).take 2) : Int) = k then 0 else 6
  | _ => if leN ((l.drop 6).take 2) = 0 then 0 else 7

theorem chk_len {l : List UInt8} {k no : Int} (h : chk l k no 1 = 0) : l.length = 256 := by
  simp only [chk] at h
  split at h <;> first | assumption | omega

theorem openE_chk (l : List UInt8) (k no : Int) : openE l k no = if chk l k no 0 = 0 then (if chk l k no 1 = 0 then (if chk l k no 2 = 0 then (if chk l k no 3 = 0 then (if chk l k no 4 = 0 then chk l k no 5 else chk l k no 4) else chk l k no 3) else chk l k no 2) else chk l k no 1) else chk l k no 0 := by
  simp only [openE, chk]
  by_cases h1 : knownB k no = true
  · by_cases h2 : l.length = 256
    · by_cases h3 : (leN (l.drop 252) : Int) = sumN l k
      · by_cases h4 : (leN (l.take 4) : Int) = no
        · by_cases h5 : (leN ((l.drop 4).take 2) : Int) = k
          · by_cases h6 : leN ((l.drop 6).take 2) = 0
            · simp [h1, h2, h3, h4, h5, h6]
            · simp [h1, h2, h3, h4, h5, h6]
          · simp [h1, h2, h3, h4, h5]
        · simp [h1, h2, h3, h4]
      · simp [h1, h2, h3]
    · simp [h1, h2]
  · simp [h1]

/-- the checks before j have found nothing -/
def Passed (l : List UInt8) (k no : Int) (j : Nat) : Prop := ∀ i, i < j → chk l k no i = 0

theorem Passed.succ {l : List UInt8} {k no : Int} {j : Nat} (h : Passed l k no j) (h0 : chk l k no j = 0) : Passed l k no (j + 1) := fun i hi => by
  by_cases he : i = j
  · subst he; exact h0
  · exact h i (by omega)
theorem Passed.zero (l : List UInt8) (k no : Int) : Passed l k no 0 := fun i hi => by omega

theorem openE_first {l : List UInt8} {k no : Int} {j : Nat} (hj : j < 6) (h : Passed l k no j) (h0 : chk l k no j ≠ 0) : openE l k no = chk l k no j := by
  rw [openE_chk]
  rcases (show j = 0 ∨ j = 1 ∨ j = 2 ∨ j = 3 ∨ j = 4 ∨ j = 5 by omega) with rfl | rfl | rfl | rfl | rfl | rfl
  · rw [if_neg h0]
  · rw [if_pos (h 0 (by omega)), if_neg h0]
  · rw [if_pos (h 0 (by omega)), if_pos (h 1 (by omega)), if_neg h0]
  · rw [if_pos (h 0 (by omega)), if_pos (h 1 (by omega)), if_pos (h 2 (by omega)), if_neg h0]
  · rw [if_pos (h 0 (by omega)), if_pos (h 1 (by omega)), if_pos (h 2 (by omega)), if_pos (h 3 (by omega)), if_neg h0]
  · rw [if_pos (h 0 (by omega)), if_pos (h 1 (by omega)), if_pos (h 2 (by omega)), if_pos (h 3 (by omega)), if_pos (h 4 (by omega))]
theorem openE_all {l : List UInt8} {k no : Int} (h : Passed l k no 6) : openE l k no = 0 := by
  rw [openE_chk, if_pos (h 0 (by omega)), if_pos (h 1 (by omega)), if_pos (h 2 (by omega)), if_pos (h 3 (by omega)), if_pos (h 4 (by omega))]
  exact h 5 (by omega)

theorem get_at {l : List UInt8} (hl : l.length = 256) (i wd : Nat) (hw : wd = 2 ∨ wd = 4) (hi : i + wd ≤ 256) : getE l i wd = 0 ∧ getN l i wd = (leN ((l.drop i).take wd) : Int) := by
  have hr : roomE l.length i wd = 0 := by
    rw [hl]
    rcases hw with rfl | rfl <;> simp [roomE, isW] <;> omega
  have hlt := leN_lt (part l i wd)
  have hpl : (part l i wd).length = wd := by
    rw [part_len (by omega) (by omega) (by omega)]; simp
  rw [hpl] at hlt
  have hlt2 : leN (part l i wd) < 9223372036854775808 := by rcases hw with rfl | rfl <;> omega
  have he : getE l i wd = 0 := by rw [getE, if_pos hr, if_neg (by omega)]
  refine ⟨he, ?_⟩
  rw [getN, if_pos he]
  simp [part]

theorem stored_at {l : List UInt8} (hl : l.length = 256) (i wd : Nat) (hw : wd = 2 ∨ wd = 4) (hi : i + wd ≤ 256) : storedN l i wd = (leN ((l.drop i).take wd) : Int) := by
  obtain ⟨he, hn⟩ := get_at hl i wd hw hi
  rw [storedN, if_pos he, hn]

theorem stored_252 {l : List UInt8} (hl : l.length = 256) : storedN l 252 4 = (leN (l.drop 252) : Int) := by
  have := stored_at hl 252 4 (.inr rfl) (by omega)
  rw [List.take_of_length_le (by simp; omega)] at this
  exact this
theorem stored_0 {l : List UInt8} (hl : l.length = 256) : storedN l 0 4 = (leN (l.take 4) : Int) := by
  have := stored_at hl 0 4 (.inr rfl) (by omega)
  simpa using this
theorem stored_4 {l : List UInt8} (hl : l.length = 256) : storedN l 4 2 = (leN ((l.drop 4).take 2) : Int) := stored_at hl 4 2 (.inl rfl) (by omega)
theorem stored_6 {l : List UInt8} (hl : l.length = 256) : storedN l 6 2 = (leN ((l.drop 6).take 2) : Int) := stored_at hl 6 2 (.inl rfl) (by omega)

/-- the variables that the checks capture -/
structure Cap (w0 w : World) (pb pk pn : Nat) (A : Option Addr) (n c : Nat) (l : List UInt8) (k no : Int) : Prop where
  bel : Below w0.heap.size w0 w
  b : w.cell? ⟨pb, 0, none⟩ = some (.slice A n c)
  knd : w.cell? ⟨pk, 0, none⟩ = some (.int .i64 k)
  num : w.cell? ⟨pn, 0, none⟩ = some (.int .i64 no)
  B : Bytes8 w A n c l

theorem Cap.later {w0 w w' : World} {pb pk pn : Nat} {A : Option Addr} {n c : Nat} {l : List UInt8} {k no : Int} (h : Cap w0 w pb pk pn A n c l k no) (hb : Below w.heap.size w w') : Cap w0 w' pb pk pn A n c l k no :=
  ⟨h.bel.trans (hb.mono h.bel.size), (hb.cell (p := ⟨pb, 0, none⟩) (cell_lt h.b)).trans h.b, (hb.cell (p := ⟨pk, 0, none⟩) (cell_lt h.knd)).trans h.knd, (hb.cell (p := ⟨pn, 0, none⟩) (cell_lt h.num)).trans h.num, h.B.below hb⟩

theorem bool_if {p : Bool} {P : Prop} [Decidable P] (h : p = decide P) (x : Int) : (if p = true then (0 : Int) else x) = if P then 0 else x := by
  subst h; simp

section
variable {w0 w : World} {pb pk pn : Nat} {A : Option Addr} {n c : Nat} {l : List UInt8} {k no : Int}

theorem chk1_any (h : Cap w0 w pb pk pn A n c l k no) :
    Calls Try.prog 33 #[.pointer (some ⟨pk, 0, none⟩), .pointer (some ⟨pn, 0, none⟩)] w fun e w' => e = .returned (.int .i64 (chk l k no 0)) ∧ w = w' := by
  have hck := h.knd
  have hcn := h.num
  have E0 : kindB k = false → (if false = true then (0 : Int) else 1) = chk l k no 0 := fun h => by simp [chk, knownB, h]
  have E1 : kindB k = true → (if numB no = true then (0 : Int) else 1) = chk l k no 0 := fun h => by simp [chk, knownB, h]
  clear h
  cases hk : kindB k with
  | false =>
    have IK := Lib.hid (fun W => isKind_any k W false hk)
    have U := Lib.hid (fun W => unless_any false 1 _ (E0 hk) W)
    clear E0 E1 hk
    generalize chk l k no 0 = z at *
    go_enter Try.func33, Try.ntmps33
    go_wp2_with (first
      | (go_at_call 16; refine (IK.out _).mono ?_; rintro e w' ⟨rfl, rfl⟩)
      | (go_at_call 34; refine (U.out _).mono ?_; rintro e w' ⟨rfl, rfl⟩))
    go_ret
    exact ⟨rfl, rfl⟩
  | true =>
    have IK := Lib.hid (fun W => isKind_any k W true hk)
    have IN := Lib.hid (fun W => isNumber_any no W _ rfl)
    have U := Lib.hid (fun W => unless_any (numB no) 1 _ (E1 hk) W)
    clear E0 E1 hk
    generalize numB no = r at *
    generalize chk l k no 0 = z at *
    go_enter Try.func33, Try.ntmps33
    go_wp2_with (first
      | (go_at_call 16; refine (IK.out _).mono ?_; rintro e w' ⟨rfl, rfl⟩)
      | (go_at_call 17; refine (IN.out _).mono ?_; rintro e w' ⟨rfl, rfl⟩)
      | (go_at_call 34; refine (U.out _).mono ?_; rintro e w' ⟨rfl, rfl⟩))
    go_ret
    exact ⟨rfl, rfl⟩

theorem chk2_any (h : Cap w0 w pb pk pn A n c l k no) :
    Calls Try.prog 35 #[.pointer (some ⟨pb, 0, none⟩)] w fun e w' => e = .returned (.int .i64 (chk l k no 1)) ∧ w = w' := by
  have hcb := h.b
  have E : (if ((n : Int) == 256) = true then (0 : Int) else 7) = chk l k no 1 := by
    have hl := h.B.len
    simp only [chk]
    by_cases h0 : n = 256
    · subst h0; simp [hl]
    · rw [if_neg (by simp; omega), if_neg (by omega)]
  have U := Lib.hid (fun W => unless_any ((n : Int) == 256) 7 _ E W)
  clear h E
  generalize chk l k no 1 = z at *
  go_enter Try.func35, Try.ntmps35
  go_wp2_with (go_at_call 34; refine (U.out _).mono ?_; rintro e w' ⟨rfl, rfl⟩)
  go_ret
  exact ⟨rfl, rfl⟩

set_option maxHeartbeats 800000 in
theorem chk3_any (h : Cap w0 w pb pk pn A n c l k no) (hl : l.length = 256) :
    Calls Try.prog 36 #[.pointer (some ⟨pb, 0, none⟩), .pointer (some ⟨pk, 0, none⟩)] w fun e w' => e = .returned (.int .i64 (chk l k no 2)) ∧ Cap w0 w' pb pk pn A n c l k no := by
  have hcb := h.b
  have hck := h.knd
  have hn : 252 ≤ n := by have := h.B.len; omega
  have E : (if (((leN (l.drop 252) : Nat) : Int) == ((sumN l k : Nat) : Int)) = true then (0 : Int) else 4) = chk l k no 2 := by
    simp only [chk]; exact bool_if (by rw [Bool.eq_iff_iff]; simp) 4
  have ST : Hid (∀ W, Cap w0 W pb pk pn A n c l k no → Calls Try.prog 26 #[.slice A n c, .int .i64 252, .int .i64 4] W fun e w' => e = .returned (.int .i64 (leN (l.drop 252) : Int)) ∧ Cap w0 w' pb pk pn A n c l k no ∧ w'.cell? ⟨pb, 0, none⟩ = some (.slice A n c) ∧ w'.cell? ⟨pk, 0, none⟩ = some (.int .i64 k)) :=
    fun W hW => (stored_any A n c l 252 4 W hW.B (by omega)).mono fun e w' ⟨h1, h2⟩ => by
      rw [stored_252 hl] at h1
      have := hW.later h2
      exact ⟨h1, this, this.b, this.knd⟩
  have SM : Hid (∀ W, Cap w0 W pb pk pn A n c l k no → Calls Try.prog 20 #[.slice A n c, .int .i64 k] W fun e w' => e = .returned (.int .i64 (sumN l k : Int)) ∧ Cap w0 w' pb pk pn A n c l k no ∧ w'.cell? ⟨pb, 0, none⟩ = some (.slice A n c) ∧ w'.cell? ⟨pk, 0, none⟩ = some (.int .i64 k)) :=
    fun W hW => (sum_any A n c l k W hW.B hn).mono fun e w' ⟨h1, h2⟩ => ⟨h1, hW.later h2, (hW.later h2).b, (hW.later h2).knd⟩
  generalize leN (l.drop 252) = x at *
  generalize sumN l k = y at *
  generalize chk l k no 2 = z at *
  have UN := Lib.hid (fun W => unless_any ((x : Int) == (y : Int)) 4 _ E W)
  clear E
  have hd : Cap w0 w.drew pb pk pn A n c l k no := h.later ((Below.refl _ _).drew)
  have hdb := hd.b
  have hdk := hd.knd
  clear h
  go_enter Try.func36, Try.ntmps36
  go_wp2
  go_region_held3 (fun W => W.cell? ⟨pb, 0, none⟩ = some (.slice A n c) ∧ W.cell? ⟨pk, 0, none⟩ = some (.int .i64 k) ∧ Cap w0 W pb pk pn A n c l k no)
    (first | exact ⟨hdb, hdk, hd⟩ | exact ⟨hb2, hk2, hC2⟩ | exact ⟨hb3, hk3, hC3⟩)
    (first
      | (go_at_call 26; refine (ST.out _ (by first | exact hd | assumption)).mono ?_; rintro e w2 ⟨rfl, hC2, hb2, hk2⟩)
      | (go_at_call 20; refine (SM.out _ (by first | exact hC2 | assumption)).mono ?_; rintro e w3 ⟨rfl, hC3, hb3, hk3⟩)
      | (go_at_call 34; refine (UN.out _).mono ?_; rintro e w4 ⟨rfl, rfl⟩))
  go_wp2
  go_ret
  exact ⟨rfl, by assumption⟩

set_option maxHeartbeats 800000 in
theorem chk4_any (h : Cap w0 w pb pk pn A n c l k no) (hl : l.length = 256) :
    Calls Try.prog 37 #[.pointer (some ⟨pb, 0, none⟩), .pointer (some ⟨pn, 0, none⟩)] w fun e w' => e = .returned (.int .i64 (chk l k no 3)) ∧ Cap w0 w' pb pk pn A n c l k no := by
  have hcb := h.b
  have hck := h.num
  have E : (if (((leN (l.take 4) : Nat) : Int) == no) = true then (0 : Int) else 5) = chk l k no 3 := by
    simp only [chk]; exact bool_if (by rw [Bool.eq_iff_iff]; simp) 5
  have ST : Hid (∀ W, Cap w0 W pb pk pn A n c l k no → Calls Try.prog 26 #[.slice A n c, .int .i64 0, .int .i64 4] W fun e w' => e = .returned (.int .i64 (leN (l.take 4) : Int)) ∧ Cap w0 w' pb pk pn A n c l k no ∧ w'.cell? ⟨pb, 0, none⟩ = some (.slice A n c) ∧ w'.cell? ⟨pn, 0, none⟩ = some (.int .i64 no)) :=
    fun W hW => (stored_any A n c l 0 4 W hW.B (by omega)).mono fun e w' ⟨h1, h2⟩ => by
      rw [stored_0 hl] at h1
      have := hW.later h2
      exact ⟨h1, this, this.b, this.num⟩
  generalize leN (l.take 4) = x at *
  generalize chk l k no 3 = z at *
  have UN := Lib.hid (fun W => unless_any ((x : Int) == no) 5 _ E W)
  clear E
  have hd : Cap w0 w.drew pb pk pn A n c l k no := h.later ((Below.refl _ _).drew)
  have hdb := hd.b
  have hdk := hd.num
  clear h
  go_enter Try.func37, Try.ntmps37
  go_wp2
  go_region_held3 (fun W => W.cell? ⟨pb, 0, none⟩ = some (.slice A n c) ∧ W.cell? ⟨pn, 0, none⟩ = some (.int .i64 no) ∧ Cap w0 W pb pk pn A n c l k no)
    (first | exact ⟨hdb, hdk, hd⟩ | exact ⟨hb2, hk2, hC2⟩)
    (first
      | (go_at_call 26; refine (ST.out _ (by first | exact hd | assumption)).mono ?_; rintro e w2 ⟨rfl, hC2, hb2, hk2⟩)
      | (go_at_call 34; refine (UN.out _).mono ?_; rintro e w4 ⟨rfl, rfl⟩))
  go_wp2
  go_ret
  exact ⟨rfl, by assumption⟩

set_option maxHeartbeats 800000 in
theorem chk5_any (h : Cap w0 w pb pk pn A n c l k no) (hl : l.length = 256) :
    Calls Try.prog 38 #[.pointer (some ⟨pb, 0, none⟩), .pointer (some ⟨pk, 0, none⟩)] w fun e w' => e = .returned (.int .i64 (chk l k no 4)) ∧ Cap w0 w' pb pk pn A n c l k no := by
  have hcb := h.b
  have hck := h.knd
  have E : (if (((leN ((l.drop 4).take 2) : Nat) : Int) == k) = true then (0 : Int) else 6) = chk l k no 4 := by
    simp only [chk]; exact bool_if (by rw [Bool.eq_iff_iff]; simp) 6
  have ST : Hid (∀ W, Cap w0 W pb pk pn A n c l k no → Calls Try.prog 26 #[.slice A n c, .int .i64 4, .int .i64 2] W fun e w' => e = .returned (.int .i64 (leN ((l.drop 4).take 2) : Int)) ∧ Cap w0 w' pb pk pn A n c l k no ∧ w'.cell? ⟨pb, 0, none⟩ = some (.slice A n c) ∧ w'.cell? ⟨pk, 0, none⟩ = some (.int .i64 k)) :=
    fun W hW => (stored_any A n c l 4 2 W hW.B (by omega)).mono fun e w' ⟨h1, h2⟩ => by
      rw [stored_4 hl] at h1
      have := hW.later h2
      exact ⟨h1, this, this.b, this.knd⟩
  generalize leN ((l.drop 4).take 2) = x at *
  generalize chk l k no 4 = z at *
  have UN := Lib.hid (fun W => unless_any ((x : Int) == k) 6 _ E W)
  clear E
  have hd : Cap w0 w.drew pb pk pn A n c l k no := h.later ((Below.refl _ _).drew)
  have hdb := hd.b
  have hdk := hd.knd
  clear h
  go_enter Try.func38, Try.ntmps38
  go_wp2
  go_region_held3 (fun W => W.cell? ⟨pb, 0, none⟩ = some (.slice A n c) ∧ W.cell? ⟨pk, 0, none⟩ = some (.int .i64 k) ∧ Cap w0 W pb pk pn A n c l k no)
    (first | exact ⟨hdb, hdk, hd⟩ | exact ⟨hb2, hk2, hC2⟩)
    (first
      | (go_at_call 26; refine (ST.out _ (by first | exact hd | assumption)).mono ?_; rintro e w2 ⟨rfl, hC2, hb2, hk2⟩)
      | (go_at_call 34; refine (UN.out _).mono ?_; rintro e w4 ⟨rfl, rfl⟩))
  go_wp2
  go_ret
  exact ⟨rfl, by assumption⟩

theorem chk6_any (h : Cap w0 w pb pk pn A n c l k no) (hl : l.length = 256) :
    Calls Try.prog 39 #[.pointer (some ⟨pb, 0, none⟩)] w fun e w' => e = .returned (.int .i64 (chk l k no 5)) ∧ Cap w0 w' pb pk pn A n c l k no := by
  have hcb := h.b
  have E : (if (((leN ((l.drop 6).take 2) : Nat) : Int) == 0) = true then (0 : Int) else 7) = chk l k no 5 := by
    simp only [chk]; exact bool_if (by rw [Bool.eq_iff_iff]; simp) 7
  have ST : Hid (Calls Try.prog 26 #[.slice A n c, .int .i64 6, .int .i64 2] w fun e w' => e = .returned (.int .i64 (leN ((l.drop 6).take 2) : Int)) ∧ Cap w0 w' pb pk pn A n c l k no) :=
    (stored_any A n c l 6 2 w h.B (by omega)).mono fun e w' ⟨h1, h2⟩ => by
      rw [stored_6 hl] at h1
      exact ⟨h1, h.later h2⟩
  generalize leN ((l.drop 6).take 2) = x at *
  generalize chk l k no 5 = z at *
  have UN := Lib.hid (fun W => unless_any ((x : Int) == 0) 7 _ E W)
  clear E
  clear h
  go_enter Try.func39, Try.ntmps39
  go_wp2_with (first
    | (go_at_call 26; refine (ST.out).mono ?_; rintro e w2 ⟨rfl, hC2⟩)
    | (go_at_call 34; refine (UN.out _).mono ?_; rintro e w4 ⟨rfl, rfl⟩))
  go_ret
  exact ⟨rfl, hC2⟩

end

end Go.Proofs.Ytldgdgkojlohfaa
