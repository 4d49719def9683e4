/-
  Joined: SealB, SealC, SealD, SealE.
-/
import Derived.Deep.RegionHeld3
import Derived.Laws.EntriesVeiled
import Derived.Test.YtnjlganofjkpfaaGreatJBldB17
import Derived.LoopTactic
import Derived.OwnWalk
/-
  Layer 4's checks: the six closures, what hands them over, and Open.
-/
namespace Go.Proofs.YtnjlganofjkpfaaGreat
open Go.RowKit
set_option linter.unusedVariables false
set_option linter.unusedSimpArgs false

/-- what the checks of a block answer, one by one -/
def chk (l : List UInt8) (k no : Int) : Nat → Int
  | 0 => if knownB k no = true then 0 else 1
  | 1 => if l.length = 256 then 0 else 7
  | 2 => if (leN (l.drop 252) : Int) = sumN l k then 0 else 4
  | 3 => if (leN (l.take 4) : Int) = no then 0 else 5
  | 4 => if (leN ((l.drop 4).take 2) : Int) = k then 0 else 6
  | _ => if leN ((l.drop 6).take 2) = 0 then 0 else 7

theorem chk_len {l : List UInt8} {k no : Int} (h : chk l k no 1 = 0) : l.length = 256 := by
  simp only [chk] at h
  split at h <;> first | assumption | omega

theorem openE_chk (l : List UInt8) (k no : Int) : openE l k no = if chk l k no 0 = 0 then (if chk l k no 1 = 0 then (if chk l k no 2 = 0 then (if chk l k no 3 = 0 then (if chk l k no 4 = 0 then chk l k no 5 else chk l k no 4) else chk l k no 3) else chk l k no 2) else chk l k no 1) else chk l k no 0 := by
  simp only [openE, chk]
  by_cases h1 : knownB k no = true
  · by_cases h2 : l.length = 256
    · by_cases h3 : (leN (l.drop 252) : Int) = sumN l k
      · by_cases h4 : (leN (l.take 4) : Int) = no
        · by_cases h5 : (leN ((l.drop 4).take 2) : Int) = k
          · by_cases h6 : leN ((l.drop 6).take 2) = 0
            · simp [h1, h2, h3, h4, h5, h6]
            · simp [h1, h2, h3, h4, h5, h6]
          · simp [h1, h2, h3, h4, h5]
        · simp [h1, h2, h3, h4]
      · simp [h1, h2, h3]
    · simp [h1, h2]
  · simp [h1]

/-- the checks before j have found nothing -/
def Passed (l : List UInt8) (k no : Int) (j : Nat) : Prop := ∀ i, i < j → chk l k no i = 0

theorem Passed.succ {l : List UInt8} {k no : Int} {j : Nat} (h : Passed l k no j) (h0 : chk l k no j = 0) : Passed l k no (j + 1) := fun i hi => by
  by_cases he : i = j
  · subst he; exact h0
  · exact h i (by omega)
theorem Passed.zero (l : List UInt8) (k no : Int) : Passed l k no 0 := fun i hi => by omega

theorem openE_first {l : List UInt8} {k no : Int} {j : Nat} (hj : j < 6) (h : Passed l k no j) (h0 : chk l k no j ≠ 0) : openE l k no = chk l k no j := by
  rw [openE_chk]
  rcases (show j = 0 ∨ j = 1 ∨ j = 2 ∨ j = 3 ∨ j = 4 ∨ j = 5 by omega) with rfl | rfl | rfl | rfl | rfl | rfl
  · rw [if_neg h0]
  · rw [if_pos (h 0 (by omega)), if_neg h0]
  · rw [if_pos (h 0 (by omega)), if_pos (h 1 (by omega)), if_neg h0]
  · rw [if_pos (h 0 (by omega)), if_pos (h 1 (by omega)), if_pos (h 2 (by omega)), if_neg h0]
  · rw [if_pos (h 0 (by omega)), if_pos (h 1 (by omega)), if_pos (h 2 (by omega)), if_pos (h 3 (by omega)), if_neg h0]
  · rw [if_pos (h 0 (by omega)), if_pos (h 1 (by omega)), if_pos (h 2 (by omega)), if_pos (h 3 (by omega)), if_pos (h 4 (by omega))]
theorem openE_all {l : List UInt8} {k no : Int} (h : Passed l k no 6) : openE l k no = 0 := by
  rw [openE_chk, if_pos (h 0 (by omega)), if_pos (h 1 (by omega)), if_pos (h 2 (by omega)), if_pos (h 3 (by omega)), if_pos (h 4 (by omega))]
  exact h 5 (by omega)

theorem get_at {l : List UInt8} (hl : l.length = 256) (i wd : Nat) (hw : wd = 2 ∨ wd = 4) (hi : i + wd ≤ 256) : getE l i wd = 0 ∧ getN l i wd = (leN ((l.drop i).take wd) : Int) := by
  have hr : roomE l.length i wd = 0 := by
    rw [hl]
    rcases hw with rfl | rfl <;> simp [roomE, isW] <;> omega
  have hlt := leN_lt (part l i wd)
  have hpl : (part l i wd).length = wd := by
    rw [part_len (by omega) (by omega) (by omega)]; simp
  rw [hpl] at hlt
  have hlt2 : leN (part l i wd) < 9223372036854775808 := by rcases hw with rfl | rfl <;> omega
  have he : getE l i wd = 0 := by rw [getE, if_pos hr, if_neg (by omega)]
  refine ⟨he, ?_⟩
  rw [getN, if_pos he]
  simp [part]

theorem stored_at {l : List UInt8} (hl : l.length = 256) (i wd : Nat) (hw : wd = 2 ∨ wd = 4) (hi : i + wd ≤ 256) : storedN l i wd = (leN ((l.drop i).take wd) : Int) := by
  obtain ⟨he, hn⟩ := get_at hl i wd hw hi
  rw [storedN, if_pos he, hn]

theorem stored_252 {l : List UInt8} (hl : l.length = 256) : storedN l 252 4 = (leN (l.drop 252) : Int) := by
  have := stored_at hl 252 4 (.inr rfl) (by omega)
  rw [List.take_of_length_le (by simp; omega)] at this
  exact this
theorem stored_0 {l : List UInt8} (hl : l.length = 256) : storedN l 0 4 = (leN (l.take 4) : Int) := by
  have := stored_at hl 0 4 (.inr rfl) (by omega)
  simpa using this
theorem stored_4 {l : List UInt8} (hl : l.length = 256) : storedN l 4 2 = (leN ((l.drop 4).take 2) : Int) := stored_at hl 4 2 (.inl rfl) (by omega)
theorem stored_6 {l : List UInt8} (hl : l.length = 256) : storedN l 6 2 = (leN ((l.drop 6).take 2) : Int) := stored_at hl 6 2 (.inl rfl) (by omega)

/-- the variables that the checks capture -/
structure Cap (w0 w : World) (pb pk pn : Nat) (A : Option Addr) (n c : Nat) (l : List UInt8) (k no : Int) : Prop where
  bel : Below w0.heap.size w0 w
  b : w.cell? ⟨pb, 0, none⟩ = some (.slice A n c)
  knd : w.cell? ⟨pk, 0, none⟩ = some (.int .i64 k)
  num : w.cell? ⟨pn, 0, none⟩ = some (.int .i64 no)
  B : Bytes8 w A n c l

theorem Cap.later {w0 w w' : World} {pb pk pn : Nat} {A : Option Addr} {n c : Nat} {l : List UInt8} {k no : Int} (h : Cap w0 w pb pk pn A n c l k no) (hb : Below w.heap.size w w') : Cap w0 w' pb pk pn A n c l k no :=
  ⟨h.bel.trans (hb.mono h.bel.size), (hb.cell (p := ⟨pb, 0, none⟩) (cell_lt h.b)).trans h.b, (hb.cell (p := ⟨pk, 0, none⟩) (cell_lt h.knd)).trans h.knd, (hb.cell (p := ⟨pn, 0, none⟩) (cell_lt h.num)).trans h.num, h.B.below hb⟩

theorem bool_if {p : Bool} {P : Prop} [Decidable P] (h : p = decide P) (x : Int) : (if p = true then (0 : Int) else x) = if P then 0 else x := by
  subst h; simp

section
variable {w0 w : World} {pb pk pn : Nat} {A : Option Addr} {n c : Nat} {l : List UInt8} {k no : Int}

set_option maxRecDepth 100000 in
theorem chk1_any (h : Cap w0 w pb pk pn A n c l k no) :
    Calls Tryz.prog 104 #[.pointer (some ⟨pk, 0, none⟩), .pointer (some ⟨pn, 0, none⟩)] w fun e w' => e = .returned (.int .i64 (chk l k no 0)) ∧ w = w' := by
  have hck := h.knd
  have hcn := h.num
  have E0 : kindB k = false → (if false = true then (0 : Int) else 1) = chk l k no 0 := fun h => by simp [chk, knownB, h]
  have E1 : kindB k = true → (if snumB no = true then (0 : Int) else 1) = chk l k no 0 := fun h => by simp [chk, knownB, h]
  clear h
  cases hk : kindB k with
  | false =>
    have IK := Lib.hid (fun W => isKind_any k W false hk)
    have U := Lib.hid (fun W => unless_any false 1 _ (E0 hk) W)
    clear E0 E1 hk
    generalize chk l k no 0 = z at *
    go_enter Tryz.func104, Tryz.ntmps104
    go_wp2_with (first
      | (go_at_call 82; refine (IK.out _).mono ?_; rintro e w' ⟨rfl, rfl⟩)
      | (go_at_call 105; refine (U.out _).mono ?_; rintro e w' ⟨rfl, rfl⟩))
    go_ret
    exact ⟨rfl, rfl⟩
  | true =>
    have IK := Lib.hid (fun W => isKind_any k W true hk)
    have IN := Lib.hid (fun W => isNumber_any no W _ rfl)
    have U := Lib.hid (fun W => unless_any (snumB no) 1 _ (E1 hk) W)
    clear E0 E1 hk
    generalize snumB no = r at *
    generalize chk l k no 0 = z at *
    go_enter Tryz.func104, Tryz.ntmps104
    go_wp2_with (first
      | (go_at_call 82; refine (IK.out _).mono ?_; rintro e w' ⟨rfl, rfl⟩)
      | (go_at_call 83; refine (IN.out _).mono ?_; rintro e w' ⟨rfl, rfl⟩)
      | (go_at_call 105; refine (U.out _).mono ?_; rintro e w' ⟨rfl, rfl⟩))
    go_ret
    exact ⟨rfl, rfl⟩

set_option maxRecDepth 100000 in
theorem chk2_any (h : Cap w0 w pb pk pn A n c l k no) :
    Calls Tryz.prog 106 #[.pointer (some ⟨pb, 0, none⟩)] w fun e w' => e = .returned (.int .i64 (chk l k no 1)) ∧ w = w' := by
  have hcb := h.b
  have E : (if ((n : Int) == 256) = true then (0 : Int) else 7) = chk l k no 1 := by
    have hl := h.B.len
    simp only [chk]
    by_cases h0 : n = 256
    · subst h0; simp [hl]
    · rw [if_neg (by simp; omega), if_neg (by omega)]
  have U := Lib.hid (fun W => unless_any ((n : Int) == 256) 7 _ E W)
  clear h E
  generalize chk l k no 1 = z at *
  go_enter Tryz.func106, Tryz.ntmps106
  go_wp2_with (go_at_call 105; refine (U.out _).mono ?_; rintro e w' ⟨rfl, rfl⟩)
  go_ret
  exact ⟨rfl, rfl⟩

set_option maxRecDepth 100000 in
set_option maxHeartbeats 800000 in
theorem chk3_any (h : Cap w0 w pb pk pn A n c l k no) (hl : l.length = 256) :
    Calls Tryz.prog 107 #[.pointer (some ⟨pb, 0, none⟩), .pointer (some ⟨pk, 0, none⟩)] w fun e w' => e = .returned (.int .i64 (chk l k no 2)) ∧ Cap w0 w' pb pk pn A n c l k no := by
  have hcb := h.b
  have hck := h.knd
  have hn : 252 ≤ n := by have := h.B.len; omega
  have E : (if (((leN (l.drop 252) : Nat) : Int) == ((sumN l k : Nat) : Int)) = true then (0 : Int) else 4) = chk l k no 2 := by
    simp only [chk]; exact bool_if (by rw [Bool.eq_iff_iff]; simp) 4
  have ST : Hid (∀ W, Cap w0 W pb pk pn A n c l k no → Calls Tryz.prog 108 #[.slice A n c, .int .i64 252, .int .i64 4] W fun e w' => e = .returned (.int .i64 (leN (l.drop 252) : Int)) ∧ Cap w0 w' pb pk pn A n c l k no ∧ w'.cell? ⟨pb, 0, none⟩ = some (.slice A n c) ∧ w'.cell? ⟨pk, 0, none⟩ = some (.int .i64 k)) :=
    fun W hW => (stored_any A n c l 252 4 W hW.B (by omega)).mono fun e w' ⟨h1, h2⟩ => by
      rw [stored_252 hl] at h1
      have := hW.later h2
      exact ⟨h1, this, this.b, this.knd⟩
  have SM : Hid (∀ W, Cap w0 W pb pk pn A n c l k no → Calls Tryz.prog 85 #[.slice A n c, .int .i64 k] W fun e w' => e = .returned (.int .i64 (sumN l k : Int)) ∧ Cap w0 w' pb pk pn A n c l k no ∧ w'.cell? ⟨pb, 0, none⟩ = some (.slice A n c) ∧ w'.cell? ⟨pk, 0, none⟩ = some (.int .i64 k)) :=
    fun W hW => (sum_any A n c l k W hW.B hn).mono fun e w' ⟨h1, h2⟩ => ⟨h1, hW.later h2, (hW.later h2).b, (hW.later h2).knd⟩
  generalize leN (l.drop 252) = x at *
  generalize sumN l k = y at *
  generalize chk l k no 2 = z at *
  have UN := Lib.hid (fun W => unless_any ((x : Int) == (y : Int)) 4 _ E W)
  clear E
  have hd : Cap w0 w.drew pb pk pn A n c l k no := h.later ((Below.refl _ _).drew)
  have hdb := hd.b
  have hdk := hd.knd
  clear h
  go_enter Tryz.func107, Tryz.ntmps107
  go_wp2
  go_region_held3 (fun W => W.cell? ⟨pb, 0, none⟩ = some (.slice A n c) ∧ W.cell? ⟨pk, 0, none⟩ = some (.int .i64 k) ∧ Cap w0 W pb pk pn A n c l k no)
    (first | exact ⟨hdb, hdk, hd⟩ | exact ⟨hb2, hk2, hC2⟩ | exact ⟨hb3, hk3, hC3⟩)
    (first
      | (go_at_call 108; refine (ST.out _ (by first | exact hd | assumption)).mono ?_; rintro e w2 ⟨rfl, hC2, hb2, hk2⟩)
      | (go_at_call 85; refine (SM.out _ (by first | exact hC2 | assumption)).mono ?_; rintro e w3 ⟨rfl, hC3, hb3, hk3⟩)
      | (go_at_call 105; refine (UN.out _).mono ?_; rintro e w4 ⟨rfl, rfl⟩))
  go_wp2
  go_ret
  exact ⟨rfl, by assumption⟩

set_option maxRecDepth 100000 in
set_option maxHeartbeats 800000 in
theorem chk4_any (h : Cap w0 w pb pk pn A n c l k no) (hl : l.length = 256) :
    Calls Tryz.prog 109 #[.pointer (some ⟨pb, 0, none⟩), .pointer (some ⟨pn, 0, none⟩)] w fun e w' => e = .returned (.int .i64 (chk l k no 3)) ∧ Cap w0 w' pb pk pn A n c l k no := by
  have hcb := h.b
  have hck := h.num
  have E : (if (((leN (l.take 4) : Nat) : Int) == no) = true then (0 : Int) else 5) = chk l k no 3 := by
    simp only [chk]; exact bool_if (by rw [Bool.eq_iff_iff]; simp) 5
  have ST : Hid (∀ W, Cap w0 W pb pk pn A n c l k no → Calls Tryz.prog 108 #[.slice A n c, .int .i64 0, .int .i64 4] W fun e w' => e = .returned (.int .i64 (leN (l.take 4) : Int)) ∧ Cap w0 w' pb pk pn A n c l k no ∧ w'.cell? ⟨pb, 0, none⟩ = some (.slice A n c) ∧ w'.cell? ⟨pn, 0, none⟩ = some (.int .i64 no)) :=
    fun W hW => (stored_any A n c l 0 4 W hW.B (by omega)).mono fun e w' ⟨h1, h2⟩ => by
      rw [stored_0 hl] at h1
      have := hW.later h2
      exact ⟨h1, this, this.b, this.num⟩
  generalize leN (l.take 4) = x at *
  generalize chk l k no 3 = z at *
  have UN := Lib.hid (fun W => unless_any ((x : Int) == no) 5 _ E W)
  clear E
  have hd : Cap w0 w.drew pb pk pn A n c l k no := h.later ((Below.refl _ _).drew)
  have hdb := hd.b
  have hdk := hd.num
  clear h
  go_enter Tryz.func109, Tryz.ntmps109
  go_wp2
  go_region_held3 (fun W => W.cell? ⟨pb, 0, none⟩ = some (.slice A n c) ∧ W.cell? ⟨pn, 0, none⟩ = some (.int .i64 no) ∧ Cap w0 W pb pk pn A n c l k no)
    (first | exact ⟨hdb, hdk, hd⟩ | exact ⟨hb2, hk2, hC2⟩)
    (first
      | (go_at_call 108; refine (ST.out _ (by first | exact hd | assumption)).mono ?_; rintro e w2 ⟨rfl, hC2, hb2, hk2⟩)
      | (go_at_call 105; refine (UN.out _).mono ?_; rintro e w4 ⟨rfl, rfl⟩))
  go_wp2
  go_ret
  exact ⟨rfl, by assumption⟩

set_option maxRecDepth 100000 in
set_option maxHeartbeats 800000 in
theorem chk5_any (h : Cap w0 w pb pk pn A n c l k no) (hl : l.length = 256) :
    Calls Tryz.prog 110 #[.pointer (some ⟨pb, 0, none⟩), .pointer (some ⟨pk, 0, none⟩)] w fun e w' => e = .returned (.int .i64 (chk l k no 4)) ∧ Cap w0 w' pb pk pn A n c l k no := by
  have hcb := h.b
  have hck := h.knd
  have E : (if (((leN ((l.drop 4).take 2) : Nat) : Int) == k) = true then (0 : Int) else 6) = chk l k no 4 := by
    simp only [chk]; exact bool_if (by rw [Bool.eq_iff_iff]; simp) 6
  have ST : Hid (∀ W, Cap w0 W pb pk pn A n c l k no → Calls Tryz.prog 108 #[.slice A n c, .int .i64 4, .int .i64 2] W fun e w' => e = .returned (.int .i64 (leN ((l.drop 4).take 2) : Int)) ∧ Cap w0 w' pb pk pn A n c l k no ∧ w'.cell? ⟨pb, 0, none⟩ = some (.slice A n c) ∧ w'.cell? ⟨pk, 0, none⟩ = some (.int .i64 k)) :=
    fun W hW => (stored_any A n c l 4 2 W hW.B (by omega)).mono fun e w' ⟨h1, h2⟩ => by
      rw [stored_4 hl] at h1
      have := hW.later h2
      exact ⟨h1, this, this.b, this.knd⟩
  generalize leN ((l.drop 4).take 2) = x at *
  generalize chk l k no 4 = z at *
  have UN := Lib.hid (fun W => unless_any ((x : Int) == k) 6 _ E W)
  clear E
  have hd : Cap w0 w.drew pb pk pn A n c l k no := h.later ((Below.refl _ _).drew)
  have hdb := hd.b
  have hdk := hd.knd
  clear h
  go_enter Tryz.func110, Tryz.ntmps110
  go_wp2
  go_region_held3 (fun W => W.cell? ⟨pb, 0, none⟩ = some (.slice A n c) ∧ W.cell? ⟨pk, 0, none⟩ = some (.int .i64 k) ∧ Cap w0 W pb pk pn A n c l k no)
    (first | exact ⟨hdb, hdk, hd⟩ | exact ⟨hb2, hk2, hC2⟩)
    (first
      | (go_at_call 108; refine (ST.out _ (by first | exact hd | assumption)).mono ?_; rintro e w2 ⟨rfl, hC2, hb2, hk2⟩)
      | (go_at_call 105; refine (UN.out _).mono ?_; rintro e w4 ⟨rfl, rfl⟩))
  go_wp2
  go_ret
  exact ⟨rfl, by assumption⟩

set_option maxRecDepth 100000 in
theorem chk6_any (h : Cap w0 w pb pk pn A n c l k no) (hl : l.length = 256) :
    Calls Tryz.prog 111 #[.pointer (some ⟨pb, 0, none⟩)] w fun e w' => e = .returned (.int .i64 (chk l k no 5)) ∧ Cap w0 w' pb pk pn A n c l k no := by
  have hcb := h.b
  have E : (if (((leN ((l.drop 6).take 2) : Nat) : Int) == 0) = true then (0 : Int) else 7) = chk l k no 5 := by
    simp only [chk]; exact bool_if (by rw [Bool.eq_iff_iff]; simp) 7
  have ST : Hid (Calls Tryz.prog 108 #[.slice A n c, .int .i64 6, .int .i64 2] w fun e w' => e = .returned (.int .i64 (leN ((l.drop 6).take 2) : Int)) ∧ Cap w0 w' pb pk pn A n c l k no) :=
    (stored_any A n c l 6 2 w h.B (by omega)).mono fun e w' ⟨h1, h2⟩ => by
      rw [stored_6 hl] at h1
      exact ⟨h1, h.later h2⟩
  generalize leN ((l.drop 6).take 2) = x at *
  generalize chk l k no 5 = z at *
  have UN := Lib.hid (fun W => unless_any ((x : Int) == 0) 7 _ E W)
  clear E
  clear h
  go_enter Tryz.func111, Tryz.ntmps111
  go_wp2_with (first
    | (go_at_call 108; refine (ST.out).mono ?_; rintro e w2 ⟨rfl, hC2⟩)
    | (go_at_call 105; refine (UN.out _).mono ?_; rintro e w4 ⟨rfl, rfl⟩))
  go_ret
  exact ⟨rfl, hC2⟩

end

end Go.Proofs.YtnjlganofjkpfaaGreat

/-
  Layer 4's checks handed over, and Open.
-/
namespace Go.Proofs.YtnjlganofjkpfaaGreat
open Go.RowKit
set_option linter.unusedVariables false
set_option linter.unusedSimpArgs false

/-- the six closures -/
def fns (pb pk pn : Nat) : List Value :=
  [.func (.func 104) #[] #[.pointer (some ⟨pk, 0, none⟩), .pointer (some ⟨pn, 0, none⟩)],
   .func (.func 106) #[] #[.pointer (some ⟨pb, 0, none⟩)],
   .func (.func 107) #[] #[.pointer (some ⟨pb, 0, none⟩), .pointer (some ⟨pk, 0, none⟩)],
   .func (.func 109) #[] #[.pointer (some ⟨pb, 0, none⟩), .pointer (some ⟨pn, 0, none⟩)],
   .func (.func 110) #[] #[.pointer (some ⟨pb, 0, none⟩), .pointer (some ⟨pk, 0, none⟩)],
   .func (.func 111) #[] #[.pointer (some ⟨pb, 0, none⟩)]]

set_option maxRecDepth 100000 in
set_option maxHeartbeats 400000 in
theorem checks_any (A : Option Addr) (n c : Nat) (l : List UInt8) (k no : Int) (w : World) (h : Bytes8 w A n c l) :
    Calls Tryz.prog 99 #[.slice A n c, .int .i64 k, .int .i64 no] w fun e w' => ∃ g pb pk pn, e = .returned (.slice (some ⟨g, 0, none⟩) 6 6) ∧ Cap w w' pb pk pn A n c l k no ∧ Row w' (some ⟨g, 0, none⟩) (fns pb pk pn) := by
  have HB := Lib.hid h
  clear h
  have hmf : ∀ (fn : Fn) (first cap : Array Value) (w : World), (Instr.makeFunc fn first cap).run Tryz.prog w = .ok (.func fn first cap) w := fun _ _ _ _ => rfl
  go_enter Tryz.func99, Tryz.ntmps99
  go_wp2
  go_ret
  have b0 : Below w.heap.size w (w.alloc (.cells #[.slice A n c] 22)) := (Below.refl _ _).alloc (Nat.le_refl _) _
  have c1 := cell_of_row _ w.heap.size 0 _ _ _ (heap_alloc_new w (.cells #[.slice A n c] 22))
  generalize hw1 : w.alloc (.cells #[.slice A n c] 22) = w1 at *
  have s1 : w1.heap.size = w.heap.size + 1 := by rw [← hw1]; simp
  have b1 : Below w1.heap.size w1 (w1.alloc (.cells #[.int .i64 k] 3)) := (Below.refl _ _).alloc (Nat.le_refl _) _
  have c2 := cell_of_row _ w1.heap.size 0 _ _ _ (heap_alloc_new w1 (.cells #[.int .i64 k] 3))
  generalize hw2 : w1.alloc (.cells #[.int .i64 k] 3) = w2 at *
  have s2 : w2.heap.size = w1.heap.size + 1 := by rw [← hw2]; simp
  have b2 : Below w2.heap.size w2 (w2.alloc (.cells #[.int .i64 no] 3)) := (Below.refl _ _).alloc (Nat.le_refl _) _
  have c3 := cell_of_row _ w2.heap.size 0 _ _ _ (heap_alloc_new w2 (.cells #[.int .i64 no] 3))
  generalize hw3 : w2.alloc (.cells #[.int .i64 no] 3) = w3 at *
  have s3 : w3.heap.size = w2.heap.size + 1 := by rw [← hw3]; simp
  have b3 : Below w3.heap.size w3 (w3.alloc (.cells (fns w.heap.size w1.heap.size w2.heap.size).toArray 156)) := (Below.refl _ _).alloc (Nat.le_refl _) _
  have c4 : Row (w3.alloc (.cells (fns w.heap.size w1.heap.size w2.heap.size).toArray 156)) (some ⟨w3.heap.size, 0, none⟩) (fns w.heap.size w1.heap.size w2.heap.size) := Row.of_block (heap_alloc_new w3 _)
  have b12 := b1.trans (b2.mono b1.size)
  have b13 := b12.trans (b3.mono b12.size)
  have b23 := b2.trans (b3.mono b2.size)
  have b03 := b0.trans (b13.mono b0.size)
  have l1 := cell_lt c1
  have l2 := cell_lt c2
  have l3 := cell_lt c3
  have key := And.intro (Cap.mk (w0 := w) (pb := w.heap.size) (pk := w1.heap.size) (pn := w2.heap.size) (k := k) (no := no) b03 ((b13.cell (p := ⟨w.heap.size, 0, none⟩) l1).trans c1) ((b23.cell (p := ⟨w1.heap.size, 0, none⟩) l2).trans c2) ((b3.cell (p := ⟨w2.heap.size, 0, none⟩) l3).trans c3) (HB.out.below b03)) c4
  simp only [s3, s2, s1] at key
  exact ⟨_, _, _, _, rfl, key⟩

theorem Cap.self {w0 w : World} {pb pk pn : Nat} {A : Option Addr} {n c : Nat} {l : List UInt8} {k no : Int} (h : Cap w0 w pb pk pn A n c l k no) : Cap w w pb pk pn A n c l k no := ⟨Below.refl _ _, h.b, h.knd, h.num, h.B⟩

set_option maxRecDepth 100000 in
set_option maxHeartbeats 3200000 in
theorem Open_any (A : Option Addr) (n c : Nat) (l : List UInt8) (k no : Int) (w : World) (h : Bytes8 w A n c l) :
    Calls Tryz.prog 89 #[.slice A n c, .int .i64 k, .int .i64 no] w fun e w' => ∃ A' m c', e = .returned (.tuple #[.slice A' m c', .int .i64 (openE l k no)]) ∧ Bytes8 w' A' m c' (openB l k no) ∧ Below w.heap.size w w' := by
  have CK := Lib.hid (checks_any A n c l k no w h)
  have hn := h.len
  have HN := Lib.hid hn
  obtain ⟨i0, hi0, hz0, hz1, hz2⟩ := info_parts info_u8
  clear h hn
  go_enter Tryz.func89, Tryz.ntmps89
  go_wp2_with (go_at_call 99; refine (CK.out).mono ?_; rintro e w1 ⟨g, pb, pk, pn, rfl, hC, hR⟩)
  have HC := Lib.hid hC
  have HR := Lib.hid hR
  clear hC hR CK
  go_loopw [17] (fun i wr => ∃ j : Nat, j ≤ 6 ∧ i = .int .i64 j ∧ Hid (Cap w wr pb pk pn A n c l k no) ∧ Hid (Row wr (some ⟨g, 0, none⟩) (fns pb pk pn)) ∧ Hid (Passed l k no j)) (fun i _ => 6 - (intOf i).toNat)
  case atStart => exact ⟨0, by omega, rfl, HC, HR, Passed.zero l k no⟩
  case round =>
    clear HC HR
    obtain ⟨j, hj, rfl, HC, HR, HP⟩ := hrel
    rcases (show j = 0 ∨ j = 1 ∨ j = 2 ∨ j = 3 ∨ j = 4 ∨ j = 5 ∨ j = 6 by omega) with rfl | rfl | rfl | rfl | rfl | rfl | rfl
    · have hc := (HR.out.at_ (k := 0) rfl)
      rw [Addr.add_lit] at hc
      have CH := Lib.hid (chk1_any HC.out)
      have HO := Lib.hid (fun h0 : chk l k no 0 ≠ 0 => openE_first (by omega) HP.out h0)
      have HS := Lib.hid (fun h0 : chk l k no 0 = 0 => HP.out.succ h0)
      generalize chk l k no 0 = x at *
      by_cases hx : x = 0
      · subst hx
        have HS2 := Lib.hid (HS.out rfl)
        clear HS HO
        go_wp2_with (go_at_call 104; (with_reducible refine (CH.out).mono ?_); rintro e w' ⟨rfl, rfl⟩)
        go_roundw
        case rel => exact ⟨1, by omega, rfl, HC, HR, HS2⟩
        case measure => simp [intOf]
      · have q : (x != 0) = true := by simpa using hx
        have E : Hid (openE l k no = x) := HO.out hx
        clear hx HO HS
        go_wp2_with (go_at_call 104; (with_reducible refine (CH.out).mono ?_); rintro e w' ⟨rfl, rfl⟩)
        go_ret2
        have e0 : openB l k no = [] := by rw [openB, if_neg]; rw [E.out]; intro h; simp [h] at q
        exact ⟨none, 0, 0, by rw [E.out]; rfl, by rw [e0]; exact Bytes8.nil _, HC.out.bel⟩
    · have hc := (HR.out.at_ (k := 1) rfl)
      rw [Addr.add_lit] at hc
      have CH := Lib.hid (chk2_any HC.out)
      have HO := Lib.hid (fun h0 : chk l k no 1 ≠ 0 => openE_first (by omega) HP.out h0)
      have HS := Lib.hid (fun h0 : chk l k no 1 = 0 => HP.out.succ h0)
      generalize chk l k no 1 = x at *
      by_cases hx : x = 0
      · subst hx
        have HS2 := Lib.hid (HS.out rfl)
        clear HS HO
        go_wp2_with (go_at_call 106; (with_reducible refine (CH.out).mono ?_); rintro e w' ⟨rfl, rfl⟩)
        go_roundw
        case rel => exact ⟨2, by omega, rfl, HC, HR, HS2⟩
        case measure => simp [intOf]
      · have q : (x != 0) = true := by simpa using hx
        have E : Hid (openE l k no = x) := HO.out hx
        clear hx HO HS
        go_wp2_with (go_at_call 106; (with_reducible refine (CH.out).mono ?_); rintro e w' ⟨rfl, rfl⟩)
        go_ret2
        have e0 : openB l k no = [] := by rw [openB, if_neg]; rw [E.out]; intro h; simp [h] at q
        exact ⟨none, 0, 0, by rw [E.out]; rfl, by rw [e0]; exact Bytes8.nil _, HC.out.bel⟩
    · have hc := (HR.out.at_ (k := 2) rfl)
      rw [Addr.add_lit] at hc
      have CH := Lib.hid (chk3_any HC.out.self (chk_len (HP.out 1 (by omega))))
      have HO := Lib.hid (fun h0 : chk l k no 2 ≠ 0 => openE_first (by omega) HP.out h0)
      have HS := Lib.hid (fun h0 : chk l k no 2 = 0 => HP.out.succ h0)
      generalize chk l k no 2 = x at *
      by_cases hx : x = 0
      · subst hx
        have HS2 := Lib.hid (HS.out rfl)
        clear HS HO
        go_wp2_with (go_at_call 107; (with_reducible refine (CH.out).mono ?_); rintro e w2 ⟨rfl, hC2⟩; have HC2 := Lib.hid (HC.out.later hC2.bel); have HR2 := Lib.hid (HR.out.below hC2.bel); clear hC2)
        go_roundw
        case rel => exact ⟨3, by omega, rfl, HC2, HR2, HS2⟩
        case measure => simp [intOf]
      · have q : (x != 0) = true := by simpa using hx
        have E : Hid (openE l k no = x) := HO.out hx
        clear hx HO HS
        go_wp2_with (go_at_call 107; (with_reducible refine (CH.out).mono ?_); rintro e w2 ⟨rfl, hC2⟩; have HC2 := Lib.hid (HC.out.later hC2.bel); have HR2 := Lib.hid (HR.out.below hC2.bel); clear hC2)
        go_ret2
        have e0 : openB l k no = [] := by rw [openB, if_neg]; rw [E.out]; intro h; simp [h] at q
        exact ⟨none, 0, 0, by rw [E.out]; rfl, by rw [e0]; exact Bytes8.nil _, HC2.out.bel⟩
    · have hc := (HR.out.at_ (k := 3) rfl)
      rw [Addr.add_lit] at hc
      have CH := Lib.hid (chk4_any HC.out.self (chk_len (HP.out 1 (by omega))))
      have HO := Lib.hid (fun h0 : chk l k no 3 ≠ 0 => openE_first (by omega) HP.out h0)
      have HS := Lib.hid (fun h0 : chk l k no 3 = 0 => HP.out.succ h0)
      generalize chk l k no 3 = x at *
      by_cases hx : x = 0
      · subst hx
        have HS2 := Lib.hid (HS.out rfl)
        clear HS HO
        go_wp2_with (go_at_call 109; (with_reducible refine (CH.out).mono ?_); rintro e w2 ⟨rfl, hC2⟩; have HC2 := Lib.hid (HC.out.later hC2.bel); have HR2 := Lib.hid (HR.out.below hC2.bel); clear hC2)
        go_roundw
        case rel => exact ⟨4, by omega, rfl, HC2, HR2, HS2⟩
        case measure => simp [intOf]
      · have q : (x != 0) = true := by simpa using hx
        have E : Hid (openE l k no = x) := HO.out hx
        clear hx HO HS
        go_wp2_with (go_at_call 109; (with_reducible refine (CH.out).mono ?_); rintro e w2 ⟨rfl, hC2⟩; have HC2 := Lib.hid (HC.out.later hC2.bel); have HR2 := Lib.hid (HR.out.below hC2.bel); clear hC2)
        go_ret2
        have e0 : openB l k no = [] := by rw [openB, if_neg]; rw [E.out]; intro h; simp [h] at q
        exact ⟨none, 0, 0, by rw [E.out]; rfl, by rw [e0]; exact Bytes8.nil _, HC2.out.bel⟩
    · have hc := (HR.out.at_ (k := 4) rfl)
      rw [Addr.add_lit] at hc
      have CH := Lib.hid (chk5_any HC.out.self (chk_len (HP.out 1 (by omega))))
      have HO := Lib.hid (fun h0 : chk l k no 4 ≠ 0 => openE_first (by omega) HP.out h0)
      have HS := Lib.hid (fun h0 : chk l k no 4 = 0 => HP.out.succ h0)
      generalize chk l k no 4 = x at *
      by_cases hx : x = 0
      · subst hx
        have HS2 := Lib.hid (HS.out rfl)
        clear HS HO
        go_wp2_with (go_at_call 110; (with_reducible refine (CH.out).mono ?_); rintro e w2 ⟨rfl, hC2⟩; have HC2 := Lib.hid (HC.out.later hC2.bel); have HR2 := Lib.hid (HR.out.below hC2.bel); clear hC2)
        go_roundw
        case rel => exact ⟨5, by omega, rfl, HC2, HR2, HS2⟩
        case measure => simp [intOf]
      · have q : (x != 0) = true := by simpa using hx
        have E : Hid (openE l k no = x) := HO.out hx
        clear hx HO HS
        go_wp2_with (go_at_call 110; (with_reducible refine (CH.out).mono ?_); rintro e w2 ⟨rfl, hC2⟩; have HC2 := Lib.hid (HC.out.later hC2.bel); have HR2 := Lib.hid (HR.out.below hC2.bel); clear hC2)
        go_ret2
        have e0 : openB l k no = [] := by rw [openB, if_neg]; rw [E.out]; intro h; simp [h] at q
        exact ⟨none, 0, 0, by rw [E.out]; rfl, by rw [e0]; exact Bytes8.nil _, HC2.out.bel⟩
    · have hc := (HR.out.at_ (k := 5) rfl)
      rw [Addr.add_lit] at hc
      have CH := Lib.hid (chk6_any HC.out.self (chk_len (HP.out 1 (by omega))))
      have HO := Lib.hid (fun h0 : chk l k no 5 ≠ 0 => openE_first (by omega) HP.out h0)
      have HS := Lib.hid (fun h0 : chk l k no 5 = 0 => HP.out.succ h0)
      generalize chk l k no 5 = x at *
      by_cases hx : x = 0
      · subst hx
        have HS2 := Lib.hid (HS.out rfl)
        clear HS HO
        go_wp2_with (go_at_call 111; (with_reducible refine (CH.out).mono ?_); rintro e w2 ⟨rfl, hC2⟩; have HC2 := Lib.hid (HC.out.later hC2.bel); have HR2 := Lib.hid (HR.out.below hC2.bel); clear hC2)
        go_roundw
        case rel => exact ⟨6, by omega, rfl, HC2, HR2, HS2⟩
        case measure => simp [intOf]
      · have q : (x != 0) = true := by simpa using hx
        have E : Hid (openE l k no = x) := HO.out hx
        clear hx HO HS
        go_wp2_with (go_at_call 111; (with_reducible refine (CH.out).mono ?_); rintro e w2 ⟨rfl, hC2⟩; have HC2 := Lib.hid (HC.out.later hC2.bel); have HR2 := Lib.hid (HR.out.below hC2.bel); clear hC2)
        go_ret2
        have e0 : openB l k no = [] := by rw [openB, if_neg]; rw [E.out]; intro h; simp [h] at q
        exact ⟨none, 0, 0, by rw [E.out]; rfl, by rw [e0]; exact Bytes8.nil _, HC2.out.bel⟩
    · have hl := chk_len (HP.out 1 (by omega))
      have E : Hid (openE l k no = 0) := openE_all HP.out
      obtain rfl : n = 256 := by have := HC.out.B.len; omega
      have hm := HC.out.B.most
      have hcp := HC.out.B.cap
      obtain ⟨b, off, rfl, hbl, hcell⟩ := HC.out.B.row.lit (by rw [u8s_length]; omega)
      have hrow : Row wr (some ⟨b, off + 8, none⟩) (u8s ((l.drop 8).take 244)) := by
        have := (HC.out.B.row.drop 8).take 244
        rw [u8s_drop, u8s_take] at this
        simpa [Addr.add_lit] using this
      have HRow := Lib.hid hrow
      have HL : Hid ((u8s ((l.drop 8).take 244)).length = 244) := by rw [Hid, u8s_length, List.length_take, List.length_drop]; omega
      clear hrow hcell hl HR HP
      go_wp2_with (first
        | (at_make; refine wpList_make_full wr rfl (.const (.int .i64 244)) (.const (.int .i64 244)) _ rfl wr.heap.size 5 i0 _ 1 Tryz.underlying22 hi0 hz0 hz1 .i64 .i64 _ _ 244 rfl rfl rfl rfl (by rw [hz2]; omega) (by simp only [maxLen]; omega) (Nat.le_refl _) ?_; intro w1 hown1 hg1; have hb1 := below_of_grown hg1 (by simp); have HO1 := Lib.hid hown1; clear hown1)
        | (refine wpList_copy_splice rfl (.tmp 28) (.tmp 30) _ _ rfl 5 Tryz.underlying22 size_u8 _ _ _ _ _ _ rfl rfl wr.heap.size 0 _ 5 (ownsRow_whole HO1.out) (u8s ((l.drop 8).take 244)) (by rw [HL.out]; rfl) (fun hp => ⟨rfl, (HRow.out.below hb1).src hp⟩) (by have := HO1.out.1; rw [HL.out]; omega) (u8s_one _) wr.heap.size wr hb1 (Nat.le_refl _) ?_; intro w3 HG3 hb3))
      go_ret2
      have e0 : openB l k no = (l.drop 8).take 244 := by rw [openB, if_pos E.out]
      have hL := HL.out
      rw [u8s_length] at hL
      refine ⟨some ⟨wr.heap.size, 0, none⟩, 244, 244, by rw [E.out]; rfl, ?_, HC.out.bel.trans (hb3.mono HC.out.bel.size)⟩
      rw [e0]
      refine ⟨hL, Nat.le_refl _, by omega, ?_⟩
      have h3 := HG3.out
      rw [splice_all _ _ (by have := HO1.out.1; rw [HL.out]; omega)] at h3
      exact Row.of_block h3

end Go.Proofs.YtnjlganofjkpfaaGreat

/-
  Layer 4's Seal.
-/
namespace Go.Proofs.YtnjlganofjkpfaaGreat
open Go.RowKit
set_option linter.unusedVariables false
set_option linter.unusedSimpArgs false

set_option maxRecDepth 100000 in
theorem Seal_arg (k no : Int) (A : Option Addr) (n c : Nat) (w : World) (h : knownB k no = false) :
    Calls Tryz.prog 69 #[.int .i64 k, .int .i64 no, .slice A n c] w fun e w' => e = .returned (.tuple #[.slice none 0 0, .int .i64 1]) ∧ w = w' := by
  cases hk : kindB k with
  | false =>
    have IK := Lib.hid (fun W => isKind_any k W false hk)
    clear h hk
    go_enter Tryz.func69, Tryz.ntmps69
    go_wp2_with (go_at_call 82; refine (IK.out _).mono ?_; rintro e w' ⟨rfl, rfl⟩)
    go_ret2
    exact ⟨rfl, rfl⟩
  | true =>
    have IK := Lib.hid (fun W => isKind_any k W true hk)
    have IN := Lib.hid (fun W => isNumber_any no W false (by simpa [knownB, hk] using h))
    clear h hk
    go_enter Tryz.func69, Tryz.ntmps69
    go_wp2_with (first
      | (go_at_call 82; refine (IK.out _).mono ?_; rintro e w' ⟨rfl, rfl⟩)
      | (go_at_call 83; refine (IN.out _).mono ?_; rintro e w' ⟨rfl, rfl⟩))
    go_ret2
    exact ⟨rfl, rfl⟩

set_option maxRecDepth 100000 in
theorem Seal_range (k no : Int) (A : Option Addr) (n c : Nat) (w : World) (h : knownB k no = true) (hn : 244 < n) :
    Calls Tryz.prog 69 #[.int .i64 k, .int .i64 no, .slice A n c] w fun e w' => e = .returned (.tuple #[.slice none 0 0, .int .i64 2]) ∧ w = w' := by
  have hk : kindB k = true ∧ snumB no = true := by simpa [knownB] using h
  have IK := Lib.hid (fun W => isKind_any k W true hk.1)
  have IN := Lib.hid (fun W => isNumber_any no W true hk.2)
  clear h hk
  go_enter Tryz.func69, Tryz.ntmps69
  go_wp2_with (first
    | (go_at_call 82; refine (IK.out _).mono ?_; rintro e w' ⟨rfl, rfl⟩)
    | (go_at_call 83; refine (IN.out _).mono ?_; rintro e w' ⟨rfl, rfl⟩))
  go_ret2
  exact ⟨rfl, rfl⟩

/-- the first eight bytes -/
def headB (k no : Int) : List UInt8 := encN 4 no.toNat ++ (encN 2 k.toNat ++ [0, 0])
theorem headB_length (k no : Int) : (headB k no).length = 8 := by simp [headB, encN_length]

theorem splice_put {α : Type} (hd l : List α) (z : α) (m : Nat) (hm : hd.length + l.length ≤ m) : splice (splice (List.replicate m z) 0 hd) hd.length l = hd ++ (l ++ List.replicate (m - hd.length - l.length) z) := by
  simp only [splice, List.take_zero, List.nil_append, Nat.zero_add, List.drop_replicate, List.append_assoc]
  rw [List.take_left', List.drop_append]
  · simp
  · rfl

theorem body_splice {k no : Int} {l : List UInt8} (hl : l.length ≤ 244) : splice (splice (List.replicate 256 0) 0 (headB k no)) 8 l = bodyB k no l ++ [0, 0, 0, 0] := by
  have := splice_put (headB k no) l 0 256 (by rw [headB_length]; omega)
  rw [headB_length] at this
  rw [this]
  have e : (List.replicate (256 - 8 - l.length) (0 : UInt8)) = List.replicate (244 - l.length) 0 ++ [0, 0, 0, 0] := by
    rw [show 256 - 8 - l.length = (244 - l.length) + 4 by omega, ← List.replicate_append_replicate]
    rfl
  rw [e]
  simp [headB, bodyB, List.append_assoc]

theorem u8s_splice (a b : List UInt8) (i : Nat) : splice (u8s a) i (u8s b) = u8s (splice a i b) := by simp [splice, u8s]

theorem head_pack {k no : Int} (h : knownB k no = true) : packE [(4, no), (2, k), (2, 0)] = 0 ∧ packB [(4, no), (2, k), (2, 0)] = headB k no := by
  obtain ⟨⟨h1, h2⟩, h3, h4⟩ := knownB_iff.1 h
  have e : packE [(4, no), (2, k), (2, 0)] = 0 := by
    have f1 : fitsB no 4 = true := by simp [fitsB]; omega
    have f2 : fitsB k 2 = true := by simp [fitsB]; omega
    have f3 : fitsB 0 2 = true := by decide
    simp [packE, isW, f1, f2, f3]
  refine ⟨e, ?_⟩
  rw [packB, if_pos e]
  simp only [encs, headB, List.flatMap_cons, List.flatMap_nil, List.append_nil]
  rfl

set_option maxRecDepth 100000 in
set_option maxHeartbeats 1600000 in
theorem Seal_good (k no : Int) (A : Option Addr) (n c : Nat) (l : List UInt8) (w : World) (h : Bytes8 w A n c l) (hs : sealE k no n = 0) :
    Calls Tryz.prog 69 #[.int .i64 k, .int .i64 no, .slice A n c] w fun e w' => ∃ g, e = .returned (.tuple #[.slice (some ⟨g, 0, none⟩) 256 256, .int .i64 0]) ∧ Own8 w' w.heap.size g (sealB k no l) ∧ Below w.heap.size w w' := by
  obtain ⟨hkn, hn⟩ := sealE_zero hs
  have hk : kindB k = true ∧ snumB no = true := by simpa [knownB] using hkn
  have hb := knownB_iff.1 hkn
  have IK := Lib.hid (fun W => isKind_any k W true hk.1)
  have IN := Lib.hid (fun W => isNumber_any no W true hk.2)
  have PK : Hid (Calls Tryz.prog 52 #[.slice (some ⟨w.heap.size, 0, none⟩) 3 3] (w.alloc (.cells #[.int .i64 4, .int .i64 no, .int .i64 2, .int .i64 k, .int .i64 2, .int .i64 0] 104)) fun e w' =>
      ∃ A' c', e = .returned (.tuple #[.slice A' 8 c', .int .i64 0]) ∧ Bytes8 w' A' 8 c' (headB k no) ∧ Below w.heap.size w w') := by
    refine (Pack_any (some ⟨w.heap.size, 0, none⟩) 3 3 [(4, no), (2, k), (2, 0)] _ ⟨rfl, Nat.le_refl _, by omega, ?_, ?_⟩ (by omega)).mono ?_
    · exact Row.of_block (heap_alloc_new w _)
    · intro p hp
      simp only [List.mem_cons, List.not_mem_nil, or_false] at hp
      rcases hp with rfl | rfl | rfl <;> exact ⟨⟨by simp only; omega, by simp only; omega⟩, ⟨by simp only; omega, by simp only; omega⟩⟩
    · rintro e w' ⟨A', m, c', rfl, hB, hb⟩
      rw [(head_pack hkn).2] at hB
      rw [(head_pack hkn).1]
      obtain rfl : 8 = m := by have := hB.len; rw [headB_length] at this; exact this
      exact ⟨A', c', rfl, hB, ((Below.refl _ _).alloc (Nat.le_refl _) _).trans (hb.mono (by simp))⟩
  have hl := h.len
  have HB := Lib.hid h
  have HL := Lib.hid hl
  have HH := Lib.hid (headB_length k no)
  have HZ := Lib.hid (body_splice (k := k) (no := no) (l := l) (by omega))
  have HBL := Lib.hid (bodyB_length (k := k) (no := no) (l := l) (by omega))
  have HSE : Hid (sealB k no l = bodyB k no l ++ encN 4 (Crc.sum (bodyB k no l) ^^^ saltN k)) := sealB_eq (by rw [hl]; exact hs)
  obtain ⟨i0, hi0, hz0, hz1, hz2⟩ := info_parts info_u8
  clear h hl hs hk hkn hb
  go_enter Tryz.func69, Tryz.ntmps69
  go_wp2_with (first
    | (go_at_call 82; refine (IK.out _).mono ?_; rintro e w' ⟨rfl, rfl⟩)
    | (go_at_call 83; refine (IN.out _).mono ?_; rintro e w' ⟨rfl, rfl⟩)
    | (go_at_call 52; (with_reducible refine (PK.out).mono ?_); rintro e w1 ⟨A1, c1, rfl, hB1, hb1⟩; have HB1 := Lib.hid hB1; clear hB1)
    | (at_make; refine wpList_make_full w1 rfl (.const (.int .i64 256)) (.const (.int .i64 256)) _ rfl w1.heap.size 5 i0 _ 1 Tryz.underlying22 hi0 hz0 hz1 .i64 .i64 _ _ 256 rfl rfl rfl rfl (by rw [hz2]; omega) (by simp only [maxLen]; omega) (Nat.le_refl _) ?_; intro w2 hown2 hg2; have hb2 := below_of_grown hg2 (by simp); have HO2 := Lib.hid (own_zeros hown2 (Nat.le_refl _)); clear hown2)
    | (refine wpList_copy_splice rfl (.tmp 36) (.tmp 37) _ _ rfl 5 Tryz.underlying22 size_u8 _ _ _ _ _ _ rfl rfl w1.heap.size 0 (u8s (List.replicate 256 0)) 5 HO2.out.blk (u8s (headB k no)) (by rw [u8s_length, HH.out]; rfl) (fun hp => ⟨rfl, (HB1.out.row.below hb2).src hp⟩) (by rw [u8s_length, u8s_length, HH.out, List.length_replicate]; omega) (u8s_one _) w1.heap.size w1 hb2 (Nat.le_refl _) ?_; intro w3 HG3 hb3)
    | (refine wpList_copy_splice rfl (.tmp 40) (.tmp 41) _ _ rfl 5 Tryz.underlying22 size_u8 _ _ _ _ _ _ rfl rfl w1.heap.size 8 _ 5 HG3.out (u8s l) (by rw [u8s_length, HL.out]; exact (Nat.min_eq_left (by omega)).symm) (fun hp => ⟨rfl, (HB.out.row.below (hb1.trans (hb3.mono hb1.size))).src hp⟩) (by rw [u8s_splice, u8s_length, u8s_length, length_splice _ _ _ (by rw [HH.out, List.length_replicate]; omega), List.length_replicate, HL.out]; omega) (u8s_one _) w1.heap.size w1 hb3 (Nat.le_refl _) ?_; intro w4 HG4 hb4; have HG5 : Hid (Own8 w4 w1.heap.size w1.heap.size (bodyB k no l ++ [0, 0, 0, 0])) := (by refine ⟨Nat.le_refl _, ?_⟩; rw [← HZ.out, ← u8s_splice, ← u8s_splice]; exact HG4.out); clear HG4)
    | (go_at_call 85; refine (sum_any (some ⟨w1.heap.size, 0, none⟩) 256 256 (bodyB k no l ++ [0, 0, 0, 0]) k _ (HG5.out.bytes (by rw [List.length_append, HBL.out]; rfl) (by omega)) (by omega)).mono ?_; rintro e w5 ⟨rfl, hb5⟩)
    | (go_at_call 84; refine (Put_own (some ⟨w1.heap.size, 0, none⟩) 256 256 252 4 (sumN (bodyB k no l ++ [0, 0, 0, 0]) k) _ _ ((HG5.out.later hb5).bytes (by rw [List.length_append, HBL.out]; rfl) (by omega)) (by omega) (by decide) (by decide) (by decide) (by have := sumN_lt (bodyB k no l ++ [0, 0, 0, 0]) k; omega) (by have := sumN_lt (bodyB k no l ++ [0, 0, 0, 0]) k; simp [fitsB]; omega)).mono ?_; rintro e w6 ⟨rfl, hO6, hb6⟩))
  go_ret2
  have h1 := hb1.trans (hb4.mono hb1.size)
  have h2 := h1.trans (hb5.mono h1.size)
  refine ⟨_, rfl, ⟨h2.size, ?_⟩, h2.trans (hb6.mono h2.size)⟩
  have := hO6.blk
  rw [HSE.out]
  have e1 : (bodyB k no l ++ [0, 0, 0, 0]).take 252 = bodyB k no l := take_app HBL.out
  have e2 : (bodyB k no l ++ [0, 0, 0, 0]).drop (252 + (4 : Int).toNat) = [] := List.drop_eq_nil_of_le (by rw [List.length_append, HBL.out]; exact Nat.le_refl _)
  rw [e1, e2, sumN, e1, List.append_nil] at this
  exact this

theorem Seal_any (k no : Int) (A : Option Addr) (n c : Nat) (l : List UInt8) (w : World) (h : Bytes8 w A n c l) :
    Calls Tryz.prog 69 #[.int .i64 k, .int .i64 no, .slice A n c] w fun e w' => ∃ A' m c', e = .returned (.tuple #[.slice A' m c', .int .i64 (sealE k no n)]) ∧ Bytes8 w' A' m c' (sealB k no l) ∧ Below w.heap.size w w' := by
  have hl := h.len
  cases hk : knownB k no with
  | false =>
    have e : sealE k no n = 1 := by simp [sealE, hk]
    refine (Seal_arg k no A n c w hk).mono ?_
    rintro e' w' ⟨rfl, rfl⟩
    exact ⟨none, 0, 0, by rw [e], by rw [sealB, if_neg (by rw [hl, e]; omega)]; exact Bytes8.nil _, Below.refl _ _⟩
  | true =>
    by_cases hn : 244 < n
    · have e : sealE k no n = 2 := by simp [sealE, hk, hn]
      refine (Seal_range k no A n c w hk hn).mono ?_
      rintro e' w' ⟨rfl, rfl⟩
      exact ⟨none, 0, 0, by rw [e], by rw [sealB, if_neg (by rw [hl, e]; omega)]; exact Bytes8.nil _, Below.refl _ _⟩
    · have e : sealE k no n = 0 := by simp [sealE, hk, hn]
      refine (Seal_good k no A n c l w h e).mono ?_
      rintro e' w' ⟨g, rfl, hO, hb⟩
      exact ⟨_, 256, 256, by rw [e], hO.bytes (sealB_length (by rw [hl]; exact e)) (by omega), hb⟩

end Go.Proofs.YtnjlganofjkpfaaGreat

/-
  Layer 4's Which.
-/
namespace Go.Proofs.YtnjlganofjkpfaaGreat
open Go.RowKit
set_option linter.unusedVariables false
set_option linter.unusedSimpArgs false

end Go.Proofs.YtnjlganofjkpfaaGreat
