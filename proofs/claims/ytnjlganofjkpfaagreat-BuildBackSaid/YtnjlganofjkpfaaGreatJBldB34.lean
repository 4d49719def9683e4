/-
  Joined: FltM, FltN, FltO, FltP, FltQ, FltR.
-/
import Derived.Test.YtnjlganofjkpfaaGreatJBldB19
import Derived.Test.YtnjlganofjkpfaaGreatJBldB33
import Derived.LoopTactic
import Derived.Test.YtnjlganofjkpfaaGreatJBldB15
import Derived.Laws.BytesArg
import Derived.Deep.DeepFit
import Derived.Deep.DeepMust
/-
  fault.Text.
-/
namespace Go.Proofs.YtnjlganofjkpfaaGreat
open Go.RowKit
set_option linter.unusedVariables false
set_option linter.unusedSimpArgs false

end Go.Proofs.YtnjlganofjkpfaaGreat

/-
  fault.Text: its loop.
-/
namespace Go.Proofs.YtnjlganofjkpfaaGreat
open Go.RowKit
set_option linter.unusedVariables false
set_option linter.unusedSimpArgs false

end Go.Proofs.YtnjlganofjkpfaaGreat

/-
  fault.At, fault.First; the law's Own.
-/
namespace Go.Proofs.YtnjlganofjkpfaaGreat
open Go.RowKit
set_option linter.unusedVariables false
set_option linter.unusedSimpArgs false

theorem Good.lower {w : World} : ∀ {l : List Node}, Good w l → Lower w.heap.size l
  | [], _ => fun b q h => by cases h
  | .flt b p :: l, ⟨h1, h2, h3, h4⟩ => fun c q h => by
    rcases List.mem_cons.1 h with h | h
    · injection h with h5 h6; subst h6; exact block_lt h1
    · exact Good.lower h4 c q h
  | .num n :: l, h => fun c q h2 => by
    have h : l = [] := h
    subst h
    rcases List.mem_cons.1 h2 with h2 | h2
    · cases h2
    · cases h2

/-- a Fault around an error -/
theorem Good.wrap {w : World} {l : List Node} (h : Good w l) (hne : l ≠ []) (b : Int) : Good (w.alloc (.cells #[.int .i64 b, val l] 114)) (.flt b w.heap.size :: l) :=
  ⟨(MapKept.heap_alloc w _).1, h.lower, hne, h.below ((Below.refl _ _).alloc (Nat.le_refl _) _)⟩

set_option maxRecDepth 100000 in
theorem At_err (b : Int) {l : List Node} (hne : l ≠ []) {w : World} (hG : Good w l) :
    Calls Tryz.prog 45 #[.int .i64 b, val l] w fun e w' => ∃ p, e = .returned (val (.flt b p :: l)) ∧ Good w' (.flt b p :: l) ∧ Below w.heap.size w w' := by
  have HW := Lib.hid (hG.wrap hne b)
  obtain ⟨t, u, hv⟩ : ∃ t u, val l = .iface t u := by
    cases l with
    | nil => exact absurd rfl hne
    | cons x l => cases x <;> exact ⟨_, _, rfl⟩
  have hb := build_fault b (isI_val l)
  rw [hv] at HW hb ⊢
  clear hv hG
  go_enter Tryz.func45, Tryz.ntmps45
  go_wp2
  go_ret
  exact ⟨_, rfl, HW.out, (Below.refl _ _).alloc (Nat.le_refl _) _⟩

/-- the law's chain: blocks, and a number behind them -/
def Chain : List Int → Int → List Node → Prop
  | [], code, l => l = [.num code]
  | b :: bs, code, l => ∃ p l', l = .flt b p :: l' ∧ Chain bs code l'

theorem Chain.ne : ∀ {bs : List Int} {code : Int} {l : List Node}, Chain bs code l → l ≠ []
  | [], _, _, h => by rw [show _ = _ from h]; simp
  | _ :: _, _, _, ⟨p, l', h, _⟩ => by rw [h]; simp
theorem Chain.ans : ∀ {bs : List Int} {code : Int} {l : List Node}, Chain bs code l → ans l = some code
  | [], _, _, h => by rw [show _ = _ from h]; rfl
  | _ :: _, _, _, ⟨p, l', h, h2⟩ => by rw [h]; exact h2.ans
theorem Chain.len : ∀ {bs : List Int} {code : Int} {l : List Node}, Chain bs code l → l.length = bs.length + 1
  | [], _, _, h => by rw [show _ = _ from h]; rfl
  | _ :: _, _, _, ⟨p, l', h, h2⟩ => by rw [h]; simp [h2.len]
theorem Chain.code {bs : List Int} {code : Int} {l : List Node} (h : Chain bs code l) : codeOf l = code := by
  have h1 := h.ans
  cases l with
  | nil => exact absurd rfl h.ne
  | cons x l => simp only [codeOf, h1]

/-- a struct of blocks and a number, as a value -/
def rf (A : Option Addr) (n c : Nat) (code : Int) : Value := .agg #[.slice A n c, .int .i64 code]

end Go.Proofs.YtnjlganofjkpfaaGreat

/-
  fault.First; the law's Told; the reference's Same and At.
-/
namespace Go.Proofs.YtnjlganofjkpfaaGreat
open Go.RowKit
set_option linter.unusedVariables false
set_option linter.unusedSimpArgs false

/-- errors in a row -/
structure Errs (w : World) (A : Option Addr) (n c : Nat) (ls : List (List Node)) : Prop where
  len : ls.length = n
  cap : n ≤ c
  most : c ≤ 9223372036854775807
  row : Row w A (ls.map val)
theorem Errs.below {w w' : World} {A : Option Addr} {n c : Nat} {ls : List (List Node)} (h : Errs w A n c ls) (hb : Below w.heap.size w w') : Errs w' A n c ls := ⟨h.len, h.cap, h.most, h.row.below hb⟩

/-- the first that is not none -/
def firstOf : List (List Node) → List Node
  | [] => []
  | [] :: ls => firstOf ls
  | (x :: l) :: _ => x :: l

set_option maxRecDepth 100000 in
theorem First_any {A : Option Addr} {n c : Nat} {ls : List (List Node)} {w : World} (hE : Errs w A n c ls) :
    Calls Tryz.prog 20 #[.slice A n c] w fun e w' => e = .returned (val (firstOf ls)) ∧ w = w' := by
  have hlen := hE.len
  have hle : n ≤ 9223372036854775807 := Nat.le_trans hE.cap hE.most
  have HE := Lib.hid hE
  have HLn := Lib.hid hlen
  clear hE hlen
  have HF : Hid (firstOf (ls.drop 0) = firstOf ls) := rfl
  go_enter Tryz.func20, Tryz.ntmps20
  go_wp2
  go_loopw [7] (fun i wr => ∃ k : Nat, k ≤ n ∧ i = .int .i64 k ∧ wr = w ∧ Hid (firstOf (ls.drop k) = firstOf ls)) (fun i _ => n - (intOf i).toNat)
  case atStart => exact ⟨0, by omega, rfl, rfl, HF⟩
  case round =>
    clear HF
    obtain ⟨k, hk, rfl, rfl, HF⟩ := hrel
    by_cases hlt : k < n
    · have hkl : k < ls.length := by have := HLn.out; omega
      obtain ⟨blk, off, rfl, hb, hcell⟩ := HE.out.row.lit (by rw [List.length_map]; omega)
      have hcq : wr.cell? ⟨blk, off + k, none⟩ = some (val ls[k]) := hcell k _ (by simp [hkl])
      have hd : ls.drop k = ls[k] :: ls.drop (k + 1) := List.drop_eq_getElem_cons hkl
      rw [hd] at HF
      clear hd hcell
      generalize ls[k] = l at *
      cases l with
      | nil =>
        have HF2 : Hid (firstOf (ls.drop (k + 1)) = firstOf ls) := HF
        simp only [val] at hcq
        clear HF
        go_wp2
        go_roundw
        case rel => exact ⟨k + 1, by omega, by go_num, by first | rfl | trivial, HF2⟩
        case measure => simp only [intOf]; omega
      | cons x l =>
        have HF2 : Hid (x :: l = firstOf ls) := HF
        clear HF
        obtain ⟨t, u, hv⟩ : ∃ t u, val (x :: l) = .iface t u := by cases x <;> exact ⟨_, _, rfl⟩
        rw [hv] at hcq
        have HV := Lib.hid hv
        clear hv
        go_wp2
        go_ret
        exact ⟨by rw [← HF2.out, HV.out]; rfl, rfl⟩
    · obtain rfl : k = n := by omega
      have HF2 : Hid (firstOf ls = []) := by
        have := HF.out
        rw [List.drop_of_length_le (by have := HLn.out; omega)] at this
        exact this.symm
      go_wp2
      go_ret
      exact ⟨by rw [HF2.out]; rfl, rfl⟩

end Go.Proofs.YtnjlganofjkpfaaGreat

/-
  The reference's Same; the document's example.
-/
namespace Go.Proofs.YtnjlganofjkpfaaGreat
open Go.RowKit
set_option linter.unusedVariables false
set_option linter.unusedSimpArgs false

end Go.Proofs.YtnjlganofjkpfaaGreat

/-
  The reference's Digits.
-/
namespace Go.Proofs.YtnjlganofjkpfaaGreat
open Go.RowKit
set_option linter.unusedVariables false
set_option linter.unusedSimpArgs false

end Go.Proofs.YtnjlganofjkpfaaGreat
