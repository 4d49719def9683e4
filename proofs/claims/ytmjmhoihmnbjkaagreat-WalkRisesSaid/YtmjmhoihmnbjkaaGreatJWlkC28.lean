/-
  Joined: FltL, FltM, FltN, FltO, FltP, FltQ, FltR.
-/
import Derived.Lib.OthersKept
import Derived.Lib.Builder
import Derived.Lib.AppendStr
import Derived.Lib.AppendIntMem
import Derived.Lib.ItoaLen
import Derived.Laws.Externs
import Derived.OwnWalk
import Derived.Sort.Grow
import Derived.Test.YtmjmhoihmnbjkaaGreatJWlkC04
import Derived.Test.YtmjmhoihmnbjkaaGreatJWlkC07
import Derived.Test.YtmjmhoihmnbjkaaGreatJWlkC15
import Derived.LoopTactic
import Derived.Test.YtmjmhoihmnbjkaaGreatJWlkC12
import Derived.Laws.BytesArg
import Derived.Deep.DeepFit
import Derived.Deep.DeepMust
/-
  strings.Builder and strconv.Itoa by contract.
-/
namespace Go.Proofs.YtmjmhoihmnbjkaaGreat
open Go.RowKit
set_option linter.unusedVariables false
set_option linter.unusedSimpArgs false

/-- the table that strconv reads -/
def Pow (w : World) : Prop := Lib.TabIs Tryz.prog w "internal/strconv.uint64pow10" .u64 Lib.pow10Tab
theorem Pow.later {w w' : World} (h : Pow w) (hb : Below w.heap.size w w') : Pow w' := Lib.tabBelow_of_tabIs h w' hb

end Go.Proofs.YtmjmhoihmnbjkaaGreat

/-
  fault.Text.
-/
namespace Go.Proofs.YtmjmhoihmnbjkaaGreat
open Go.RowKit
set_option linter.unusedVariables false
set_option linter.unusedSimpArgs false

end Go.Proofs.YtmjmhoihmnbjkaaGreat

/-
  fault.Text: its loop.
-/
namespace Go.Proofs.YtmjmhoihmnbjkaaGreat
open Go.RowKit
set_option linter.unusedVariables false
set_option linter.unusedSimpArgs false

end Go.Proofs.YtmjmhoihmnbjkaaGreat

/-
  fault.At, fault.First; the law's Own.
-/
namespace Go.Proofs.YtmjmhoihmnbjkaaGreat
open Go.RowKit
set_option linter.unusedVariables false
set_option linter.unusedSimpArgs false

theorem Good.lower {w : World} : ∀ {l : List Node}, Good w l → Lower w.heap.size l
  | [], _ => fun b q h => by cases h
  | .flt b p :: l, ⟨h1, h2, h3, h4⟩ => fun c q h => by
    rcases List.mem_cons.1 h with h | h
    · injection h with h5 h6; subst h6; exact block_lt h1
    · exact Good.lower h4 c q h
  | .num n :: l, h => fun c q h2 => by
    have h : l = [] := h
    subst h
    rcases List.mem_cons.1 h2 with h2 | h2
    · cases h2
    · cases h2

/-- a Fault around an error -/
theorem Good.wrap {w : World} {l : List Node} (h : Good w l) (hne : l ≠ []) (b : Int) : Good (w.alloc (.cells #[.int .i64 b, val l] 66)) (.flt b w.heap.size :: l) :=
  ⟨(MapKept.heap_alloc w _).1, h.lower, hne, h.below ((Below.refl _ _).alloc (Nat.le_refl _) _)⟩

set_option maxRecDepth 100000 in
theorem At_err (b : Int) {l : List Node} (hne : l ≠ []) {w : World} (hG : Good w l) :
    Calls Tryz.prog 33 #[.int .i64 b, val l] w fun e w' => ∃ p, e = .returned (val (.flt b p :: l)) ∧ Good w' (.flt b p :: l) ∧ Below w.heap.size w w' := by
  have HW := Lib.hid (hG.wrap hne b)
  obtain ⟨t, u, hv⟩ : ∃ t u, val l = .iface t u := by
    cases l with
    | nil => exact absurd rfl hne
    | cons x l => cases x <;> exact ⟨_, _, rfl⟩
  have hb := build_fault b (isI_val l)
  rw [hv] at HW hb ⊢
  clear hv hG
  go_enter Tryz.func33, Tryz.ntmps33
  go_wp2
  go_ret
  exact ⟨_, rfl, HW.out, (Below.refl _ _).alloc (Nat.le_refl _) _⟩

/-- the law's chain: blocks, and a number behind them -/
def Chain : List Int → Int → List Node → Prop
  | [], code, l => l = [.num code]
  | b :: bs, code, l => ∃ p l', l = .flt b p :: l' ∧ Chain bs code l'

theorem Chain.ne : ∀ {bs : List Int} {code : Int} {l : List Node}, Chain bs code l → l ≠ []
  | [], _, _, h => by rw [show _ = _ from h]; simp
  | _ :: _, _, _, ⟨p, l', h, _⟩ => by rw [h]; simp
theorem Chain.blocks : ∀ {bs : List Int} {code : Int} {l : List Node}, Chain bs code l → blocksOf l = bs
  | [], _, _, h => by rw [show _ = _ from h]; rfl
  | _ :: _, _, _, ⟨p, l', h, h2⟩ => by rw [h]; simp [blocksOf, h2.blocks]
theorem Chain.ans : ∀ {bs : List Int} {code : Int} {l : List Node}, Chain bs code l → ans l = some code
  | [], _, _, h => by rw [show _ = _ from h]; rfl
  | _ :: _, _, _, ⟨p, l', h, h2⟩ => by rw [h]; exact h2.ans
theorem Chain.len : ∀ {bs : List Int} {code : Int} {l : List Node}, Chain bs code l → l.length = bs.length + 1
  | [], _, _, h => by rw [show _ = _ from h]; rfl
  | _ :: _, _, _, ⟨p, l', h, h2⟩ => by rw [h]; simp [h2.len]
theorem Chain.code {bs : List Int} {code : Int} {l : List Node} (h : Chain bs code l) : codeOf l = code := by
  have h1 := h.ans
  cases l with
  | nil => exact absurd rfl h.ne
  | cons x l => simp only [codeOf, h1]

/-- a struct of blocks and a number, as a value -/
def rf (A : Option Addr) (n c : Nat) (code : Int) : Value := .agg #[.slice A n c, .int .i64 code]

end Go.Proofs.YtmjmhoihmnbjkaaGreat

/-
  fault.First; the law's Told; the reference's Same and At.
-/
namespace Go.Proofs.YtmjmhoihmnbjkaaGreat
open Go.RowKit
set_option linter.unusedVariables false
set_option linter.unusedSimpArgs false

/-- errors in a row -/
structure Errs (w : World) (A : Option Addr) (n c : Nat) (ls : List (List Node)) : Prop where
  len : ls.length = n
  cap : n ≤ c
  most : c ≤ 9223372036854775807
  row : Row w A (ls.map val)
theorem Errs.below {w w' : World} {A : Option Addr} {n c : Nat} {ls : List (List Node)} (h : Errs w A n c ls) (hb : Below w.heap.size w w') : Errs w' A n c ls := ⟨h.len, h.cap, h.most, h.row.below hb⟩

/-- the first that is not none -/
def firstOf : List (List Node) → List Node
  | [] => []
  | [] :: ls => firstOf ls
  | (x :: l) :: _ => x :: l

end Go.Proofs.YtmjmhoihmnbjkaaGreat

/-
  The reference's Same; the document's example.
-/
namespace Go.Proofs.YtmjmhoihmnbjkaaGreat
open Go.RowKit
set_option linter.unusedVariables false
set_option linter.unusedSimpArgs false

end Go.Proofs.YtmjmhoihmnbjkaaGreat

/-
  The reference's Digits.
-/
namespace Go.Proofs.YtmjmhoihmnbjkaaGreat
open Go.RowKit
set_option linter.unusedVariables false
set_option linter.unusedSimpArgs false

end Go.Proofs.YtmjmhoihmnbjkaaGreat
