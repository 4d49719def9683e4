/-
  Joined: FltL, FltM, FltN, FltO, FltP, FltQ, FltR.
-/
import Derived.Lib.OthersKept
import Derived.Lib.Builder
import Derived.Lib.AppendStr
import Derived.Lib.AppendIntMem
import Derived.Lib.ItoaLen
import Derived.Laws.Externs
import Derived.OwnWalk
import Derived.Sort.Grow
import Derived.Test.YtnjlganofjkpfaaGreatDoorJBldC02
import Derived.Test.YtnjlganofjkpfaaGreatDoorJBldC09
import Derived.Test.YtnjlganofjkpfaaGreatDoorJBldC17
import Derived.LoopTactic
import Derived.Test.YtnjlganofjkpfaaGreatDoorJBldC14
import Derived.Laws.BytesArg
import Derived.Deep.DeepFit
import Derived.Deep.DeepMust
/-
  strings.Builder and strconv.Itoa by contract.
-/
namespace Go.Proofs.YtnjlganofjkpfaaGreatDoor
open Go.RowKit
set_option linter.unusedVariables false
set_option linter.unusedSimpArgs false

/-- the table that strconv reads -/
def Pow (w : World) : Prop := Lib.TabIs Tryz.prog w "internal/strconv.uint64pow10" .u64 Lib.pow10Tab
theorem Pow.later {w w' : World} (h : Pow w) (hb : Below w.heap.size w w') : Pow w' := Lib.tabBelow_of_tabIs h w' hb

end Go.Proofs.YtnjlganofjkpfaaGreatDoor

/-
  fault.Text.
-/
namespace Go.Proofs.YtnjlganofjkpfaaGreatDoor
open Go.RowKit
set_option linter.unusedVariables false
set_option linter.unusedSimpArgs false

end Go.Proofs.YtnjlganofjkpfaaGreatDoor

/-
  fault.Text: its loop.
-/
namespace Go.Proofs.YtnjlganofjkpfaaGreatDoor
open Go.RowKit
set_option linter.unusedVariables false
set_option linter.unusedSimpArgs false

end Go.Proofs.YtnjlganofjkpfaaGreatDoor

/-
  fault.At, fault.First; the law's Own.
-/
namespace Go.Proofs.YtnjlganofjkpfaaGreatDoor
open Go.RowKit
set_option linter.unusedVariables false
set_option linter.unusedSimpArgs false

theorem Good.lower {w : World} : ∀ {l : List Node}, Good w l → Lower w.heap.size l
  | [], _ => fun b q h => by cases h
  | .flt b p :: l, ⟨h1, h2, h3, h4⟩ => fun c q h => by
    rcases List.mem_cons.1 h with h | h
    · injection h with h5 h6; subst h6; exact block_lt h1
    · exact Good.lower h4 c q h
  | .num n :: l, h => fun c q h2 => by
    have h : l = [] := h
    subst h
    rcases List.mem_cons.1 h2 with h2 | h2
    · cases h2
    · cases h2

/-- a Fault around an error -/
theorem Good.wrap {w : World} {l : List Node} (h : Good w l) (hne : l ≠ []) (b : Int) : Good (w.alloc (.cells #[.int .i64 b, val l] 119)) (.flt b w.heap.size :: l) :=
  ⟨(MapKept.heap_alloc w _).1, h.lower, hne, h.below ((Below.refl _ _).alloc (Nat.le_refl _) _)⟩

set_option maxRecDepth 100000 in
theorem At_err (b : Int) {l : List Node} (hne : l ≠ []) {w : World} (hG : Good w l) :
    Calls Tryz.prog 113 #[.int .i64 b, val l] w fun e w' => ∃ p, e = .returned (val (.flt b p :: l)) ∧ Good w' (.flt b p :: l) ∧ Below w.heap.size w w' := by
  have HW := Lib.hid (hG.wrap hne b)
  obtain ⟨t, u, hv⟩ : ∃ t u, val l = .iface t u := by
    cases l with
    | nil => exact absurd rfl hne
    | cons x l => cases x <;> exact ⟨_, _, rfl⟩
  have hb := build_fault b (isI_val l)
  rw [hv] at HW hb ⊢
  clear hv hG
  go_enter Tryz.func113, Tryz.ntmps113
  go_wp2
  go_ret
  exact ⟨_, rfl, HW.out, (Below.refl _ _).alloc (Nat.le_refl _) _⟩

/-- the law's chain: blocks, and a number behind them -/
def Chain : List Int → Int → List Node → Prop
  | [], code, l => l = [.num code]
  | b :: bs, code, l => ∃ p l', l = .flt b p :: l' ∧ Chain bs code l'

theorem Chain.ne : ∀ {bs : List Int} {code : Int} {l : List Node}, Chain bs code l → l ≠ []
  | [], _, _, h => by rw [show _ = _ from h]; simp
  | _ :: _, _, _, ⟨p, l', h, _⟩ => by rw [h]; simp
theorem Chain.ans : ∀ {bs : List Int} {code : Int} {l : List Node}, Chain bs code l → ans l = some code
  | [], _, _, h => by rw [show _ = _ from h]; rfl
  | _ :: _, _, _, ⟨p, l', h, h2⟩ => by rw [h]; exact h2.ans
theorem Chain.len : ∀ {bs : List Int} {code : Int} {l : List Node}, Chain bs code l → l.length = bs.length + 1
  | [], _, _, h => by rw [show _ = _ from h]; rfl
  | _ :: _, _, _, ⟨p, l', h, h2⟩ => by rw [h]; simp [h2.len]
theorem Chain.code {bs : List Int} {code : Int} {l : List Node} (h : Chain bs code l) : codeOf l = code := by
  have h1 := h.ans
  cases l with
  | nil => exact absurd rfl h.ne
  | cons x l => simp only [codeOf, h1]

/-- a struct of blocks and a number, as a value -/
def rf (A : Option Addr) (n c : Nat) (code : Int) : Value := .agg #[.slice A n c, .int .i64 code]

end Go.Proofs.YtnjlganofjkpfaaGreatDoor

/-
  fault.First; the law's Told; the reference's Same and At.
-/
namespace Go.Proofs.YtnjlganofjkpfaaGreatDoor
open Go.RowKit
set_option linter.unusedVariables false
set_option linter.unusedSimpArgs false

/-- errors in a row -/
structure Errs (w : World) (A : Option Addr) (n c : Nat) (ls : List (List Node)) : Prop where
  len : ls.length = n
  cap : n ≤ c
  most : c ≤ 9223372036854775807
  row : Row w A (ls.map val)
theorem Errs.below {w w' : World} {A : Option Addr} {n c : Nat} {ls : List (List Node)} (h : Errs w A n c ls) (hb : Below w.heap.size w w') : Errs w' A n c ls := ⟨h.len, h.cap, h.most, h.row.below hb⟩

/-- the first that is not none -/
def firstOf : List (List Node) → List Node
  | [] => []
  | [] :: ls => firstOf ls
  | (x :: l) :: _ => x :: l

theorem results_rf {fn : Func} {p : Tmp} (h : fn.results = #[.cell p 33]) (tmps : Array Value) (w : World) (g : Nat) (a b : Value)
    (hp : tmps.getD p undef = .pointer (some ⟨g, 0, none⟩)) (hg : w.heap[g]? = some (.cells #[a, b] 33 (0, 0))) : (results fn tmps).run Tryz.prog w = .ok (.agg #[a, b]) w :=
  results_cell_row h tmps w g _ #[a, b] (0, 0) _ hp hg Tryz.underlying33 rfl (by kernel_rfl)

theorem two_sets {w : World} {g : Nat} {t : TypeId} {a b c d : Value} (h : w.heap[g]? = some (.cells #[a, b] t (0, 0))) : ((w.setCell ⟨g, 0, none⟩ c).setCell ⟨g, 1, none⟩ d).heap[g]? = some (.cells #[c, d] t (0, 0)) := by
  have h1 : Blk w g t [a, b] := h
  exact (h1.set 0 c).set 1 d

theorem Ints.kept2 {w : World} {A : Option Addr} {n c g : Nat} {l : List Int} {x y : Value} (h : Ints w A n c l) (hf : ∀ ad, A = some ad → g < ad.block) : Ints ((w.setCell ⟨g, 0, none⟩ x).setCell ⟨g, 1, none⟩ y) A n c l :=
  ⟨h.len, h.cap, h.most, fun k v hk => by
    obtain ⟨ad, e, hc⟩ := h.row k v hk
    refine ⟨ad, e, ?_⟩
    have := hf ad e
    have hb : (ad.add k).block = ad.block := addr_add_block ad k
    rw [World.cell?_of_block (w := w) (by rw [Below.heap_setCell _ _ _ _ (by show (ad.add k).block ≠ g; omega), Below.heap_setCell _ _ _ _ (by show (ad.add k).block ≠ g; omega)])]
    exact hc⟩

end Go.Proofs.YtnjlganofjkpfaaGreatDoor

/-
  The reference's Same; the document's example.
-/
namespace Go.Proofs.YtnjlganofjkpfaaGreatDoor
open Go.RowKit
set_option linter.unusedVariables false
set_option linter.unusedSimpArgs false

end Go.Proofs.YtnjlganofjkpfaaGreatDoor

/-
  The reference's Digits.
-/
namespace Go.Proofs.YtnjlganofjkpfaaGreatDoor
open Go.RowKit
set_option linter.unusedVariables false
set_option linter.unusedSimpArgs false

end Go.Proofs.YtnjlganofjkpfaaGreatDoor
