/-
  Joined: FltD, FltE, FltF, FltG, FltH, FltI, FltJ.
-/
import Derived.RowKitTokens
import Derived.Test.YtnjlganofjkpfaaGreatJBldB08
import Derived.LoopN
import Derived.LoopTactic
import Derived.OwnWalk
/-
  errors.As by contract, after the worked example Toyas: what it asks of internal/reflectlite.
-/
namespace Go.Proofs.YtnjlganofjkpfaaGreat
open Go.RowKit Go.Extern.Stop Go.Stop Go.Extern
set_option linter.unusedVariables false
set_option linter.unusedSimpArgs false

/-- how many package-level variables there are: the types' handles' block -/
def GS : Nat := 0
/-- the handle of a type -/
def hnd (t : TypeId) : Value := .pointer (some ⟨GS, t, none⟩)
/-- reflectlite.Type of a type -/
def typ (t : TypeId) : Value := .iface 166 (.agg #[hnd t])

theorem method_comp (n : Nat) (t : TypeId) (w : World) : (Go.method (n + 1) 166 (.agg #[hnd t]) "Comparable").run Tryz.prog w = .ok (134, .agg #[hnd t]) w := by kernel_rfl
/-! ### a target: a pointer to a number -/
/-! ### a target: a pointer to a pointer to a Fault -/
end Go.Proofs.YtnjlganofjkpfaaGreat

/-
  errors.As and errors.Is by contract: at an error that hides what it wraps, and at a number.
-/
namespace Go.Proofs.YtnjlganofjkpfaaGreat
open Go.RowKit Go.Extern.Stop Go.Stop Go.Extern
set_option linter.unusedVariables false
set_option linter.unusedSimpArgs false

end Go.Proofs.YtnjlganofjkpfaaGreat

/-
  errors.Is by contract.
-/
namespace Go.Proofs.YtnjlganofjkpfaaGreat
open Go.RowKit Go.Extern.Stop Go.Stop Go.Extern
set_option linter.unusedVariables false
set_option linter.unusedSimpArgs false

theorem rto_n (v : Value) (w : World) : (ReflectliteType.typeOf #[.iface 49 v]).run Tryz.prog w = .ok (typ 49) w := by kernel_rfl
theorem rcm_n (w : World) : (ReflectliteType.method (fun t => do Rtype.noPackHeld "Comparable" t; (fun a => Value.bool a.comparable) <$> typeInfo t) #[.agg #[hnd 49]]).run Tryz.prog w = .ok (.bool true) w := by kernel_rfl

theorem run_eql_num (a b : Int) (w : World) : (binOp .eql 30 (.iface 49 (.int .i64 a)) (.iface 49 (.int .i64 b))).run Tryz.prog w = .ok (.bool (a == b)) w := by
  obtain ⟨i, hi, hc⟩ := Option.map_eq_some_iff.1 comp_num
  have h : ∀ d : Nat, (Op.equalIn (d + 2) 30 (.iface 49 (.int .i64 a)) (.iface 49 (.int .i64 b))).run Tryz.prog w = .ok (a == b) w := fun d => by
    simp [Op.equalIn, run_underlying Tryz.underlying30, run_underlying Tryz.underlying49, typeInfo, hi, hc]
  simp only [binOp]
  simp [Op.equal, Op.maxDepth, h 9998]

set_option maxRecDepth 100000 in
set_option maxHeartbeats 4000000 in
theorem is_num (m n : Int) (w : World) :
    Calls Tryz.prog 87 #[.iface 49 (.int .i64 m), .iface 49 (.int .i64 n)] w fun e w' => e = .returned (.bool (m == n)) ∧ w = w' := by
  have h10 := @run_callFunc_extern Tryz.prog 97 _ ReflectliteType.typeOf Tryz.func97 (by kernel_rfl) (by kernel_rfl) (by kernel_rfl) (by kernel_rfl)
  have h32 := @run_callFunc_extern Tryz.prog 134 _ (ReflectliteType.method fun t => do Rtype.noPackHeld "Comparable" t; pure (.bool (← typeInfo t).comparable)) Tryz.func134 (by kernel_rfl) (by kernel_rfl) (by kernel_rfl) (by kernel_rfl)
  have tO := rto_n
  have cO := rcm_n
  have mC := method_comp
  have c1 := as_i_num
  have c2 := as_u_num
  have c3 := as_m_num
  have hq := run_eql_num m n
  simp only [typ, hnd] at *
  generalize hb : (m == n) = b at *
  clear hb
  cases b
  all_goals go_enter Tryz.func87, Tryz.ntmps87
  all_goals go_wp2
  all_goals refine wp_loop_rounds 1 ?_
  all_goals rw [rounds_succ]
  all_goals go_wp2
  all_goals go_ret
  all_goals exact ⟨rfl, rfl⟩
end Go.Proofs.YtnjlganofjkpfaaGreat

/-
  fault.find's parts: the two looks, and what an error wraps.
-/
namespace Go.Proofs.YtnjlganofjkpfaaGreat
open Go.RowKit
set_option linter.unusedVariables false
set_option linter.unusedSimpArgs false

/-- the number that an error is or wraps -/
def ans : List Node → Option Int
  | [] => none
  | .num n :: _ => some n
  | _ :: l => ans l
/-- a slice's length -/
def lenOf : Value → Nat
  | .slice _ n _ => n
  | _ => 0

/-- the loop of find: what is left lies in block g, one error at most; what has been visited in block m -/
structure Run (w0 wr : World) (m g k : Nat) (s : List Node) (N : Nat) : Prop where
  bel : Below w0.heap.size w0 wr
  bg : w0.heap.size ≤ g
  bm : w0.heap.size ≤ m
  ne : m ≠ g
  row : ∃ x, wr.heap[g]? = some (.cells #[x] 30 (0, 0)) ∧ (k = 1 → x = val s)
  seen : Seen wr m s
  good : Good wr s
  num : count wr m + s.length = N
  k : k = 1 ∨ (k = 0 ∧ s = [])

theorem Run.lt {w0 wr : World} {m g k : Nat} {s : List Node} {N : Nat} (h : Run w0 wr m g k s N) : m < wr.heap.size ∧ g < wr.heap.size := by
  obtain ⟨x, hx, _⟩ := h.row
  obtain ⟨es, c, hm, _⟩ := h.seen.ex
  exact ⟨block_lt hm, block_lt hx⟩

/-- a step that only makes memory -/
theorem Run.later {w0 wr w' : World} {m g k : Nat} {s : List Node} {N : Nat} (h : Run w0 wr m g k s N) (hb : Below wr.heap.size wr w') : Run w0 w' m g k s N := by
  obtain ⟨x, hx, hk⟩ := h.row
  exact ⟨h.bel.trans (hb.mono h.bel.size), h.bg, h.bm, h.ne, ⟨x, (hb.block g h.lt.2).trans hx, hk⟩, h.seen.later hb, h.good.below hb, by rw [count_same (hb.block m h.lt.1)]; exact h.num, h.k⟩

/-- the next one is taken off -/
theorem Run.take {w0 wr : World} {m g k : Nat} {s : List Node} {N : Nat} (h : Run w0 wr m g k s N) (hs : s = []) : Run w0 wr m g 0 s N := by
  obtain ⟨x, hx, hk⟩ := h.row
  exact ⟨h.bel, h.bg, h.bm, h.ne, ⟨x, hx, fun e => by cases e⟩, h.seen, h.good, h.num, .inr ⟨rfl, hs⟩⟩

/-- the error has been visited: what it wraps is to come -/
structure Mid (w0 wr : World) (m g : Nat) (x : Node) (s : List Node) (N : Nat) : Prop where
  bel : Below w0.heap.size w0 wr
  bg : w0.heap.size ≤ g
  bm : w0.heap.size ≤ m
  ne : m ≠ g
  row : ∃ y, wr.heap[g]? = some (.cells #[y] 30 (0, 0))
  seen : Seen wr m s
  good : Good wr (x :: s)
  num : count wr m + s.length = N

theorem Mid.lt {w0 wr : World} {m g : Nat} {x : Node} {s : List Node} {N : Nat} (h : Mid w0 wr m g x s N) : m < wr.heap.size ∧ g < wr.heap.size := by
  obtain ⟨x, hx⟩ := h.row
  obtain ⟨es, c, hm, _⟩ := h.seen.ex
  exact ⟨block_lt hm, block_lt hx⟩
theorem Mid.later {w0 wr w' : World} {m g : Nat} {x : Node} {s : List Node} {N : Nat} (h : Mid w0 wr m g x s N) (hb : Below wr.heap.size wr w') : Mid w0 w' m g x s N := by
  obtain ⟨y, hx⟩ := h.row
  exact ⟨h.bel.trans (hb.mono h.bel.size), h.bg, h.bm, h.ne, ⟨y, (hb.block g h.lt.2).trans hx⟩, h.seen.later hb, h.good.below hb, by rw [count_same (hb.block m h.lt.1)]; exact h.num⟩

/-- the row that append writes into -/
theorem Mid.own {w0 wr : World} {m g : Nat} {x : Node} {s : List Node} {N : Nat} (h : Mid w0 wr m g x s N) : wr.ownsRow w0.heap.size 30 1 (.slice (some ⟨g, 0, none⟩) 0 1) 0 [] := by
  obtain ⟨y, hx⟩ := h.row
  exact ⟨rfl, .inr ⟨g, 1, _, rfl, h.bg, hx, by omega, by simp [maxLen], rfl, rfl⟩⟩

/-- what append leaves -/
theorem Mid.put {w0 wr w' : World} {m g k : Nat} {x : Node} {s : List Node} {N : Nat} {xs : List Value} (h : Mid w0 wr m g x s N) (hg : wr.grownBy w' (some g)) (ho : w'.ownsRow w0.heap.size 30 1 (.slice (some ⟨g, 0, none⟩) k 1) k xs)
    (hk : (k = 1 ∧ xs = [val s]) ∨ (k = 0 ∧ s = [])) : Run w0 w' m g k s N := by
  obtain ⟨es, c, hm, _⟩ := h.seen.ex
  obtain ⟨y, hy⟩ := h.row
  have hK : Keeps wr w' := .of_grown hg (fun c e => by rw [hy] at e; cases e)
  have hmm : w'.heap[m]? = wr.heap[m]? := hg.block m h.lt.1 (fun e => h.ne (by injection e))
  obtain ⟨q, hq, hc⟩ : ∃ q, w'.heap[g]? = some (.cells #[q] 30 (0, 0)) ∧ (k = 1 → q = val s) := by
    rcases ho.2 with ⟨hv, _⟩ | ⟨g2, cap, cur, hv, hg2, hcur, hkc, hcm, hsz, htk⟩
    · cases hv
    · injection hv with h1 h2 h3
      injection h1 with h1
      injection h1 with h1
      subst h1 h3
      obtain ⟨q, rfl⟩ : ∃ q, cur = #[q] := by
        match cur, hsz with
        | ⟨[q]⟩, _ => exact ⟨q, rfl⟩
      refine ⟨q, hcur, fun e => ?_⟩
      rcases hk with ⟨rfl, rfl⟩ | ⟨rfl, _⟩
      · simpa using htk
      · cases e
  refine ⟨h.bel.trans ⟨hg.os, hg.tape, hg.output, hg.size, fun i hi => hg.block i (by have := h.bel.size; omega) (fun e => by injection e with e; have := h.bg; omega)⟩, h.bg, h.bm, h.ne, ⟨q, hq, hc⟩, h.seen.same hmm hK, h.good.tail.same hK, by rw [count_same hmm]; exact h.num, ?_⟩
  rcases hk with ⟨h1, _⟩ | h2
  · exact .inl h1
  · exact .inr h2
end Go.Proofs.YtnjlganofjkpfaaGreat

/-
  fault.find under Code's look.
-/
namespace Go.Proofs.YtnjlganofjkpfaaGreat
open Go.RowKit
set_option linter.unusedVariables false
set_option linter.unusedSimpArgs false

end Go.Proofs.YtnjlganofjkpfaaGreat

/-
  fault.find under Is's look.
-/
namespace Go.Proofs.YtnjlganofjkpfaaGreat
open Go.RowKit
set_option linter.unusedVariables false
set_option linter.unusedSimpArgs false

end Go.Proofs.YtnjlganofjkpfaaGreat

/-
  fault.Code and fault.Is.
-/
namespace Go.Proofs.YtnjlganofjkpfaaGreat
open Go.RowKit
set_option linter.unusedVariables false
set_option linter.unusedSimpArgs false

/-- Code's answer -/
def codeOf : List Node → Int
  | [] => 0
  | x :: l => match ans (x :: l) with
    | some n => n
    | none => 18

end Go.Proofs.YtnjlganofjkpfaaGreat
