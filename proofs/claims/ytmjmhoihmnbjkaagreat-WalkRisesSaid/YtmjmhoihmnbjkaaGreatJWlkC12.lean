/-
  Joined: FltD, FltE, FltF, FltG, FltH, FltI, FltJ.
-/
import Derived.RowKitTokens
import Derived.Test.YtmjmhoihmnbjkaaGreatJWlkC06
import Derived.LoopN
import Derived.LoopTactic
import Derived.OwnWalk
/-
  errors.As by contract, after the worked example Toyas: what it asks of internal/reflectlite.
-/
namespace Go.Proofs.YtmjmhoihmnbjkaaGreat
open Go.RowKit Go.Extern.Stop Go.Stop Go.Extern
set_option linter.unusedVariables false
set_option linter.unusedSimpArgs false

/-- how many package-level variables there are: the types' handles' block -/
def GS : Nat := 0
/-- the handle of a type -/
def hnd (t : TypeId) : Value := .pointer (some ⟨GS, t, none⟩)
/-- reflectlite.Type of a type -/
def typ (t : TypeId) : Value := .iface 129 (.agg #[hnd t])

theorem method_comp (n : Nat) (t : TypeId) (w : World) : (Go.method (n + 1) 129 (.agg #[hnd t]) "Comparable").run Tryz.prog w = .ok (116, .agg #[hnd t]) w := by kernel_rfl
/-! ### a target: a pointer to a number -/
/-! ### a target: a pointer to a pointer to a Fault -/
end Go.Proofs.YtmjmhoihmnbjkaaGreat

/-
  errors.As and errors.Is by contract: at an error that hides what it wraps, and at a number.
-/
namespace Go.Proofs.YtmjmhoihmnbjkaaGreat
open Go.RowKit Go.Extern.Stop Go.Stop Go.Extern
set_option linter.unusedVariables false
set_option linter.unusedSimpArgs false

theorem method_cIs (n : Nat) (v : Value) (w : World) : (Go.method (n + 1) 124 (.agg #[v]) "Is").run Tryz.prog w = .ok (112, .agg #[v]) w := by kernel_rfl

/-- an error that wraps: a Fault, or one of another kind -/
def Wraps : List Node → Prop
  | .flt _ _ :: _ => True
  | _ => False

set_option maxRecDepth 100000 in
theorem coverIs_any {l : List Node} (hl : Wraps l) (t : Value) (w : World) :
    Calls Tryz.prog 112 #[.agg #[val l], t] w fun e w' => e = .returned (.bool false) ∧ Below w.heap.size w w' := by
  have a1 := as_i_flt
  match l, hl with
  | .flt b p :: l, _ =>
    simp only [val]
    go_enter Tryz.func112, Tryz.ntmps112
    go_wp2
    go_ret
    exact ⟨rfl, (Below.refl _ _).alloc (Nat.le_refl _) _⟩

theorem shown_wraps {l : List Node} (hl : Wraps l) : shown l = .iface 124 (.agg #[val l]) := by
  match l, hl with
  | .flt b p :: l, _ => rfl


end Go.Proofs.YtmjmhoihmnbjkaaGreat

/-
  errors.Is by contract.
-/
namespace Go.Proofs.YtmjmhoihmnbjkaaGreat
open Go.RowKit Go.Extern.Stop Go.Stop Go.Extern
set_option linter.unusedVariables false
set_option linter.unusedSimpArgs false

theorem rto_n (v : Value) (w : World) : (ReflectliteType.typeOf #[.iface 43 v]).run Tryz.prog w = .ok (typ 43) w := by kernel_rfl
theorem rcm_n (w : World) : (ReflectliteType.method (fun t => do Rtype.noPackHeld "Comparable" t; (fun a => Value.bool a.comparable) <$> typeInfo t) #[.agg #[hnd 43]]).run Tryz.prog w = .ok (.bool true) w := by kernel_rfl

theorem run_eql_num (a b : Int) (w : World) : (binOp .eql 38 (.iface 43 (.int .i64 a)) (.iface 43 (.int .i64 b))).run Tryz.prog w = .ok (.bool (a == b)) w := by
  obtain ⟨i, hi, hc⟩ := Option.map_eq_some_iff.1 comp_num
  have h : ∀ d : Nat, (Op.equalIn (d + 2) 38 (.iface 43 (.int .i64 a)) (.iface 43 (.int .i64 b))).run Tryz.prog w = .ok (a == b) w := fun d => by
    simp [Op.equalIn, run_underlying Tryz.underlying38, run_underlying Tryz.underlying43, typeInfo, hi, hc]
  simp only [binOp]
  simp [Op.equal, Op.maxDepth, h 9998]

set_option maxRecDepth 100000 in
set_option maxHeartbeats 4000000 in
theorem is_cov {l : List Node} (hl : Wraps l) (n : Int) (w : World) :
    Calls Tryz.prog 24 #[shown l, .iface 43 (.int .i64 n)] w fun e w' => e = .returned (.bool false) ∧ Below w.heap.size w w' := by
  rw [shown_wraps hl]
  have hcI := fun t W => coverIs_any hl t W
  have h10 := @run_callFunc_extern Tryz.prog 48 _ ReflectliteType.typeOf Tryz.func48 (by kernel_rfl) (by kernel_rfl) (by kernel_rfl) (by kernel_rfl)
  have h32 := @run_callFunc_extern Tryz.prog 116 _ (ReflectliteType.method fun t => do Rtype.noPackHeld "Comparable" t; pure (.bool (← typeInfo t).comparable)) Tryz.func116 (by kernel_rfl) (by kernel_rfl) (by kernel_rfl) (by kernel_rfl)
  have tO := rto_n
  have cO := rcm_n
  have mC := method_comp
  have mI := method_cIs
  have c1 := as_i_cov
  have c2 := as_u_cov
  have c3 := as_m_cov
  generalize val l = v at *
  have hq := run_eql_iface_types (P := Tryz.prog) 124 43 (.agg #[v]) (.int .i64 n) Tryz.underlying38 (by decide)
  simp only [typ, hnd] at *
  go_enter Tryz.func24, Tryz.ntmps24
  go_wp2_with (first | (go_at_call 112; refine (hcI _ _).mono ?_; rintro e w1 ⟨rfl, b1⟩) | go_in)
  refine wp_loop_rounds 1 ?_
  rw [rounds_succ]
  go_wp2_with (first | (go_at_call 112; refine (hcI _ _).mono ?_; rintro e w1 ⟨rfl, b1⟩) | go_in)
  go_ret
  exact ⟨rfl, b1⟩

set_option maxRecDepth 100000 in
set_option maxHeartbeats 4000000 in
theorem is_num (m n : Int) (w : World) :
    Calls Tryz.prog 24 #[.iface 43 (.int .i64 m), .iface 43 (.int .i64 n)] w fun e w' => e = .returned (.bool (m == n)) ∧ w = w' := by
  have h10 := @run_callFunc_extern Tryz.prog 48 _ ReflectliteType.typeOf Tryz.func48 (by kernel_rfl) (by kernel_rfl) (by kernel_rfl) (by kernel_rfl)
  have h32 := @run_callFunc_extern Tryz.prog 116 _ (ReflectliteType.method fun t => do Rtype.noPackHeld "Comparable" t; pure (.bool (← typeInfo t).comparable)) Tryz.func116 (by kernel_rfl) (by kernel_rfl) (by kernel_rfl) (by kernel_rfl)
  have tO := rto_n
  have cO := rcm_n
  have mC := method_comp
  have c1 := as_i_num
  have c2 := as_u_num
  have c3 := as_m_num
  have hq := run_eql_num m n
  simp only [typ, hnd] at *
  generalize hb : (m == n) = b at *
  clear hb
  cases b
  all_goals go_enter Tryz.func24, Tryz.ntmps24
  all_goals go_wp2
  all_goals refine wp_loop_rounds 1 ?_
  all_goals rw [rounds_succ]
  all_goals go_wp2
  all_goals go_ret
  all_goals exact ⟨rfl, rfl⟩
end Go.Proofs.YtmjmhoihmnbjkaaGreat

/-
  fault.find's parts: the two looks, and what an error wraps.
-/
namespace Go.Proofs.YtmjmhoihmnbjkaaGreat
open Go.RowKit
set_option linter.unusedVariables false
set_option linter.unusedSimpArgs false

set_option maxRecDepth 100000 in
/-- Is's look -/
theorem lookI_cov {l : List Node} (hl : Wraps l) (c : Nat) (n : Int) (w : World) (hc : w.cell? ⟨c, 0, none⟩ = some (.int .i64 n)) :
    Calls Tryz.prog 23 #[shown l, .pointer (some ⟨c, 0, none⟩)] w fun e w' => e = .returned (.bool false) ∧ Below w.heap.size w w' := by
  have C := is_cov hl n w
  generalize shown l = v at *
  go_enter Tryz.func23, Tryz.ntmps23
  go_wp2_with (go_at_call 24; refine C.mono ?_; rintro e w1 ⟨rfl, b1⟩)
  go_ret
  exact ⟨rfl, b1⟩

set_option maxRecDepth 100000 in
theorem lookI_num (m : Int) (l : List Node) (c : Nat) (n : Int) (w : World) (hc : w.cell? ⟨c, 0, none⟩ = some (.int .i64 n)) :
    Calls Tryz.prog 23 #[shown (.num m :: l), .pointer (some ⟨c, 0, none⟩)] w fun e w' => e = .returned (.bool (m == n)) ∧ w = w' := by
  have C := is_num m n w
  simp only [shown]
  go_enter Tryz.func23, Tryz.ntmps23
  go_wp2_with (go_at_call 24; refine C.mono ?_; rintro e w1 ⟨rfl, rfl⟩)
  go_ret
  exact ⟨rfl, rfl⟩

theorem wrapped_any {x : Node} {l : List Node} {w : World} (hl : Wraps (x :: l)) (hg : Good w (x :: l)) :
    Calls Tryz.prog 47 #[val (x :: l)] w fun e w' => ∃ g, e = .returned (.slice (some ⟨g, 0, none⟩) 1 1) ∧ Below w.heap.size w w' ∧ w'.heap[g]? = some (.cells #[val l] 38 (0, 0)) := by
  cases x with
  | flt b p =>
    refine (wrapped_flt hg).mono ?_
    rintro e w' ⟨rfl, rfl⟩
    exact ⟨_, rfl, (Below.refl _ _).alloc (Nat.le_refl _) _, (MapKept.heap_alloc w _).1⟩
  | num n => exact hl.elim

/-- the number that an error is or wraps -/
def ans : List Node → Option Int
  | [] => none
  | .num n :: _ => some n
  | _ :: l => ans l
theorem ans_wraps {x : Node} {l : List Node} (hl : Wraps (x :: l)) : ans (x :: l) = ans l := by
  cases x with
  | flt b p => rfl
  | num n => exact hl.elim

theorem one_src {w : World} {g : Nat} {v : Value} {t : TypeId} (h : w.heap[g]? = some (.cells #[v] t (0, 0))) : ∀ j u, [v][j]? = some u → w.cell? ((⟨g, 0, none⟩ : Addr).add j) = some u := fun j u hj => by
  match j, hj with
  | 0, hj =>
    simp at hj
    subst hj
    show w.cell? ⟨g, 0, none⟩ = _
    rw [cell_of_row _ g 0 _ _ _ h]; rfl
theorem one_is {v : Value} (h : IsI v) : ∀ u ∈ [v], u.oneCell' = true := fun u hu => by
  simp at hu
  subst hu
  rcases h with rfl | ⟨t, u, rfl⟩ <;> rfl

/-- a slice's length -/
def lenOf : Value → Nat
  | .slice _ n _ => n
  | _ => 0

/-- the loop of find: what is left lies in block g, one error at most; what has been visited in block m -/
structure Run (w0 wr : World) (m g k : Nat) (s : List Node) (N : Nat) : Prop where
  bel : Below w0.heap.size w0 wr
  bg : w0.heap.size ≤ g
  bm : w0.heap.size ≤ m
  ne : m ≠ g
  row : ∃ x, wr.heap[g]? = some (.cells #[x] 38 (0, 0)) ∧ (k = 1 → x = val s)
  seen : Seen wr m s
  good : Good wr s
  num : count wr m + s.length = N
  k : k = 1 ∨ (k = 0 ∧ s = [])

theorem Run.lt {w0 wr : World} {m g k : Nat} {s : List Node} {N : Nat} (h : Run w0 wr m g k s N) : m < wr.heap.size ∧ g < wr.heap.size := by
  obtain ⟨x, hx, _⟩ := h.row
  obtain ⟨es, c, hm, _⟩ := h.seen.ex
  exact ⟨block_lt hm, block_lt hx⟩

/-- a step that only makes memory -/
theorem Run.later {w0 wr w' : World} {m g k : Nat} {s : List Node} {N : Nat} (h : Run w0 wr m g k s N) (hb : Below wr.heap.size wr w') : Run w0 w' m g k s N := by
  obtain ⟨x, hx, hk⟩ := h.row
  exact ⟨h.bel.trans (hb.mono h.bel.size), h.bg, h.bm, h.ne, ⟨x, (hb.block g h.lt.2).trans hx, hk⟩, h.seen.later hb, h.good.below hb, by rw [count_same (hb.block m h.lt.1)]; exact h.num, h.k⟩

/-- the next one is taken off -/
theorem Run.take {w0 wr : World} {m g k : Nat} {s : List Node} {N : Nat} (h : Run w0 wr m g k s N) (hs : s = []) : Run w0 wr m g 0 s N := by
  obtain ⟨x, hx, hk⟩ := h.row
  exact ⟨h.bel, h.bg, h.bm, h.ne, ⟨x, hx, fun e => by cases e⟩, h.seen, h.good, h.num, .inr ⟨rfl, hs⟩⟩

/-- the error has been visited: what it wraps is to come -/
structure Mid (w0 wr : World) (m g : Nat) (x : Node) (s : List Node) (N : Nat) : Prop where
  bel : Below w0.heap.size w0 wr
  bg : w0.heap.size ≤ g
  bm : w0.heap.size ≤ m
  ne : m ≠ g
  row : ∃ y, wr.heap[g]? = some (.cells #[y] 38 (0, 0))
  seen : Seen wr m s
  good : Good wr (x :: s)
  num : count wr m + s.length = N

theorem Mid.lt {w0 wr : World} {m g : Nat} {x : Node} {s : List Node} {N : Nat} (h : Mid w0 wr m g x s N) : m < wr.heap.size ∧ g < wr.heap.size := by
  obtain ⟨x, hx⟩ := h.row
  obtain ⟨es, c, hm, _⟩ := h.seen.ex
  exact ⟨block_lt hm, block_lt hx⟩
theorem Mid.later {w0 wr w' : World} {m g : Nat} {x : Node} {s : List Node} {N : Nat} (h : Mid w0 wr m g x s N) (hb : Below wr.heap.size wr w') : Mid w0 w' m g x s N := by
  obtain ⟨y, hx⟩ := h.row
  exact ⟨h.bel.trans (hb.mono h.bel.size), h.bg, h.bm, h.ne, ⟨y, (hb.block g h.lt.2).trans hx⟩, h.seen.later hb, h.good.below hb, by rw [count_same (hb.block m h.lt.1)]; exact h.num⟩

theorem Run.enter {w0 wr w' : World} {m g k : Nat} {x : Node} {s : List Node} {N : Nat} (h : Run w0 wr m g k (x :: s) N) (hk : KeptMap m wr w') (hs : Seen w' m s) (hn : count w' m = count wr m + 1) : Mid w0 w' m g x s N := by
  obtain ⟨y, hx, _⟩ := h.row
  exact ⟨h.bel.trans (hk.below h.bm h.bel.size), h.bg, h.bm, h.ne, ⟨y, (hk.block g h.lt.2 (Ne.symm h.ne)).trans hx⟩, hs, h.good.same (hk.keeps h.seen), by have := h.num; simp only [List.length_cons] at this; omega⟩

/-- the row that append writes into -/
theorem Mid.own {w0 wr : World} {m g : Nat} {x : Node} {s : List Node} {N : Nat} (h : Mid w0 wr m g x s N) : wr.ownsRow w0.heap.size 38 1 (.slice (some ⟨g, 0, none⟩) 0 1) 0 [] := by
  obtain ⟨y, hx⟩ := h.row
  exact ⟨rfl, .inr ⟨g, 1, _, rfl, h.bg, hx, by omega, by simp [maxLen], rfl, rfl⟩⟩

/-- what append leaves -/
theorem Mid.put {w0 wr w' : World} {m g k : Nat} {x : Node} {s : List Node} {N : Nat} {xs : List Value} (h : Mid w0 wr m g x s N) (hg : wr.grownBy w' (some g)) (ho : w'.ownsRow w0.heap.size 38 1 (.slice (some ⟨g, 0, none⟩) k 1) k xs)
    (hk : (k = 1 ∧ xs = [val s]) ∨ (k = 0 ∧ s = [])) : Run w0 w' m g k s N := by
  obtain ⟨es, c, hm, _⟩ := h.seen.ex
  obtain ⟨y, hy⟩ := h.row
  have hK : Keeps wr w' := .of_grown hg (fun c e => by rw [hy] at e; cases e)
  have hmm : w'.heap[m]? = wr.heap[m]? := hg.block m h.lt.1 (fun e => h.ne (by injection e))
  obtain ⟨q, hq, hc⟩ : ∃ q, w'.heap[g]? = some (.cells #[q] 38 (0, 0)) ∧ (k = 1 → q = val s) := by
    rcases ho.2 with ⟨hv, _⟩ | ⟨g2, cap, cur, hv, hg2, hcur, hkc, hcm, hsz, htk⟩
    · cases hv
    · injection hv with h1 h2 h3
      injection h1 with h1
      injection h1 with h1
      subst h1 h3
      obtain ⟨q, rfl⟩ : ∃ q, cur = #[q] := by
        match cur, hsz with
        | ⟨[q]⟩, _ => exact ⟨q, rfl⟩
      refine ⟨q, hcur, fun e => ?_⟩
      rcases hk with ⟨rfl, rfl⟩ | ⟨rfl, _⟩
      · simpa using htk
      · cases e
  refine ⟨h.bel.trans ⟨hg.os, hg.tape, hg.output, hg.size, fun i hi => hg.block i (by have := h.bel.size; omega) (fun e => by injection e with e; have := h.bg; omega)⟩, h.bg, h.bm, h.ne, ⟨q, hq, hc⟩, h.seen.same hmm hK, h.good.tail.same hK, by rw [count_same hmm]; exact h.num, ?_⟩
  rcases hk with ⟨h1, _⟩ | h2
  · exact .inl h1
  · exact .inr h2
end Go.Proofs.YtmjmhoihmnbjkaaGreat

/-
  fault.find under Code's look.
-/
namespace Go.Proofs.YtmjmhoihmnbjkaaGreat
open Go.RowKit
set_option linter.unusedVariables false
set_option linter.unusedSimpArgs false

end Go.Proofs.YtmjmhoihmnbjkaaGreat

/-
  fault.find under Is's look.
-/
namespace Go.Proofs.YtmjmhoihmnbjkaaGreat
open Go.RowKit
set_option linter.unusedVariables false
set_option linter.unusedSimpArgs false

set_option maxRecDepth 100000 in
set_option maxHeartbeats 4000000 in
theorem find_is {l : List Node} (c : Nat) (n : Int) (w : World) (hG : Good w l) (hne : l ≠ []) (hc : w.cell? ⟨c, 0, none⟩ = some (.int .i64 n)) :
    Calls Tryz.prog 22 #[val l, .func (.func 23) #[] #[.pointer (some ⟨c, 0, none⟩)]] w fun e w' => e = .returned (.bool (decide (ans l = some n))) ∧ Below w.heap.size w w' := by
  have hlt := cell_lt hc
  obtain ⟨i0, hi0, hz0, hz1, hz2⟩ := info_parts info_err
  have hmm := @run_makeMap Tryz.prog
  have HG := Lib.hid hG
  have HC := Lib.hid hc
  have hI := isI_val l
  have start : Run w ((w.alloc (.map #[] 0)).alloc (.cells #[val l] 38)) w.heap.size (w.heap.size + 1) 1 l l.length := by
    have b1 : Below w.heap.size w (w.alloc (.map #[] 0)) := (Below.refl _ _).alloc (Nat.le_refl _) _
    have b2 : Below (w.heap.size + 1) (w.alloc (.map #[] 0)) ((w.alloc (.map #[] 0)).alloc (.cells #[val l] 38)) := (Below.refl _ _).alloc (by simp) _
    have hm : ((w.alloc (.map #[] 0)).alloc (.cells #[val l] 38)).heap[w.heap.size]? = some (.map #[] 0) := (b2.block _ (by omega)).trans (MapKept.heap_alloc w _).1
    have hg := (MapKept.heap_alloc (w.alloc (.map #[] 0)) (.cells #[val l] 38)).1
    rw [show (w.alloc (.map #[] 0)).heap.size = w.heap.size + 1 by simp] at hg
    have hB := b1.trans (b2.mono (by omega))
    exact ⟨hB, by omega, by omega, by omega, ⟨_, hg, fun _ => rfl⟩, ⟨_, _, hm, fun _ e he => by simp at he⟩, hG.below hB, by rw [count_of hm]; simp, .inl rfl⟩
  have HS := Lib.hid start
  have HV : ∀ x s, ∃ t u, val (x :: s) = .iface t u := fun x s => by
    rcases isI_val (x :: s) with h | h
    · cases x <;> cases h
    · exact h
  generalize l.length = N at *
  clear start hG
  obtain ⟨x0, l0, rfl⟩ : ∃ x l', l = x :: l' := by
    cases l with
    | nil => exact absurd rfl hne
    | cons x l => exact ⟨x, l, rfl⟩
  obtain ⟨t0, u0, hv0⟩ := HV x0 l0
  rw [hv0] at HS ⊢
  generalize hA : ans (x0 :: l0) = A at *
  have HA := Lib.hid (show (ans (x0 :: l0) = some n ↔ A = some n) from by rw [hA])
  clear hA hv0 HG hI hne hc
  go_enter Tryz.func22, Tryz.ntmps22
  go_wp2
  generalize hB : w.heap.size = B at *
  have HB := Lib.hid hB
  clear hB
  go_loopw [6] (fun lv wr => ∃ k s, lv = .slice (some ⟨B + 1, 0, none⟩) k 1 ∧ Hid (Run w wr B (B + 1) k s N) ∧ Hid (ans s = some n ↔ A = some n)) (fun lv wr => 2 * (N - count wr B) + lenOf lv)
  case atStart => exact ⟨1, _, rfl, HS, HA⟩
  case round =>
    clear HS HA
    obtain ⟨k, s, rfl, HR, HA⟩ := hrel
    rcases HR.out.k with rfl | ⟨rfl, rfl⟩
    · obtain ⟨y, hy, hyv⟩ := HR.out.row
      have hyv := hyv rfl
      subst hyv
      have hcell : _ = some (val s) := cell_of_row _ (B + 1) 0 _ _ _ hy
      clear hy
      cases s with
      | nil =>
        simp only [val] at hcell
        have HT := Lib.hid (HR.out.take rfl)
        go_wp2
        go_roundw
        case rel => exact ⟨0, [], rfl, HT, HA⟩
        case measure => simp [lenOf]
      | cons x s =>
        obtain ⟨tx, ux, hv⟩ := HV x s
        have EN := Lib.hid (enter_new HR.out.seen HR.out.good)
        have BA := Lib.hid (fun W => bare_any x s W)
        have WR := Lib.hid (fun W (h1 : Wraps (x :: s)) (h2 : Good W (x :: s)) => wrapped_any h1 h2)
        rw [hv] at hcell EN BA WR
        by_cases hW : Wraps (x :: s)
        · have LK := Lib.hid (fun W (hb : Below w.heap.size w W) => lookI_cov hW c n W ((hb.cell (p := ⟨c, 0, none⟩) (by rw [HB.out]; exact hlt)).trans HC.out))
          have WR2 := Lib.hid (fun W h2 => WR.out W hW h2)
          have HA2 := Lib.hid (show (ans s = some n ↔ A = some n) from by rw [← ans_wraps hW]; exact HA.out)
          clear WR hW hv
          generalize shown (x :: s) = sh at *
          go_wp2_with (first
            | (go_at_call 19; (with_reducible refine EN.out.mono ?_); rintro e w1 ⟨rfl, hk1, hs1, hn1⟩; have HM := Lib.hid (HR.out.enter hk1 hs1 hn1); clear hk1 hs1 hn1)
            | (go_at_call 46; (with_reducible refine (BA.out _).mono ?_); rintro e w1' ⟨rfl, rfl⟩)
            | (go_at_call 23; (with_reducible refine (LK.out _ HM.out.bel).mono ?_); rintro e w2 ⟨rfl, b2⟩; have HM2 := Lib.hid (HM.out.later b2); clear b2)
            | (go_at_call 47; (with_reducible refine (WR2.out _ HM2.out.good).mono ?_); rintro e w3 ⟨g3, rfl, b3, hr3⟩; have HM3 := Lib.hid (HM2.out.later b3); have HW3 := Lib.hid hr3; clear b3 hr3)
            | (at_builtin; go_loud (refine wpList_append_fits _ rfl _ _ 28 rfl w.heap.size 38 i0 1 Tryz.underlying28 hi0 hz1 (B + 1) 0 1 [] rfl HM3.out.own ⟨g3, 0, none⟩ 1 1 [val s] rfl rfl (one_src HW3.out) (one_is (isI_val s)) (by omega) ?_; rintro w4 ho4 hg4; have HR4 := Lib.hid (HM3.out.put hg4 ho4 (.inl ⟨rfl, rfl⟩)); clear ho4 hg4)))
          go_roundw
          case rel => exact ⟨1, s, rfl, HR4, HA2⟩
          case measure =>
            have h1 := HR.out.num
            have h2 := HR4.out.num
            simp only [List.length_cons] at h1
            simp only [lenOf]
            omega
        · obtain ⟨q, rfl⟩ : ∃ q, x = .num q := by
            cases x with
            | flt b p => exact absurd trivial hW
            | num n => exact ⟨n, rfl⟩
          have hs0 : s = [] := HR.out.good
          subst hs0
          clear WR hW
          have LK := Lib.hid (fun W (hb : Below w.heap.size w W) => lookI_num q [] c n W ((hb.cell (p := ⟨c, 0, none⟩) (by rw [HB.out]; exact hlt)).trans HC.out))
          have WN := Lib.hid (fun W => wrapped_num q [] W)
          have hvv : val [Node.num q] = .iface tx ux := hv
          rw [hvv] at WN
          clear hvv hv
          generalize shown [Node.num q] = sh at *
          cases hkn : (q == n) with
          | true =>
            have E : decide (A = some n) = true := by
              have h2 : q = n := by simpa using hkn
              have h1 : A = some n := HA.out.1 (by rw [h2]; rfl)
              rw [h1]; simp
            rw [hkn] at LK
            clear hkn
            go_wp2_with (first
              | (go_at_call 19; (with_reducible refine EN.out.mono ?_); rintro e w1 ⟨rfl, hk1, hs1, hn1⟩; have HM := Lib.hid (HR.out.enter hk1 hs1 hn1); clear hk1 hs1 hn1)
              | (go_at_call 46; (with_reducible refine (BA.out _).mono ?_); rintro e w1' ⟨rfl, rfl⟩)
              | (go_at_call 23; (with_reducible refine (LK.out _ HM.out.bel).mono ?_); rintro e w2 ⟨rfl, rfl⟩))
            go_ret
            exact ⟨by rw [E]; rfl, HM.out.bel⟩
          | false =>
            have HA2 : Hid (ans [] = some n ↔ A = some n) := by
              have hne2 : q ≠ n := by simpa using hkn
              exact ⟨fun h => by simp [ans] at h, fun h => by
                have h3 : some q = some n := HA.out.2 h
                injection h3 with h3
                exact absurd h3 hne2⟩
            rw [hkn] at LK
            clear hkn
            go_wp2_with (first
              | (go_at_call 19; (with_reducible refine EN.out.mono ?_); rintro e w1 ⟨rfl, hk1, hs1, hn1⟩; have HM := Lib.hid (HR.out.enter hk1 hs1 hn1); clear hk1 hs1 hn1)
              | (go_at_call 46; (with_reducible refine (BA.out _).mono ?_); rintro e w1' ⟨rfl, rfl⟩)
              | (go_at_call 23; (with_reducible refine (LK.out _ HM.out.bel).mono ?_); rintro e w2 ⟨rfl, rfl⟩)
              | (go_at_call 47; (with_reducible refine (WN.out _).mono ?_); rintro e w3 ⟨rfl, rfl⟩)
              | (at_builtin; refine wpList_append_fits_any _ rfl _ _ 28 rfl w.heap.size 38 i0 1 Tryz.underlying28 hi0 hz1 (B + 1) 0 1 [] rfl HM.out.own none 0 0 [] rfl rfl (fun _ => ⟨rfl, rfl⟩) (fun ad e => by cases e) (fun u hu => by cases hu) (by omega) ?_; rintro w4 ho4 hg4; have HR4 := Lib.hid (HM.out.put hg4 ho4 (.inr ⟨rfl, rfl⟩)); clear ho4 hg4))
            go_roundw
            case rel => exact ⟨0, [], rfl, HR4, HA2⟩
            case measure =>
              have h1 := HR.out.num
              have h2 := HR4.out.num
              simp only [List.length_cons] at h1
              simp only [lenOf]
              omega
    · have hbel := HR.out.bel
      have hans : false = decide (A = some n) := by
        have h : ¬ A = some n := fun h => by
          have h3 : none = some n := HA.out.2 h
          cases h3
        simp [h]
      have HN := Lib.hid hans
      clear HR HA hans
      go_wp2
      go_ret
      exact ⟨by rw [← HN.out]; rfl, hbel⟩
end Go.Proofs.YtmjmhoihmnbjkaaGreat

/-
  fault.Code and fault.Is.
-/
namespace Go.Proofs.YtmjmhoihmnbjkaaGreat
open Go.RowKit
set_option linter.unusedVariables false
set_option linter.unusedSimpArgs false

theorem idle_is (w : World) :
    CallsD Tryz.prog 21 #[] .returning w fun e u' w' => e = .returned (.tuple #[]) ∧ u' = .returning ∧ w' = w := by
  refine callsD_of_wpS Tryz.func21 rfl fun c₀ cs hu => ?_
  apply wpS_region
  cases c₀
  simp_all [wpOpsS, go_sem, recoverD, Tryz.ntmps21, Exit.thenS, bodyPostS, results, Tryz.results21]

/-- Code's answer -/
def codeOf : List Node → Int
  | [] => 0
  | x :: l => match ans (x :: l) with
    | some n => n
    | none => 18

set_option maxRecDepth 100000 in
theorem Is_err {x : Node} {l : List Node} (n : Int) {w : World} (hG : Good w (x :: l)) :
    Calls Tryz.prog 9 #[val (x :: l), .int .i64 n] w fun e w' => e = .returned (.bool (decide (ans (x :: l) = some n))) ∧ Below w.heap.size w w' := by
  have hmf : ∀ (fn : Fn) (first cap : Array Value) (w : World), (Instr.makeFunc fn first cap).run Tryz.prog w = .ok (.func fn first cap) w := fun _ _ _ _ => rfl
  have b1 : Below w.heap.size w (w.alloc (.cells #[.int .i64 n] 43)) := (Below.refl _ _).alloc (Nat.le_refl _) _
  have h1 := (MapKept.heap_alloc w (.cells #[.int .i64 n] 43)).1
  have hc1 := cell_of_row _ w.heap.size 0 _ _ _ h1
  have HB := Lib.hid b1
  obtain ⟨t, u, hv⟩ : ∃ t u, val (x :: l) = .iface t u := by cases x <;> exact ⟨_, _, rfl⟩
  have FI := Lib.hid (find_is w.heap.size n _ (hG.below b1) (by simp) hc1)
  rw [hv] at FI ⊢
  generalize decide (ans (x :: l) = some n) = r at *
  clear hG hv h1 hc1 b1
  go_enter_defers Tryz.func9, Tryz.ntmps9
  go_wp2_with (go_at_call 22; (with_reducible refine FI.out.mono ?_); rintro e w1 ⟨rfl, hb⟩; have H1 := Lib.hid (HB.out.trans (hb.mono HB.out.size)); clear hb)
  refine leaves_cons (f := 21) (args := #[]) (by simp) (by simp [go_sem]) ?_
  refine (idle_is _).mono ?_
  rintro e u' w'' ⟨rfl, rfl, rfl⟩
  simp [Leaves, settle, results, Tryz.results9, go_sem]
  exact H1.out
end Go.Proofs.YtmjmhoihmnbjkaaGreat
