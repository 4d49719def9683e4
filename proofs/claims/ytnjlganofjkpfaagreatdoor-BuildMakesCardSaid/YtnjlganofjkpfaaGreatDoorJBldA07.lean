/-
  Joined: FltA, FltB.
-/
import Derived.Test.YtnjlganofjkpfaaGreatDoorChecked
import Derived.LaidEql
import Derived.Stop.Asserts
import Derived.MapKept
import Derived.Carry
import Derived.Deep.DeepMust
import Derived.Outline
import Derived.Test.YtnjlganofjkpfaaGreatDoorJBldA04
import Derived.Tactics2
import Derived.Defers
import Derived.Recover
import Derived.Laws.Pointers
/-
  Layer 5's errors as values: chains of faults, others and numbers; an error as a key of a map.
-/
namespace Go.Proofs.YtnjlganofjkpfaaGreatDoor
open Go.RowKit
set_option linter.unusedVariables false
set_option linter.unusedSimpArgs false

/-- one link of an error, from the outermost one on: a Fault with its block's number, in block p of memory; an error of another kind; a number -/
inductive Node where
  | flt (b : Int) (p : Nat)
  | num (n : Int)

/-- the error that the links make -/
def val : List Node → Value
  | [] => .nilIface
  | .flt _ p :: _ => .iface 116 (.pointer (some ⟨p, 0, none⟩))
  | .num n :: l => (fun _ => .iface 40 (.int .i64 n)) (val l)

/-- the Faults of l lie below block p -/
def Lower (p : Nat) (l : List Node) : Prop := ∀ b q, Node.flt b q ∈ l → q < p
/-- none of l is of another kind -/
def Plain (l : List Node) : Prop := True

/-- memory holds these links -/
def Good (w : World) : List Node → Prop
  | [] => True
  | .flt b p :: l => w.heap[p]? = some (.cells #[.int .i64 b, val l] 119 (0, 0)) ∧ Lower p l ∧ l ≠ [] ∧ Good w l
  | .num _ :: l => l = []

theorem Good.below {w w' : World} (hb : Below w.heap.size w w') : ∀ {l : List Node}, Good w l → Good w' l
  | [], _ => trivial
  | .flt _ p :: l, ⟨h1, h2, h3, h4⟩ => ⟨(hb.block p (block_lt h1)).trans h1, h2, h3, Good.below hb h4⟩
  | .num _ :: l, h => h

/-- every Fault stands as it stood -/
def Keeps (w w' : World) : Prop := ∀ (p : Nat) (c : Array Value), w.heap[p]? = some (Obj.cells c 119 (0, 0)) → w'.heap[p]? = some (Obj.cells c 119 (0, 0))
theorem Keeps.trans {a b c : World} (h : Keeps a b) (k : Keeps b c) : Keeps a c := fun p x e => k p x (h p x e)
theorem Keeps.of_below {w w' : World} (hb : Below w.heap.size w w') : Keeps w w' := fun p x e => (hb.block p (block_lt e)).trans e
/-- all but one block, which is no Fault -/
theorem Keeps.of_grown {w w' : World} {g : Nat} (h : w.grownBy w' (some g)) (hg : ∀ c, w.heap[g]? ≠ some (Obj.cells c 119 (0, 0))) : Keeps w w' := fun p x e => by
  by_cases hp : p = g
  · subst hp; exact absurd e (hg x)
  · exact (h.block p (block_lt e) (fun h2 => hp (by injection h2))).trans e

theorem Good.same {w w' : World} (hb : Keeps w w') : ∀ {l : List Node}, Good w l → Good w' l
  | [], _ => trivial
  | .flt _ p :: l, ⟨h1, h2, h3, h4⟩ => ⟨hb _ _ h1, h2, h3, Good.same hb h4⟩
  | .num _ :: l, h => h

theorem Good.tail {w : World} {x : Node} {l : List Node} (h : Good w (x :: l)) : Good w l := by
  cases x with
  | flt b p => exact h.2.2.2
  | num n => have : l = [] := h; subst this; trivial

/-- a key of a map that is none of the errors of l -/
def Past (w : World) (l : List Node) (v : Value) : Prop :=
  (∃ p c, v = .iface 116 (.pointer (some ⟨p, 0, none⟩)) ∧ w.heap[p]? = some (.cells c 119 (0, 0)) ∧ Lower p l) ∨ (∃ a, v = .iface 37 a ∧ Plain l)

theorem Past.tail {w : World} {x : Node} {l : List Node} {v : Value} (h : Past w (x :: l) v) : Past w l v := by
  rcases h with ⟨p, c, rfl, h1, h2⟩ | ⟨a, rfl, h1⟩
  · exact .inl ⟨p, c, rfl, h1, fun b q hq => h2 b q (List.mem_cons_of_mem _ hq)⟩
  · exact .inr ⟨a, rfl, trivial⟩
theorem Past.same {w w' : World} {l : List Node} {v : Value} (hb : Keeps w w') (h : Past w l v) : Past w' l v := by
  rcases h with ⟨p, c, rfl, h1, h2⟩ | h
  · exact .inl ⟨p, c, rfl, hb _ _ h1, h2⟩
  · exact .inr h
/-- an error's own key, to what it wraps -/
theorem Past.own {w : World} {x : Node} {l : List Node} (h : Good w (x :: l)) (hl : l ≠ []) : Past w l (val (x :: l)) := by
  cases x with
  | flt b p => exact .inl ⟨p, _, rfl, h.1, h.2.1⟩
  | num n => exact absurd h hl

theorem comp_flt : (Tryz.prog.info? 116).map (fun i => i.comparable) = some true := by kernel_rfl
theorem size_flt : (Tryz.prog.info? 119).map (fun i => i.size) = some 2 := by kernel_rfl
theorem comp_num : (Tryz.prog.info? 40).map (fun i => i.comparable) = some true := by kernel_rfl

theorem run_key_plain (w : World) (em : Bool) (l : List Node) (hp : Plain l) (n : Nat) : (Instr.checkKey em (n + 2) 37 (val l)).run Tryz.prog w = .ok () w := by
  obtain ⟨i1, hi1, hc1⟩ := Option.map_eq_some_iff.1 comp_flt
  obtain ⟨i2, hi2, hc2⟩ := Option.map_eq_some_iff.1 comp_num
  match l, hp with
  | [], _ => simp [val, Instr.checkKey, run_underlying Tryz.underlying37]
  | .flt b p :: l, _ => simp [val, Instr.checkKey, run_underlying Tryz.underlying37, run_underlying Tryz.underlying116, typeInfo, hi1, hc1]
  | .num m :: l, _ => simp [val, Instr.checkKey, run_underlying Tryz.underlying37, run_underlying Tryz.underlying40, typeInfo, hi2, hc2]

theorem run_key (w : World) (em : Bool) {l : List Node} (hg : Good w l) (n : Nat) : (Instr.checkKey em (n + 5) 37 (val l)).run Tryz.prog w = .ok () w := by
  match l, hg with
  | [], _ => exact run_key_plain w em [] (by simp [Plain]) (n + 3)
  | .flt b p :: l, _ => 
    obtain ⟨i1, hi1, hc1⟩ := Option.map_eq_some_iff.1 comp_flt
    simp [val, Instr.checkKey, run_underlying Tryz.underlying37, run_underlying Tryz.underlying116, typeInfo, hi1, hc1]
  | .num m :: l, _ =>
    obtain ⟨i2, hi2, hc2⟩ := Option.map_eq_some_iff.1 comp_num
    simp [val, Instr.checkKey, run_underlying Tryz.underlying37, run_underlying Tryz.underlying40, typeInfo, hi2, hc2]

theorem run_types (d : Nat) {tx ty : TypeId} (hne : tx ≠ ty) (vx vy : Value) (w : World) : (Op.equalIn (d + 1) 37 (.iface tx vx) (.iface ty vy)).run Tryz.prog w = .ok false w := by
  simp [Op.equalIn, run_underlying Tryz.underlying37, hne]

theorem run_apart (w : World) {l : List Node} (hg : Good w l) (hne : l ≠ []) {v : Value} (hp : Past w l v) : (Op.equal 37 (val l) v).run Tryz.prog w = .ok false w := by
  have key : ∀ d : Nat, (Op.equalIn (d + 2) 37 (val l) v).run Tryz.prog w = .ok false w := fun d => by
    match l, hg with
    | [], _ => exact absurd rfl hne
    | .flt b p :: l, hg =>
      rcases hp with ⟨q, c, rfl, h1, h2⟩ | ⟨a, rfl, h1⟩
      · obtain ⟨i1, hi1, hc1⟩ := Option.map_eq_some_iff.1 comp_flt
        have hq := h2 b p (List.mem_cons_self)
        have hn : (⟨p, 0, none⟩ : Addr) ≠ ⟨q, 0, none⟩ := fun e => by injection e with e1; omega
        obtain ⟨j, hj, hs⟩ := Option.map_eq_some_iff.1 size_flt
        exact run_equalIn_iface_ptr_other w d Tryz.underlying37 Tryz.underlying116 hi1 hc1 hj (by rw [hs]; decide) hn hg.1 h1
      · exact run_types (d + 1) (by decide) _ _ w
    | .num m :: l, _ =>
      rcases hp with ⟨q, c, rfl, h1, h2⟩ | ⟨a, rfl, h1⟩
      · exact run_types (d + 1) (by decide) _ _ w
      · exact run_types (d + 1) (by decide) _ _ w
  exact key 9998

theorem run_none (w : World) {l : List Node} (hg : Good w l) (hne : l ≠ []) : ∀ (es : List MapEntry) (i : Nat), (∀ e ∈ es, Past w l e.key) → (Instr.findAsking 37 (val l) es i).run Tryz.prog w = .ok none w
  | [], i, _ => by simp [Instr.findAsking]
  | e :: es, i, h => by
    simp [Instr.findAsking, run_apart w hg hne (h e (List.mem_cons_self)), run_none w hg hne es (i + 1) (fun x hx => h x (List.mem_cons_of_mem _ hx)), Result.andThen]

theorem run_findKey_none (w : World) {l : List Node} (hg : Good w l) (hne : l ≠ []) (es : List MapEntry) (h : ∀ e ∈ es, Past w l e.key) : (Instr.findKey 37 (val l) es).run Tryz.prog w = .ok none w := by
  have hf : ∃ d, Tryz.prog.underlying 37 = some d ∧ (Instr.findNow d (val l) es 0 = some none ∨ Instr.findNow d (val l) es 0 = none) := by
    refine ⟨_, Tryz.underlying37, ?_⟩
    cases es with
    | nil => exact .inl rfl
    | cons e es => exact .inr (by simp [Instr.findNow, Instr.sameNow])
  obtain ⟨d, hd, hf⟩ := hf
  rcases hf with hf | hf
  · simp [Instr.findKey, run_underlying hd, hf, Result.andThen]
  · simp [Instr.findKey, run_underlying hd, hf, Result.andThen, run_none w hg hne es 0 h]

/-- how much a map holds -/
def count (w : World) (m : Nat) : Nat := match w.heap[m]? with
  | some (.map es _) => es.size
  | _ => 0
theorem count_of {w : World} {m c : Nat} {es : Array MapEntry} (h : w.heap[m]? = some (.map es c)) : count w m = es.size := by
  unfold count; rw [h]
theorem count_same {w w' : World} {m : Nat} (h : w'.heap[m]? = w.heap[m]?) : count w' m = count w m := by
  unfold count; rw [h]

/-- the map of what has been visited: at block m -/
structure Seen (w : World) (m : Nat) (l : List Node) : Prop where
  ex : ∃ es c, w.heap[m]? = some (.map es c) ∧ (l ≠ [] → ∀ e ∈ es.toList, Past w l e.key)

theorem Seen.first (w : World) (l : List Node) : Seen (w.alloc (.map #[] 0)) w.heap.size l := ⟨#[], 0, (MapKept.heap_alloc w _).1, fun _ e he => by simp at he⟩
theorem Seen.same {w w' : World} {m : Nat} {l : List Node} (h : Seen w m l) (hm : w'.heap[m]? = w.heap[m]?) (hk : Keeps w w') : Seen w' m l := by
  obtain ⟨es, c, hb, hp⟩ := h.ex
  exact ⟨es, c, hm.trans hb, fun hl e he => (hp hl e he).same hk⟩
theorem Seen.later {w w' : World} {m : Nat} {l : List Node} (h : Seen w m l) (hb : Below w.heap.size w w') : Seen w' m l := by
  obtain ⟨es, c, hm, hp⟩ := h.ex
  exact h.same (hb.block m (block_lt hm)) (.of_below hb)

theorem zero_bool (w : World) : (zeroValue 4).run Tryz.prog w = .ok (.bool false) w := by kernel_rfl

theorem run_seen {w : World} {m : Nat} {l : List Node} {es : Array MapEntry} {c : Nat} (hb : w.heap[m]? = some (.map es c)) (hp : ∀ e ∈ es.toList, Past w l e.key) (hg : Good w l) (hne : l ≠ []) :
    (Instr.lookup 96 (.map (some m)) (val l) false).run Tryz.prog w = .ok (.bool false) w := by
  have hk := run_key w es.isEmpty hg 9995
  have hf := run_findKey_none w hg hne es.toList hp
  simp only [Instr.lookup, Sem.run_bind, run_underlying Tryz.underlying96, Result.andThen, MapKept.run_getObj_map hb]
  simp [hk, hf, Result.andThen, zero_bool]

theorem run_enter {w : World} {m : Nat} {l : List Node} {es : Array MapEntry} {c : Nat} (hb : w.heap[m]? = some (.map es c)) (hp : ∀ e ∈ es.toList, Past w l e.key) (hg : Good w l) (hne : l ≠ []) :
    (Instr.mapUpdate 96 (.map (some m)) (val l) (.bool true)).run Tryz.prog w = .ok () { w with heap := w.heap.setIfInBounds m (.map (es.push { key := val l, val := .bool true, born := c }) (c + 1)) } := by
  have hk := run_key w false hg 9995
  have hf := run_findKey_none w hg hne es.toList hp
  simp only [Instr.mapUpdate, Sem.run_bind, run_underlying Tryz.underlying96, Result.andThen, MapKept.run_getObj_map hb]
  simp [hk, hf, Result.andThen, MapKept.run_setObj_map _ hb]
end Go.Proofs.YtnjlganofjkpfaaGreatDoor

/-
  fault.enter: an error is visited for the first time.
-/
namespace Go.Proofs.YtnjlganofjkpfaaGreatDoor
open Go.RowKit
set_option linter.unusedVariables false
set_option linter.unusedSimpArgs false

/-- the deferred closure of enter, where nothing has gone wrong -/
theorem idle_enter (p : Addr) (w : World) :
    CallsD Tryz.prog 75 #[.pointer (some p)] .returning w fun e u' w' => e = .returned (.tuple #[]) ∧ u' = .returning ∧ w' = w := by
  refine callsD_of_wpS Tryz.func75 rfl fun c₀ cs hu => ?_
  apply wpS_seq
  apply wpS_region
  simp [wpOpsS, go_sem, recoverD, hu, Tryz.ntmps75, Exit.thenS]
  refine wpS_cond (t := false) (by simp [Act.eval, Array.replicate]) ?_
  simp only [Bool.false_eq_true, if_false]
  refine wpS_of_wp (wp_skip ?_)
  cases c₀
  simp_all [bodyPostS, results, Tryz.results75]

/-- all but block m stands as it stood; there may be more -/
structure KeptMap (m : Nat) (w w' : World) : Prop where
  os : w'.os = w.os
  tape : w'.tape = w.tape
  output : w'.output = w.output
  size : w.heap.size ≤ w'.heap.size
  block : ∀ k, k < w.heap.size → k ≠ m → w'.heap[k]? = w.heap[k]?

theorem KeptMap.grown {m : Nat} {w w' : World} (h : KeptMap m w w') : w.grownBy w' (some m) := ⟨h.os, h.tape, h.output, h.size, fun k hk hm => h.block k hk (fun e => hm (by rw [e]))⟩
theorem KeptMap.keeps {m : Nat} {w w' : World} {l : List Node} (h : KeptMap m w w') (hs : Seen w m l) : Keeps w w' := by
  obtain ⟨es, k, hb, _⟩ := hs.ex
  exact .of_grown h.grown (fun c e => by rw [hb] at e; cases e)
theorem KeptMap.below {m B : Nat} {w w' : World} (h : KeptMap m w w') (hB : B ≤ m) (hm : B ≤ w.heap.size) : Below B w w' := ⟨h.os, h.tape, h.output, h.size, fun k hk => h.block k (by omega) (by omega)⟩

theorem KeptMap.setCell {m : Nat} {w w' : World} (h : KeptMap m w w') {p : Addr} (hp : w.heap.size ≤ p.block) (v : Value) : KeptMap m w (w'.setCell p v) :=
  ⟨h.os, h.tape, h.output, by simpa [World.setCell] using h.size, fun k hk hm => by rw [Below.heap_setCell _ _ _ _ (by omega)]; exact h.block k hk hm⟩

set_option maxRecDepth 100000 in
theorem enter_new {w : World} {m : Nat} {x : Node} {l : List Node} (hs : Seen w m (x :: l)) (hg : Good w (x :: l)) :
    Calls Tryz.prog 54 #[.map (some m), val (x :: l)] w fun e w' => e = .returned (.bool true) ∧ KeptMap m w w' ∧ Seen w' m l ∧ count w' m = count w m + 1 := by
  obtain ⟨es, c, hb, hp⟩ := hs.ex
  have hp := hp (by simp)
  have hmf : ∀ (fn : Fn) (first cap : Array Value) (w : World), (Instr.makeFunc fn first cap).run Tryz.prog w = .ok (.func fn first cap) w := fun _ _ _ _ => rfl
  have hlt := block_lt hb
  have b0 : ∀ o, Below w.heap.size w (w.alloc o) := fun o => (Below.refl w.heap.size w).alloc (Nat.le_refl _) o
  have m0 : ∀ o, (w.alloc o).heap[m]? = some (.map es c) := fun o => ((b0 o).block m hlt).trans hb
  have L := run_seen (m0 (.cells #[.bool false] 4)) (fun e he => (hp e he).same (.of_below (b0 _))) (hg.below (b0 _)) (by simp)
  obtain ⟨w2, U, hc, hf, hk, hS⟩ : ∃ w2, (Instr.mapUpdate 96 (.map (some m)) (val (x :: l)) (.bool true)).run Tryz.prog (w.alloc (.cells #[.bool true] 4)) = .ok () w2 ∧ w2.cell? ⟨w.heap.size, 0, none⟩ = some (.bool true) ∧ w2.frozen? ⟨w.heap.size, 0, none⟩ = false ∧ KeptMap m w w2 ∧ (∀ w3, Keeps w w3 → w3.heap[m]? = w2.heap[m]? → Seen w3 m l ∧ count w3 m = count w m + 1) := by
    have U := run_enter (m0 (.cells #[.bool true] 4)) (fun e he => (hp e he).same (.of_below (b0 _))) (hg.below (b0 _)) (by simp)
    have hset := MapKept.heap_set (o' := .map (es.push { key := val (x :: l), val := .bool true, born := c }) (c + 1)) (m0 (.cells #[.bool true] 4))
    have hnew : (w.alloc (.cells #[.bool true] 4)).heap[w.heap.size]? = some (.cells #[.bool true] 4) := (MapKept.heap_alloc w _).1
    have h3 := (hset.2 w.heap.size (by omega)).trans hnew
    refine ⟨_, U, ?_, ?_, ⟨rfl, rfl, rfl, ?_, ?_⟩, ?_⟩
    · exact (World.cell?_of_block (w := w.alloc (.cells #[.bool true] 4)) (hset.2 w.heap.size (by omega))).trans (by rw [cell_of_row _ w.heap.size 0 _ _ _ hnew]; rfl)
    · exact Lib.frozen_of_heap h3 0
    · exact Nat.le_trans (b0 (.cells #[.bool true] 4)).size (Nat.le_of_eq (Array.size_setIfInBounds ..).symm)
    · intro k hk hm
      exact (hset.2 k hm).trans ((b0 _).block k hk)
    · intro w3 hk hm
      refine ⟨⟨_, _, hm.trans hset.1, fun hl e he => ?_⟩, by rw [count_of (hm.trans hset.1), count_of hb]; simp⟩
      rw [Array.toList_push, List.mem_append] at he
      rcases he with he | he
      · exact ((hp e he).tail).same hk
      · rw [List.mem_singleton] at he
        subst he
        exact (Past.own hg hl).same hk
  have hkk : Keeps w (w2.setCell ⟨w.heap.size, 0, none⟩ (.bool true)) := (hk.setCell (p := ⟨w.heap.size, 0, none⟩) (Nat.le_refl _) _).keeps hs
  have hSS := hS _ hkk (Below.heap_setCell _ _ _ _ (by show m ≠ w.heap.size; omega))
  have hK := hk.setCell (p := ⟨w.heap.size, 0, none⟩) (Nat.le_refl _) (.bool true)
  clear hS hkk hk
  generalize val (x :: l) = v at L U ⊢
  have HK := Lib.hid hK
  have HS := Lib.hid hSS
  clear hK hSS hs hg hb hp b0 m0
  go_enter_defers Tryz.func54, Tryz.ntmps54
  go_wp2
  refine leaves_cons (f := 75) (args := #[.pointer (some ⟨w.heap.size, 0, none⟩)]) (by simp) (by simp [go_sem]) ?_
  refine (idle_enter ⟨w.heap.size, 0, none⟩ _).mono ?_
  rintro e u' w'' ⟨rfl, rfl, rfl⟩
  have hlt2 : w.heap.size < w2.heap.size := cell_lt hc
  have hcc : (w2.setCell ⟨w.heap.size, 0, none⟩ (.bool true)).cell? ⟨w.heap.size, 0, none⟩ = some (.bool true) := World.cell?_setCell_same _ _ _ hc
  simp [Leaves, settle, results, Tryz.results54, go_sem, hlt2, hcc]
  exact ⟨HK.out, HS.out.1, HS.out.2⟩
end Go.Proofs.YtnjlganofjkpfaaGreatDoor
