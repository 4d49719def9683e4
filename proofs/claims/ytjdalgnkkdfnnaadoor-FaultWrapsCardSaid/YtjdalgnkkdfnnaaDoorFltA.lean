/-
  Layer 5's errors as values: chains of faults, others and numbers; an error as a key of a map.
-/
import Derived.Test.YtjdalgnkkdfnnaaDoorChecked
import Derived.Test.YtjdalgnkkdfnnaaDoorMemD
import Derived.LaidEql
import Derived.Stop.Asserts
import Derived.MapKept
import Derived.Carry
import Derived.Deep.DeepMust
import Derived.Outline
namespace Go.Proofs.YtjdalgnkkdfnnaaDoor
open Go.RowKit
set_option linter.unusedVariables false
set_option linter.unusedSimpArgs false

/-- one link of an error, from the outermost one on: a Fault with its block's number, in block p of memory; an error of another kind; a number -/
inductive Node where
  | flt (b : Int) (p : Nat)
  | oth
  | num (n : Int)

/-- the error that the links make -/
def val : List Node → Value
  | [] => .nilIface
  | .flt _ p :: _ => .iface 47 (.pointer (some ⟨p, 0, none⟩))
  | .oth :: l => .iface 43 (.agg #[val l])
  | .num n :: _ => .iface 34 (.int .i64 n)

/-- the Faults of l lie below block p -/
def Lower (p : Nat) (l : List Node) : Prop := ∀ b q, Node.flt b q ∈ l → q < p
/-- none of l is of another kind -/
def Plain (l : List Node) : Prop := Node.oth ∉ l

/-- memory holds these links -/
def Good (w : World) : List Node → Prop
  | [] => True
  | .flt b p :: l => w.heap[p]? = some (.cells #[.int .i64 b, val l] 51 (0, 0)) ∧ Lower p l ∧ l ≠ [] ∧ Good w l
  | .oth :: l => Plain l ∧ Good w l
  | .num _ :: l => l = []

theorem Good.below {w w' : World} (hb : Below w.heap.size w w') : ∀ {l : List Node}, Good w l → Good w' l
  | [], _ => trivial
  | .flt _ p :: l, ⟨h1, h2, h3, h4⟩ => ⟨(hb.block p (block_lt h1)).trans h1, h2, h3, Good.below hb h4⟩
  | .oth :: l, ⟨h1, h2⟩ => ⟨h1, Good.below hb h2⟩
  | .num _ :: l, h => h

/-- every Fault stands as it stood -/
def Keeps (w w' : World) : Prop := ∀ (p : Nat) (c : Array Value), w.heap[p]? = some (Obj.cells c 51 (0, 0)) → w'.heap[p]? = some (Obj.cells c 51 (0, 0))
theorem Keeps.trans {a b c : World} (h : Keeps a b) (k : Keeps b c) : Keeps a c := fun p x e => k p x (h p x e)
theorem Keeps.of_below {w w' : World} (hb : Below w.heap.size w w') : Keeps w w' := fun p x e => (hb.block p (block_lt e)).trans e
/-- all but one block, which is no Fault -/
theorem Keeps.of_grown {w w' : World} {g : Nat} (h : w.grownBy w' (some g)) (hg : ∀ c, w.heap[g]? ≠ some (Obj.cells c 51 (0, 0))) : Keeps w w' := fun p x e => by
  by_cases hp : p = g
  · subst hp; exact absurd e (hg x)
  · exact (h.block p (block_lt e) (fun h2 => hp (by injection h2))).trans e

theorem Good.same {w w' : World} (hb : Keeps w w') : ∀ {l : List Node}, Good w l → Good w' l
  | [], _ => trivial
  | .flt _ p :: l, ⟨h1, h2, h3, h4⟩ => ⟨hb _ _ h1, h2, h3, Good.same hb h4⟩
  | .oth :: l, ⟨h1, h2⟩ => ⟨h1, Good.same hb h2⟩
  | .num _ :: l, h => h

theorem Good.tail {w : World} {x : Node} {l : List Node} (h : Good w (x :: l)) : Good w l := by
  cases x with
  | flt b p => exact h.2.2.2
  | oth => exact h.2
  | num n => have : l = [] := h; subst this; trivial

/-- a key of a map that is none of the errors of l -/
def Past (w : World) (l : List Node) (v : Value) : Prop :=
  (∃ p c, v = .iface 47 (.pointer (some ⟨p, 0, none⟩)) ∧ w.heap[p]? = some (.cells c 51 (0, 0)) ∧ Lower p l) ∨ (∃ a, v = .iface 43 a ∧ Plain l)

theorem Past.tail {w : World} {x : Node} {l : List Node} {v : Value} (h : Past w (x :: l) v) : Past w l v := by
  rcases h with ⟨p, c, rfl, h1, h2⟩ | ⟨a, rfl, h1⟩
  · exact .inl ⟨p, c, rfl, h1, fun b q hq => h2 b q (List.mem_cons_of_mem _ hq)⟩
  · exact .inr ⟨a, rfl, fun hm => h1 (List.mem_cons_of_mem _ hm)⟩
theorem Past.same {w w' : World} {l : List Node} {v : Value} (hb : Keeps w w') (h : Past w l v) : Past w' l v := by
  rcases h with ⟨p, c, rfl, h1, h2⟩ | h
  · exact .inl ⟨p, c, rfl, hb _ _ h1, h2⟩
  · exact .inr h
/-- an error's own key, to what it wraps -/
theorem Past.own {w : World} {x : Node} {l : List Node} (h : Good w (x :: l)) (hl : l ≠ []) : Past w l (val (x :: l)) := by
  cases x with
  | flt b p => exact .inl ⟨p, _, rfl, h.1, h.2.1⟩
  | oth => exact .inr ⟨_, rfl, h.1⟩
  | num n => exact absurd h hl

theorem part_err (v : Value) (w : World) : (part 27 #[v] 0).run Tryd.prog w = .ok v w := by
  simp [part, isAgg, run_underlying Tryd.underlying27]

theorem comp_flt : (Tryd.prog.info? 47).map (fun i => i.comparable) = some true := by kernel_rfl
theorem size_flt : (Tryd.prog.info? 51).map (fun i => i.size) = some 2 := by kernel_rfl
theorem comp_oth : (Tryd.prog.info? 43).map (fun i => i.comparable) = some true := by kernel_rfl
theorem comp_num : (Tryd.prog.info? 34).map (fun i => i.comparable) = some true := by kernel_rfl

theorem run_key_plain (w : World) (em : Bool) (l : List Node) (hp : Plain l) (n : Nat) : (Instr.checkKey em (n + 2) 27 (val l)).run Tryd.prog w = .ok () w := by
  obtain ⟨i1, hi1, hc1⟩ := Option.map_eq_some_iff.1 comp_flt
  obtain ⟨i2, hi2, hc2⟩ := Option.map_eq_some_iff.1 comp_num
  match l, hp with
  | [], _ => simp [val, Instr.checkKey, run_underlying Tryd.underlying27]
  | .flt b p :: l, _ => simp [val, Instr.checkKey, run_underlying Tryd.underlying27, run_underlying Tryd.underlying47, typeInfo, hi1, hc1]
  | .num m :: l, _ => simp [val, Instr.checkKey, run_underlying Tryd.underlying27, run_underlying Tryd.underlying34, typeInfo, hi2, hc2]
  | .oth :: l, h => exact absurd (List.mem_cons_self) h

theorem run_key (w : World) (em : Bool) {l : List Node} (hg : Good w l) (n : Nat) : (Instr.checkKey em (n + 5) 27 (val l)).run Tryd.prog w = .ok () w := by
  obtain ⟨i1, hi1, hc1⟩ := Option.map_eq_some_iff.1 comp_oth
  match l, hg with
  | [], _ => exact run_key_plain w em [] (by simp [Plain]) (n + 3)
  | .flt b p :: l, _ => 
    obtain ⟨i1, hi1, hc1⟩ := Option.map_eq_some_iff.1 comp_flt
    simp [val, Instr.checkKey, run_underlying Tryd.underlying27, run_underlying Tryd.underlying47, typeInfo, hi1, hc1]
  | .num m :: l, _ =>
    obtain ⟨i2, hi2, hc2⟩ := Option.map_eq_some_iff.1 comp_num
    simp [val, Instr.checkKey, run_underlying Tryd.underlying27, run_underlying Tryd.underlying34, typeInfo, hi2, hc2]
  | .oth :: l, h =>
    have hk : (Instr.checkKey em (n + 3) 27 (val l)).run Tryd.prog w = .ok () w := run_key_plain w em l h.1 (n + 1)
    rw [val]
    rw [Instr.checkKey]
    simp only [Sem.run_bind, run_underlying Tryd.underlying27, Result.andThen, typeInfo, hi1, hc1]
    rw [Instr.checkKey]
    simp [typeInfo, hi1, hc1, run_underlying Tryd.underlying43, part_err, hk, Result.andThen]

theorem run_types (d : Nat) {tx ty : TypeId} (hne : tx ≠ ty) (vx vy : Value) (w : World) : (Op.equalIn (d + 1) 27 (.iface tx vx) (.iface ty vy)).run Tryd.prog w = .ok false w := by
  simp [Op.equalIn, run_underlying Tryd.underlying27, hne]

theorem run_apart (w : World) {l : List Node} (hg : Good w l) (hne : l ≠ []) {v : Value} (hp : Past w l v) : (Op.equal 27 (val l) v).run Tryd.prog w = .ok false w := by
  have key : ∀ d : Nat, (Op.equalIn (d + 2) 27 (val l) v).run Tryd.prog w = .ok false w := fun d => by
    match l, hg with
    | [], _ => exact absurd rfl hne
    | .flt b p :: l, hg =>
      rcases hp with ⟨q, c, rfl, h1, h2⟩ | ⟨a, rfl, h1⟩
      · obtain ⟨i1, hi1, hc1⟩ := Option.map_eq_some_iff.1 comp_flt
        have hq := h2 b p (List.mem_cons_self)
        have hn : (⟨p, 0, none⟩ : Addr) ≠ ⟨q, 0, none⟩ := fun e => by injection e with e1; omega
        obtain ⟨j, hj, hs⟩ := Option.map_eq_some_iff.1 size_flt
        exact run_equalIn_iface_ptr_other w d Tryd.underlying27 Tryd.underlying47 hi1 hc1 hj (by rw [hs]; decide) hn hg.1 h1
      · exact run_types (d + 1) (by decide) _ _ w
    | .num m :: l, _ =>
      rcases hp with ⟨q, c, rfl, h1, h2⟩ | ⟨a, rfl, h1⟩
      · exact run_types (d + 1) (by decide) _ _ w
      · exact run_types (d + 1) (by decide) _ _ w
    | .oth :: l, h =>
      rcases hp with ⟨q, c, rfl, h1, h2⟩ | ⟨a, rfl, h1⟩
      · exact run_types (d + 1) (by decide) _ _ w
      · exact absurd (List.mem_cons_self) h1
  exact key 9998

theorem run_none (w : World) {l : List Node} (hg : Good w l) (hne : l ≠ []) : ∀ (es : List MapEntry) (i : Nat), (∀ e ∈ es, Past w l e.key) → (Instr.findAsking 27 (val l) es i).run Tryd.prog w = .ok none w
  | [], i, _ => by simp [Instr.findAsking]
  | e :: es, i, h => by
    simp [Instr.findAsking, run_apart w hg hne (h e (List.mem_cons_self)), run_none w hg hne es (i + 1) (fun x hx => h x (List.mem_cons_of_mem _ hx)), Result.andThen]

theorem run_findKey_none (w : World) {l : List Node} (hg : Good w l) (hne : l ≠ []) (es : List MapEntry) (h : ∀ e ∈ es, Past w l e.key) : (Instr.findKey 27 (val l) es).run Tryd.prog w = .ok none w := by
  have hf : ∃ d, Tryd.prog.underlying 27 = some d ∧ (Instr.findNow d (val l) es 0 = some none ∨ Instr.findNow d (val l) es 0 = none) := by
    refine ⟨_, Tryd.underlying27, ?_⟩
    cases es with
    | nil => exact .inl rfl
    | cons e es => exact .inr (by simp [Instr.findNow, Instr.sameNow])
  obtain ⟨d, hd, hf⟩ := hf
  rcases hf with hf | hf
  · simp [Instr.findKey, run_underlying hd, hf, Result.andThen]
  · simp [Instr.findKey, run_underlying hd, hf, Result.andThen, run_none w hg hne es 0 h]

/-- how much a map holds -/
def count (w : World) (m : Nat) : Nat := match w.heap[m]? with
  | some (.map es _) => es.size
  | _ => 0
theorem count_of {w : World} {m c : Nat} {es : Array MapEntry} (h : w.heap[m]? = some (.map es c)) : count w m = es.size := by
  unfold count; rw [h]
theorem count_same {w w' : World} {m : Nat} (h : w'.heap[m]? = w.heap[m]?) : count w' m = count w m := by
  unfold count; rw [h]

/-- the map of what has been visited: at block m -/
structure Seen (w : World) (m : Nat) (l : List Node) : Prop where
  ex : ∃ es c, w.heap[m]? = some (.map es c) ∧ (l ≠ [] → ∀ e ∈ es.toList, Past w l e.key)

theorem Seen.first (w : World) (l : List Node) : Seen (w.alloc (.map #[] 0)) w.heap.size l := ⟨#[], 0, (MapKept.heap_alloc w _).1, fun _ e he => by simp at he⟩
theorem Seen.same {w w' : World} {m : Nat} {l : List Node} (h : Seen w m l) (hm : w'.heap[m]? = w.heap[m]?) (hk : Keeps w w') : Seen w' m l := by
  obtain ⟨es, c, hb, hp⟩ := h.ex
  exact ⟨es, c, hm.trans hb, fun hl e he => (hp hl e he).same hk⟩
theorem Seen.later {w w' : World} {m : Nat} {l : List Node} (h : Seen w m l) (hb : Below w.heap.size w w') : Seen w' m l := by
  obtain ⟨es, c, hm, hp⟩ := h.ex
  exact h.same (hb.block m (block_lt hm)) (.of_below hb)

theorem zero_bool (w : World) : (zeroValue 4).run Tryd.prog w = .ok (.bool false) w := by kernel_rfl

theorem run_seen {w : World} {m : Nat} {l : List Node} {es : Array MapEntry} {c : Nat} (hb : w.heap[m]? = some (.map es c)) (hp : ∀ e ∈ es.toList, Past w l e.key) (hg : Good w l) (hne : l ≠ []) :
    (Instr.lookup 52 (.map (some m)) (val l) false).run Tryd.prog w = .ok (.bool false) w := by
  have hk := run_key w es.isEmpty hg 9995
  have hf := run_findKey_none w hg hne es.toList hp
  simp only [Instr.lookup, Sem.run_bind, run_underlying Tryd.underlying52, Result.andThen, MapKept.run_getObj_map hb]
  simp [hk, hf, Result.andThen, zero_bool]

theorem run_enter {w : World} {m : Nat} {l : List Node} {es : Array MapEntry} {c : Nat} (hb : w.heap[m]? = some (.map es c)) (hp : ∀ e ∈ es.toList, Past w l e.key) (hg : Good w l) (hne : l ≠ []) :
    (Instr.mapUpdate 52 (.map (some m)) (val l) (.bool true)).run Tryd.prog w = .ok () { w with heap := w.heap.setIfInBounds m (.map (es.push { key := val l, val := .bool true, born := c }) (c + 1)) } := by
  have hk := run_key w false hg 9995
  have hf := run_findKey_none w hg hne es.toList hp
  simp only [Instr.mapUpdate, Sem.run_bind, run_underlying Tryd.underlying52, Result.andThen, MapKept.run_getObj_map hb]
  simp [hk, hf, Result.andThen, MapKept.run_setObj_map _ hb]
end Go.Proofs.YtjdalgnkkdfnnaaDoor
