/-
  Joined: Info, SupB.
-/
import Derived.Test.YtbeobbanppkmhaaGreatDoorRows
import Derived.Laws.BytesArg
import Derived.Deep.OwnRows
import Derived.Test.YtbeobbanppkmhaaGreatDoorJBlkC02
import Derived.Test.YtbeobbanppkmhaaGreatDoorJBlkC04
/-
  The rows of the program's table of types that our texts ask; bytes as a string.
-/
namespace Go.Proofs.YtbeobbanppkmhaaGreatDoor
open Go.RowKit
set_option linter.unusedVariables false
set_option linter.unusedSimpArgs false

theorem info_u8 : (Tryz.prog.info? 5).map (fun i => (i.zero, i.size, i.bytes)) = some (some (.int .u8 0), 1, 1) := by kernel_rfl

theorem size_u8 : (Tryz.prog.info? 5).map (·.size) = some 1 := by kernel_rfl

theorem info_i64 : (Tryz.prog.info? 3).map (fun i => (i.zero, i.size, i.bytes)) = some (some (.int .i64 0), 1, 8) := by kernel_rfl

theorem zeros_u8 (n : Nat) : (madeCells #[Value.int .u8 0] n).toList = u8s (List.replicate n 0) := by
  apply List.ext_getElem
  · simp [madeCells, u8s]
  · intro i h1 h2
    have e : i % 1 = 0 := Nat.mod_one i
    simp [madeCells, u8s, e]

/-- the string of bytes -/
theorem run_str {w : World} {A : Option Addr} {n c : Nat} {l : List UInt8} (h : Bytes8 w A n c l) :
    (convert 22 9 (.slice A n c)).run Tryz.prog w = .ok (.string ⟨l.toArray⟩) w := by
  cases A with
  | none =>
    have hl : l = [] := by
      match l, h.row with
      | [], _ => rfl
      | y :: r, hr => obtain ⟨ad, e, _⟩ := hr 0 _ rfl; cases e
    subst hl
    exact run_convert_bytes_nil w _ _ Tryz.underlying22 Tryz.underlying5 n c _ Tryz.underlying9
  | some ad =>
    have hl : (loadCells ad n).run Tryz.prog w = .ok ((l.map fun b => (b.toNat : Int)).map (Value.int .u8)).toArray w := by
      have := run_loadCells_list (P := Tryz.prog) w ad (u8s l) (fun j v hj => h.row.at_ hj)
      rw [u8s_length, h.len] at this
      rw [this]
      simp [u8s]
    rw [run_convert_bytes_string w _ _ _ _ n c Tryz.underlying22 Tryz.underlying5 Tryz.underlying9, run_bytesToString w _ n c _ hl, foldl_push_bytes]
    have e : ((l.map fun b => (b.toNat : Int)).map fun n => UInt8.ofNat n.toNat) = l := by
      rw [List.map_map]
      conv => rhs; rw [← List.map_id l]
      exact List.map_congr_left fun b _ => by simp
    rw [e]
    simp [ByteArray.empty, ByteArray.emptyWithCapacity]
    rfl

/-- bytes in a block of their own, from block B on, that may be written -/
structure Own8 (w : World) (B g : Nat) (l : List UInt8) : Prop where
  low : B ≤ g
  blk : w.heap[g]? = some (.cells (u8s l).toArray 5 (0, 0))

theorem Own8.lt {w : World} {B g : Nat} {l : List UInt8} (h : Own8 w B g l) : g < w.heap.size := block_lt h.blk
theorem Own8.below {w w' : World} {B C g : Nat} {l : List UInt8} (h : Own8 w B g l) (hb : Below C w w') (hg : g < C) : Own8 w' B g l := ⟨h.low, (hb.block g hg).trans h.blk⟩
theorem Own8.later {w w' : World} {B g : Nat} {l : List UInt8} (h : Own8 w B g l) (hb : Below w.heap.size w w') : Own8 w' B g l := h.below hb h.lt
theorem Own8.down {w : World} {B B' g : Nat} {l : List UInt8} (h : Own8 w B g l) (hB : B' ≤ B) : Own8 w B' g l := ⟨Nat.le_trans hB h.low, h.blk⟩
theorem Own8.bytes {w : World} {B g n : Nat} {l : List UInt8} (h : Own8 w B g l) (hn : l.length = n) (hl : n ≤ 9223372036854775807) : Bytes8 w (some ⟨g, 0, none⟩) n n l := ⟨hn, Nat.le_refl _, hl, Row.of_block h.blk⟩

/-- bytes just made -/
theorem own_zeros {w : World} {base g n : Nat} (h : w.ownsRow base 5 1 (.slice (some ⟨g, 0, none⟩) n n) n (madeCells (Value.int .u8 0).cells (n * 1)).toList) (hB : base ≤ g) : Own8 w base g (List.replicate n 0) := by
  have h1 := ownsRow_whole h
  have e : (madeCells (Value.int .u8 0).cells (n * 1)).toList = u8s (List.replicate n 0) := by rw [Nat.mul_one]; exact zeros_u8 n
  rw [e] at h1
  exact ⟨hB, h1⟩

end Go.Proofs.YtbeobbanppkmhaaGreatDoor

/-
  Layer 6's Right.
-/
namespace Go.Proofs.YtbeobbanppkmhaaGreatDoor
open Go.RowKit
set_option linter.unusedVariables false
set_option linter.unusedSimpArgs false

/-- is field k within its bounds? -/
def okB (f : Nat → Int) (k : Nat) : Bool := decide (loV k ≤ f k) && decide (f k ≤ hiV (wrap64 (f 4 - 1)) k)
/-- the first k fields -/
def allB (f : Nat → Int) : Nat → Bool
  | 0 => true
  | k + 1 => allB f k && okB f k

theorem supC_at (f : Nat → Int) {k : Nat} (h : k < 11) : (supC f)[k]? = some (.int .i64 (f k)) := by
  rcases (show k = 0 ∨ k = 1 ∨ k = 2 ∨ k = 3 ∨ k = 4 ∨ k = 5 ∨ k = 6 ∨ k = 7 ∨ k = 8 ∨ k = 9 ∨ k = 10 by omega) with rfl | rfl | rfl | rfl | rfl | rfl | rfl | rfl | rfl | rfl | rfl <;> rfl

/-- a superblock in block p -/
def SupAt (w : World) (p : Nat) (f : Nat → Int) : Prop := w.heap[p]? = some (Obj.cells (supC f) 29 (0, 0))
theorem SupAt.cell {w : World} {p : Nat} {f : Nat → Int} (h : SupAt w p f) {k : Nat} (hk : k < 11) : w.cell? ⟨p, k, none⟩ = some (.int .i64 (f k)) := by
  rw [cell_of_row w p k _ _ _ h]
  simpa using supC_at f hk

theorem Ptrs.set {w : World} {q : Nat} {cs : Array Value} {t : TypeId} {fr : Nat × Nat} (h : w.heap[q]? = some (.cells cs t fr)) (ht : t ≠ 152) (i : Nat) (v : Value) : Ptrs w (w.setCell ⟨q, i, none⟩ v) := fun g c r e => by
  rw [heap_setCell_other w _ g v]
  · exact e
  · intro hg
    subst hg
    rw [h] at e
    injection e with e
    injection e with _ e2 _
    exact ht e2

set_option maxRecDepth 100000 in
set_option maxHeartbeats 400000 in
theorem ract_any (w : World) (p k q : Nat) (x lo hi : Int) (t : Bool) (hx : w.cell? ⟨p, k, none⟩ = some (.int .i64 x)) (hq : w.heap[q]? = some (.cells #[.bool t] 4 (0, 0))) :
    Calls Tryz.prog 154 #[.pointer (some ⟨p, k, none⟩), .int .i64 lo, .int .i64 hi, .pointer (some ⟨q, 0, none⟩)] w fun e w' => e = .returned (.tuple #[]) ∧ w' = w.setCell ⟨q, 0, none⟩ (.bool (t && (decide (lo ≤ x) && decide (x ≤ hi)))) := by
  have hc := cell_of_row w q 0 _ _ _ hq
  have hf := frozen_of_row w q 0 _ _ hq
  clear hq
  cases t
  · go_enter Tryz.func154, Tryz.ntmps154
    go_wp2
    go_end0
    exact ⟨rfl, rfl⟩
  · by_cases h1 : lo ≤ x
    · go_enter Tryz.func154, Tryz.ntmps154
      go_wp2
      go_end0
      exact ⟨rfl, by rw [decide_eq_true h1]; rfl⟩
    · go_enter Tryz.func154, Tryz.ntmps154
      go_wp2
      go_end0
      exact ⟨rfl, by rw [decide_eq_false (by omega : ¬ lo ≤ x)]; rfl⟩

/-- what Right's action keeps: k fields have been looked at -/
structure RightI (w0 w : World) (p q : Nat) (f : Nat → Int) (k : Nat) : Prop where
  bel : Below w0.heap.size w0 w
  sup : SupAt w p f
  ok : w.heap[q]? = some (Obj.cells #[.bool (allB f k)] 4 (0, 0))

def supV (f : Nat → Int) : Value := .agg (supC f)

theorem callF17 (args : Array Value) (W : World) : (callFunc 154 args).run Tryz.prog W = .ok (.enter 154 args) W := by kernel_rfl

theorem right_visit {w0 w : World} {p q : Nat} {f : Nat → Int} (hq : w0.heap.size ≤ q) (hpq : p ≠ q) (h : RightI w0 w p q f 0) :
    Calls Tryz.prog 80 #[.pointer (some ⟨p, 0, none⟩), .func (.func 154) #[] #[.pointer (some ⟨q, 0, none⟩)]] w fun e w' => e = .returned (.tuple #[]) ∧ RightI w0 w' p q f 11 := by
  refine visit_any w p 154 (.pointer (some ⟨q, 0, none⟩)) (f 4) callF17 (fun k W => RightI w0 W p q f k) (fun k W _ hI => hI.sup.cell (by omega)) ?_ ?_ h
  · intro k W W' hI hb
    exact ⟨hI.bel.trans (hb.mono hI.bel.size), (hb.block p (block_lt hI.sup)).trans hI.sup, (hb.block q (block_lt hI.ok)).trans hI.ok⟩
  · intro k W hk hI
    refine (ract_any W p k q (f k) _ _ (allB f k) (hI.sup.cell hk) hI.ok).mono ?_
    rintro e W' ⟨rfl, rfl⟩
    refine ⟨rfl, ⟨hI.bel.setCell (p := ⟨q, 0, none⟩) hq _, ?_, ?_⟩, Ptrs.set hI.ok (by decide) 0 _⟩
    · rw [SupAt, heap_setCell_other W _ p _ hpq]
      exact hI.sup
    · exact one_setCell hI.ok

theorem two_new (w : World) (o1 o2 : Obj) : ((w.alloc o1).alloc o2).heap[w.heap.size]? = some o1 ∧ ((w.alloc o1).alloc o2).heap[w.heap.size + 1]? = some o2 ∧ Below w.heap.size w ((w.alloc o1).alloc o2) := by
  have h1 := heap_alloc_new w o1
  have h2 := heap_alloc_new (w.alloc o1) o2
  have b1 : Below w.heap.size w (w.alloc o1) := (Below.refl _ _).alloc (Nat.le_refl _) _
  have b2 : Below (w.alloc o1).heap.size (w.alloc o1) ((w.alloc o1).alloc o2) := (Below.refl _ _).alloc (Nat.le_refl _) _
  have hs : (w.alloc o1).heap.size = w.heap.size + 1 := by simp
  rw [hs] at h2
  exact ⟨(b2.block _ (by omega)).trans h1, h2, b1.trans (b2.mono (by omega))⟩

set_option maxRecDepth 100000 in
set_option maxHeartbeats 400000 in
theorem SRight_any (w : World) (f : Nat → Int) : Calls Tryz.prog 130 #[supV f] w fun e w' => e = .returned (.bool (allB f 11)) ∧ Below w.heap.size w w' := by
  have hmf : ∀ (fn : Fn) (first cap : Array Value) (w : World), (Instr.makeFunc fn first cap).run Tryz.prog w = .ok (.func fn first cap) w := fun _ _ _ _ => rfl
  obtain ⟨t1, t2, tb⟩ := two_new w (.cells (supC f) 29) (.cells #[.bool true] 4)
  have HI : RightI w ((w.alloc (.cells (supC f) 29)).alloc (.cells #[.bool true] 4)) w.heap.size (w.heap.size + 1) f 0 := ⟨tb, t1, t2⟩
  have V := Lib.hid (right_visit (by omega) (by omega) HI)
  clear t1 t2 tb HI
  simp only [supC] at V
  simp only [supV, supC]
  go_enter Tryz.func130, Tryz.ntmps130
  go_wp2_with (go_at_call 80; (with_reducible refine (V.out).mono ?_); rintro e w1 ⟨rfl, hI⟩; have hc1 := cell_of_row w1 (w.heap.size + 1) 0 _ _ _ hI.ok; have HI := Lib.hid hI; clear hI)
  go_ret
  exact ⟨rfl, HI.out.bel⟩

end Go.Proofs.YtbeobbanppkmhaaGreatDoor
