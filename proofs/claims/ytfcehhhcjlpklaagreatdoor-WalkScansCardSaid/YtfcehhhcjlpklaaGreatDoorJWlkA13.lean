/-
  Joined: ValA, ValB, ValC, ValD, ValE, BitE, BitF, SealB, SealC, SealD, SealE.
-/
import Derived.LoopTactic
import Derived.BigQuiet
import Derived.Deep.RegionHeld3
import Derived.Test.YtfcehhhcjlpklaaGreatDoorJWlkA11
import Derived.Test.YtfcehhhcjlpklaaGreatDoorJWlkA00
import Derived.Test.YtfcehhhcjlpklaaGreatDoorJWlkA05
import Derived.Test.YtfcehhhcjlpklaaGreatDoorJWlkA03
import Derived.Laws.Rows
import Derived.Test.YtfcehhhcjlpklaaGreatDoorJWlkA07
import Derived.Deep.AppendLies
import Derived.IntWalk
import Derived.Test.YtfcehhhcjlpklaaGreatDoorJWlkA08
import Derived.Test.YtfcehhhcjlpklaaGreatDoorJWlkA12
import Derived.Laws.EntriesVeiled
import Derived.OwnWalk
/-
  Layer 8's numbers in memory; build.
-/
namespace Go.Proofs.YtfcehhhcjlpklaaGreatDoor
open Go.RowKit
set_option linter.unusedVariables false
set_option linter.unusedSimpArgs false

/-- the numbers of a value in memory: k's pointer leads to block g k, cell o k -/
structure NumsAt (w : World) (b off n c : Nat) (l : List (NumS × Int)) (g o : Nat → Nat) : Prop where
  len : l.length = n
  pos : 0 < n
  small : n ≤ 100
  cap : n ≤ c
  most : c ≤ 9223372036854775807
  lt : b < w.heap.size
  fit : ∀ p ∈ l, fitN p.1
  row : ∀ k (h : k < l.length), w.cell? ⟨b, off + k * 4, none⟩ = some (.pointer (some ⟨g k, o k, none⟩)) ∧ w.cell? ⟨b, off + k * 4 + 1, none⟩ = some (.int .i64 (l[k].1.1 : Int)) ∧
    w.cell? ⟨b, off + k * 4 + 2, none⟩ = some (.int .i64 l[k].1.2.1) ∧ w.cell? ⟨b, off + k * 4 + 3, none⟩ = some (.int .i64 l[k].1.2.2)
theorem NumsAt.later {w w' : World} {b off n c : Nat} {l : List (NumS × Int)} {g o : Nat → Nat} (h : NumsAt w b off n c l g o) (hb : w.heap.size ≤ w'.heap.size) (he : w'.heap[b]? = w.heap[b]?) : NumsAt w' b off n c l g o :=
  ⟨h.len, h.pos, h.small, h.cap, h.most, Nat.lt_of_lt_of_le h.lt hb, h.fit, fun k hk => by
    obtain ⟨h0, h1, h2, h3⟩ := h.row k hk
    exact ⟨(World.cell?_of_block (w := w) (a := ⟨b, off + k * 4, none⟩) he).trans h0, (World.cell?_of_block (w := w) (a := ⟨b, off + k * 4 + 1, none⟩) he).trans h1, (World.cell?_of_block (w := w) (a := ⟨b, off + k * 4 + 2, none⟩) he).trans h2, (World.cell?_of_block (w := w) (a := ⟨b, off + k * 4 + 3, none⟩) he).trans h3⟩⟩
set_option maxRecDepth 100000 in
theorem holds_any8 (w : World) (p : Value) (hp : p.oneCell' = true) (wd lo hi n : Int) (r : Bool) (hr : inB n lo hi = r) :
    Calls Tryz.prog 121 #[.agg #[p, .int .i64 wd, .int .i64 lo, .int .i64 hi], .int .i64 n] w fun e w' => e = .returned (.bool r) ∧ Below w.heap.size w w' := by
  by_cases h : lo ≤ n
  · go_enter Tryz.func121, Tryz.ntmps121
    go_wp2
    go_ret
    exact ⟨ret_bool (by rw [← hr, inB, decide_eq_true h, Bool.true_and]), (Below.refl _ _).alloc (Nat.le_refl _) _⟩
  · go_enter Tryz.func121, Tryz.ntmps121
    go_wp2
    go_ret
    exact ⟨ret_bool (by rw [← hr, inB, decide_eq_false (by omega), Bool.false_and]), (Below.refl _ _).alloc (Nat.le_refl _) _⟩

/-- a number in a variable -/
def NumVar (W : World) (q : Nat) (p : Value) (wd lo hi : Int) : Prop := W.heap[q]? = some (.cells #[p, .int .i64 wd, .int .i64 lo, .int .i64 hi] 178 (0, 0))
theorem NumVar.later {w w' : World} {q B : Nat} {p : Value} {wd lo hi : Int} (h : NumVar w q p wd lo hi) (hb : Below B w w') (hq : q < B) : NumVar w' q p wd lo hi := (hb.block q hq).trans h
theorem NumVar.facts {w : World} {q : Nat} {p : Value} {wd lo hi : Int} (h : NumVar w q p wd lo hi) : w.cell? ⟨q, 0, none⟩ = some p ∧ w.cell? ⟨q, 1, none⟩ = some (.int .i64 wd) ∧ w.cell? ⟨q, 2, none⟩ = some (.int .i64 lo) ∧ w.cell? ⟨q, 3, none⟩ = some (.int .i64 hi) := by
  refine ⟨?_, ?_, ?_, ?_⟩
  · rw [cell_of_row w q 0 _ _ _ h]; rfl
  · rw [cell_of_row w q 1 _ _ _ h]; rfl
  · rw [cell_of_row w q 2 _ _ _ h]; rfl
  · rw [cell_of_row w q 3 _ _ _ h]; rfl

end Go.Proofs.YtfcehhhcjlpklaaGreatDoor

/-
  Layer 8's build.
-/
namespace Go.Proofs.YtfcehhhcjlpklaaGreatDoor
open Go.RowKit
set_option linter.unusedVariables false
set_option linter.unusedSimpArgs false

end Go.Proofs.YtfcehhhcjlpklaaGreatDoor

/-
  Layer 8's numbers of each kind; the values of all kinds.
-/
namespace Go.Proofs.YtfcehhhcjlpklaaGreatDoor
open Go.RowKit
set_option linter.unusedVariables false
set_option linter.unusedSimpArgs false

/-- the numbers as cells -/
def numC (g o : Nat → Nat) : List (NumS × Int) → Nat → List Value
  | [], _ => []
  | p :: r, k => .pointer (some ⟨g k, o k, none⟩) :: .int .i64 (p.1.1 : Int) :: .int .i64 p.1.2.1 :: .int .i64 p.1.2.2 :: numC g o r (k + 1)

theorem numC_at {g o : Nat → Nat} : ∀ (l : List (NumS × Int)) (j k : Nat) (h : k < l.length), (numC g o l j)[k * 4]? = some (.pointer (some ⟨g (j + k), o (j + k), none⟩)) ∧ (numC g o l j)[k * 4 + 1]? = some (.int .i64 (l[k].1.1 : Int)) ∧
    (numC g o l j)[k * 4 + 2]? = some (.int .i64 l[k].1.2.1) ∧ (numC g o l j)[k * 4 + 3]? = some (.int .i64 l[k].1.2.2)
  | [], _, _, h => by cases h
  | p :: r, j, 0, _ => ⟨rfl, rfl, rfl, rfl⟩
  | p :: r, j, k + 1, h => by
    obtain ⟨h0, h1, h2, h3⟩ := numC_at r (j + 1) k (by simpa using h)
    rw [show j + 1 + k = j + (k + 1) by omega] at h0
    rw [show (k + 1) * 4 = k * 4 + 1 + 1 + 1 + 1 by omega]
    refine ⟨?_, ?_, ?_, ?_⟩
    · simp only [numC, List.getElem?_cons_succ]; exact h0
    · simp only [numC, List.getElem?_cons_succ]; exact h1
    · rw [show k * 4 + 1 + 1 + 1 + 1 + 2 = k * 4 + 2 + 1 + 1 + 1 + 1 by omega]; simp only [numC, List.getElem?_cons_succ]; exact h2
    · rw [show k * 4 + 1 + 1 + 1 + 1 + 3 = k * 4 + 3 + 1 + 1 + 1 + 1 by omega]; simp only [numC, List.getElem?_cons_succ]; exact h3

/-- a new row of numbers -/
theorem nums_new {W : World} {q n : Nat} {l : List (NumS × Int)} {g o : Nat → Nat} (h : W.heap[q]? = some (.cells (numC g o l 0).toArray 178 (0, 0))) (hl : l.length = n) (h0 : 0 < n) (hn : n ≤ 100) (hf : ∀ p ∈ l, fitN p.1) :
    NumsAt W q 0 n n l g o :=
  ⟨hl, h0, hn, Nat.le_refl _, by omega, block_lt h, hf, fun k hk => by
    obtain ⟨h1, h2, h3, h4⟩ := numC_at (g := g) (o := o) l 0 k hk
    rw [Nat.zero_add] at h1
    rw [Nat.zero_add]
    refine ⟨?_, ?_, ?_, ?_⟩
    · rw [cell_of_row W q _ _ _ _ h, List.getElem?_toArray]; exact h1
    · rw [cell_of_row W q _ _ _ _ h, List.getElem?_toArray]; exact h2
    · rw [cell_of_row W q _ _ _ _ h, List.getElem?_toArray]; exact h3
    · rw [cell_of_row W q _ _ _ _ h, List.getElem?_toArray]; exact h4⟩

theorem fit_zip {ns : List NumS} (h : ∀ p ∈ ns, fitN p) (vs : List Int) : ∀ p ∈ ns.zip vs, fitN p.1 := fun p hp => h p.1 (List.of_mem_zip hp).1

/-! ### the lists -/
def numRow (W : World) (q : Nat) (cs : Array Value) : Prop := W.heap[q]? = some (.cells cs 178 (0, 0))

theorem results_num {fn : Func} {p : Tmp} (h : fn.results = #[.cell p 178]) (tmps : Array Value) (w : World) (g : Nat) (a b c d : Value)
    (hp : tmps.getD p undef = .pointer (some ⟨g, 0, none⟩)) (hg : numRow w g #[a, b, c, d]) : (results fn tmps).run Tryz.prog w = .ok (.agg #[a, b, c, d]) w :=
  results_cell_row h tmps w g _ #[a, b, c, d] (0, 0) _ hp hg Tryz.underlying178 rfl (by kernel_rfl)

set_option maxRecDepth 100000 in
theorem root_any (w : World) (b o : Nat) :
    Calls Tryz.prog 101 #[.pointer (some ⟨b, o, none⟩)] w fun e w' => e = .returned (.agg #[.pointer (some ⟨b, o, none⟩), .int .i64 4, .int .i64 1, .int .i64 14399]) ∧ Below w.heap.size w w' := by
  go_enter Tryz.func101, Tryz.ntmps101
  go_wp2
  refine bodyPost_ret (results_num Tryz.results101 _ _ w.heap.size _ _ _ _ rfl (heap_alloc_new w _)) rfl ?_
  exact ⟨rfl, (Below.refl _ _).alloc (Nat.le_refl _) _⟩
/-! ### the values -/
def o0 : Nat → Nat := fun _ => 0
end Go.Proofs.YtfcehhhcjlpklaaGreatDoor

/-
  Layer 8's Detail, Slot, Root, Count.
-/
namespace Go.Proofs.YtfcehhhcjlpklaaGreatDoor
open Go.RowKit
set_option linter.unusedVariables false
set_option linter.unusedSimpArgs false

end Go.Proofs.YtfcehhhcjlpklaaGreatDoor

/-
  Layer 8's read: what it reads, and where it writes.
-/
namespace Go.Proofs.YtfcehhhcjlpklaaGreatDoor
open Go.RowKit
set_option linter.unusedVariables false
set_option linter.unusedSimpArgs false

/-- what is read, beside its numbers -/
def psI (s : List UInt8) (ns : List NumS) : List Int := (partsN s ns).map fun k : Nat => (k : Int)
def rdL (s : List UInt8) (ns : List NumS) : List (NumS × Int) := ns.zip (psI s ns)
def sizeP (l : List (NumS × Int)) : Nat := (l.map (·.1.1)).sum

theorem rdL_cons (s : List UInt8) (p : NumS) (r : List NumS) : rdL s (p :: r) = (p, (leN (s.take p.1) : Int)) :: rdL (s.drop p.1) r := rfl
theorem rdL_length (s : List UInt8) (ns : List NumS) : (rdL s ns).length = ns.length := by
  simp [rdL, psI, partsN_length]
theorem sizeP_rdL (s : List UInt8) (ns : List NumS) : sizeP (rdL s ns) = sizeN ns := by
  induction ns generalizing s with
  | nil => rfl
  | cons p r ih =>
    have := ih (s.drop p.1)
    simp only [sizeP, sizeN, rdL_cons, List.map_cons, List.sum_cons] at *
    omega
theorem sizeP_step {l : List (NumS × Int)} {k : Nat} (h : k < l.length) : sizeP (l.take (k + 1)) = sizeP (l.take k) + l[k].1.1 := by
  rw [List.take_succ_eq_append_getElem h]
  simp only [sizeP, List.map_append, List.sum_append, List.map_cons, List.map_nil, List.sum_cons, List.sum_nil, Nat.add_zero]
theorem sizeP_le {l : List (NumS × Int)} (h : ∀ p ∈ l, p.1.1 ≤ 8) : sizeP l ≤ l.length * 8 := by
  induction l with
  | nil => simp [sizeP]
  | cons p r ih =>
    have h1 := ih fun q hq => h q (List.mem_cons_of_mem _ hq)
    have h2 := h p List.mem_cons_self
    simp only [sizeP, List.map_cons, List.sum_cons, List.length_cons] at *
    omega
theorem sizeP_take_le (l : List (NumS × Int)) (k : Nat) : sizeP (l.take k) ≤ sizeP l := by
  conv => rhs; rw [← List.take_append_drop k l]
  simp only [sizeP, List.map_append, List.sum_append]
  omega
theorem rdL_at : ∀ (ns : List NumS) (s : List UInt8) (k : Nat) (h : k < (rdL s ns).length), (rdL s ns)[k].2 = (leN ((s.drop (sizeP ((rdL s ns).take k))).take (rdL s ns)[k].1.1) : Int)
  | [], _, _, h => by cases h
  | p :: r, s, 0, _ => rfl
  | p :: r, s, k + 1, h => by
    have := rdL_at r (s.drop p.1) k (by simpa [rdL_cons] using h)
    simp only [rdL_cons, List.getElem_cons_succ, List.take_succ_cons]
    rw [this, List.drop_drop]
    simp [sizeP]
theorem psI_rdL (s : List UInt8) (ns : List NumS) : (rdL s ns).map (·.2) = psI s ns := by
  rw [rdL, List.map_snd_zip]
  simp [psI, partsN_length]
theorem okR_rdL (s : List UInt8) (ns : List NumS) : okR s ns = okP (rdL s ns) := rfl

theorem val_get_in {l : List UInt8} (hl : l.length = 8) : (leN l < 9223372036854775808 → getE l 0 8 = 0 ∧ getN l 0 8 = (leN l : Int)) ∧ (9223372036854775808 ≤ leN l → getE l 0 8 = 2 ∧ getN l 0 8 = 0) := by
  have hr : roomE l.length 0 8 = 0 := by
    rw [hl]
    rfl
  have hp : part l 0 8 = l := by
    simp only [part]
    exact List.take_of_length_le (by rw [List.length_drop, hl]; decide)
  constructor
  · intro h
    have he : getE l 0 8 = 0 := by rw [getE, if_pos hr, hp, if_neg (by omega)]
    exact ⟨he, by rw [getN, if_pos he, hp]⟩
  · intro h
    have he : getE l 0 8 = 2 := by rw [getE, if_pos hr, hp, if_pos h]
    exact ⟨he, by rw [getN, if_neg (by rw [he]; omega)]⟩

/-- all but some blocks as they were -/
structure Frm (G : Nat → Prop) (w w' : World) : Prop where
  os : w'.os = w.os
  tape : w'.tape = w.tape
  output : w'.output = w.output
  size : w.heap.size ≤ w'.heap.size
  block : ∀ q, q < w.heap.size → ¬ G q → w'.heap[q]? = w.heap[q]?
theorem Frm.of_below {G : Nat → Prop} {w w' : World} (h : Below w.heap.size w w') : Frm G w w' := ⟨h.os, h.tape, h.output, h.size, fun q hq _ => h.block q hq⟩
theorem Frm.trans {G : Nat → Prop} {a b c : World} (h : Frm G a b) (k : Frm G b c) : Frm G a c :=
  ⟨k.os.trans h.os, k.tape.trans h.tape, k.output.trans h.output, Nat.le_trans h.size k.size, fun q hq hg => (k.block q (Nat.lt_of_lt_of_le hq h.size) hg).trans (h.block q hq hg)⟩
theorem Frm.set {G : Nat → Prop} {w0 w : World} (h : Frm G w0 w) {p : Addr} (hp : G p.block) (v : Value) : Frm G w0 (w.setCell p v) :=
  ⟨h.os, h.tape, h.output, by simpa [World.setCell] using h.size, fun q hq hg => (Below.heap_setCell w p v q (fun e => hg (e ▸ hp))).trans (h.block q hq hg)⟩
theorem Frm.below {G : Nat → Prop} {a w w' : World} (h : Frm G w w') (hb : Below a.heap.size a w) (hG : ∀ q, G q → a.heap.size ≤ q) : Below a.heap.size a w' :=
  ⟨h.os.trans hb.os, h.tape.trans hb.tape, h.output.trans hb.output, Nat.le_trans hb.size h.size, fun q hq => (h.block q (Nat.lt_of_lt_of_le hq hb.size) (fun e => by have := hG q e; omega)).trans (hb.block q hq)⟩

/-- where the pointers lead: cells that may be written, each another -/
structure TgtAt (w : World) (n : Nat) (g o : Nat → Nat) : Prop where
  row : ∀ k, k < n → ∃ cs t, w.heap[g k]? = some (.cells cs t (0, 0)) ∧ o k < cs.size
  apart : ∀ i j, i < j → j < n → (⟨g i, o i, none⟩ : Addr) ≠ ⟨g j, o j, none⟩
def tgtG (n : Nat) (g : Nat → Nat) : Nat → Prop := fun q => ∃ k, k < n ∧ g k = q
theorem TgtAt.later {w w' : World} {n : Nat} {g o : Nat → Nat} (h : TgtAt w n g o) (hb : Below w.heap.size w w') : TgtAt w' n g o :=
  ⟨fun k hk => by obtain ⟨cs, t, e, hs⟩ := h.row k hk; exact ⟨cs, t, (hb.block _ (block_lt e)).trans e, hs⟩, h.apart⟩
theorem TgtAt.lt {w : World} {n : Nat} {g o : Nat → Nat} (h : TgtAt w n g o) {k : Nat} (hk : k < n) : g k < w.heap.size := by
  obtain ⟨cs, t, e, hs⟩ := h.row k hk
  exact block_lt e
theorem TgtAt.cell {w : World} {n : Nat} {g o : Nat → Nat} (h : TgtAt w n g o) {k : Nat} (hk : k < n) : (∃ v, w.cell? ⟨g k, o k, none⟩ = some v) ∧ w.frozen? ⟨g k, o k, none⟩ = false := by
  obtain ⟨cs, t, e, hs⟩ := h.row k hk
  refine ⟨⟨cs[o k], ?_⟩, Lib.frozen_of_heap e _⟩
  rw [cell_of_row w _ _ _ _ _ e]
  exact Array.getElem?_eq_getElem hs
theorem TgtAt.set {w : World} {n : Nat} {g o : Nat → Nat} (h : TgtAt w n g o) {k : Nat} (hk : k < n) (v : Value) : TgtAt (w.setCell ⟨g k, o k, none⟩ v) n g o := by
  refine ⟨fun j hj => ?_, h.apart⟩
  obtain ⟨cs, t, e, hs⟩ := h.row j hj
  by_cases hg : g j = g k
  · rw [hg] at e ⊢
    exact ⟨_, t, heap_setCell_same w _ _ _ _ _ e, by simpa using hs⟩
  · exact ⟨cs, t, (Below.heap_setCell w _ _ _ hg).trans e, hs⟩
theorem TgtAt.drew {w : World} {n : Nat} {g o : Nat → Nat} (h : TgtAt w n g o) : TgtAt w.drew n g o := ⟨h.row, h.apart⟩
theorem Frm.drew {G : Nat → Prop} {w0 w : World} (h : Frm G w0 w) : Frm G w0 w.drew := ⟨h.os, h.tape, h.output, h.size, h.block⟩
/-- one value more is written -/
theorem tgt_step {W2 wr : World} {n k : Nat} {g o : Nat → Nat} {l : List (NumS × Int)} (hT : TgtAt wr n g o) (hF : Frm (tgtG n g) W2 wr) (hD : ∀ j (h : j < l.length), j < k → wr.cell? ⟨g j, o j, none⟩ = some (.int .i64 l[j].2)) (hl : l.length = n) (hk : k < l.length) (ob : Obj) :
    TgtAt ((wr.alloc ob).setCell ⟨g k, o k, none⟩ (.int .i64 l[k].2)).drew n g o ∧ Frm (tgtG n g) W2 ((wr.alloc ob).setCell ⟨g k, o k, none⟩ (.int .i64 l[k].2)).drew ∧
      ∀ j (h : j < l.length), j < k + 1 → ((wr.alloc ob).setCell ⟨g k, o k, none⟩ (.int .i64 l[k].2)).drew.cell? ⟨g j, o j, none⟩ = some (.int .i64 l[j].2) := by
  have hb : Below wr.heap.size wr (wr.alloc ob) := (Below.refl _ _).alloc (Nat.le_refl _) ob
  have hT1 := hT.later hb
  refine ⟨(hT1.set (by omega) _).drew, ((hF.trans (Frm.of_below hb)).set ⟨k, by omega, rfl⟩ _).drew, fun j hj hjk => ?_⟩
  change ((wr.alloc ob).setCell ⟨g k, o k, none⟩ (.int .i64 l[k].2)).cell? ⟨g j, o j, none⟩ = some (.int .i64 l[j].2)
  by_cases e : j = k
  · subst e
    obtain ⟨⟨v, hv⟩, _⟩ := hT1.cell (k := j) (by omega)
    exact World.cell?_setCell_same _ _ _ hv
  · rw [World.cell?_setCell_other _ _ _ _ (fun h => by have := hT.apart j k (by omega) (by omega); exact this h.symm)]
    have h0 := hD j hj (by omega)
    exact (hb.cell (p := ⟨g j, o j, none⟩) (cell_lt h0)).trans h0

end Go.Proofs.YtfcehhhcjlpklaaGreatDoor

/-
  Layer 9: the reference's Put.
-/
namespace Go.Proofs.YtfcehhhcjlpklaaGreatDoor
open Go.RowKit
set_option linter.unusedVariables false
set_option linter.unusedSimpArgs false

/-- what a Put answers -/
def PutP9 (l : List Int) (w : World) (e : Ending) (w' : World) : Prop := ∃ A' m c', e = .returned (.tuple #[.slice A' m c', .int .i64 (putBE9 l)]) ∧ Bytes8 w' A' m c' (putBB9 l) ∧ Below w.heap.size w w'
theorem PutP9.bad {l : List Int} {w w' : World} (h : okB9 l = false) (hb : Below w.heap.size w w') : PutP9 l w (.returned (.tuple #[.slice none 0 0, .int .i64 1])) w' :=
  ⟨none, 0, 0, by simp [putBE9, h], by simpa [putBB9, h] using Bytes8.nil w', hb⟩
theorem PutP9.good {l : List Int} {w w' : World} {A : Option Addr} {m c : Nat} (h : okB9 l = true) (hB : Bytes8 w' A m c (encBits l)) (hb : Below w.heap.size w w') : PutP9 l w (.returned (.tuple #[.slice A m c, .int .i64 0])) w' :=
  ⟨A, m, c, by simp [putBE9, h], by simpa [putBB9, h] using hB, hb⟩

end Go.Proofs.YtfcehhhcjlpklaaGreatDoor

/-
  Layer 9: the reference's Read.
-/
namespace Go.Proofs.YtfcehhhcjlpklaaGreatDoor
open Go.RowKit
set_option linter.unusedVariables false
set_option linter.unusedSimpArgs false

/-- the same, and what it hands back is newer than all that stood -/
def RdF9 (l : List UInt8) (w : World) (e : Ending) (w' : World) : Prop := ∃ A' m c', e = .returned (.tuple #[.slice A' m c', .int .i64 (readBE9 l)]) ∧ Ints w' A' m c' (readBL9 l) ∧ Below w.heap.size w w' ∧ Newer w.heap.size A'
theorem RdF9.bad {l : List UInt8} {w w' : World} (h : ¬ (l.length = 244 ∧ numB l ≤ 960 ∧ encBits (readBits l) = l)) (hb : Below w.heap.size w w') : RdF9 l w (.returned (.tuple #[.slice none 0 0, .int .i64 7])) w' := by
  rcases readBE9_cases l with ⟨e0, e1, h1⟩ | ⟨e0, e1, h1⟩
  · exact absurd h1 h
  · exact ⟨none, 0, 0, by rw [e0], by rw [e1]; exact Ints.nil _, hb, Newer.nil _⟩
theorem RdF9.good {l : List UInt8} {w w' : World} {A : Option Addr} {m c : Nat} (h : l.length = 244 ∧ numB l ≤ 960 ∧ encBits (readBits l) = l) (hI : Ints w' A m c (readBits l)) (hb : Below w.heap.size w w') (hn : Newer w.heap.size A) : RdF9 l w (.returned (.tuple #[.slice A m c, .int .i64 0])) w' := by
  rcases readBE9_cases l with ⟨e0, e1, h1⟩ | ⟨e0, e1, h1⟩
  · exact ⟨A, m, c, by rw [e0], by rw [e1]; exact hI, hb, hn⟩
  · exact absurd h h1

end Go.Proofs.YtfcehhhcjlpklaaGreatDoor

/-
  Layer 4's checks: the six closures, what hands them over, and Open.
-/
namespace Go.Proofs.YtfcehhhcjlpklaaGreatDoor
open Go.RowKit
set_option linter.unusedVariables false
set_option linter.unusedSimpArgs false

/-- what the checks of a block answer, one by one -/
def chk (l : List UInt8) (k no : Int) : Nat → Int
  | 0 => if knownB k no = true then 0 else 1
  | 1 => if l.length = 256 then 0 else 7
  | 2 => if (leN (l.drop 252) : Int) = sumN l k then 0 else 4
  | 3 => if (leN (l.take 4) : Int) = no then 0 else 5
  | 4 => if (leN ((l.drop 4).take 2) : Int) = k then 0 else 6
  | _ => if leN ((l.drop 6).take 2) = 0 then 0 else 7

theorem chk_len {l : List UInt8} {k no : Int} (h : chk l k no 1 = 0) : l.length = 256 := by
  simp only [chk] at h
  split at h <;> first | assumption | omega

theorem openE_chk (l : List UInt8) (k no : Int) : openE l k no = if chk l k no 0 = 0 then (if chk l k no 1 = 0 then (if chk l k no 2 = 0 then (if chk l k no 3 = 0 then (if chk l k no 4 = 0 then chk l k no 5 else chk l k no 4) else chk l k no 3) else chk l k no 2) else chk l k no 1) else chk l k no 0 := by
  simp only [openE, chk]
  by_cases h1 : knownB k no = true
  · by_cases h2 : l.length = 256
    · by_cases h3 : (leN (l.drop 252) : Int) = sumN l k
      · by_cases h4 : (leN (l.take 4) : Int) = no
        · by_cases h5 : (leN ((l.drop 4).take 2) : Int) = k
          · by_cases h6 : leN ((l.drop 6).take 2) = 0
            · simp [h1, h2, h3, h4, h5, h6]
            · simp [h1, h2, h3, h4, h5, h6]
          · simp [h1, h2, h3, h4, h5]
        · simp [h1, h2, h3, h4]
      · simp [h1, h2, h3]
    · simp [h1, h2]
  · simp [h1]

/-- the checks before j have found nothing -/
def Passed (l : List UInt8) (k no : Int) (j : Nat) : Prop := ∀ i, i < j → chk l k no i = 0

theorem Passed.succ {l : List UInt8} {k no : Int} {j : Nat} (h : Passed l k no j) (h0 : chk l k no j = 0) : Passed l k no (j + 1) := fun i hi => by
  by_cases he : i = j
  · subst he; exact h0
  · exact h i (by omega)
theorem Passed.zero (l : List UInt8) (k no : Int) : Passed l k no 0 := fun i hi => by omega

theorem openE_first {l : List UInt8} {k no : Int} {j : Nat} (hj : j < 6) (h : Passed l k no j) (h0 : chk l k no j ≠ 0) : openE l k no = chk l k no j := by
  rw [openE_chk]
  rcases (show j = 0 ∨ j = 1 ∨ j = 2 ∨ j = 3 ∨ j = 4 ∨ j = 5 by omega) with rfl | rfl | rfl | rfl | rfl | rfl
  · rw [if_neg h0]
  · rw [if_pos (h 0 (by omega)), if_neg h0]
  · rw [if_pos (h 0 (by omega)), if_pos (h 1 (by omega)), if_neg h0]
  · rw [if_pos (h 0 (by omega)), if_pos (h 1 (by omega)), if_pos (h 2 (by omega)), if_neg h0]
  · rw [if_pos (h 0 (by omega)), if_pos (h 1 (by omega)), if_pos (h 2 (by omega)), if_pos (h 3 (by omega)), if_neg h0]
  · rw [if_pos (h 0 (by omega)), if_pos (h 1 (by omega)), if_pos (h 2 (by omega)), if_pos (h 3 (by omega)), if_pos (h 4 (by omega))]
theorem openE_all {l : List UInt8} {k no : Int} (h : Passed l k no 6) : openE l k no = 0 := by
  rw [openE_chk, if_pos (h 0 (by omega)), if_pos (h 1 (by omega)), if_pos (h 2 (by omega)), if_pos (h 3 (by omega)), if_pos (h 4 (by omega))]
  exact h 5 (by omega)

theorem get_at {l : List UInt8} (hl : l.length = 256) (i wd : Nat) (hw : wd = 2 ∨ wd = 4) (hi : i + wd ≤ 256) : getE l i wd = 0 ∧ getN l i wd = (leN ((l.drop i).take wd) : Int) := by
  have hr : roomE l.length i wd = 0 := by
    rw [hl]
    rcases hw with rfl | rfl <;> simp [roomE, isW] <;> omega
  have hlt := leN_lt (part l i wd)
  have hpl : (part l i wd).length = wd := by
    rw [part_len (by omega) (by omega) (by omega)]; simp
  rw [hpl] at hlt
  have hlt2 : leN (part l i wd) < 9223372036854775808 := by rcases hw with rfl | rfl <;> omega
  have he : getE l i wd = 0 := by rw [getE, if_pos hr, if_neg (by omega)]
  refine ⟨he, ?_⟩
  rw [getN, if_pos he]
  simp [part]

theorem stored_at {l : List UInt8} (hl : l.length = 256) (i wd : Nat) (hw : wd = 2 ∨ wd = 4) (hi : i + wd ≤ 256) : storedN l i wd = (leN ((l.drop i).take wd) : Int) := by
  obtain ⟨he, hn⟩ := get_at hl i wd hw hi
  rw [storedN, if_pos he, hn]

theorem stored_252 {l : List UInt8} (hl : l.length = 256) : storedN l 252 4 = (leN (l.drop 252) : Int) := by
  have := stored_at hl 252 4 (.inr rfl) (by omega)
  rw [List.take_of_length_le (by simp; omega)] at this
  exact this
theorem stored_0 {l : List UInt8} (hl : l.length = 256) : storedN l 0 4 = (leN (l.take 4) : Int) := by
  have := stored_at hl 0 4 (.inr rfl) (by omega)
  simpa using this
theorem stored_4 {l : List UInt8} (hl : l.length = 256) : storedN l 4 2 = (leN ((l.drop 4).take 2) : Int) := stored_at hl 4 2 (.inl rfl) (by omega)
theorem stored_6 {l : List UInt8} (hl : l.length = 256) : storedN l 6 2 = (leN ((l.drop 6).take 2) : Int) := stored_at hl 6 2 (.inl rfl) (by omega)

/-- the variables that the checks capture -/
structure Cap (w0 w : World) (pb pk pn : Nat) (A : Option Addr) (n c : Nat) (l : List UInt8) (k no : Int) : Prop where
  bel : Below w0.heap.size w0 w
  b : w.cell? ⟨pb, 0, none⟩ = some (.slice A n c)
  knd : w.cell? ⟨pk, 0, none⟩ = some (.int .i64 k)
  num : w.cell? ⟨pn, 0, none⟩ = some (.int .i64 no)
  B : Bytes8 w A n c l

theorem Cap.later {w0 w w' : World} {pb pk pn : Nat} {A : Option Addr} {n c : Nat} {l : List UInt8} {k no : Int} (h : Cap w0 w pb pk pn A n c l k no) (hb : Below w.heap.size w w') : Cap w0 w' pb pk pn A n c l k no :=
  ⟨h.bel.trans (hb.mono h.bel.size), (hb.cell (p := ⟨pb, 0, none⟩) (cell_lt h.b)).trans h.b, (hb.cell (p := ⟨pk, 0, none⟩) (cell_lt h.knd)).trans h.knd, (hb.cell (p := ⟨pn, 0, none⟩) (cell_lt h.num)).trans h.num, h.B.below hb⟩

theorem bool_if {p : Bool} {P : Prop} [Decidable P] (h : p = decide P) (x : Int) : (if p = true then (0 : Int) else x) = if P then 0 else x := by
  subst h; simp

section
variable {w0 w : World} {pb pk pn : Nat} {A : Option Addr} {n c : Nat} {l : List UInt8} {k no : Int}

set_option maxRecDepth 100000 in
theorem chk1_any (h : Cap w0 w pb pk pn A n c l k no) :
    Calls Tryz.prog 134 #[.pointer (some ⟨pk, 0, none⟩), .pointer (some ⟨pn, 0, none⟩)] w fun e w' => e = .returned (.int .i64 (chk l k no 0)) ∧ w = w' := by
  have hck := h.knd
  have hcn := h.num
  have E0 : kindB k = false → (if false = true then (0 : Int) else 1) = chk l k no 0 := fun h => by simp [chk, knownB, h]
  have E1 : kindB k = true → (if snumB no = true then (0 : Int) else 1) = chk l k no 0 := fun h => by simp [chk, knownB, h]
  clear h
  cases hk : kindB k with
  | false =>
    have IK := Lib.hid (fun W => isKind_any k W false hk)
    have U := Lib.hid (fun W => unless_any false 1 _ (E0 hk) W)
    clear E0 E1 hk
    generalize chk l k no 0 = z at *
    go_enter Tryz.func134, Tryz.ntmps134
    go_wp2_with (first
      | (go_at_call 61; refine (IK.out _).mono ?_; rintro e w' ⟨rfl, rfl⟩)
      | (go_at_call 135; refine (U.out _).mono ?_; rintro e w' ⟨rfl, rfl⟩))
    go_ret
    exact ⟨rfl, rfl⟩
  | true =>
    have IK := Lib.hid (fun W => isKind_any k W true hk)
    have IN := Lib.hid (fun W => isNumber_any no W _ rfl)
    have U := Lib.hid (fun W => unless_any (snumB no) 1 _ (E1 hk) W)
    clear E0 E1 hk
    generalize snumB no = r at *
    generalize chk l k no 0 = z at *
    go_enter Tryz.func134, Tryz.ntmps134
    go_wp2_with (first
      | (go_at_call 61; refine (IK.out _).mono ?_; rintro e w' ⟨rfl, rfl⟩)
      | (go_at_call 62; refine (IN.out _).mono ?_; rintro e w' ⟨rfl, rfl⟩)
      | (go_at_call 135; refine (U.out _).mono ?_; rintro e w' ⟨rfl, rfl⟩))
    go_ret
    exact ⟨rfl, rfl⟩

set_option maxRecDepth 100000 in
theorem chk2_any (h : Cap w0 w pb pk pn A n c l k no) :
    Calls Tryz.prog 136 #[.pointer (some ⟨pb, 0, none⟩)] w fun e w' => e = .returned (.int .i64 (chk l k no 1)) ∧ w = w' := by
  have hcb := h.b
  have E : (if ((n : Int) == 256) = true then (0 : Int) else 7) = chk l k no 1 := by
    have hl := h.B.len
    simp only [chk]
    by_cases h0 : n = 256
    · subst h0; simp [hl]
    · rw [if_neg (by simp; omega), if_neg (by omega)]
  have U := Lib.hid (fun W => unless_any ((n : Int) == 256) 7 _ E W)
  clear h E
  generalize chk l k no 1 = z at *
  go_enter Tryz.func136, Tryz.ntmps136
  go_wp2_with (go_at_call 135; refine (U.out _).mono ?_; rintro e w' ⟨rfl, rfl⟩)
  go_ret
  exact ⟨rfl, rfl⟩

set_option maxRecDepth 100000 in
set_option maxHeartbeats 800000 in
theorem chk3_any (h : Cap w0 w pb pk pn A n c l k no) (hl : l.length = 256) :
    Calls Tryz.prog 137 #[.pointer (some ⟨pb, 0, none⟩), .pointer (some ⟨pk, 0, none⟩)] w fun e w' => e = .returned (.int .i64 (chk l k no 2)) ∧ Cap w0 w' pb pk pn A n c l k no := by
  have hcb := h.b
  have hck := h.knd
  have hn : 252 ≤ n := by have := h.B.len; omega
  have E : (if (((leN (l.drop 252) : Nat) : Int) == ((sumN l k : Nat) : Int)) = true then (0 : Int) else 4) = chk l k no 2 := by
    simp only [chk]; exact bool_if (by rw [Bool.eq_iff_iff]; simp) 4
  have ST : Hid (∀ W, Cap w0 W pb pk pn A n c l k no → Calls Tryz.prog 138 #[.slice A n c, .int .i64 252, .int .i64 4] W fun e w' => e = .returned (.int .i64 (leN (l.drop 252) : Int)) ∧ Cap w0 w' pb pk pn A n c l k no ∧ w'.cell? ⟨pb, 0, none⟩ = some (.slice A n c) ∧ w'.cell? ⟨pk, 0, none⟩ = some (.int .i64 k)) :=
    fun W hW => (stored_any A n c l 252 4 W hW.B (by omega)).mono fun e w' ⟨h1, h2⟩ => by
      rw [stored_252 hl] at h1
      have := hW.later h2
      exact ⟨h1, this, this.b, this.knd⟩
  have SM : Hid (∀ W, Cap w0 W pb pk pn A n c l k no → Calls Tryz.prog 64 #[.slice A n c, .int .i64 k] W fun e w' => e = .returned (.int .i64 (sumN l k : Int)) ∧ Cap w0 w' pb pk pn A n c l k no ∧ w'.cell? ⟨pb, 0, none⟩ = some (.slice A n c) ∧ w'.cell? ⟨pk, 0, none⟩ = some (.int .i64 k)) :=
    fun W hW => (sum_any A n c l k W hW.B hn).mono fun e w' ⟨h1, h2⟩ => ⟨h1, hW.later h2, (hW.later h2).b, (hW.later h2).knd⟩
  generalize leN (l.drop 252) = x at *
  generalize sumN l k = y at *
  generalize chk l k no 2 = z at *
  have UN := Lib.hid (fun W => unless_any ((x : Int) == (y : Int)) 4 _ E W)
  clear E
  have hd : Cap w0 w.drew pb pk pn A n c l k no := h.later ((Below.refl _ _).drew)
  have hdb := hd.b
  have hdk := hd.knd
  clear h
  go_enter Tryz.func137, Tryz.ntmps137
  go_wp2
  go_region_held3 (fun W => W.cell? ⟨pb, 0, none⟩ = some (.slice A n c) ∧ W.cell? ⟨pk, 0, none⟩ = some (.int .i64 k) ∧ Cap w0 W pb pk pn A n c l k no)
    (first | exact ⟨hdb, hdk, hd⟩ | exact ⟨hb2, hk2, hC2⟩ | exact ⟨hb3, hk3, hC3⟩)
    (first
      | (go_at_call 138; refine (ST.out _ (by first | exact hd | assumption)).mono ?_; rintro e w2 ⟨rfl, hC2, hb2, hk2⟩)
      | (go_at_call 64; refine (SM.out _ (by first | exact hC2 | assumption)).mono ?_; rintro e w3 ⟨rfl, hC3, hb3, hk3⟩)
      | (go_at_call 135; refine (UN.out _).mono ?_; rintro e w4 ⟨rfl, rfl⟩))
  go_wp2
  go_ret
  exact ⟨rfl, by assumption⟩

set_option maxRecDepth 100000 in
set_option maxHeartbeats 800000 in
theorem chk4_any (h : Cap w0 w pb pk pn A n c l k no) (hl : l.length = 256) :
    Calls Tryz.prog 139 #[.pointer (some ⟨pb, 0, none⟩), .pointer (some ⟨pn, 0, none⟩)] w fun e w' => e = .returned (.int .i64 (chk l k no 3)) ∧ Cap w0 w' pb pk pn A n c l k no := by
  have hcb := h.b
  have hck := h.num
  have E : (if (((leN (l.take 4) : Nat) : Int) == no) = true then (0 : Int) else 5) = chk l k no 3 := by
    simp only [chk]; exact bool_if (by rw [Bool.eq_iff_iff]; simp) 5
  have ST : Hid (∀ W, Cap w0 W pb pk pn A n c l k no → Calls Tryz.prog 138 #[.slice A n c, .int .i64 0, .int .i64 4] W fun e w' => e = .returned (.int .i64 (leN (l.take 4) : Int)) ∧ Cap w0 w' pb pk pn A n c l k no ∧ w'.cell? ⟨pb, 0, none⟩ = some (.slice A n c) ∧ w'.cell? ⟨pn, 0, none⟩ = some (.int .i64 no)) :=
    fun W hW => (stored_any A n c l 0 4 W hW.B (by omega)).mono fun e w' ⟨h1, h2⟩ => by
      rw [stored_0 hl] at h1
      have := hW.later h2
      exact ⟨h1, this, this.b, this.num⟩
  generalize leN (l.take 4) = x at *
  generalize chk l k no 3 = z at *
  have UN := Lib.hid (fun W => unless_any ((x : Int) == no) 5 _ E W)
  clear E
  have hd : Cap w0 w.drew pb pk pn A n c l k no := h.later ((Below.refl _ _).drew)
  have hdb := hd.b
  have hdk := hd.num
  clear h
  go_enter Tryz.func139, Tryz.ntmps139
  go_wp2
  go_region_held3 (fun W => W.cell? ⟨pb, 0, none⟩ = some (.slice A n c) ∧ W.cell? ⟨pn, 0, none⟩ = some (.int .i64 no) ∧ Cap w0 W pb pk pn A n c l k no)
    (first | exact ⟨hdb, hdk, hd⟩ | exact ⟨hb2, hk2, hC2⟩)
    (first
      | (go_at_call 138; refine (ST.out _ (by first | exact hd | assumption)).mono ?_; rintro e w2 ⟨rfl, hC2, hb2, hk2⟩)
      | (go_at_call 135; refine (UN.out _).mono ?_; rintro e w4 ⟨rfl, rfl⟩))
  go_wp2
  go_ret
  exact ⟨rfl, by assumption⟩

set_option maxRecDepth 100000 in
set_option maxHeartbeats 800000 in
theorem chk5_any (h : Cap w0 w pb pk pn A n c l k no) (hl : l.length = 256) :
    Calls Tryz.prog 140 #[.pointer (some ⟨pb, 0, none⟩), .pointer (some ⟨pk, 0, none⟩)] w fun e w' => e = .returned (.int .i64 (chk l k no 4)) ∧ Cap w0 w' pb pk pn A n c l k no := by
  have hcb := h.b
  have hck := h.knd
  have E : (if (((leN ((l.drop 4).take 2) : Nat) : Int) == k) = true then (0 : Int) else 6) = chk l k no 4 := by
    simp only [chk]; exact bool_if (by rw [Bool.eq_iff_iff]; simp) 6
  have ST : Hid (∀ W, Cap w0 W pb pk pn A n c l k no → Calls Tryz.prog 138 #[.slice A n c, .int .i64 4, .int .i64 2] W fun e w' => e = .returned (.int .i64 (leN ((l.drop 4).take 2) : Int)) ∧ Cap w0 w' pb pk pn A n c l k no ∧ w'.cell? ⟨pb, 0, none⟩ = some (.slice A n c) ∧ w'.cell? ⟨pk, 0, none⟩ = some (.int .i64 k)) :=
    fun W hW => (stored_any A n c l 4 2 W hW.B (by omega)).mono fun e w' ⟨h1, h2⟩ => by
      rw [stored_4 hl] at h1
      have := hW.later h2
      exact ⟨h1, this, this.b, this.knd⟩
  generalize leN ((l.drop 4).take 2) = x at *
  generalize chk l k no 4 = z at *
  have UN := Lib.hid (fun W => unless_any ((x : Int) == k) 6 _ E W)
  clear E
  have hd : Cap w0 w.drew pb pk pn A n c l k no := h.later ((Below.refl _ _).drew)
  have hdb := hd.b
  have hdk := hd.knd
  clear h
  go_enter Tryz.func140, Tryz.ntmps140
  go_wp2
  go_region_held3 (fun W => W.cell? ⟨pb, 0, none⟩ = some (.slice A n c) ∧ W.cell? ⟨pk, 0, none⟩ = some (.int .i64 k) ∧ Cap w0 W pb pk pn A n c l k no)
    (first | exact ⟨hdb, hdk, hd⟩ | exact ⟨hb2, hk2, hC2⟩)
    (first
      | (go_at_call 138; refine (ST.out _ (by first | exact hd | assumption)).mono ?_; rintro e w2 ⟨rfl, hC2, hb2, hk2⟩)
      | (go_at_call 135; refine (UN.out _).mono ?_; rintro e w4 ⟨rfl, rfl⟩))
  go_wp2
  go_ret
  exact ⟨rfl, by assumption⟩

set_option maxRecDepth 100000 in
theorem chk6_any (h : Cap w0 w pb pk pn A n c l k no) (hl : l.length = 256) :
    Calls Tryz.prog 141 #[.pointer (some ⟨pb, 0, none⟩)] w fun e w' => e = .returned (.int .i64 (chk l k no 5)) ∧ Cap w0 w' pb pk pn A n c l k no := by
  have hcb := h.b
  have E : (if (((leN ((l.drop 6).take 2) : Nat) : Int) == 0) = true then (0 : Int) else 7) = chk l k no 5 := by
    simp only [chk]; exact bool_if (by rw [Bool.eq_iff_iff]; simp) 7
  have ST : Hid (Calls Tryz.prog 138 #[.slice A n c, .int .i64 6, .int .i64 2] w fun e w' => e = .returned (.int .i64 (leN ((l.drop 6).take 2) : Int)) ∧ Cap w0 w' pb pk pn A n c l k no) :=
    (stored_any A n c l 6 2 w h.B (by omega)).mono fun e w' ⟨h1, h2⟩ => by
      rw [stored_6 hl] at h1
      exact ⟨h1, h.later h2⟩
  generalize leN ((l.drop 6).take 2) = x at *
  generalize chk l k no 5 = z at *
  have UN := Lib.hid (fun W => unless_any ((x : Int) == 0) 7 _ E W)
  clear E
  clear h
  go_enter Tryz.func141, Tryz.ntmps141
  go_wp2_with (first
    | (go_at_call 138; refine (ST.out).mono ?_; rintro e w2 ⟨rfl, hC2⟩)
    | (go_at_call 135; refine (UN.out _).mono ?_; rintro e w4 ⟨rfl, rfl⟩))
  go_ret
  exact ⟨rfl, hC2⟩

end

end Go.Proofs.YtfcehhhcjlpklaaGreatDoor

/-
  Layer 4's checks handed over, and Open.
-/
namespace Go.Proofs.YtfcehhhcjlpklaaGreatDoor
open Go.RowKit
set_option linter.unusedVariables false
set_option linter.unusedSimpArgs false

/-- the six closures -/
def fns (pb pk pn : Nat) : List Value :=
  [.func (.func 134) #[] #[.pointer (some ⟨pk, 0, none⟩), .pointer (some ⟨pn, 0, none⟩)],
   .func (.func 136) #[] #[.pointer (some ⟨pb, 0, none⟩)],
   .func (.func 137) #[] #[.pointer (some ⟨pb, 0, none⟩), .pointer (some ⟨pk, 0, none⟩)],
   .func (.func 139) #[] #[.pointer (some ⟨pb, 0, none⟩), .pointer (some ⟨pn, 0, none⟩)],
   .func (.func 140) #[] #[.pointer (some ⟨pb, 0, none⟩), .pointer (some ⟨pk, 0, none⟩)],
   .func (.func 141) #[] #[.pointer (some ⟨pb, 0, none⟩)]]

set_option maxRecDepth 100000 in
set_option maxHeartbeats 400000 in
theorem checks_any (A : Option Addr) (n c : Nat) (l : List UInt8) (k no : Int) (w : World) (h : Bytes8 w A n c l) :
    Calls Tryz.prog 130 #[.slice A n c, .int .i64 k, .int .i64 no] w fun e w' => ∃ g pb pk pn, e = .returned (.slice (some ⟨g, 0, none⟩) 6 6) ∧ Cap w w' pb pk pn A n c l k no ∧ Row w' (some ⟨g, 0, none⟩) (fns pb pk pn) := by
  have HB := Lib.hid h
  clear h
  have hmf : ∀ (fn : Fn) (first cap : Array Value) (w : World), (Instr.makeFunc fn first cap).run Tryz.prog w = .ok (.func fn first cap) w := fun _ _ _ _ => rfl
  go_enter Tryz.func130, Tryz.ntmps130
  go_wp2
  go_ret
  have b0 : Below w.heap.size w (w.alloc (.cells #[.slice A n c] 22)) := (Below.refl _ _).alloc (Nat.le_refl _) _
  have c1 := cell_of_row _ w.heap.size 0 _ _ _ (heap_alloc_new w (.cells #[.slice A n c] 22))
  generalize hw1 : w.alloc (.cells #[.slice A n c] 22) = w1 at *
  have s1 : w1.heap.size = w.heap.size + 1 := by rw [← hw1]; simp
  have b1 : Below w1.heap.size w1 (w1.alloc (.cells #[.int .i64 k] 3)) := (Below.refl _ _).alloc (Nat.le_refl _) _
  have c2 := cell_of_row _ w1.heap.size 0 _ _ _ (heap_alloc_new w1 (.cells #[.int .i64 k] 3))
  generalize hw2 : w1.alloc (.cells #[.int .i64 k] 3) = w2 at *
  have s2 : w2.heap.size = w1.heap.size + 1 := by rw [← hw2]; simp
  have b2 : Below w2.heap.size w2 (w2.alloc (.cells #[.int .i64 no] 3)) := (Below.refl _ _).alloc (Nat.le_refl _) _
  have c3 := cell_of_row _ w2.heap.size 0 _ _ _ (heap_alloc_new w2 (.cells #[.int .i64 no] 3))
  generalize hw3 : w2.alloc (.cells #[.int .i64 no] 3) = w3 at *
  have s3 : w3.heap.size = w2.heap.size + 1 := by rw [← hw3]; simp
  have b3 : Below w3.heap.size w3 (w3.alloc (.cells (fns w.heap.size w1.heap.size w2.heap.size).toArray 218)) := (Below.refl _ _).alloc (Nat.le_refl _) _
  have c4 : Row (w3.alloc (.cells (fns w.heap.size w1.heap.size w2.heap.size).toArray 218)) (some ⟨w3.heap.size, 0, none⟩) (fns w.heap.size w1.heap.size w2.heap.size) := Row.of_block (heap_alloc_new w3 _)
  have b12 := b1.trans (b2.mono b1.size)
  have b13 := b12.trans (b3.mono b12.size)
  have b23 := b2.trans (b3.mono b2.size)
  have b03 := b0.trans (b13.mono b0.size)
  have l1 := cell_lt c1
  have l2 := cell_lt c2
  have l3 := cell_lt c3
  have key := And.intro (Cap.mk (w0 := w) (pb := w.heap.size) (pk := w1.heap.size) (pn := w2.heap.size) (k := k) (no := no) b03 ((b13.cell (p := ⟨w.heap.size, 0, none⟩) l1).trans c1) ((b23.cell (p := ⟨w1.heap.size, 0, none⟩) l2).trans c2) ((b3.cell (p := ⟨w2.heap.size, 0, none⟩) l3).trans c3) (HB.out.below b03)) c4
  simp only [s3, s2, s1] at key
  exact ⟨_, _, _, _, rfl, key⟩

theorem Cap.self {w0 w : World} {pb pk pn : Nat} {A : Option Addr} {n c : Nat} {l : List UInt8} {k no : Int} (h : Cap w0 w pb pk pn A n c l k no) : Cap w w pb pk pn A n c l k no := ⟨Below.refl _ _, h.b, h.knd, h.num, h.B⟩

set_option maxRecDepth 100000 in
set_option maxHeartbeats 3200000 in
theorem Open_any (A : Option Addr) (n c : Nat) (l : List UInt8) (k no : Int) (w : World) (h : Bytes8 w A n c l) :
    Calls Tryz.prog 116 #[.slice A n c, .int .i64 k, .int .i64 no] w fun e w' => ∃ A' m c', e = .returned (.tuple #[.slice A' m c', .int .i64 (openE l k no)]) ∧ Bytes8 w' A' m c' (openB l k no) ∧ Below w.heap.size w w' := by
  have CK := Lib.hid (checks_any A n c l k no w h)
  have hn := h.len
  have HN := Lib.hid hn
  obtain ⟨i0, hi0, hz0, hz1, hz2⟩ := info_parts info_u8
  clear h hn
  go_enter Tryz.func116, Tryz.ntmps116
  go_wp2_with (go_at_call 130; refine (CK.out).mono ?_; rintro e w1 ⟨g, pb, pk, pn, rfl, hC, hR⟩)
  have HC := Lib.hid hC
  have HR := Lib.hid hR
  clear hC hR CK
  go_loopw [17] (fun i wr => ∃ j : Nat, j ≤ 6 ∧ i = .int .i64 j ∧ Hid (Cap w wr pb pk pn A n c l k no) ∧ Hid (Row wr (some ⟨g, 0, none⟩) (fns pb pk pn)) ∧ Hid (Passed l k no j)) (fun i _ => 6 - (intOf i).toNat)
  case atStart => exact ⟨0, by omega, rfl, HC, HR, Passed.zero l k no⟩
  case round =>
    clear HC HR
    obtain ⟨j, hj, rfl, HC, HR, HP⟩ := hrel
    rcases (show j = 0 ∨ j = 1 ∨ j = 2 ∨ j = 3 ∨ j = 4 ∨ j = 5 ∨ j = 6 by omega) with rfl | rfl | rfl | rfl | rfl | rfl | rfl
    · have hc := (HR.out.at_ (k := 0) rfl)
      rw [Addr.add_lit] at hc
      have CH := Lib.hid (chk1_any HC.out)
      have HO := Lib.hid (fun h0 : chk l k no 0 ≠ 0 => openE_first (by omega) HP.out h0)
      have HS := Lib.hid (fun h0 : chk l k no 0 = 0 => HP.out.succ h0)
      generalize chk l k no 0 = x at *
      by_cases hx : x = 0
      · subst hx
        have HS2 := Lib.hid (HS.out rfl)
        clear HS HO
        go_wp2_with (go_at_call 134; (with_reducible refine (CH.out).mono ?_); rintro e w' ⟨rfl, rfl⟩)
        go_roundw
        case rel => exact ⟨1, by omega, rfl, HC, HR, HS2⟩
        case measure => simp [intOf]
      · have q : (x != 0) = true := by simpa using hx
        have E : Hid (openE l k no = x) := HO.out hx
        clear hx HO HS
        go_wp2_with (go_at_call 134; (with_reducible refine (CH.out).mono ?_); rintro e w' ⟨rfl, rfl⟩)
        go_ret2
        have e0 : openB l k no = [] := by rw [openB, if_neg]; rw [E.out]; intro h; simp [h] at q
        exact ⟨none, 0, 0, by rw [E.out]; rfl, by rw [e0]; exact Bytes8.nil _, HC.out.bel⟩
    · have hc := (HR.out.at_ (k := 1) rfl)
      rw [Addr.add_lit] at hc
      have CH := Lib.hid (chk2_any HC.out)
      have HO := Lib.hid (fun h0 : chk l k no 1 ≠ 0 => openE_first (by omega) HP.out h0)
      have HS := Lib.hid (fun h0 : chk l k no 1 = 0 => HP.out.succ h0)
      generalize chk l k no 1 = x at *
      by_cases hx : x = 0
      · subst hx
        have HS2 := Lib.hid (HS.out rfl)
        clear HS HO
        go_wp2_with (go_at_call 136; (with_reducible refine (CH.out).mono ?_); rintro e w' ⟨rfl, rfl⟩)
        go_roundw
        case rel => exact ⟨2, by omega, rfl, HC, HR, HS2⟩
        case measure => simp [intOf]
      · have q : (x != 0) = true := by simpa using hx
        have E : Hid (openE l k no = x) := HO.out hx
        clear hx HO HS
        go_wp2_with (go_at_call 136; (with_reducible refine (CH.out).mono ?_); rintro e w' ⟨rfl, rfl⟩)
        go_ret2
        have e0 : openB l k no = [] := by rw [openB, if_neg]; rw [E.out]; intro h; simp [h] at q
        exact ⟨none, 0, 0, by rw [E.out]; rfl, by rw [e0]; exact Bytes8.nil _, HC.out.bel⟩
    · have hc := (HR.out.at_ (k := 2) rfl)
      rw [Addr.add_lit] at hc
      have CH := Lib.hid (chk3_any HC.out.self (chk_len (HP.out 1 (by omega))))
      have HO := Lib.hid (fun h0 : chk l k no 2 ≠ 0 => openE_first (by omega) HP.out h0)
      have HS := Lib.hid (fun h0 : chk l k no 2 = 0 => HP.out.succ h0)
      generalize chk l k no 2 = x at *
      by_cases hx : x = 0
      · subst hx
        have HS2 := Lib.hid (HS.out rfl)
        clear HS HO
        go_wp2_with (go_at_call 137; (with_reducible refine (CH.out).mono ?_); rintro e w2 ⟨rfl, hC2⟩; have HC2 := Lib.hid (HC.out.later hC2.bel); have HR2 := Lib.hid (HR.out.below hC2.bel); clear hC2)
        go_roundw
        case rel => exact ⟨3, by omega, rfl, HC2, HR2, HS2⟩
        case measure => simp [intOf]
      · have q : (x != 0) = true := by simpa using hx
        have E : Hid (openE l k no = x) := HO.out hx
        clear hx HO HS
        go_wp2_with (go_at_call 137; (with_reducible refine (CH.out).mono ?_); rintro e w2 ⟨rfl, hC2⟩; have HC2 := Lib.hid (HC.out.later hC2.bel); have HR2 := Lib.hid (HR.out.below hC2.bel); clear hC2)
        go_ret2
        have e0 : openB l k no = [] := by rw [openB, if_neg]; rw [E.out]; intro h; simp [h] at q
        exact ⟨none, 0, 0, by rw [E.out]; rfl, by rw [e0]; exact Bytes8.nil _, HC2.out.bel⟩
    · have hc := (HR.out.at_ (k := 3) rfl)
      rw [Addr.add_lit] at hc
      have CH := Lib.hid (chk4_any HC.out.self (chk_len (HP.out 1 (by omega))))
      have HO := Lib.hid (fun h0 : chk l k no 3 ≠ 0 => openE_first (by omega) HP.out h0)
      have HS := Lib.hid (fun h0 : chk l k no 3 = 0 => HP.out.succ h0)
      generalize chk l k no 3 = x at *
      by_cases hx : x = 0
      · subst hx
        have HS2 := Lib.hid (HS.out rfl)
        clear HS HO
        go_wp2_with (go_at_call 139; (with_reducible refine (CH.out).mono ?_); rintro e w2 ⟨rfl, hC2⟩; have HC2 := Lib.hid (HC.out.later hC2.bel); have HR2 := Lib.hid (HR.out.below hC2.bel); clear hC2)
        go_roundw
        case rel => exact ⟨4, by omega, rfl, HC2, HR2, HS2⟩
        case measure => simp [intOf]
      · have q : (x != 0) = true := by simpa using hx
        have E : Hid (openE l k no = x) := HO.out hx
        clear hx HO HS
        go_wp2_with (go_at_call 139; (with_reducible refine (CH.out).mono ?_); rintro e w2 ⟨rfl, hC2⟩; have HC2 := Lib.hid (HC.out.later hC2.bel); have HR2 := Lib.hid (HR.out.below hC2.bel); clear hC2)
        go_ret2
        have e0 : openB l k no = [] := by rw [openB, if_neg]; rw [E.out]; intro h; simp [h] at q
        exact ⟨none, 0, 0, by rw [E.out]; rfl, by rw [e0]; exact Bytes8.nil _, HC2.out.bel⟩
    · have hc := (HR.out.at_ (k := 4) rfl)
      rw [Addr.add_lit] at hc
      have CH := Lib.hid (chk5_any HC.out.self (chk_len (HP.out 1 (by omega))))
      have HO := Lib.hid (fun h0 : chk l k no 4 ≠ 0 => openE_first (by omega) HP.out h0)
      have HS := Lib.hid (fun h0 : chk l k no 4 = 0 => HP.out.succ h0)
      generalize chk l k no 4 = x at *
      by_cases hx : x = 0
      · subst hx
        have HS2 := Lib.hid (HS.out rfl)
        clear HS HO
        go_wp2_with (go_at_call 140; (with_reducible refine (CH.out).mono ?_); rintro e w2 ⟨rfl, hC2⟩; have HC2 := Lib.hid (HC.out.later hC2.bel); have HR2 := Lib.hid (HR.out.below hC2.bel); clear hC2)
        go_roundw
        case rel => exact ⟨5, by omega, rfl, HC2, HR2, HS2⟩
        case measure => simp [intOf]
      · have q : (x != 0) = true := by simpa using hx
        have E : Hid (openE l k no = x) := HO.out hx
        clear hx HO HS
        go_wp2_with (go_at_call 140; (with_reducible refine (CH.out).mono ?_); rintro e w2 ⟨rfl, hC2⟩; have HC2 := Lib.hid (HC.out.later hC2.bel); have HR2 := Lib.hid (HR.out.below hC2.bel); clear hC2)
        go_ret2
        have e0 : openB l k no = [] := by rw [openB, if_neg]; rw [E.out]; intro h; simp [h] at q
        exact ⟨none, 0, 0, by rw [E.out]; rfl, by rw [e0]; exact Bytes8.nil _, HC2.out.bel⟩
    · have hc := (HR.out.at_ (k := 5) rfl)
      rw [Addr.add_lit] at hc
      have CH := Lib.hid (chk6_any HC.out.self (chk_len (HP.out 1 (by omega))))
      have HO := Lib.hid (fun h0 : chk l k no 5 ≠ 0 => openE_first (by omega) HP.out h0)
      have HS := Lib.hid (fun h0 : chk l k no 5 = 0 => HP.out.succ h0)
      generalize chk l k no 5 = x at *
      by_cases hx : x = 0
      · subst hx
        have HS2 := Lib.hid (HS.out rfl)
        clear HS HO
        go_wp2_with (go_at_call 141; (with_reducible refine (CH.out).mono ?_); rintro e w2 ⟨rfl, hC2⟩; have HC2 := Lib.hid (HC.out.later hC2.bel); have HR2 := Lib.hid (HR.out.below hC2.bel); clear hC2)
        go_roundw
        case rel => exact ⟨6, by omega, rfl, HC2, HR2, HS2⟩
        case measure => simp [intOf]
      · have q : (x != 0) = true := by simpa using hx
        have E : Hid (openE l k no = x) := HO.out hx
        clear hx HO HS
        go_wp2_with (go_at_call 141; (with_reducible refine (CH.out).mono ?_); rintro e w2 ⟨rfl, hC2⟩; have HC2 := Lib.hid (HC.out.later hC2.bel); have HR2 := Lib.hid (HR.out.below hC2.bel); clear hC2)
        go_ret2
        have e0 : openB l k no = [] := by rw [openB, if_neg]; rw [E.out]; intro h; simp [h] at q
        exact ⟨none, 0, 0, by rw [E.out]; rfl, by rw [e0]; exact Bytes8.nil _, HC2.out.bel⟩
    · have hl := chk_len (HP.out 1 (by omega))
      have E : Hid (openE l k no = 0) := openE_all HP.out
      obtain rfl : n = 256 := by have := HC.out.B.len; omega
      have hm := HC.out.B.most
      have hcp := HC.out.B.cap
      obtain ⟨b, off, rfl, hbl, hcell⟩ := HC.out.B.row.lit (by rw [u8s_length]; omega)
      have hrow : Row wr (some ⟨b, off + 8, none⟩) (u8s ((l.drop 8).take 244)) := by
        have := (HC.out.B.row.drop 8).take 244
        rw [u8s_drop, u8s_take] at this
        simpa [Addr.add_lit] using this
      have HRow := Lib.hid hrow
      have HL : Hid ((u8s ((l.drop 8).take 244)).length = 244) := by rw [Hid, u8s_length, List.length_take, List.length_drop]; omega
      clear hrow hcell hl HR HP
      go_wp2_with (first
        | (at_make; refine wpList_make_full wr rfl (.const (.int .i64 244)) (.const (.int .i64 244)) _ rfl wr.heap.size 5 i0 _ 1 Tryz.underlying22 hi0 hz0 hz1 .i64 .i64 _ _ 244 rfl rfl rfl rfl (by rw [hz2]; omega) (by simp only [maxLen]; omega) (Nat.le_refl _) ?_; intro w1 hown1 hg1; have hb1 := below_of_grown hg1 (by simp); have HO1 := Lib.hid hown1; clear hown1)
        | (refine wpList_copy_splice rfl (.tmp 28) (.tmp 30) _ _ rfl 5 Tryz.underlying22 size_u8 _ _ _ _ _ _ rfl rfl wr.heap.size 0 _ 5 (ownsRow_whole HO1.out) (u8s ((l.drop 8).take 244)) (by rw [HL.out]; rfl) (fun hp => ⟨rfl, (HRow.out.below hb1).src hp⟩) (by have := HO1.out.1; rw [HL.out]; omega) (u8s_one _) wr.heap.size wr hb1 (Nat.le_refl _) ?_; intro w3 HG3 hb3))
      go_ret2
      have e0 : openB l k no = (l.drop 8).take 244 := by rw [openB, if_pos E.out]
      have hL := HL.out
      rw [u8s_length] at hL
      refine ⟨some ⟨wr.heap.size, 0, none⟩, 244, 244, by rw [E.out]; rfl, ?_, HC.out.bel.trans (hb3.mono HC.out.bel.size)⟩
      rw [e0]
      refine ⟨hL, Nat.le_refl _, by omega, ?_⟩
      have h3 := HG3.out
      rw [splice_all _ _ (by have := HO1.out.1; rw [HL.out]; omega)] at h3
      exact Row.of_block h3

end Go.Proofs.YtfcehhhcjlpklaaGreatDoor

/-
  Layer 4's Seal.
-/
namespace Go.Proofs.YtfcehhhcjlpklaaGreatDoor
open Go.RowKit
set_option linter.unusedVariables false
set_option linter.unusedSimpArgs false

set_option maxRecDepth 100000 in
theorem Seal_arg (k no : Int) (A : Option Addr) (n c : Nat) (w : World) (h : knownB k no = false) :
    Calls Tryz.prog 34 #[.int .i64 k, .int .i64 no, .slice A n c] w fun e w' => e = .returned (.tuple #[.slice none 0 0, .int .i64 1]) ∧ w = w' := by
  cases hk : kindB k with
  | false =>
    have IK := Lib.hid (fun W => isKind_any k W false hk)
    clear h hk
    go_enter Tryz.func34, Tryz.ntmps34
    go_wp2_with (go_at_call 61; refine (IK.out _).mono ?_; rintro e w' ⟨rfl, rfl⟩)
    go_ret2
    exact ⟨rfl, rfl⟩
  | true =>
    have IK := Lib.hid (fun W => isKind_any k W true hk)
    have IN := Lib.hid (fun W => isNumber_any no W false (by simpa [knownB, hk] using h))
    clear h hk
    go_enter Tryz.func34, Tryz.ntmps34
    go_wp2_with (first
      | (go_at_call 61; refine (IK.out _).mono ?_; rintro e w' ⟨rfl, rfl⟩)
      | (go_at_call 62; refine (IN.out _).mono ?_; rintro e w' ⟨rfl, rfl⟩))
    go_ret2
    exact ⟨rfl, rfl⟩

set_option maxRecDepth 100000 in
theorem Seal_range (k no : Int) (A : Option Addr) (n c : Nat) (w : World) (h : knownB k no = true) (hn : 244 < n) :
    Calls Tryz.prog 34 #[.int .i64 k, .int .i64 no, .slice A n c] w fun e w' => e = .returned (.tuple #[.slice none 0 0, .int .i64 2]) ∧ w = w' := by
  have hk : kindB k = true ∧ snumB no = true := by simpa [knownB] using h
  have IK := Lib.hid (fun W => isKind_any k W true hk.1)
  have IN := Lib.hid (fun W => isNumber_any no W true hk.2)
  clear h hk
  go_enter Tryz.func34, Tryz.ntmps34
  go_wp2_with (first
    | (go_at_call 61; refine (IK.out _).mono ?_; rintro e w' ⟨rfl, rfl⟩)
    | (go_at_call 62; refine (IN.out _).mono ?_; rintro e w' ⟨rfl, rfl⟩))
  go_ret2
  exact ⟨rfl, rfl⟩

/-- the first eight bytes -/
def headB (k no : Int) : List UInt8 := encN 4 no.toNat ++ (encN 2 k.toNat ++ [0, 0])
theorem headB_length (k no : Int) : (headB k no).length = 8 := by simp [headB, encN_length]

theorem splice_put {α : Type} (hd l : List α) (z : α) (m : Nat) (hm : hd.length + l.length ≤ m) : splice (splice (List.replicate m z) 0 hd) hd.length l = hd ++ (l ++ List.replicate (m - hd.length - l.length) z) := by
  simp only [splice, List.take_zero, List.nil_append, Nat.zero_add, List.drop_replicate, List.append_assoc]
  rw [List.take_left', List.drop_append]
  · simp
  · rfl

theorem body_splice {k no : Int} {l : List UInt8} (hl : l.length ≤ 244) : splice (splice (List.replicate 256 0) 0 (headB k no)) 8 l = bodyB k no l ++ [0, 0, 0, 0] := by
  have := splice_put (headB k no) l 0 256 (by rw [headB_length]; omega)
  rw [headB_length] at this
  rw [this]
  have e : (List.replicate (256 - 8 - l.length) (0 : UInt8)) = List.replicate (244 - l.length) 0 ++ [0, 0, 0, 0] := by
    rw [show 256 - 8 - l.length = (244 - l.length) + 4 by omega, ← List.replicate_append_replicate]
    rfl
  rw [e]
  simp [headB, bodyB, List.append_assoc]

theorem u8s_splice (a b : List UInt8) (i : Nat) : splice (u8s a) i (u8s b) = u8s (splice a i b) := by simp [splice, u8s]

theorem head_pack {k no : Int} (h : knownB k no = true) : packE [(4, no), (2, k), (2, 0)] = 0 ∧ packB [(4, no), (2, k), (2, 0)] = headB k no := by
  obtain ⟨⟨h1, h2⟩, h3, h4⟩ := knownB_iff.1 h
  have e : packE [(4, no), (2, k), (2, 0)] = 0 := by
    have f1 : fitsB no 4 = true := by simp [fitsB]; omega
    have f2 : fitsB k 2 = true := by simp [fitsB]; omega
    have f3 : fitsB 0 2 = true := by decide
    simp [packE, isW, f1, f2, f3]
  refine ⟨e, ?_⟩
  rw [packB, if_pos e]
  simp only [encs, headB, List.flatMap_cons, List.flatMap_nil, List.append_nil]
  rfl

set_option maxRecDepth 100000 in
set_option maxHeartbeats 1600000 in
theorem Seal_good (k no : Int) (A : Option Addr) (n c : Nat) (l : List UInt8) (w : World) (h : Bytes8 w A n c l) (hs : sealE k no n = 0) :
    Calls Tryz.prog 34 #[.int .i64 k, .int .i64 no, .slice A n c] w fun e w' => ∃ g, e = .returned (.tuple #[.slice (some ⟨g, 0, none⟩) 256 256, .int .i64 0]) ∧ Own8 w' w.heap.size g (sealB k no l) ∧ Below w.heap.size w w' := by
  obtain ⟨hkn, hn⟩ := sealE_zero hs
  have hk : kindB k = true ∧ snumB no = true := by simpa [knownB] using hkn
  have hb := knownB_iff.1 hkn
  have IK := Lib.hid (fun W => isKind_any k W true hk.1)
  have IN := Lib.hid (fun W => isNumber_any no W true hk.2)
  have PK : Hid (Calls Tryz.prog 32 #[.slice (some ⟨w.heap.size, 0, none⟩) 3 3] (w.alloc (.cells #[.int .i64 4, .int .i64 no, .int .i64 2, .int .i64 k, .int .i64 2, .int .i64 0] 91)) fun e w' =>
      ∃ A' c', e = .returned (.tuple #[.slice A' 8 c', .int .i64 0]) ∧ Bytes8 w' A' 8 c' (headB k no) ∧ Below w.heap.size w w') := by
    refine (Pack_any (some ⟨w.heap.size, 0, none⟩) 3 3 [(4, no), (2, k), (2, 0)] _ ⟨rfl, Nat.le_refl _, by omega, ?_, ?_⟩ (by omega)).mono ?_
    · exact Row.of_block (heap_alloc_new w _)
    · intro p hp
      simp only [List.mem_cons, List.not_mem_nil, or_false] at hp
      rcases hp with rfl | rfl | rfl <;> exact ⟨⟨by simp only; omega, by simp only; omega⟩, ⟨by simp only; omega, by simp only; omega⟩⟩
    · rintro e w' ⟨A', m, c', rfl, hB, hb⟩
      rw [(head_pack hkn).2] at hB
      rw [(head_pack hkn).1]
      obtain rfl : 8 = m := by have := hB.len; rw [headB_length] at this; exact this
      exact ⟨A', c', rfl, hB, ((Below.refl _ _).alloc (Nat.le_refl _) _).trans (hb.mono (by simp))⟩
  have hl := h.len
  have HB := Lib.hid h
  have HL := Lib.hid hl
  have HH := Lib.hid (headB_length k no)
  have HZ := Lib.hid (body_splice (k := k) (no := no) (l := l) (by omega))
  have HBL := Lib.hid (bodyB_length (k := k) (no := no) (l := l) (by omega))
  have HSE : Hid (sealB k no l = bodyB k no l ++ encN 4 (Crc.sum (bodyB k no l) ^^^ saltN k)) := sealB_eq (by rw [hl]; exact hs)
  obtain ⟨i0, hi0, hz0, hz1, hz2⟩ := info_parts info_u8
  clear h hl hs hk hkn hb
  go_enter Tryz.func34, Tryz.ntmps34
  go_wp2_with (first
    | (go_at_call 61; refine (IK.out _).mono ?_; rintro e w' ⟨rfl, rfl⟩)
    | (go_at_call 62; refine (IN.out _).mono ?_; rintro e w' ⟨rfl, rfl⟩)
    | (go_at_call 32; (with_reducible refine (PK.out).mono ?_); rintro e w1 ⟨A1, c1, rfl, hB1, hb1⟩; have HB1 := Lib.hid hB1; clear hB1)
    | (at_make; refine wpList_make_full w1 rfl (.const (.int .i64 256)) (.const (.int .i64 256)) _ rfl w1.heap.size 5 i0 _ 1 Tryz.underlying22 hi0 hz0 hz1 .i64 .i64 _ _ 256 rfl rfl rfl rfl (by rw [hz2]; omega) (by simp only [maxLen]; omega) (Nat.le_refl _) ?_; intro w2 hown2 hg2; have hb2 := below_of_grown hg2 (by simp); have HO2 := Lib.hid (own_zeros hown2 (Nat.le_refl _)); clear hown2)
    | (refine wpList_copy_splice rfl (.tmp 36) (.tmp 37) _ _ rfl 5 Tryz.underlying22 size_u8 _ _ _ _ _ _ rfl rfl w1.heap.size 0 (u8s (List.replicate 256 0)) 5 HO2.out.blk (u8s (headB k no)) (by rw [u8s_length, HH.out]; rfl) (fun hp => ⟨rfl, (HB1.out.row.below hb2).src hp⟩) (by rw [u8s_length, u8s_length, HH.out, List.length_replicate]; omega) (u8s_one _) w1.heap.size w1 hb2 (Nat.le_refl _) ?_; intro w3 HG3 hb3)
    | (refine wpList_copy_splice rfl (.tmp 40) (.tmp 41) _ _ rfl 5 Tryz.underlying22 size_u8 _ _ _ _ _ _ rfl rfl w1.heap.size 8 _ 5 HG3.out (u8s l) (by rw [u8s_length, HL.out]; exact (Nat.min_eq_left (by omega)).symm) (fun hp => ⟨rfl, (HB.out.row.below (hb1.trans (hb3.mono hb1.size))).src hp⟩) (by rw [u8s_splice, u8s_length, u8s_length, length_splice _ _ _ (by rw [HH.out, List.length_replicate]; omega), List.length_replicate, HL.out]; omega) (u8s_one _) w1.heap.size w1 hb3 (Nat.le_refl _) ?_; intro w4 HG4 hb4; have HG5 : Hid (Own8 w4 w1.heap.size w1.heap.size (bodyB k no l ++ [0, 0, 0, 0])) := (by refine ⟨Nat.le_refl _, ?_⟩; rw [← HZ.out, ← u8s_splice, ← u8s_splice]; exact HG4.out); clear HG4)
    | (go_at_call 64; refine (sum_any (some ⟨w1.heap.size, 0, none⟩) 256 256 (bodyB k no l ++ [0, 0, 0, 0]) k _ (HG5.out.bytes (by rw [List.length_append, HBL.out]; rfl) (by omega)) (by omega)).mono ?_; rintro e w5 ⟨rfl, hb5⟩)
    | (go_at_call 63; refine (Put_own (some ⟨w1.heap.size, 0, none⟩) 256 256 252 4 (sumN (bodyB k no l ++ [0, 0, 0, 0]) k) _ _ ((HG5.out.later hb5).bytes (by rw [List.length_append, HBL.out]; rfl) (by omega)) (by omega) (by decide) (by decide) (by decide) (by have := sumN_lt (bodyB k no l ++ [0, 0, 0, 0]) k; omega) (by have := sumN_lt (bodyB k no l ++ [0, 0, 0, 0]) k; simp [fitsB]; omega)).mono ?_; rintro e w6 ⟨rfl, hO6, hb6⟩))
  go_ret2
  have h1 := hb1.trans (hb4.mono hb1.size)
  have h2 := h1.trans (hb5.mono h1.size)
  refine ⟨_, rfl, ⟨h2.size, ?_⟩, h2.trans (hb6.mono h2.size)⟩
  have := hO6.blk
  rw [HSE.out]
  have e1 : (bodyB k no l ++ [0, 0, 0, 0]).take 252 = bodyB k no l := take_app HBL.out
  have e2 : (bodyB k no l ++ [0, 0, 0, 0]).drop (252 + (4 : Int).toNat) = [] := List.drop_eq_nil_of_le (by rw [List.length_append, HBL.out]; exact Nat.le_refl _)
  rw [e1, e2, sumN, e1, List.append_nil] at this
  exact this

theorem Seal_any (k no : Int) (A : Option Addr) (n c : Nat) (l : List UInt8) (w : World) (h : Bytes8 w A n c l) :
    Calls Tryz.prog 34 #[.int .i64 k, .int .i64 no, .slice A n c] w fun e w' => ∃ A' m c', e = .returned (.tuple #[.slice A' m c', .int .i64 (sealE k no n)]) ∧ Bytes8 w' A' m c' (sealB k no l) ∧ Below w.heap.size w w' := by
  have hl := h.len
  cases hk : knownB k no with
  | false =>
    have e : sealE k no n = 1 := by simp [sealE, hk]
    refine (Seal_arg k no A n c w hk).mono ?_
    rintro e' w' ⟨rfl, rfl⟩
    exact ⟨none, 0, 0, by rw [e], by rw [sealB, if_neg (by rw [hl, e]; omega)]; exact Bytes8.nil _, Below.refl _ _⟩
  | true =>
    by_cases hn : 244 < n
    · have e : sealE k no n = 2 := by simp [sealE, hk, hn]
      refine (Seal_range k no A n c w hk hn).mono ?_
      rintro e' w' ⟨rfl, rfl⟩
      exact ⟨none, 0, 0, by rw [e], by rw [sealB, if_neg (by rw [hl, e]; omega)]; exact Bytes8.nil _, Below.refl _ _⟩
    · have e : sealE k no n = 0 := by simp [sealE, hk, hn]
      refine (Seal_good k no A n c l w h e).mono ?_
      rintro e' w' ⟨g, rfl, hO, hb⟩
      exact ⟨_, 256, 256, by rw [e], hO.bytes (sealB_length (by rw [hl]; exact e)) (by omega), hb⟩

end Go.Proofs.YtfcehhhcjlpklaaGreatDoor

/-
  Layer 4's Which.
-/
namespace Go.Proofs.YtfcehhhcjlpklaaGreatDoor
open Go.RowKit
set_option linter.unusedVariables false
set_option linter.unusedSimpArgs false

end Go.Proofs.YtfcehhhcjlpklaaGreatDoor
