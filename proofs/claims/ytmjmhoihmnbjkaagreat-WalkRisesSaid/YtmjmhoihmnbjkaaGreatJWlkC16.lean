/-
  Joined: ValA, ValB, ValC, ValD, ValE.
-/
import Derived.LoopTactic
import Derived.BigQuiet
import Derived.Deep.RegionHeld3
import Derived.Test.YtmjmhoihmnbjkaaGreatJWlkC13
import Derived.Test.YtmjmhoihmnbjkaaGreatJWlkC00
import Derived.Test.YtmjmhoihmnbjkaaGreatJWlkC07
import Derived.Test.YtmjmhoihmnbjkaaGreatJWlkC02
import Derived.Laws.Rows
import Derived.Test.YtmjmhoihmnbjkaaGreatJWlkC09
/-
  Layer 8's numbers in memory; build.
-/
namespace Go.Proofs.YtmjmhoihmnbjkaaGreat
open Go.RowKit
set_option linter.unusedVariables false
set_option linter.unusedSimpArgs false

/-- the numbers of a value in memory: k's pointer leads to block g k, cell o k -/
structure NumsAt (w : World) (b off n c : Nat) (l : List (NumS × Int)) (g o : Nat → Nat) : Prop where
  len : l.length = n
  pos : 0 < n
  small : n ≤ 100
  cap : n ≤ c
  most : c ≤ 9223372036854775807
  lt : b < w.heap.size
  fit : ∀ p ∈ l, fitN p.1
  row : ∀ k (h : k < l.length), w.cell? ⟨b, off + k * 4, none⟩ = some (.pointer (some ⟨g k, o k, none⟩)) ∧ w.cell? ⟨b, off + k * 4 + 1, none⟩ = some (.int .i64 (l[k].1.1 : Int)) ∧
    w.cell? ⟨b, off + k * 4 + 2, none⟩ = some (.int .i64 l[k].1.2.1) ∧ w.cell? ⟨b, off + k * 4 + 3, none⟩ = some (.int .i64 l[k].1.2.2)
theorem NumsAt.later {w w' : World} {b off n c : Nat} {l : List (NumS × Int)} {g o : Nat → Nat} (h : NumsAt w b off n c l g o) (hb : w.heap.size ≤ w'.heap.size) (he : w'.heap[b]? = w.heap[b]?) : NumsAt w' b off n c l g o :=
  ⟨h.len, h.pos, h.small, h.cap, h.most, Nat.lt_of_lt_of_le h.lt hb, h.fit, fun k hk => by
    obtain ⟨h0, h1, h2, h3⟩ := h.row k hk
    exact ⟨(World.cell?_of_block (w := w) (a := ⟨b, off + k * 4, none⟩) he).trans h0, (World.cell?_of_block (w := w) (a := ⟨b, off + k * 4 + 1, none⟩) he).trans h1, (World.cell?_of_block (w := w) (a := ⟨b, off + k * 4 + 2, none⟩) he).trans h2, (World.cell?_of_block (w := w) (a := ⟨b, off + k * 4 + 3, none⟩) he).trans h3⟩⟩
set_option maxRecDepth 100000 in
theorem holds_any8 (w : World) (p : Value) (hp : p.oneCell' = true) (wd lo hi n : Int) (r : Bool) (hr : inB n lo hi = r) :
    Calls Tryz.prog 92 #[.agg #[p, .int .i64 wd, .int .i64 lo, .int .i64 hi], .int .i64 n] w fun e w' => e = .returned (.bool r) ∧ Below w.heap.size w w' := by
  by_cases h : lo ≤ n
  · go_enter Tryz.func92, Tryz.ntmps92
    go_wp2
    go_ret
    exact ⟨ret_bool (by rw [← hr, inB, decide_eq_true h, Bool.true_and]), (Below.refl _ _).alloc (Nat.le_refl _) _⟩
  · go_enter Tryz.func92, Tryz.ntmps92
    go_wp2
    go_ret
    exact ⟨ret_bool (by rw [← hr, inB, decide_eq_false (by omega), Bool.false_and]), (Below.refl _ _).alloc (Nat.le_refl _) _⟩

/-- a number in a variable -/
def NumVar (W : World) (q : Nat) (p : Value) (wd lo hi : Int) : Prop := W.heap[q]? = some (.cells #[p, .int .i64 wd, .int .i64 lo, .int .i64 hi] 145 (0, 0))
theorem NumVar.later {w w' : World} {q B : Nat} {p : Value} {wd lo hi : Int} (h : NumVar w q p wd lo hi) (hb : Below B w w') (hq : q < B) : NumVar w' q p wd lo hi := (hb.block q hq).trans h
theorem NumVar.facts {w : World} {q : Nat} {p : Value} {wd lo hi : Int} (h : NumVar w q p wd lo hi) : w.cell? ⟨q, 0, none⟩ = some p ∧ w.cell? ⟨q, 1, none⟩ = some (.int .i64 wd) ∧ w.cell? ⟨q, 2, none⟩ = some (.int .i64 lo) ∧ w.cell? ⟨q, 3, none⟩ = some (.int .i64 hi) := by
  refine ⟨?_, ?_, ?_, ?_⟩
  · rw [cell_of_row w q 0 _ _ _ h]; rfl
  · rw [cell_of_row w q 1 _ _ _ h]; rfl
  · rw [cell_of_row w q 2 _ _ _ h]; rfl
  · rw [cell_of_row w q 3 _ _ _ h]; rfl

end Go.Proofs.YtmjmhoihmnbjkaaGreat

/-
  Layer 8's build.
-/
namespace Go.Proofs.YtmjmhoihmnbjkaaGreat
open Go.RowKit
set_option linter.unusedVariables false
set_option linter.unusedSimpArgs false

end Go.Proofs.YtmjmhoihmnbjkaaGreat

/-
  Layer 8's numbers of each kind; the values of all kinds.
-/
namespace Go.Proofs.YtmjmhoihmnbjkaaGreat
open Go.RowKit
set_option linter.unusedVariables false
set_option linter.unusedSimpArgs false

/-- the numbers as cells -/
def numC (g o : Nat → Nat) : List (NumS × Int) → Nat → List Value
  | [], _ => []
  | p :: r, k => .pointer (some ⟨g k, o k, none⟩) :: .int .i64 (p.1.1 : Int) :: .int .i64 p.1.2.1 :: .int .i64 p.1.2.2 :: numC g o r (k + 1)

theorem numC_at {g o : Nat → Nat} : ∀ (l : List (NumS × Int)) (j k : Nat) (h : k < l.length), (numC g o l j)[k * 4]? = some (.pointer (some ⟨g (j + k), o (j + k), none⟩)) ∧ (numC g o l j)[k * 4 + 1]? = some (.int .i64 (l[k].1.1 : Int)) ∧
    (numC g o l j)[k * 4 + 2]? = some (.int .i64 l[k].1.2.1) ∧ (numC g o l j)[k * 4 + 3]? = some (.int .i64 l[k].1.2.2)
  | [], _, _, h => by cases h
  | p :: r, j, 0, _ => ⟨rfl, rfl, rfl, rfl⟩
  | p :: r, j, k + 1, h => by
    obtain ⟨h0, h1, h2, h3⟩ := numC_at r (j + 1) k (by simpa using h)
    rw [show j + 1 + k = j + (k + 1) by omega] at h0
    rw [show (k + 1) * 4 = k * 4 + 1 + 1 + 1 + 1 by omega]
    refine ⟨?_, ?_, ?_, ?_⟩
    · simp only [numC, List.getElem?_cons_succ]; exact h0
    · simp only [numC, List.getElem?_cons_succ]; exact h1
    · rw [show k * 4 + 1 + 1 + 1 + 1 + 2 = k * 4 + 2 + 1 + 1 + 1 + 1 by omega]; simp only [numC, List.getElem?_cons_succ]; exact h2
    · rw [show k * 4 + 1 + 1 + 1 + 1 + 3 = k * 4 + 3 + 1 + 1 + 1 + 1 by omega]; simp only [numC, List.getElem?_cons_succ]; exact h3

/-- a new row of numbers -/
theorem nums_new {W : World} {q n : Nat} {l : List (NumS × Int)} {g o : Nat → Nat} (h : W.heap[q]? = some (.cells (numC g o l 0).toArray 145 (0, 0))) (hl : l.length = n) (h0 : 0 < n) (hn : n ≤ 100) (hf : ∀ p ∈ l, fitN p.1) :
    NumsAt W q 0 n n l g o :=
  ⟨hl, h0, hn, Nat.le_refl _, by omega, block_lt h, hf, fun k hk => by
    obtain ⟨h1, h2, h3, h4⟩ := numC_at (g := g) (o := o) l 0 k hk
    rw [Nat.zero_add] at h1
    rw [Nat.zero_add]
    refine ⟨?_, ?_, ?_, ?_⟩
    · rw [cell_of_row W q _ _ _ _ h, List.getElem?_toArray]; exact h1
    · rw [cell_of_row W q _ _ _ _ h, List.getElem?_toArray]; exact h2
    · rw [cell_of_row W q _ _ _ _ h, List.getElem?_toArray]; exact h3
    · rw [cell_of_row W q _ _ _ _ h, List.getElem?_toArray]; exact h4⟩

theorem fit_zip {ns : List NumS} (h : ∀ p ∈ ns, fitN p) (vs : List Int) : ∀ p ∈ ns.zip vs, fitN p.1 := fun p hp => h p.1 (List.of_mem_zip hp).1

/-! ### the lists -/
def numRow (W : World) (q : Nat) (cs : Array Value) : Prop := W.heap[q]? = some (.cells cs 145 (0, 0))

theorem results_num {fn : Func} {p : Tmp} (h : fn.results = #[.cell p 145]) (tmps : Array Value) (w : World) (g : Nat) (a b c d : Value)
    (hp : tmps.getD p undef = .pointer (some ⟨g, 0, none⟩)) (hg : numRow w g #[a, b, c, d]) : (results fn tmps).run Tryz.prog w = .ok (.agg #[a, b, c, d]) w :=
  results_cell_row h tmps w g _ #[a, b, c, d] (0, 0) _ hp hg Tryz.underlying145 rfl (by kernel_rfl)

set_option maxRecDepth 100000 in
theorem root_any (w : World) (b o : Nat) :
    Calls Tryz.prog 79 #[.pointer (some ⟨b, o, none⟩)] w fun e w' => e = .returned (.agg #[.pointer (some ⟨b, o, none⟩), .int .i64 4, .int .i64 1, .int .i64 14399]) ∧ Below w.heap.size w w' := by
  go_enter Tryz.func79, Tryz.ntmps79
  go_wp2
  refine bodyPost_ret (results_num Tryz.results79 _ _ w.heap.size _ _ _ _ rfl (heap_alloc_new w _)) rfl ?_
  exact ⟨rfl, (Below.refl _ _).alloc (Nat.le_refl _) _⟩
/-! ### the values -/
def o0 : Nat → Nat := fun _ => 0
end Go.Proofs.YtmjmhoihmnbjkaaGreat

/-
  Layer 8's Detail, Slot, Root, Count.
-/
namespace Go.Proofs.YtmjmhoihmnbjkaaGreat
open Go.RowKit
set_option linter.unusedVariables false
set_option linter.unusedSimpArgs false

end Go.Proofs.YtmjmhoihmnbjkaaGreat

/-
  Layer 8's read: what it reads, and where it writes.
-/
namespace Go.Proofs.YtmjmhoihmnbjkaaGreat
open Go.RowKit
set_option linter.unusedVariables false
set_option linter.unusedSimpArgs false

/-- what is read, beside its numbers -/
def psI (s : List UInt8) (ns : List NumS) : List Int := (partsN s ns).map fun k : Nat => (k : Int)
def rdL (s : List UInt8) (ns : List NumS) : List (NumS × Int) := ns.zip (psI s ns)
def sizeP (l : List (NumS × Int)) : Nat := (l.map (·.1.1)).sum

theorem rdL_cons (s : List UInt8) (p : NumS) (r : List NumS) : rdL s (p :: r) = (p, (leN (s.take p.1) : Int)) :: rdL (s.drop p.1) r := rfl
theorem rdL_length (s : List UInt8) (ns : List NumS) : (rdL s ns).length = ns.length := by
  simp [rdL, psI, partsN_length]
theorem sizeP_rdL (s : List UInt8) (ns : List NumS) : sizeP (rdL s ns) = sizeN ns := by
  induction ns generalizing s with
  | nil => rfl
  | cons p r ih =>
    have := ih (s.drop p.1)
    simp only [sizeP, sizeN, rdL_cons, List.map_cons, List.sum_cons] at *
    omega
theorem sizeP_step {l : List (NumS × Int)} {k : Nat} (h : k < l.length) : sizeP (l.take (k + 1)) = sizeP (l.take k) + l[k].1.1 := by
  rw [List.take_succ_eq_append_getElem h]
  simp only [sizeP, List.map_append, List.sum_append, List.map_cons, List.map_nil, List.sum_cons, List.sum_nil, Nat.add_zero]
theorem sizeP_le {l : List (NumS × Int)} (h : ∀ p ∈ l, p.1.1 ≤ 8) : sizeP l ≤ l.length * 8 := by
  induction l with
  | nil => simp [sizeP]
  | cons p r ih =>
    have h1 := ih fun q hq => h q (List.mem_cons_of_mem _ hq)
    have h2 := h p List.mem_cons_self
    simp only [sizeP, List.map_cons, List.sum_cons, List.length_cons] at *
    omega
theorem sizeP_take_le (l : List (NumS × Int)) (k : Nat) : sizeP (l.take k) ≤ sizeP l := by
  conv => rhs; rw [← List.take_append_drop k l]
  simp only [sizeP, List.map_append, List.sum_append]
  omega
theorem rdL_at : ∀ (ns : List NumS) (s : List UInt8) (k : Nat) (h : k < (rdL s ns).length), (rdL s ns)[k].2 = (leN ((s.drop (sizeP ((rdL s ns).take k))).take (rdL s ns)[k].1.1) : Int)
  | [], _, _, h => by cases h
  | p :: r, s, 0, _ => rfl
  | p :: r, s, k + 1, h => by
    have := rdL_at r (s.drop p.1) k (by simpa [rdL_cons] using h)
    simp only [rdL_cons, List.getElem_cons_succ, List.take_succ_cons]
    rw [this, List.drop_drop]
    simp [sizeP]
theorem psI_rdL (s : List UInt8) (ns : List NumS) : (rdL s ns).map (·.2) = psI s ns := by
  rw [rdL, List.map_snd_zip]
  simp [psI, partsN_length]
theorem val_get_in {l : List UInt8} (hl : l.length = 8) : (leN l < 9223372036854775808 → getE l 0 8 = 0 ∧ getN l 0 8 = (leN l : Int)) ∧ (9223372036854775808 ≤ leN l → getE l 0 8 = 2 ∧ getN l 0 8 = 0) := by
  have hr : roomE l.length 0 8 = 0 := by
    rw [hl]
    rfl
  have hp : part l 0 8 = l := by
    simp only [part]
    exact List.take_of_length_le (by rw [List.length_drop, hl]; decide)
  constructor
  · intro h
    have he : getE l 0 8 = 0 := by rw [getE, if_pos hr, hp, if_neg (by omega)]
    exact ⟨he, by rw [getN, if_pos he, hp]⟩
  · intro h
    have he : getE l 0 8 = 2 := by rw [getE, if_pos hr, hp, if_pos h]
    exact ⟨he, by rw [getN, if_neg (by rw [he]; omega)]⟩

/-- all but some blocks as they were -/
structure Frm (G : Nat → Prop) (w w' : World) : Prop where
  os : w'.os = w.os
  tape : w'.tape = w.tape
  output : w'.output = w.output
  size : w.heap.size ≤ w'.heap.size
  block : ∀ q, q < w.heap.size → ¬ G q → w'.heap[q]? = w.heap[q]?
theorem Frm.of_below {G : Nat → Prop} {w w' : World} (h : Below w.heap.size w w') : Frm G w w' := ⟨h.os, h.tape, h.output, h.size, fun q hq _ => h.block q hq⟩
theorem Frm.trans {G : Nat → Prop} {a b c : World} (h : Frm G a b) (k : Frm G b c) : Frm G a c :=
  ⟨k.os.trans h.os, k.tape.trans h.tape, k.output.trans h.output, Nat.le_trans h.size k.size, fun q hq hg => (k.block q (Nat.lt_of_lt_of_le hq h.size) hg).trans (h.block q hq hg)⟩
theorem Frm.set {G : Nat → Prop} {w0 w : World} (h : Frm G w0 w) {p : Addr} (hp : G p.block) (v : Value) : Frm G w0 (w.setCell p v) :=
  ⟨h.os, h.tape, h.output, by simpa [World.setCell] using h.size, fun q hq hg => (Below.heap_setCell w p v q (fun e => hg (e ▸ hp))).trans (h.block q hq hg)⟩
theorem Frm.below {G : Nat → Prop} {a w w' : World} (h : Frm G w w') (hb : Below a.heap.size a w) (hG : ∀ q, G q → a.heap.size ≤ q) : Below a.heap.size a w' :=
  ⟨h.os.trans hb.os, h.tape.trans hb.tape, h.output.trans hb.output, Nat.le_trans hb.size h.size, fun q hq => (h.block q (Nat.lt_of_lt_of_le hq hb.size) (fun e => by have := hG q e; omega)).trans (hb.block q hq)⟩

/-- where the pointers lead: cells that may be written, each another -/
structure TgtAt (w : World) (n : Nat) (g o : Nat → Nat) : Prop where
  row : ∀ k, k < n → ∃ cs t, w.heap[g k]? = some (.cells cs t (0, 0)) ∧ o k < cs.size
  apart : ∀ i j, i < j → j < n → (⟨g i, o i, none⟩ : Addr) ≠ ⟨g j, o j, none⟩
def tgtG (n : Nat) (g : Nat → Nat) : Nat → Prop := fun q => ∃ k, k < n ∧ g k = q
theorem TgtAt.later {w w' : World} {n : Nat} {g o : Nat → Nat} (h : TgtAt w n g o) (hb : Below w.heap.size w w') : TgtAt w' n g o :=
  ⟨fun k hk => by obtain ⟨cs, t, e, hs⟩ := h.row k hk; exact ⟨cs, t, (hb.block _ (block_lt e)).trans e, hs⟩, h.apart⟩
theorem TgtAt.lt {w : World} {n : Nat} {g o : Nat → Nat} (h : TgtAt w n g o) {k : Nat} (hk : k < n) : g k < w.heap.size := by
  obtain ⟨cs, t, e, hs⟩ := h.row k hk
  exact block_lt e
theorem TgtAt.cell {w : World} {n : Nat} {g o : Nat → Nat} (h : TgtAt w n g o) {k : Nat} (hk : k < n) : (∃ v, w.cell? ⟨g k, o k, none⟩ = some v) ∧ w.frozen? ⟨g k, o k, none⟩ = false := by
  obtain ⟨cs, t, e, hs⟩ := h.row k hk
  refine ⟨⟨cs[o k], ?_⟩, Lib.frozen_of_heap e _⟩
  rw [cell_of_row w _ _ _ _ _ e]
  exact Array.getElem?_eq_getElem hs
theorem TgtAt.set {w : World} {n : Nat} {g o : Nat → Nat} (h : TgtAt w n g o) {k : Nat} (hk : k < n) (v : Value) : TgtAt (w.setCell ⟨g k, o k, none⟩ v) n g o := by
  refine ⟨fun j hj => ?_, h.apart⟩
  obtain ⟨cs, t, e, hs⟩ := h.row j hj
  by_cases hg : g j = g k
  · rw [hg] at e ⊢
    exact ⟨_, t, heap_setCell_same w _ _ _ _ _ e, by simpa using hs⟩
  · exact ⟨cs, t, (Below.heap_setCell w _ _ _ hg).trans e, hs⟩
theorem TgtAt.drew {w : World} {n : Nat} {g o : Nat → Nat} (h : TgtAt w n g o) : TgtAt w.drew n g o := ⟨h.row, h.apart⟩
theorem Frm.drew {G : Nat → Prop} {w0 w : World} (h : Frm G w0 w) : Frm G w0 w.drew := ⟨h.os, h.tape, h.output, h.size, h.block⟩
/-- one value more is written -/
theorem tgt_step {W2 wr : World} {n k : Nat} {g o : Nat → Nat} {l : List (NumS × Int)} (hT : TgtAt wr n g o) (hF : Frm (tgtG n g) W2 wr) (hD : ∀ j (h : j < l.length), j < k → wr.cell? ⟨g j, o j, none⟩ = some (.int .i64 l[j].2)) (hl : l.length = n) (hk : k < l.length) (ob : Obj) :
    TgtAt ((wr.alloc ob).setCell ⟨g k, o k, none⟩ (.int .i64 l[k].2)).drew n g o ∧ Frm (tgtG n g) W2 ((wr.alloc ob).setCell ⟨g k, o k, none⟩ (.int .i64 l[k].2)).drew ∧
      ∀ j (h : j < l.length), j < k + 1 → ((wr.alloc ob).setCell ⟨g k, o k, none⟩ (.int .i64 l[k].2)).drew.cell? ⟨g j, o j, none⟩ = some (.int .i64 l[j].2) := by
  have hb : Below wr.heap.size wr (wr.alloc ob) := (Below.refl _ _).alloc (Nat.le_refl _) ob
  have hT1 := hT.later hb
  refine ⟨(hT1.set (by omega) _).drew, ((hF.trans (Frm.of_below hb)).set ⟨k, by omega, rfl⟩ _).drew, fun j hj hjk => ?_⟩
  change ((wr.alloc ob).setCell ⟨g k, o k, none⟩ (.int .i64 l[k].2)).cell? ⟨g j, o j, none⟩ = some (.int .i64 l[j].2)
  by_cases e : j = k
  · subst e
    obtain ⟨⟨v, hv⟩, _⟩ := hT1.cell (k := j) (by omega)
    exact World.cell?_setCell_same _ _ _ hv
  · rw [World.cell?_setCell_other _ _ _ _ (fun h => by have := hT.apart j k (by omega) (by omega); exact this h.symm)]
    have h0 := hD j hj (by omega)
    exact (hb.cell (p := ⟨g j, o j, none⟩) (cell_lt h0)).trans h0

end Go.Proofs.YtmjmhoihmnbjkaaGreat
