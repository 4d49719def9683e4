/-
  Layer 8's read: what it reads, and where it writes.
-/
import Derived.Test.YtolapeocdaknjaaValC
import Derived.Test.YtolapeocdaknjaaCodeC
namespace Go.Proofs.Ytolapeocdaknjaa
open Go.RowKit
set_option linter.unusedVariables false
set_option linter.unusedSimpArgs false

/-- what is read, beside its numbers -/
def psI (s : List UInt8) (ns : List NumS) : List Int := (partsN s ns).map fun k : Nat => (k : Int)
def rdL (s : List UInt8) (ns : List NumS) : List (NumS × Int) := ns.zip (psI s ns)
def sizeP (l : List (NumS × Int)) : Nat := (l.map (·.1.1)).sum

theorem rdL_cons (s : List UInt8) (p : NumS) (r : List NumS) : rdL s (p :: r) = (p, (leN (s.take p.1) : Int)) :: rdL (s.drop p.1) r := rfl
theorem rdL_length (s : List UInt8) (ns : List NumS) : (rdL s ns).length = ns.length := by
  simp [rdL, psI, partsN_length]
theorem sizeP_rdL (s : List UInt8) (ns : List NumS) : sizeP (rdL s ns) = sizeN ns := by
  induction ns generalizing s with
  | nil => rfl
  | cons p r ih =>
    have := ih (s.drop p.1)
    simp only [sizeP, sizeN, rdL_cons, List.map_cons, List.sum_cons] at *
    omega
theorem sizeP_step {l : List (NumS × Int)} {k : Nat} (h : k < l.length) : sizeP (l.take (k + 1)) = sizeP (l.take k) + l[k].1.1 := by
  rw [List.take_succ_eq_append_getElem h]
  simp only [sizeP, List.map_append, List.sum_append, List.map_cons, List.map_nil, List.sum_cons, List.sum_nil, Nat.add_zero]
theorem sizeP_le {l : List (NumS × Int)} (h : ∀ p ∈ l, p.1.1 ≤ 8) : sizeP l ≤ l.length * 8 := by
  induction l with
  | nil => simp [sizeP]
  | cons p r ih =>
    have h1 := ih fun q hq => h q (List.mem_cons_of_mem _ hq)
    have h2 := h p List.mem_cons_self
    simp only [sizeP, List.map_cons, List.sum_cons, List.length_cons] at *
    omega
theorem sizeP_take_le (l : List (NumS × Int)) (k : Nat) : sizeP (l.take k) ≤ sizeP l := by
  conv => rhs; rw [← List.take_append_drop k l]
  simp only [sizeP, List.map_append, List.sum_append]
  omega
theorem rdL_at : ∀ (ns : List NumS) (s : List UInt8) (k : Nat) (h : k < (rdL s ns).length), (rdL s ns)[k].2 = (leN ((s.drop (sizeP ((rdL s ns).take k))).take (rdL s ns)[k].1.1) : Int)
  | [], _, _, h => by cases h
  | p :: r, s, 0, _ => rfl
  | p :: r, s, k + 1, h => by
    have := rdL_at r (s.drop p.1) k (by simpa [rdL_cons] using h)
    simp only [rdL_cons, List.getElem_cons_succ, List.take_succ_cons]
    rw [this, List.drop_drop]
    simp [sizeP]
theorem psI_rdL (s : List UInt8) (ns : List NumS) : (rdL s ns).map (·.2) = psI s ns := by
  rw [rdL, List.map_snd_zip]
  simp [psI, partsN_length]
theorem okR_rdL (s : List UInt8) (ns : List NumS) : okR s ns = okP (rdL s ns) := rfl

theorem val_get_in {l : List UInt8} (hl : l.length = 8) : (leN l < 9223372036854775808 → getE l 0 8 = 0 ∧ getN l 0 8 = (leN l : Int)) ∧ (9223372036854775808 ≤ leN l → getE l 0 8 = 2 ∧ getN l 0 8 = 0) := by
  have hr : roomE l.length 0 8 = 0 := by
    rw [hl]
    rfl
  have hp : part l 0 8 = l := by
    simp only [part]
    exact List.take_of_length_le (by rw [List.length_drop, hl]; decide)
  constructor
  · intro h
    have he : getE l 0 8 = 0 := by rw [getE, if_pos hr, hp, if_neg (by omega)]
    exact ⟨he, by rw [getN, if_pos he, hp]⟩
  · intro h
    have he : getE l 0 8 = 2 := by rw [getE, if_pos hr, hp, if_pos h]
    exact ⟨he, by rw [getN, if_neg (by rw [he]; omega)]⟩

/-- all but some blocks as they were -/
structure Frm (G : Nat → Prop) (w w' : World) : Prop where
  os : w'.os = w.os
  tape : w'.tape = w.tape
  output : w'.output = w.output
  size : w.heap.size ≤ w'.heap.size
  block : ∀ q, q < w.heap.size → ¬ G q → w'.heap[q]? = w.heap[q]?
theorem Frm.of_below {G : Nat → Prop} {w w' : World} (h : Below w.heap.size w w') : Frm G w w' := ⟨h.os, h.tape, h.output, h.size, fun q hq _ => h.block q hq⟩
theorem Frm.trans {G : Nat → Prop} {a b c : World} (h : Frm G a b) (k : Frm G b c) : Frm G a c :=
  ⟨k.os.trans h.os, k.tape.trans h.tape, k.output.trans h.output, Nat.le_trans h.size k.size, fun q hq hg => (k.block q (Nat.lt_of_lt_of_le hq h.size) hg).trans (h.block q hq hg)⟩
theorem Frm.set {G : Nat → Prop} {w0 w : World} (h : Frm G w0 w) {p : Addr} (hp : G p.block) (v : Value) : Frm G w0 (w.setCell p v) :=
  ⟨h.os, h.tape, h.output, by simpa [World.setCell] using h.size, fun q hq hg => (Below.heap_setCell w p v q (fun e => hg (e ▸ hp))).trans (h.block q hq hg)⟩
theorem Frm.below {G : Nat → Prop} {a w w' : World} (h : Frm G w w') (hb : Below a.heap.size a w) (hG : ∀ q, G q → a.heap.size ≤ q) : Below a.heap.size a w' :=
  ⟨h.os.trans hb.os, h.tape.trans hb.tape, h.output.trans hb.output, Nat.le_trans hb.size h.size, fun q hq => (h.block q (Nat.lt_of_lt_of_le hq hb.size) (fun e => by have := hG q e; omega)).trans (hb.block q hq)⟩

/-- where the pointers lead: cells that may be written, each another -/
structure TgtAt (w : World) (n : Nat) (g o : Nat → Nat) : Prop where
  row : ∀ k, k < n → ∃ cs t, w.heap[g k]? = some (.cells cs t (0, 0)) ∧ o k < cs.size
  apart : ∀ i j, i < j → j < n → (⟨g i, o i, none⟩ : Addr) ≠ ⟨g j, o j, none⟩
def tgtG (n : Nat) (g : Nat → Nat) : Nat → Prop := fun q => ∃ k, k < n ∧ g k = q
theorem TgtAt.later {w w' : World} {n : Nat} {g o : Nat → Nat} (h : TgtAt w n g o) (hb : Below w.heap.size w w') : TgtAt w' n g o :=
  ⟨fun k hk => by obtain ⟨cs, t, e, hs⟩ := h.row k hk; exact ⟨cs, t, (hb.block _ (block_lt e)).trans e, hs⟩, h.apart⟩
theorem TgtAt.lt {w : World} {n : Nat} {g o : Nat → Nat} (h : TgtAt w n g o) {k : Nat} (hk : k < n) : g k < w.heap.size := by
  obtain ⟨cs, t, e, hs⟩ := h.row k hk
  exact block_lt e
theorem TgtAt.cell {w : World} {n : Nat} {g o : Nat → Nat} (h : TgtAt w n g o) {k : Nat} (hk : k < n) : (∃ v, w.cell? ⟨g k, o k, none⟩ = some v) ∧ w.frozen? ⟨g k, o k, none⟩ = false := by
  obtain ⟨cs, t, e, hs⟩ := h.row k hk
  refine ⟨⟨cs[o k], ?_⟩, Lib.frozen_of_heap e _⟩
  rw [cell_of_row w _ _ _ _ _ e]
  exact Array.getElem?_eq_getElem hs
theorem TgtAt.set {w : World} {n : Nat} {g o : Nat → Nat} (h : TgtAt w n g o) {k : Nat} (hk : k < n) (v : Value) : TgtAt (w.setCell ⟨g k, o k, none⟩ v) n g o := by
  refine ⟨fun j hj => ?_, h.apart⟩
  obtain ⟨cs, t, e, hs⟩ := h.row j hj
  by_cases hg : g j = g k
  · rw [hg] at e ⊢
    exact ⟨_, t, heap_setCell_same w _ _ _ _ _ e, by simpa using hs⟩
  · exact ⟨cs, t, (Below.heap_setCell w _ _ _ hg).trans e, hs⟩
theorem TgtAt.drew {w : World} {n : Nat} {g o : Nat → Nat} (h : TgtAt w n g o) : TgtAt w.drew n g o := ⟨h.row, h.apart⟩
theorem Frm.drew {G : Nat → Prop} {w0 w : World} (h : Frm G w0 w) : Frm G w0 w.drew := ⟨h.os, h.tape, h.output, h.size, h.block⟩
/-- one value more is written -/
theorem tgt_step {W2 wr : World} {n k : Nat} {g o : Nat → Nat} {l : List (NumS × Int)} (hT : TgtAt wr n g o) (hF : Frm (tgtG n g) W2 wr) (hD : ∀ j (h : j < l.length), j < k → wr.cell? ⟨g j, o j, none⟩ = some (.int .i64 l[j].2)) (hl : l.length = n) (hk : k < l.length) (ob : Obj) :
    TgtAt ((wr.alloc ob).setCell ⟨g k, o k, none⟩ (.int .i64 l[k].2)).drew n g o ∧ Frm (tgtG n g) W2 ((wr.alloc ob).setCell ⟨g k, o k, none⟩ (.int .i64 l[k].2)).drew ∧
      ∀ j (h : j < l.length), j < k + 1 → ((wr.alloc ob).setCell ⟨g k, o k, none⟩ (.int .i64 l[k].2)).drew.cell? ⟨g j, o j, none⟩ = some (.int .i64 l[j].2) := by
  have hb : Below wr.heap.size wr (wr.alloc ob) := (Below.refl _ _).alloc (Nat.le_refl _) ob
  have hT1 := hT.later hb
  refine ⟨(hT1.set (by omega) _).drew, ((hF.trans (Frm.of_below hb)).set ⟨k, by omega, rfl⟩ _).drew, fun j hj hjk => ?_⟩
  change ((wr.alloc ob).setCell ⟨g k, o k, none⟩ (.int .i64 l[k].2)).cell? ⟨g j, o j, none⟩ = some (.int .i64 l[j].2)
  by_cases e : j = k
  · subst e
    obtain ⟨⟨v, hv⟩, _⟩ := hT1.cell (k := j) (by omega)
    exact World.cell?_setCell_same _ _ _ hv
  · rw [World.cell?_setCell_other _ _ _ _ (fun h => by have := hT.apart j k (by omega) (by omega); exact this h.symm)]
    have h0 := hD j hj (by omega)
    exact (hb.cell (p := ⟨g j, o j, none⟩) (cell_lt h0)).trans h0

end Go.Proofs.Ytolapeocdaknjaa
