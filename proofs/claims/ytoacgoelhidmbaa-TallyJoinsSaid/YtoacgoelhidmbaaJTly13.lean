/-
  Joined: MemH.
-/
import Derived.Lib.LazyBuf
import Derived.Lib.SlBuf
import Derived.Test.YtoacgoelhidmbaaJTly01
/-
  copy of a string into bytes of the call's own.
-/
namespace Go.Proofs.Ytoacgoelhidmbaa
open Go.RowKit
set_option linter.unusedVariables false
set_option linter.unusedSimpArgs false

theorem splice_cons {α : Type} (L : List α) (off : Nat) (v : α) (r : List α) (h : off < L.length) : splice (L.set off v) (off + 1) r = splice L off (v :: r) := by
  simp only [splice]
  rw [List.set_eq_take_append_cons_drop, if_pos h]
  have e1 : (L.take off).length = off := by rw [List.length_take]; omega
  have t1 : (L.take off ++ v :: L.drop (off + 1)).take (off + 1) = L.take off ++ [v] := by
    rw [List.take_append, e1, List.take_of_length_le (by omega), show off + 1 - off = 1 by omega]
    simp
  have d1 : (L.take off ++ v :: L.drop (off + 1)).drop (off + 1 + r.length) = L.drop (off + (v :: r).length) := by
    rw [List.drop_append, e1, List.drop_of_length_le (by omega), show off + 1 + r.length - off = r.length + 1 by omega, List.drop_succ_cons, List.drop_drop, List.nil_append, List.length_cons]
    congr 1
    omega
  rw [t1, d1]
  simp

theorem heap_setCells {g : Nat} {ty : TypeId} {fr : Nat × Nat} : ∀ (vs : List Value) (o : Nat) (w : World) (cur : List Value), w.heap[g]? = some (.cells cur.toArray ty fr) → o + vs.length ≤ cur.length → (w.setCells g o vs).heap[g]? = some (.cells (splice cur o vs).toArray ty fr)
  | [], o, w, cur, h, _ => by simpa [splice, World.setCells] using h
  | v :: r, o, w, cur, h, hl => by
    rw [← splice_cons cur o v r (by simp at hl; omega)]
    refine heap_setCells r (o + 1) (w.setCell ⟨g, o, none⟩ v) (cur.set o v) ?_ (by simp at hl ⊢; omega)
    rw [setCell_eq_setRow w g o cur.toArray ty fr v h, setRow_heap w g _ _ ty _ h]
    simp

theorem below_setCells' {B b : Nat} {a : World} (hb : B ≤ b) : ∀ (vs : List Value) (o : Nat) (w : World), Below B a w → Below B a (w.setCells b o vs)
  | [], _, _, h => h
  | v :: r, o, w, h => below_setCells' hb r (o + 1) _ (h.setCell (by exact hb) v)

/-- copy(d, s), s a string no longer than d, d bytes of the call's own -/
theorem wpList_copy_str {P : Program} {w : World} {ops : Array Oper} {rest : List Oper} {o : Oper} {a : Act} {Q : Exit → Act → World → Prop} (hgd : o.guard = none) (d s : Operand) (dT sT : TypeId)
    (ho : o.op = .call { callee := .builtin .copy, args := #[d, s], argTypes := #[dT, sT] }) (elem : TypeId) (hu : P.underlying dT = some (.slice elem)) (hsz : (P.info? elem).map (·.size) = some 1)
    (g off dLen dCap : Nat) (t : ByteArray) (n : Nat) (hn : t.size = n) (hd : a.eval d = .slice (some ⟨g, off, none⟩) dLen dCap) (hs : a.eval s = .string t) (hle : n ≤ dLen)
    (cur : List Value) (ty : TypeId) (hg : w.heap[g]? = some (.cells cur.toArray ty (0, 0))) (hfit : off + n ≤ cur.length) (B : Nat) (w0 : World) (hb : Below B w0 w) (hBg : B ≤ g)
    (h : ∀ w', Hid (w'.heap[g]? = some (.cells (splice cur off (u8s t.data.toList)).toArray ty (0, 0))) → Below B w0 w' → wpList P ops Q rest (a.put o.dst (goInt n)) w') :
    wpList P ops Q (o :: rest) a w := by
  subst hn
  have hz : ∀ w, (Go.sizeOf elem).run P w = .ok 1 w := fun w => by
    obtain ⟨i, hi, h1⟩ := Option.map_eq_some_iff.1 hsz
    simp [sizeOf, typeInfo, hi, h1]
  have hlen : (t.data.toList.map fun x => Value.int .u8 (x.toNat : Int)).length = t.size := by rw [List.length_map, ← Lib.size_eq]
  have hc : ∀ j, j < t.size → (w.cell? ⟨g, off + j, none⟩).isSome = true := fun j hj => by
    rw [cell_of_row w g (off + j) _ _ _ hg]
    have : off + j < cur.length := by omega
    simp [this]
  have hf : ∀ j, j < t.size → w.frozen? ⟨g, off + j, none⟩ = false := fun j hj => frozen_of_row w g (off + j) _ _ hg
  refine Lib.wpList_copy_run w hgd d s dT sT ho _ _ hd hs (Go.run_copy_string w dT sT o.type elem g off dLen dCap t hu hz hle hc hf) ?_
  exact h _ (heap_setCells _ _ _ _ hg (by rw [hlen]; exact hfit)) (below_setCells' hBg _ _ _ hb)
end Go.Proofs.Ytoacgoelhidmbaa
