/-
  Joined: MemN, PolS, PolU, PgE, PolV, PgF, PolX, PolY.
-/
import Derived.Test.YtcmehjjaologpaaJSiz07
import Derived.Test.YtcmehjjaologpaaJSiz16
import Derived.Test.YtcmehjjaologpaaJSiz15
import Derived.Test.YtcmehjjaologpaaJSiz17
import Derived.Test.YtcmehjjaologpaaJSiz02
/-
  Texts, and structs of three integers, in a block of their own: one read, one stored.
-/
namespace Go.Proofs.Ytcmehjjaologpaa
open Go.RowKit
set_option linter.unusedVariables false
set_option linter.unusedSimpArgs false

/-- texts in a block of their own, from block B on, that may be written -/
structure OwnT (w : World) (B g : Nat) (l : List (List UInt8)) : Prop where
  low : B ≤ g
  blk : w.heap[g]? = some (.cells (strV l).toArray 9 (0, 0))
theorem OwnT.lt {w : World} {B g : Nat} {l : List (List UInt8)} (h : OwnT w B g l) : g < w.heap.size := block_lt h.blk
theorem OwnT.below {w w' : World} {B C g : Nat} {l : List (List UInt8)} (h : OwnT w B g l) (hb : Below C w w') (hg : g < C) : OwnT w' B g l := ⟨h.low, (hb.block g hg).trans h.blk⟩
theorem OwnT.later {w w' : World} {B g : Nat} {l : List (List UInt8)} (h : OwnT w B g l) (hb : Below w.heap.size w w') : OwnT w' B g l := h.below hb h.lt
theorem OwnT.other {w : World} {B g : Nat} {l : List (List UInt8)} (h : OwnT w B g l) (a : Addr) (v : Value) (hg : g ≠ a.block) : OwnT (w.setCell a v) B g l := ⟨h.low, (heap_setCell_other w a g v hg).trans h.blk⟩
theorem OwnT.cell {w : World} {B g : Nat} {l : List (List UInt8)} (h : OwnT w B g l) {j : Nat} (hj : j < l.length) : w.cell? ⟨g, j, none⟩ = some (.string ⟨l[j].toArray⟩) := by
  rw [cell_of_row w g j _ 9 (0, 0) h.blk]
  have := strV_at l j hj
  simpa using this
theorem OwnT.free {w : World} {B g : Nat} {l : List (List UInt8)} (h : OwnT w B g l) (j : Nat) : w.frozen? ⟨g, j, none⟩ = false := frozen_of_row w g j _ 9 h.blk
theorem OwnT.set {w : World} {B g : Nat} {l : List (List UInt8)} (h : OwnT w B g l) (j : Nat) (s : List UInt8) : OwnT (w.setCell ⟨g, j, none⟩ (.string ⟨s.toArray⟩)) B g (l.set j s) := by
  refine ⟨h.low, ?_⟩
  rw [heap_setCell_same w g j _ 9 _ h.blk]
  have e : strV (l.set j s) = (strV l).set j (.string ⟨s.toArray⟩) := by simp only [strV, List.map_set]
  rw [e]
  simp
/-- structs of three integers as cells -/
def triC : List (Int × Int × Int) → List Value
  | [] => []
  | x :: r => .int .i64 x.1 :: .int .i64 x.2.1 :: .int .i64 x.2.2 :: triC r
theorem triC_length (l : List (Int × Int × Int)) : (triC l).length = l.length * 3 := by
  induction l with
  | nil => rfl
  | cons x r ih => simp only [triC, List.length_cons, ih]; omega
theorem triC_append (a b : List (Int × Int × Int)) : triC (a ++ b) = triC a ++ triC b := by
  induction a with
  | nil => rfl
  | cons x r ih => simp [triC, ih]
theorem triC_one (l : List (Int × Int × Int)) : ∀ u ∈ triC l, u.oneCell' = true := by
  induction l with
  | nil => intro u hu; cases hu
  | cons x r ih =>
    intro u hu
    simp only [triC, List.mem_cons] at hu
    rcases hu with rfl | rfl | rfl | hu
    · rfl
    · rfl
    · rfl
    · exact ih u hu
theorem triC_at : ∀ (l : List (Int × Int × Int)) (k : Nat) (h : k < l.length), (triC l)[k * 3]? = some (.int .i64 l[k].1) ∧ (triC l)[k * 3 + 1]? = some (.int .i64 l[k].2.1) ∧ (triC l)[k * 3 + 2]? = some (.int .i64 l[k].2.2)
  | x :: r, 0, _ => ⟨rfl, rfl, rfl⟩
  | x :: r, k + 1, h => by
    have := triC_at r k (by simpa using h)
    rw [show (k + 1) * 3 = k * 3 + 1 + 1 + 1 by omega]
    simpa [triC] using this
/-- structs of three integers in a block of their own, from block B on, that may be written -/
structure OwnR (w : World) (t : TypeId) (B g : Nat) (l : List (Int × Int × Int)) : Prop where
  low : B ≤ g
  blk : w.heap[g]? = some (.cells (triC l).toArray t (0, 0))
theorem OwnR.lt {w : World} {t : TypeId} {B g : Nat} {l : List (Int × Int × Int)} (h : OwnR w t B g l) : g < w.heap.size := block_lt h.blk
theorem OwnR.below {w w' : World} {t : TypeId} {B C g : Nat} {l : List (Int × Int × Int)} (h : OwnR w t B g l) (hb : Below C w w') (hg : g < C) : OwnR w' t B g l := ⟨h.low, (hb.block g hg).trans h.blk⟩
theorem OwnR.later {w w' : World} {t : TypeId} {B g : Nat} {l : List (Int × Int × Int)} (h : OwnR w t B g l) (hb : Below w.heap.size w w') : OwnR w' t B g l := h.below hb h.lt
theorem OwnR.cells {w : World} {t : TypeId} {B g : Nat} {l : List (Int × Int × Int)} (h : OwnR w t B g l) {k : Nat} (hk : k < l.length) : w.cell? ⟨g, k * 3, none⟩ = some (.int .i64 l[k].1) ∧ w.cell? ⟨g, k * 3 + 1, none⟩ = some (.int .i64 l[k].2.1) ∧ w.cell? ⟨g, k * 3 + 2, none⟩ = some (.int .i64 l[k].2.2) := by
  obtain ⟨h0, h1, h2⟩ := triC_at l k hk
  refine ⟨?_, ?_, ?_⟩
  · rw [cell_of_row w g _ _ _ _ h.blk]; simpa using h0
  · rw [cell_of_row w g _ _ _ _ h.blk]; simpa using h1
  · rw [cell_of_row w g _ _ _ _ h.blk]; simpa using h2
theorem OwnR.free {w : World} {t : TypeId} {B g : Nat} {l : List (Int × Int × Int)} (h : OwnR w t B g l) (j : Nat) : w.frozen? ⟨g, j, none⟩ = false := frozen_of_row w g j _ _ h.blk
theorem Trs.of_own {w : World} {base : Nat} {e : TypeId} {n : Nat} {v : Value} {l : List (Int × Int × Int)} (h : w.ownsRow base e 3 v n (triC l)) : ∃ A c, v = .slice A n c ∧ Trs w A n c l := by
  obtain ⟨A, c, rfl, h1, h2⟩ := ownsRow_form h
  have hr : Row w A (triC l) := Row.of_own h
  have hl : l.length = n := by have := h.1; rw [triC_length] at this; omega
  refine ⟨A, c, rfl, hl, h1, by simpa [maxLen] using h2, fun k hk => ?_⟩
  obtain ⟨h0, h1, h2⟩ := triC_at l k hk
  obtain ⟨ad, rfl, g0⟩ := hr _ _ h0
  exact ⟨ad, rfl, g0, hr.at_ h1, hr.at_ h2⟩

end Go.Proofs.Ytcmehjjaologpaa

/-
  Layer 18: the reference's Find.
-/
namespace Go.Proofs.Ytcmehjjaologpaa
open Go.RowKit
set_option linter.unusedVariables false
set_option linter.unusedSimpArgs false

/-- a device as a value, in a variable -/
def devV18 (d : Dev18) (A : Option Addr) (m c : Nat) : Value := .agg #[.int .i64 d.id, .int .i64 d.tx, .int .i64 d.made, .int .i64 d.snap, .slice A m c]
def DevC (w : World) (b : Nat) (v0 v1 v2 v3 v4 : Value) : Prop := w.heap[b]? = some (.cells #[v0, v1, v2, v3, v4] 36 (0, 0))
theorem DevC.load {w : World} {b : Nat} {a0 a1 a2 a3 : Int} {A : Option Addr} {n c : Nat} (h : DevC w b (.int .i64 a0) (.int .i64 a1) (.int .i64 a2) (.int .i64 a3) (.slice A n c)) : (loadVar 36 ⟨b, 0, none⟩).run Try.prog w = .ok (.agg #[.int .i64 a0, .int .i64 a1, .int .i64 a2, .int .i64 a3, .slice A n c]) w := run_loadVar_row w b _ _ _ _ _ h Try.underlying36 rfl (by kernel_rfl)
theorem DevC.set5 {w : World} {b : Nat} {v0 v1 v2 v3 v4 : Value} (h : DevC w b v0 v1 v2 v3 v4) (a0 a1 a2 a3 a4 : Value) : DevC (((((w.setCell ⟨b, 0, none⟩ a0).setCell ⟨b, 1, none⟩ a1).setCell ⟨b, 2, none⟩ a2).setCell ⟨b, 3, none⟩ a3).setCell ⟨b, 4, none⟩ a4) b a0 a1 a2 a3 a4 := by
  have h1 : Blk w b 36 [v0, v1, v2, v3, v4] := h
  exact ((((h1.set 0 a0).set 1 a1).set 2 a2).set 3 a3).set 4 a4
theorem DevC.cs {W : World} {b : Nat} {v0 v1 v2 v3 v4 : Value} (h : DevC W b v0 v1 v2 v3 v4) : (W.cell? ⟨b, 0, none⟩ = some v0 ∧ W.cell? ⟨b, 1, none⟩ = some v1 ∧ W.cell? ⟨b, 2, none⟩ = some v2 ∧ W.cell? ⟨b, 3, none⟩ = some v3 ∧ W.cell? ⟨b, 4, none⟩ = some v4) ∧ W.frozen? ⟨b, 0, none⟩ = false ∧ W.frozen? ⟨b, 1, none⟩ = false ∧ W.frozen? ⟨b, 2, none⟩ = false ∧ W.frozen? ⟨b, 3, none⟩ = false ∧ W.frozen? ⟨b, 4, none⟩ = false :=
  ⟨⟨by rw [cell_of_row W b 0 _ _ _ h]; rfl, by rw [cell_of_row W b 1 _ _ _ h]; rfl, by rw [cell_of_row W b 2 _ _ _ h]; rfl, by rw [cell_of_row W b 3 _ _ _ h]; rfl, by rw [cell_of_row W b 4 _ _ _ h]; rfl⟩, frozen_of_row W b 0 _ _ h, frozen_of_row W b 1 _ _ h, frozen_of_row W b 2 _ _ h, frozen_of_row W b 3 _ _ h, frozen_of_row W b 4 _ _ h⟩
end Go.Proofs.Ytcmehjjaologpaa

/-
  Layer 18: the reference's SameDevice.
-/
namespace Go.Proofs.Ytcmehjjaologpaa
open Go.RowKit
set_option linter.unusedVariables false
set_option linter.unusedSimpArgs false

/-- are devices the same -/
def SamD18 (a b : Dev18) : Prop := a.id = b.id ∧ a.tx = b.tx ∧ a.made = b.made ∧ a.snap = b.snap ∧ a.maps = b.maps
instance (a b : Dev18) : Decidable (SamD18 a b) := inferInstanceAs (Decidable (_ ∧ _))
end Go.Proofs.Ytcmehjjaologpaa

/-
  Layer 18: slices.Equal of mappings; alike.
-/
namespace Go.Proofs.Ytcmehjjaologpaa
open Go.RowKit
set_option linter.unusedVariables false
set_option linter.unusedSimpArgs false

end Go.Proofs.Ytcmehjjaologpaa

/-
  Layer 18: the reference's Same.
-/
namespace Go.Proofs.Ytcmehjjaologpaa
open Go.RowKit
set_option linter.unusedVariables false
set_option linter.unusedSimpArgs false

def PolC (w : World) (b : Nat) (v0 v1 v2 v3 v4 : Value) : Prop := w.heap[b]? = some (.cells #[v0, v1, v2, v3, v4] 24 (0, 0))
theorem PolC.cs {W : World} {b : Nat} {v0 v1 v2 v3 v4 : Value} (h : PolC W b v0 v1 v2 v3 v4) : W.cell? ⟨b, 0, none⟩ = some v0 ∧ W.cell? ⟨b, 1, none⟩ = some v1 ∧ W.cell? ⟨b, 2, none⟩ = some v2 ∧ W.cell? ⟨b, 3, none⟩ = some v3 ∧ W.cell? ⟨b, 4, none⟩ = some v4 :=
  ⟨by rw [cell_of_row W b 0 _ _ _ h]; rfl, by rw [cell_of_row W b 1 _ _ _ h]; rfl, by rw [cell_of_row W b 2 _ _ _ h]; rfl, by rw [cell_of_row W b 3 _ _ _ h]; rfl, by rw [cell_of_row W b 4 _ _ _ h]; rfl⟩
theorem PolC.later {W W' : World} {lo b : Nat} {v0 v1 v2 v3 v4 : Value} (h : PolC W b v0 v1 v2 v3 v4) (hb : Below lo W W') (hl : b < lo) : PolC W' b v0 v1 v2 v3 v4 := (hb.block _ hl).trans h

end Go.Proofs.Ytcmehjjaologpaa

/-
  Layer 18: slices.EqualFunc of devices; Same.
-/
namespace Go.Proofs.Ytcmehjjaologpaa
open Go.RowKit
set_option linter.unusedVariables false
set_option linter.unusedSimpArgs false

end Go.Proofs.Ytcmehjjaologpaa

/-
  Layer 18: the reference's Refs, once its Check is known.
-/
namespace Go.Proofs.Ytcmehjjaologpaa
open Go.RowKit
set_option linter.unusedVariables false
set_option linter.unusedSimpArgs false

theorem some18_few {ds : List Dev18} {i k : Nat} (h : i < ds.length) (hk : k ≤ (ds.getD i zero18).maps.length) : (some18 ds i k).length ≤ cnt18 ds := by
  have h1 := cnt18_take h
  have h2 := cnt18_le (ds := ds) (i + 1)
  unfold some18
  rw [List.length_append, List.length_map, List.length_take, blks18_length]
  omega
theorem refs18_at {n j : Nat} (bs : List Int) (h : j < n) : 0 ≤ (refs18 n bs).getD j 0 ∧ (refs18 n bs).getD j 0 ≤ (bs.length : Int) := by
  rw [getD18 (by rw [refs18_length]; exact h)]
  have := List.count_le_length (a := (j : Int)) (l := bs)
  simp only [refs18, List.getElem_map, List.getElem_range]
  omega

set_option maxRecDepth 100000 in
set_option maxHeartbeats 1600000 in
theorem refRefs_good18 (p : Pol18) (A : Option Addr) (n c : Nat) (w : World) (h : Dvs w A n c p.devs) (hv : chkE18 p = 0) (D : Nat) (hD : p.data = (D : Int)) (hD2 : D ≤ 65536) (hcn : cnt18 p.devs ≤ 16384)
    (CK : ∀ W, Below w.heap.size w W → Calls Try.prog 22 #[polV18 p A n c] W fun e w' => e = .returned (.int .i64 (chkE18 p)) ∧ Below W.heap.size W w') :
    Calls Try.prog 24 #[polV18 p A n c] w fun e w' => ∃ A' c', e = .returned (.slice A' D c') ∧ Ints w' A' D c' (refs18 D (blks18 p.devs)) ∧ Below w.heap.size w w' := by
  have hle : n ≤ 9223372036854775807 := Nat.le_trans h.cap h.most
  have hl := h.len
  obtain ⟨W0, hW0⟩ : ∃ W0, w.alloc (.cells #[.int .i64 p.tx, .int .i64 p.time, .int .i64 p.unit, .int .i64 p.data, .slice A n c] 24) = W0 := ⟨_, rfl⟩
  have hs0 : W0.heap.size = w.heap.size + 1 := by rw [← hW0]; exact World.size_alloc _ _
  have hb0 : Below w.heap.size w W0 := by rw [← hW0]; exact (Below.refl _ _).alloc (Nat.le_refl _) _
  have hR0 : W0.heap[w.heap.size]? = some (Obj.cells #[.int .i64 p.tx, .int .i64 p.time, .int .i64 p.unit, .int .i64 p.data, .slice A n c] 24 (0, 0)) := by rw [← hW0]; exact heap_alloc_new w _
  have c0 : W0.cell? ⟨w.heap.size, 0, none⟩ = some (.int .i64 p.tx) := by rw [cell_of_row W0 w.heap.size 0 _ _ _ hR0]; rfl
  have c1 : W0.cell? ⟨w.heap.size, 1, none⟩ = some (.int .i64 p.time) := by rw [cell_of_row W0 w.heap.size 1 _ _ _ hR0]; rfl
  have c2 : W0.cell? ⟨w.heap.size, 2, none⟩ = some (.int .i64 p.unit) := by rw [cell_of_row W0 w.heap.size 2 _ _ _ hR0]; rfl
  have c3 : W0.cell? ⟨w.heap.size, 3, none⟩ = some (.int .i64 p.data) := by rw [cell_of_row W0 w.heap.size 3 _ _ _ hR0]; rfl
  have c4 : W0.cell? ⟨w.heap.size, 4, none⟩ = some (.slice A n c) := by rw [cell_of_row W0 w.heap.size 4 _ _ _ hR0]; rfl
  have CK1 : Hid (Calls Try.prog 22 #[.agg #[.int .i64 p.tx, .int .i64 p.time, .int .i64 p.unit, .int .i64 (D : Int), .slice A n c]] W0 fun e w' => e = .returned (.int .i64 0) ∧ Below W0.heap.size W0 w') := by
    have := CK W0 hb0
    rw [hv] at this
    rw [← hD]
    exact this
  have HD : Hid (∀ k, k < n → ∃ b off A' m c', A = some ⟨b, off, none⟩ ∧ b < w.heap.size ∧ w.cell? ⟨b, off + k * 5 + 4, none⟩ = some (.slice A' m c') ∧ Trs w A' m c' (p.devs.getD k zero18).maps) := fun k hk => by
    obtain ⟨b, off, A', m, c', e, hb, _, _, _, _, g4, hT⟩ := h.at18 hk
    exact ⟨b, off, A', m, c', e, hb, g4, hT⟩
  have IN : Hid (∀ i k, i < n → k < (p.devs.getD i zero18).maps.length → ∃ j : Nat, ((p.devs.getD i zero18).maps.getD k (0, 0, 0)).2.1 = (j : Int) ∧ j < D ∧ refs18 D (some18 p.devs i (k + 1)) = (refs18 D (some18 p.devs i k)).set j ((refs18 D (some18 p.devs i k)).getD j 0 + 1) ∧ 0 ≤ (refs18 D (some18 p.devs i k)).getD j 0 ∧ (refs18 D (some18 p.devs i k)).getD j 0 ≤ 16384) := fun i k hi hk => by
    have hil : i < p.devs.length := by omega
    have hb := blks18_in hv ((p.devs.getD i zero18).maps.getD k (0, 0, 0)).2.1 (by
      refine List.mem_flatMap.2 ⟨p.devs.getD i zero18, by rw [getD18 hil]; exact List.getElem_mem hil, List.mem_map.2 ⟨(p.devs.getD i zero18).maps.getD k (0, 0, 0), by rw [getD18 hk]; exact List.getElem_mem hk, rfl⟩⟩)
    obtain ⟨j, hj⟩ := Int.eq_ofNat_of_zero_le hb.1
    have hjD : j < D := by have := hb.2; rw [hj, hD] at this; omega
    have hst := some18_map (ds := p.devs) (i := i) (k := k) hk
    rw [hj] at hst
    have hfw := some18_few hil (Nat.le_of_lt hk)
    have hat := refs18_at (some18 p.devs i k) hjD
    exact ⟨j, hj, hjD, by rw [hst]; exact refs18_step D _ j hjD, hat.1, by omega⟩
  have SN := Lib.hid (fun (i : Nat) (hi : i < n) => some18_next (ds := p.devs) (i := i) (by omega))
  have SA : Hid (some18 p.devs n 0 = blks18 p.devs) := by rw [← hl]; exact Lib.hid (some18_all _)
  have S0 := Lib.hid (some18_zero p.devs)
  have LN := Lib.hid (fun bs => refs18_length D bs)
  have RN := Lib.hid (refs18_nil D)
  have HB := Lib.hid hb0
  have HS0 := Lib.hid hs0
  obtain ⟨i0, hi0, hz0, hz1, hz2⟩ := info_parts info_i64
  clear h hb0 hR0 CK hv
  unfold polV18
  rw [hD] at *
  generalize p.tx = v0 at *
  generalize p.time = v1 at *
  generalize p.unit = v2 at *
  generalize p.devs = ds at *
  go_enter Try.func24, Try.ntmps24
  go_wp2_with (first
    | (go_at_call 22; (with_reducible refine (CK1.out).mono ?_); rintro e w1 ⟨rfl, hb1⟩; have HB1 := Lib.hid hb1; have k3 := (hb1.cell (p := ⟨w.heap.size, 3, none⟩) (by show w.heap.size < W0.heap.size; omega)).trans c3; have k4 := (hb1.cell (p := ⟨w.heap.size, 4, none⟩) (by show w.heap.size < W0.heap.size; omega)).trans c4; clear hb1)
    | (at_make; refine wpList_make_full w1 rfl (.tmp 10) (.tmp 10) _ rfl w1.heap.size 3 i0 _ 1 Try.underlying42 hi0 hz0 hz1 .i64 .i64 _ _ D rfl rfl rfl rfl (by rw [hz2]; omega) (by simp only [maxLen]; omega) (Nat.le_refl _) ?_; intro w2 hown2 hg2; have hb2 := Lib.hid (below_of_grown hg2 (by simp)); have HO2 := Lib.hid (own_zerosI hown2 (Nat.le_refl _)); clear hown2 hg2))
  have hG : w.heap.size + 1 ≤ w1.heap.size := by have := HB1.out.size; have := HS0.out; omega
  have HO3 : Hid (OwnI w2 w1.heap.size w1.heap.size (refs18 D (some18 ds 0 0))) := by rw [S0.out, RN.out]; exact HO2.out
  have HBW : Hid (Below (w.heap.size + 1) W0 w2) := (HB1.out.mono (by have := HS0.out; omega)).trans (hb2.out.mono hG)
  clear HO2 hi0 hz0 hz1 hz2 k3 k4 HB1 hb2 CK1
  generalize w1.heap.size = G at *
  go_loopw [4] (fun i wr => ∃ k : Nat, k ≤ n ∧ i = .int .i64 k ∧ Hid (OwnI wr G G (refs18 D (some18 ds k 0))) ∧ Hid (Below (w.heap.size + 1) W0 wr)) (fun i _ => n - (intOf i).toNat)
  case atStart => exact ⟨0, by omega, rfl, HO3, HBW⟩
  case round =>
    clear HO3 HBW
    obtain ⟨i, hi, rfl, hO, hbel⟩ := hrel
    have k4 := (hbel.out.cell (p := ⟨w.heap.size, 4, none⟩) (Nat.lt_succ_self _)).trans c4
    by_cases hlt : i < n
    · obtain ⟨b, off, A', m, c', rfl, hb, g4, hT⟩ := HD.out i hlt
      have hml := hT.len
      have hme : m ≤ 9223372036854775807 := Nat.le_trans hT.cap hT.most
      have HT := Lib.hid hT
      have HN := Lib.hid (SN.out i hlt)
      have HI := Lib.hid (IN.out i)
      clear hT
      have gg4 := (hbel.out.cell (p := ⟨b, off + i * 5 + 4, none⟩) (by show b < w.heap.size + 1; omega)).trans ((HB.out.cell (p := ⟨b, off + i * 5 + 4, none⟩) hb).trans g4)
      go_wp2
      go_loopw [5] (fun i' wr' => ∃ k : Nat, k ≤ m ∧ i' = .int .i64 k ∧ Hid (OwnI wr' G G (refs18 D (some18 ds i k))) ∧ Hid (Below (w.heap.size + 1) W0 wr')) (fun i' _ => m - (intOf i').toNat)
      case atStart => exact ⟨0, by omega, rfl, hO, hbel⟩
      case round =>
        clear hO hbel k4 gg4
        obtain ⟨k, hk, rfl, hO, hbel⟩ := hrel
        have k4 := (hbel.out.cell (p := ⟨w.heap.size, 4, none⟩) (Nat.lt_succ_self _)).trans c4
        have gg4 := (hbel.out.cell (p := ⟨b, off + i * 5 + 4, none⟩) (by show b < w.heap.size + 1; omega)).trans ((HB.out.cell (p := ⟨b, off + i * 5 + 4, none⟩) hb).trans g4)
        by_cases hkm : k < m
        · obtain ⟨b2, off2, x0, x1, x2, rfl, hb2, hx, hkl, _, d1, _⟩ := trs_at18 HT.out hkm
          have e1 := (hbel.out.cell (p := ⟨b2, off2 + k * 3 + 1, none⟩) (by show b2 < w.heap.size + 1; omega)).trans ((HB.out.cell (p := ⟨b2, off2 + k * 3 + 1, none⟩) hb2).trans d1)
          obtain ⟨j, hj, hjD, hst, hz0, hz1⟩ := HI.out k hlt hkl
          rw [hx] at hj
          have hj : x1 = (j : Int) := hj
          subst hj
          have hcj := hO.out.cell (j := j) (by rw [LN.out]; exact hjD)
          have hfj := hO.out.free j
          have HS := hO.out.set j ((refs18 D (some18 ds i k)).getD j 0 + 1)
          rw [← hst] at HS
          rw [← getD18 (by rw [LN.out]; exact hjD) (0 : Int)] at hcj
          have HSH := Lib.hid HS
          have hGw : w.heap.size + 1 ≤ G := hG
          have HBN : Hid (Below (w.heap.size + 1) W0 (wr.setCell ⟨G, j, none⟩ (.int .i64 ((refs18 D (some18 ds i k)).getD j 0 + 1)))) := hbel.out.setCell (p := ⟨G, j, none⟩) hG _
          clear HS hst hx d1
          generalize (refs18 D (some18 ds i k)).getD j 0 = y at *
          go_wp2
          go_roundw
          all_goals first
            | exact ⟨k + 1, by omega, by push_cast; rfl, HSH, HBN⟩
            | (simp only [intOf]; omega)
        · obtain rfl : k = m := by omega
          have hn := HN.out
          rw [show (ds.getD i zero18).maps.length = k from hml] at hn
          rw [← hn] at hO
          clear hn
          go_wp2
          go_roundw
          all_goals first
            | exact ⟨i + 1, by omega, by push_cast; rfl, hO, hbel⟩
            | (simp only [intOf]; omega)
    · obtain rfl : i = n := by omega
      rw [SA.out] at hO
      have HF := Lib.hid (hO.out.ints (n := D) (LN.out _) (by omega))
      go_wp2
      go_ret
      exact ⟨_, _, rfl, HF.out, HB.out.trans (hbel.out.mono (Nat.le_succ _))⟩
end Go.Proofs.Ytcmehjjaologpaa

/-
  Layer 18: the reference's Check, where the pool's own numbers are wrong or it has too much.
-/
namespace Go.Proofs.Ytcmehjjaologpaa
open Go.RowKit
set_option linter.unusedVariables false
set_option linter.unusedSimpArgs false

set_option maxRecDepth 100000 in
set_option maxHeartbeats 1600000 in
theorem refCheck_head18 (p : Pol18) (A : Option Addr) (n c : Nat) (w : World) (h : headR18 p = false) :
    Calls Try.prog 22 #[polV18 p A n c] w fun e w' => e = .returned (.int .i64 (chkE18 p)) ∧ Below w.heap.size w w' := by
  rw [chkE18_head h]
  obtain ⟨W0, hW0⟩ : ∃ W0, w.alloc (.cells #[.int .i64 p.tx, .int .i64 p.time, .int .i64 p.unit, .int .i64 p.data, .slice A n c] 24) = W0 := ⟨_, rfl⟩
  have hb0 : Below w.heap.size w W0 := by rw [← hW0]; exact (Below.refl _ _).alloc (Nat.le_refl _) _
  have hR0 : W0.heap[w.heap.size]? = some (Obj.cells #[.int .i64 p.tx, .int .i64 p.time, .int .i64 p.unit, .int .i64 p.data, .slice A n c] 24 (0, 0)) := by rw [← hW0]; exact heap_alloc_new w _
  have c0 : W0.cell? ⟨w.heap.size, 0, none⟩ = some (.int .i64 p.tx) := by rw [cell_of_row W0 w.heap.size 0 _ _ _ hR0]; rfl
  have c1 : W0.cell? ⟨w.heap.size, 1, none⟩ = some (.int .i64 p.time) := by rw [cell_of_row W0 w.heap.size 1 _ _ _ hR0]; rfl
  have c2 : W0.cell? ⟨w.heap.size, 2, none⟩ = some (.int .i64 p.unit) := by rw [cell_of_row W0 w.heap.size 2 _ _ _ hR0]; rfl
  have c3 : W0.cell? ⟨w.heap.size, 3, none⟩ = some (.int .i64 p.data) := by rw [cell_of_row W0 w.heap.size 3 _ _ _ hR0]; rfl
  have HB := Lib.hid hb0
  have I0 := Lib.hid (fun W => refIn_any18 p.tx 0 2147483647 W)
  have I1 := Lib.hid (fun W => refIn_any18 p.time 0 16777215 W)
  have I2 := Lib.hid (fun W => refIn_any18 p.unit 1 65536 W)
  have I3 := Lib.hid (fun W => refIn_any18 p.data 0 65536 W)
  unfold headR18 at h
  generalize in18 p.tx 0 2147483647 = r0 at *
  generalize in18 p.time 0 16777215 = r1 at *
  generalize in18 p.unit 1 65536 = r2 at *
  generalize in18 p.data 0 65536 = r3 at *
  clear hb0 hR0
  unfold polV18
  generalize p.tx = v0 at *
  generalize p.time = v1 at *
  generalize p.unit = v2 at *
  generalize p.data = v3 at *
  cases r0 <;> cases r1 <;> cases r2 <;> cases r3
  all_goals first
    | (exfalso; revert h; decide)
    | (clear h
       go_enter Try.func22, Try.ntmps22
       go_wp2_with (go_at_call 31; (first
         | (with_reducible refine (I0.out _).mono ?_)
         | (with_reducible refine (I1.out _).mono ?_)
         | (with_reducible refine (I2.out _).mono ?_)
         | (with_reducible refine (I3.out _).mono ?_)); rintro e w' ⟨rfl, rfl⟩)
       go_ret
       exact ⟨rfl, HB.out⟩)

set_option maxRecDepth 100000 in
set_option maxHeartbeats 1600000 in
theorem refCheck_many18 (p : Pol18) (A : Option Addr) (n c : Nat) (w : World) (hd : Dvs w A n c p.devs) (hc : cnt18 p.devs ≤ 1000000) (h : headR18 p = true) (h2 : 4096 < p.devs.length ∨ 16384 < cnt18 p.devs) :
    Calls Try.prog 22 #[polV18 p A n c] w fun e w' => e = .returned (.int .i64 (chkE18 p)) ∧ Below w.heap.size w w' := by
  rw [chkE18_many h h2]
  have hle : n ≤ 9223372036854775807 := Nat.le_trans hd.cap hd.most
  obtain ⟨W0, hW0⟩ : ∃ W0, w.alloc (.cells #[.int .i64 p.tx, .int .i64 p.time, .int .i64 p.unit, .int .i64 p.data, .slice A n c] 24) = W0 := ⟨_, rfl⟩
  have hb0 : Below w.heap.size w W0 := by rw [← hW0]; exact (Below.refl _ _).alloc (Nat.le_refl _) _
  have hR0 : W0.heap[w.heap.size]? = some (Obj.cells #[.int .i64 p.tx, .int .i64 p.time, .int .i64 p.unit, .int .i64 p.data, .slice A n c] 24 (0, 0)) := by rw [← hW0]; exact heap_alloc_new w _
  have c0 : W0.cell? ⟨w.heap.size, 0, none⟩ = some (.int .i64 p.tx) := by rw [cell_of_row W0 w.heap.size 0 _ _ _ hR0]; rfl
  have c1 : W0.cell? ⟨w.heap.size, 1, none⟩ = some (.int .i64 p.time) := by rw [cell_of_row W0 w.heap.size 1 _ _ _ hR0]; rfl
  have c2 : W0.cell? ⟨w.heap.size, 2, none⟩ = some (.int .i64 p.unit) := by rw [cell_of_row W0 w.heap.size 2 _ _ _ hR0]; rfl
  have c3 : W0.cell? ⟨w.heap.size, 3, none⟩ = some (.int .i64 p.data) := by rw [cell_of_row W0 w.heap.size 3 _ _ _ hR0]; rfl
  have c4 : W0.cell? ⟨w.heap.size, 4, none⟩ = some (.slice A n c) := by rw [cell_of_row W0 w.heap.size 4 _ _ _ hR0]; rfl
  have HB := Lib.hid hb0
  have hl := hd.len
  have CT := Lib.hid (refCount_any18 p A n c W0 (hd.below hb0) hc)
  unfold polV18 at CT
  have I0 := Lib.hid (fun W => refIn_any18 p.tx 0 2147483647 W)
  have I1 := Lib.hid (fun W => refIn_any18 p.time 0 16777215 W)
  have I2 := Lib.hid (fun W => refIn_any18 p.unit 1 65536 W)
  have I3 := Lib.hid (fun W => refIn_any18 p.data 0 65536 W)
  unfold headR18 at h
  simp only [Bool.and_eq_true] at h
  obtain ⟨⟨⟨r0, r1⟩, r2⟩, r3⟩ := h
  rw [r0] at I0
  rw [r1] at I1
  rw [r2] at I2
  rw [r3] at I3
  rw [hl] at h2
  clear hb0 hR0 hd r0 r1 r2 r3
  unfold polV18
  generalize cnt18 p.devs = x at *
  generalize p.tx = v0 at *
  generalize p.time = v1 at *
  generalize p.unit = v2 at *
  generalize p.data = v3 at *
  by_cases hn : 4096 < n
  · go_enter Try.func22, Try.ntmps22
    go_wp2_with (go_at_call 31; (first
         | (with_reducible refine (I0.out _).mono ?_)
         | (with_reducible refine (I1.out _).mono ?_)
         | (with_reducible refine (I2.out _).mono ?_)
         | (with_reducible refine (I3.out _).mono ?_)); rintro e w' ⟨rfl, rfl⟩)
    go_ret
    exact ⟨rfl, HB.out⟩
  · have hx : 16384 < x := by omega
    go_enter Try.func22, Try.ntmps22
    go_wp2_with (first
      | (go_at_call 32; (with_reducible refine (CT.out).mono ?_); rintro e w3 ⟨rfl, hb3⟩; have HB3 := Lib.hid (HB.out.trans (hb3.mono HB.out.size)); clear hb3)
      | (go_at_call 31; (first
         | (with_reducible refine (I0.out _).mono ?_)
         | (with_reducible refine (I1.out _).mono ?_)
         | (with_reducible refine (I2.out _).mono ?_)
         | (with_reducible refine (I3.out _).mono ?_)); rintro e w' ⟨rfl, rfl⟩))
    go_ret
    exact ⟨rfl, HB3.out⟩
end Go.Proofs.Ytcmehjjaologpaa
