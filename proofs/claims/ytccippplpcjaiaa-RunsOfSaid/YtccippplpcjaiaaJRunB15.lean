/-
  Joined: RunG, RunH, RunPA, RunPC, RunP, RunLv, RunLawB.
-/
import Derived.Test.YtccippplpcjaiaaJRunB14
import Derived.Test.YtccippplpcjaiaaJRunB03
import Derived.Deep.RegionHeld3
import Derived.Test.YtccippplpcjaiaaJRunB00
import Derived.Test.YtccippplpcjaiaaJRunB10
import Derived.Test.YtccippplpcjaiaaJRunB11
/-
  Layer 19: what the program's extender keeps in memory.
-/
namespace Go.Proofs.Ytccippplpcjaiaa
open Go.RowKit
set_option linter.unusedVariables false
set_option linter.unusedSimpArgs false

/-- one variable in a block of its own -/
def Bx19 (w : World) (b : Nat) (T : TypeId) (v : Value) : Prop := w.heap[b]? = some (Obj.cells #[v] T (0, 0))
section
variable {w w' : World} {b : Nat} {T : TypeId} {v : Value}
theorem Bx19.cell (h : Bx19 w b T v) : w.cell? ⟨b, 0, none⟩ = some v := by rw [cell_of_row w b 0 _ _ _ h]; rfl
theorem Bx19.free (h : Bx19 w b T v) : w.frozen? ⟨b, 0, none⟩ = false := frozen_of_row w b 0 _ _ h
theorem Bx19.kept (h : Bx19 w b T v) (hk : w'.heap[b]? = w.heap[b]?) : Bx19 w' b T v := hk.trans h
theorem Bx19.store (h : Bx19 w b T v) (v' : Value) : Bx19 (w.setCell ⟨b, 0, none⟩ v') b T v' := by
  unfold Bx19
  rw [heap_setCell_same w b 0 _ _ _ h]
  rfl
end
theorem own19_set {w : World} {b g : Nat} {e : TypeId} {size n c : Nat} {xs : List Value} (h : w.ownsRow b e size (.slice (some ⟨g, 0, none⟩) n c) n xs) {j : Nat} (hj : j < n * size) (u : Value) : (w.setCell ⟨g, j, none⟩ u).ownsRow b e size (.slice (some ⟨g, 0, none⟩) n c) n (xs.set j u) := by
  rcases h.2 with ⟨hv, _⟩ | ⟨g', cap, cur, hv, hg, hh, h1, h2, h3, h4⟩
  · cases hv
  · cases hv
    refine ⟨by rw [List.length_set]; exact h.1, .inr ⟨g, c, cur.setIfInBounds j u, rfl, hg, heap_setCell_same w g j _ _ _ hh, h1, h2, by simp [h3], ?_⟩⟩
    rw [Array.toList_setIfInBounds, List.take_set, h4]
theorem own19_free {w : World} {b g : Nat} {e : TypeId} {size n c : Nat} {xs : List Value} (h : w.ownsRow b e size (.slice (some ⟨g, 0, none⟩) n c) n xs) (j : Nat) : w.frozen? ⟨g, j, none⟩ = false := by
  rcases h.2 with ⟨hv, _⟩ | ⟨g', cap, cur, hv, hg, hh, _⟩
  · cases hv
  · cases hv
    exact frozen_of_row w g j _ _ hh
theorem own19_at {w : World} {b g : Nat} {e : TypeId} {size n c : Nat} {xs : List Value} (h : w.ownsRow b e size (.slice (some ⟨g, 0, none⟩) n c) n xs) {j : Nat} {v : Value} (hv : xs[j]? = some v) : w.cell? ⟨g, j, none⟩ = some v := by
  obtain ⟨ad, e, hc⟩ := (Row.of_own h) j v hv
  cases e
  simpa [Addr.add_lit] using hc
theorem own19_form {w : World} {b : Nat} {e : TypeId} {size n c : Nat} {A : Option Addr} {xs : List Value} (h : w.ownsRow b e size (.slice A n c) n xs) (hn : 0 < n) : ∃ g, A = some ⟨g, 0, none⟩ ∧ b ≤ g ∧ g < w.heap.size := by
  rcases h.2 with ⟨_, h0⟩ | ⟨g', cap, cur, hv, hg, hh, _⟩
  · omega
  · cases hv
    exact ⟨_, rfl, hg, block_lt hh⟩

/-- the list in its variable, block B; the pointer to it, block B + 1; the runs in a row of their own behind -/
structure Ex19 (w0 W : World) (B : Nat) (A : Option Addr) (c : Nat) (o : List Run19) : Prop where
  bel : Below w0.heap.size w0 W
  lo : w0.heap.size ≤ B
  sz : B + 2 ≤ W.heap.size
  row : W.ownsRow (B + 2) 41 4 (.slice A o.length c) o.length (runC o)
  lst : Bx19 W B 26 (.slice A o.length c)
  ptr : Bx19 W (B + 1) 44 (.pointer (some ⟨B, 0, none⟩))
section
variable {w0 W W' : World} {B : Nat} {A : Option Addr} {c : Nat} {o : List Run19}
theorem Ex19.later (h : Ex19 w0 W B A c o) (hb : Below W.heap.size W W') : Ex19 w0 W' B A c o := by
  have hs := h.sz
  have hl := h.lo
  exact ⟨h.bel.trans (hb.mono h.bel.size), h.lo, Nat.le_trans h.sz hb.size, own_keptS h.row fun k _ hk => hb.block k hk, h.lst.kept (hb.block _ (by omega)), h.ptr.kept (hb.block _ (by omega))⟩
/-- the variables are made -/
theorem Ex19.new (hb : Below w0.heap.size w0 W) : Ex19 w0 ((W.alloc (.cells #[.slice none 0 0] 26)).alloc (.cells #[.pointer (some ⟨W.heap.size, 0, none⟩)] 44)) W.heap.size none 0 [] := by
  refine ⟨(hb.alloc hb.size _).alloc (by have := hb.size; simp; omega) _, hb.size, by simp, World.ownsRow_nil _ _ _ _, ?_, ?_⟩
  · exact (((Below.refl (W.heap.size + 1) _).alloc (by simp) _).block _ (by omega)).trans (heap_alloc_new W _)
  · have := heap_alloc_new (W.alloc (.cells #[.slice none 0 0] 26)) (.cells #[.pointer (some ⟨W.heap.size, 0, none⟩)] 44)
    rwa [show (W.alloc (.cells #[.slice none 0 0] 26)).heap.size = W.heap.size + 1 from by simp] at this
/-- the runs have grown by one -/
theorem Ex19.grew (h : Ex19 w0 W B A c o) {g cap : Nat} {r : Run19} (hO : W'.ownsRow (B + 2) 41 4 (.slice (some ⟨g, 0, none⟩) (o.length + 1) cap) (o.length + 1) (runC o ++ [.int .i64 r.v, .int .i64 r.b, .int .i64 r.n, .int .i64 r.t])) (hg : W.grownBy W' (Value.slice A o.length c).ownBlock) :
    Ex19 w0 (W'.setCell ⟨B, 0, none⟩ (.slice (some ⟨g, 0, none⟩) (o.length + 1) cap)) B (some ⟨g, 0, none⟩) cap (o ++ [r]) := by
  have hs := h.sz
  have hl := h.lo
  have hne : ∀ k, (Value.slice A o.length c).ownBlock = some k → B + 2 ≤ k := fun k hk => (own_apartS h.row k hk).1
  have hgb : B + 2 ≤ g := (own_apartS hO g rfl).1
  have hbel : Below (B + 2) W W' := ⟨hg.os, hg.tape, hg.output, hg.size, fun k hk => hg.block k (by omega) (fun e => by have := hne k e.symm; omega)⟩
  have hB : Bx19 W' B 26 (.slice A o.length c) := h.lst.kept (hbel.block _ (by omega))
  refine ⟨(h.bel.trans (hbel.mono (by omega))).setCell (by show _ ≤ B; omega) _, hl, by have := hg.size; simp [World.setCell]; omega, ?_, ?_, ?_⟩
  · rw [List.length_append, runC_append]
    exact ownsRow_setCell_other hO (by show ¬ some g = some B; intro e; injection e; omega) _
  · rw [List.length_append]
    exact hB.store _
  · exact (h.ptr.kept (hbel.block _ (by omega))).kept (heap_setCell_other _ _ _ _ (by show ¬ B + 1 = B; omega))
/-- the last run is longer -/
theorem Ex19.join {o' : List Run19} {a : Run19} {g : Nat} (h : Ex19 w0 W B (some ⟨g, 0, none⟩) c (o' ++ [a])) (z : Int) :
    Ex19 w0 (W.setCell ⟨g, o'.length * 4 + 2, none⟩ (.int .i64 z)) B (some ⟨g, 0, none⟩) c (o' ++ [⟨a.v, a.b, z, a.t⟩]) := by
  have hs := h.sz
  have hl := h.lo
  have hgb : B + 2 ≤ g := (own_apartS h.row g rfl).1
  have hrow := own19_set h.row (j := o'.length * 4 + 2) (by simp; omega) (.int .i64 z)
  rw [runC_setn (o' ++ [a]) o'.length z (by simp)] at hrow
  have e : (o' ++ [a]).set o'.length ⟨(o' ++ [a])[o'.length].v, (o' ++ [a])[o'.length].b, z, (o' ++ [a])[o'.length].t⟩ = o' ++ [⟨a.v, a.b, z, a.t⟩] := by simp
  rw [e] at hrow
  have e2 : (o' ++ [a]).length = (o' ++ [(⟨a.v, a.b, z, a.t⟩ : Run19)]).length := by simp
  have hlst := h.lst
  rw [e2] at hrow hlst
  refine ⟨h.bel.setCell (by show _ ≤ g; omega) _, hl, by simp [World.setCell]; omega, hrow, ?_, ?_⟩
  · exact hlst.kept (heap_setCell_other _ _ _ _ (by show ¬ B = g; omega))
  · exact h.ptr.kept (heap_setCell_other _ _ _ _ (by show ¬ B + 1 = g; omega))
end
end Go.Proofs.Ytccippplpcjaiaa

/-
  Layer 19: the program's closure that extends the list of runs.
-/
namespace Go.Proofs.Ytccippplpcjaiaa
open Go.RowKit
set_option linter.unusedVariables false
set_option linter.unusedSimpArgs false

/-- the closure's state: the list, and the run that is added, in a block of its own -/
structure Sx19 (w0 U : World) (B b2 : Nat) (A : Option Addr) (c : Nat) (o : List Run19) (r : Run19) : Prop where
  X : Ex19 w0 U B A c o
  arg : RunC19 U b2 r
  lt : B + 2 ≤ b2
  hi : b2 < U.heap.size
  fr : ∀ k, (Value.slice A o.length c).ownBlock = some k → k < b2
section
variable {w0 U U' : World} {B b2 : Nat} {A : Option Addr} {c : Nat} {o : List Run19} {r : Run19}
theorem Sx19.later (h : Sx19 w0 U B b2 A c o r) (hb : Below U.heap.size U U') : Sx19 w0 U' B b2 A c o r :=
  ⟨h.X.later hb, (hb.block _ h.hi).trans h.arg, h.lt, Nat.lt_of_lt_of_le h.hi hb.size, h.fr⟩
theorem Sx19.new (h : Ex19 w0 U B A c o) (r : Run19) : Sx19 w0 (U.alloc (.cells #[.int .i64 r.v, .int .i64 r.b, .int .i64 r.n, .int .i64 r.t] 41)) B U.heap.size A c o r :=
  ⟨h.later ((Below.refl _ _).alloc (Nat.le_refl _) _), heap_alloc_new U _, h.sz, by simp, fun k hk => by
    obtain ⟨_, cur, hc⟩ := own_apartS h.row k hk
    exact block_lt hc⟩
theorem Sx19.cs (h : Sx19 w0 U B b2 A c o r) : U.cell? ⟨B + 1, 0, none⟩ = some (.pointer (some ⟨B, 0, none⟩)) ∧ U.cell? ⟨B, 0, none⟩ = some (.slice A o.length c) ∧ U.cell? ⟨b2, 0, none⟩ = some (.int .i64 r.v) ∧ U.cell? ⟨b2, 1, none⟩ = some (.int .i64 r.b) ∧ U.cell? ⟨b2, 2, none⟩ = some (.int .i64 r.n) ∧ U.cell? ⟨b2, 3, none⟩ = some (.int .i64 r.t) :=
  ⟨h.X.ptr.cell, h.X.lst.cell, h.arg.cs.1, h.arg.cs.2.1, h.arg.cs.2.2.1, h.arg.cs.2.2.2⟩
/-- behind the append, ahead of the store -/
theorem Sx19.app (h : Sx19 w0 U B b2 A c o r) {g cap : Nat} (hO : U'.ownsRow (B + 2) 41 4 (.slice (some ⟨g, 0, none⟩) (o.length + 1) cap) (o.length + 1) (runC o ++ [.int .i64 r.v, .int .i64 r.b, .int .i64 r.n, .int .i64 r.t])) (hg : U.grownBy U' (Value.slice A o.length c).ownBlock) :
    Ex19 w0 (U'.setCell ⟨B, 0, none⟩ (.slice (some ⟨g, 0, none⟩) (o.length + 1) cap)) B (some ⟨g, 0, none⟩) cap (o ++ [r]) ∧ (U'.cell? ⟨B + 1, 0, none⟩ = some (.pointer (some ⟨B, 0, none⟩)) ∧ U'.cell? ⟨B, 0, none⟩ = some (.slice A o.length c) ∧ U'.cell? ⟨b2, 0, none⟩ = some (.int .i64 r.v) ∧ U'.cell? ⟨b2, 1, none⟩ = some (.int .i64 r.b) ∧ U'.cell? ⟨b2, 2, none⟩ = some (.int .i64 r.n) ∧ U'.cell? ⟨b2, 3, none⟩ = some (.int .i64 r.t)) ∧ U'.frozen? ⟨B, 0, none⟩ = false := by
  have hne : ∀ k, (Value.slice A o.length c).ownBlock = some k → B + 2 ≤ k := fun k hk => (own_apartS h.X.row k hk).1
  have hs := h.X.sz
  have hl : Bx19 U' B _ _ := h.X.lst.kept (hg.block _ (by omega) (fun e => by have := hne _ e.symm; omega))
  have hp : Bx19 U' (B + 1) _ _ := h.X.ptr.kept (hg.block _ (by omega) (fun e => by have := hne _ e.symm; omega))
  have ha : RunC19 U' b2 r := (hg.block _ h.hi (fun e => by have := h.fr _ e.symm; omega)).trans h.arg
  exact ⟨h.X.grew hO hg, ⟨hp.cell, hl.cell, ha.cs.1, ha.cs.2.1, ha.cs.2.2.1, ha.cs.2.2.2⟩, hl.free⟩
/-- the last run's cells -/
theorem Sx19.last {o' : List Run19} {a : Run19} {g : Nat} (h : Sx19 w0 U B b2 (some ⟨g, 0, none⟩) c (o' ++ [a]) r) : U.cell? ⟨g, o'.length * 4, none⟩ = some (.int .i64 a.v) ∧ U.cell? ⟨g, o'.length * 4 + 1, none⟩ = some (.int .i64 a.b) ∧ U.cell? ⟨g, o'.length * 4 + 2, none⟩ = some (.int .i64 a.n) ∧ U.cell? ⟨g, o'.length * 4 + 3, none⟩ = some (.int .i64 a.t) ∧ U.frozen? ⟨g, o'.length * 4 + 2, none⟩ = false := by
  obtain ⟨h0, h1, h2, h3⟩ := runC_at (o' ++ [a]) o'.length (by simp)
  simp only [List.getElem_concat_length] at h0 h1 h2 h3
  exact ⟨own19_at h.X.row h0, own19_at h.X.row h1, own19_at h.X.row h2, own19_at h.X.row h3, own19_free h.X.row _⟩
end

set_option maxRecDepth 100000 in
set_option maxHeartbeats 3200000 in
theorem ext_nil19 {w0 U : World} {B : Nat} {A : Option Addr} {c : Nat} (h : Ex19 w0 U B A c []) (r : Run19) :
    Calls Try.prog 21 #[runV19 r, .pointer (some ⟨B + 1, 0, none⟩)] U fun e w' => e = .returned (.tuple #[]) ∧ ∃ A' c', Ex19 w0 w' B A' c' [r] := by
  obtain ⟨W1, hW1⟩ : ∃ W1, U.alloc (.cells #[.int .i64 r.v, .int .i64 r.b, .int .i64 r.n, .int .i64 r.t] 41) = W1 := ⟨_, rfl⟩
  have HS := Lib.hid (Sx19.new h r)
  rw [hW1] at HS
  have hS1 := HS.out.cs
  simp only [List.length_nil] at hS1
  obtain ⟨d0, d1, d2, d3, d4, d5⟩ := hS1
  have HAPP : Hid (∀ V V' g cap, Hid (Sx19 w0 V B U.heap.size A c [] r) → V'.ownsRow (B + 2) 41 4 (.slice (some ⟨g, 0, none⟩) (0 + 1) cap) (0 + 1) (runC [] ++ [.int .i64 r.v, .int .i64 r.b, .int .i64 r.n, .int .i64 r.t]) → V.grownBy V' (Value.slice A 0 c).ownBlock → Ex19 w0 (V'.setCell ⟨B, 0, none⟩ (.slice (some ⟨g, 0, none⟩) (0 + 1) cap)) B (some ⟨g, 0, none⟩) cap [r] ∧ (V'.cell? ⟨B + 1, 0, none⟩ = some (.pointer (some ⟨B, 0, none⟩)) ∧ V'.cell? ⟨B, 0, none⟩ = some (.slice A 0 c) ∧ V'.cell? ⟨U.heap.size, 0, none⟩ = some (.int .i64 r.v) ∧ V'.cell? ⟨U.heap.size, 1, none⟩ = some (.int .i64 r.b) ∧ V'.cell? ⟨U.heap.size, 2, none⟩ = some (.int .i64 r.n) ∧ V'.cell? ⟨U.heap.size, 3, none⟩ = some (.int .i64 r.t)) ∧ V'.frozen? ⟨B, 0, none⟩ = false) := fun V V' g cap hh h1 h2 => hh.out.app h1 h2
  clear h
  obtain ⟨rv, rb, rn, rt⟩ := r
  unfold runV19
  dsimp only at *
  go_enter Try.func21, Try.ntmps21
  go_wp2
  go_quiet (fail)
  have HSV := Lib.hid (HS.out.later (below_drewN (Below.refl _ _) nq))
  clear HS d0 d1 d2 d3 d4 d5
  generalize W1.drewN nq = V at *
  have HSd := Lib.hid (HSV.out.later (Below.refl _ _).drew)
  have hSd := HSd.out.cs
  have hba : Below V.heap.size V (V.alloc (.cells #[.int .i64 rv, .int .i64 rb, .int .i64 rn, .int .i64 rt] 41)).drew := ((Below.refl _ _).alloc (Nat.le_refl _) _).drew
  have HSa := Lib.hid (HSV.out.later hba)
  have hSa := HSa.out.cs
  have HRa := Lib.hid HSa.out.X.row
  have hsz : B + 2 ≤ V.heap.size := HSV.out.X.sz
  have hml := HSV.out.X.row
  clear hba hml
  dsimp only at hSd hSa
  simp only [List.length_nil] at hSd hSa HRa
  go_wp2
  refine wp_region_K (S := fun W => W.cell? ⟨B + 1, 0, none⟩ = some (.pointer (some ⟨B, 0, none⟩)) ∧ W.cell? ⟨B, 0, none⟩ = some (.slice A 0 c) ∧ W.cell? ⟨U.heap.size, 0, none⟩ = some (.int .i64 rv) ∧ W.cell? ⟨U.heap.size, 1, none⟩ = some (.int .i64 rb) ∧ W.cell? ⟨U.heap.size, 2, none⟩ = some (.int .i64 rn) ∧ W.cell? ⟨U.heap.size, 3, none⟩ = some (.int .i64 rt)) 8 (by kernel_rfl) hSd (fun hHeld => ?_)
  refine wpAnyK_takeD (i := 0) (d := some 33) (v := ?vgN0) rfl (by rfl) (by kernel_rfl) (by kernel_rfl) (by kernel_rfl) (by kernel_rfl) (fun _ _ _ h => h) (Or.inl ⟨by rfl, ?hygN0⟩) hSd ?restgN0
  case hygN0 => (intro w hSw; (try dsimp only at hSw); go_simp; try (with_reducible rfl))
  try simp only [Act.put, List.setIfInBounds_toArray, List.set_cons_zero, List.set_cons_succ]
  refine wpAnyK_takeD (i := 1) (d := some 34) (v := ?vgN1) rfl (by rfl) (by kernel_rfl) (by kernel_rfl) (by kernel_rfl) (by kernel_rfl) (fun _ _ _ h => h) (Or.inl ⟨by rfl, ?hygN1⟩) hSd ?restgN1
  case hygN1 => (intro w hSw; (try dsimp only at hSw); go_simp; try (with_reducible rfl))
  try simp only [Act.put, List.setIfInBounds_toArray, List.set_cons_zero, List.set_cons_succ]
  refine wpAnyK_takeD (i := 2) (d := some 35) (v := ?vgN2) rfl (by rfl) (by kernel_rfl) (by kernel_rfl) (by kernel_rfl) (by kernel_rfl) (fun _ _ _ h => h) (Or.inl ⟨by rfl, ?hygN2⟩) hSd ?restgN2
  case hygN2 => (intro w hSw; (try dsimp only at hSw); go_simp; try (with_reducible rfl))
  try simp only [Act.put, List.setIfInBounds_toArray, List.set_cons_zero, List.set_cons_succ]
  refine wpAnyK_takeD (i := 3) (d := some 36) (v := ?vgN3) rfl (by rfl) (by kernel_rfl) (by kernel_rfl) (by kernel_rfl) (by kernel_rfl) (fun _ _ _ h => h) (Or.inl ⟨by rfl, ?hygN3⟩) hSd ?restgN3
  case hygN3 => (intro w hSw; (try dsimp only at hSw); go_simp; try (with_reducible rfl))
  try simp only [Act.put, List.setIfInBounds_toArray, List.set_cons_zero, List.set_cons_succ]
  refine wpAnyK_takeD (i := 4) (d := some 37) (v := ?vgN4) rfl (by rfl) (by kernel_rfl) (by kernel_rfl) (by kernel_rfl) (by kernel_rfl) (fun _ _ _ h => h) (Or.inl ⟨by rfl, ?hygN4⟩) hSd ?restgN4
  case hygN4 => (intro w hSw; (try dsimp only at hSw); go_simp; try (with_reducible rfl))
  try simp only [Act.put, List.setIfInBounds_toArray, List.set_cons_zero, List.set_cons_succ]
  refine wpAnyK_one (j := 5) (by kernel_rfl) rfl (fun K hK => ?_)
  go_simp
  refine hK.out _ _ hSa (fun hHeldgN5 => ?_)
  clear hK K
  try simp only [Act.put, List.setIfInBounds_toArray, List.set_cons_zero, List.set_cons_succ]
  refine wpAnyK_one (j := 6) (by kernel_rfl) rfl (fun K hK => ?_)
  refine step_append_liesG _ rfl (.tmp 36) (.tmp 38) 26 rfl (B + 2) 41 4 (.agg #[.int .i64 0, .int .i64 0, .int .i64 0, .int .i64 0]) 32 Try.underlying26 info_run19 rfl (by omega) (.slice A 0 c) 0 (runC []) rfl HRa (by simp; omega) ⟨V.heap.size, 0, none⟩ [.int .i64 rv, .int .i64 rb, .int .i64 rn, .int .i64 rt] 1 1 rfl rfl (Row.of_block (t := 41) (fr := (0, 0)) (heap_alloc_new V _)) (by simp [Value.oneCell']) (by omega) (by omega) (by omega) ?_
  intro g7 cap7 w7 hown7 hgrow7 hat7
  have hfq := HAPP.out _ _ _ _ HSa hown7.out hgrow7.out
  obtain ⟨hfin, hS7, f7⟩ := hfq
  have HF7 := Lib.hid hfin
  clear hfin hown7 hgrow7 hat7
  refine hK.out _ _ hS7 (fun hHeldgN6 => ?_)
  clear hK K
  try simp only [Act.put, List.setIfInBounds_toArray, List.set_cons_zero, List.set_cons_succ]
  refine wpAnyK_takeD (i := 7) (d := some 40) (v := ?vgN7) rfl (by rfl) (by kernel_rfl) (by kernel_rfl) (by kernel_rfl) (by kernel_rfl) (fun _ _ _ h => h) (Or.inl ⟨by rfl, ?hygN7⟩) hS7 ?restgN7
  case hygN7 => (intro w hSw; (try dsimp only at hSw); go_simp; try (with_reducible rfl))
  try simp only [Act.put, List.setIfInBounds_toArray, List.set_cons_zero, List.set_cons_succ]
  refine wpAnyK_last (by kernel_rfl) rfl (by kernel_rfl) (fun K hK => ?_)
  go_simp
  refine hK.out _ _ ?_
  clear hK K
  try simp only [Act.put, List.setIfInBounds_toArray, List.set_cons_zero, List.set_cons_succ]
  go_wp2
  go_end0
  exact ⟨rfl, _, _, HF7.out⟩
set_option maxRecDepth 100000 in
set_option maxHeartbeats 6400000 in
theorem ext_cons19 {w0 U : World} {B : Nat} {A : Option Addr} {c : Nat} {o' : List Run19} {a : Run19} (h : Ex19 w0 U B A c (o' ++ [a])) (r : Run19) (hfew : o'.length ≤ 1000000) (hv : -9223372036854775808 ≤ a.v + a.n ∧ a.v + a.n ≤ 9223372036854775807) (hb : -9223372036854775808 ≤ a.b + a.n ∧ a.b + a.n ≤ 9223372036854775807) (hn : -9223372036854775808 ≤ a.n + r.n ∧ a.n + r.n ≤ 9223372036854775807) :
    Calls Try.prog 21 #[runV19 r, .pointer (some ⟨B + 1, 0, none⟩)] U fun e w' => e = .returned (.tuple #[]) ∧ ∃ A' c', Ex19 w0 w' B A' c' (if cont19 a r then o' ++ [⟨a.v, a.b, a.n + r.n, a.t⟩] else o' ++ [a] ++ [r]) := by
  obtain ⟨W1, hW1⟩ : ∃ W1, U.alloc (.cells #[.int .i64 r.v, .int .i64 r.b, .int .i64 r.n, .int .i64 r.t] 41) = W1 := ⟨_, rfl⟩
  have HS := Lib.hid (Sx19.new h r)
  rw [hW1] at HS
  obtain ⟨g, rfl, hg1, hg2⟩ := own19_form h.row (by simp)
  obtain ⟨k, hk⟩ : ∃ k, k = o'.length := ⟨_, rfl⟩
  obtain ⟨m, hm⟩ : ∃ m, m = (o' ++ [a]).length := ⟨_, rfl⟩
  have HM := Lib.hid hm.symm
  have HKO := Lib.hid hk.symm
  have hmk : m = k + 1 := by rw [hm, hk]; simp
  have hS1 := HS.out.cs
  rw [HM.out] at hS1
  have hL1 := HS.out.last
  rw [HKO.out] at hL1
  obtain ⟨d0, d1, d2, d3, d4, d5⟩ := hS1
  have hcm : m ≤ c ∧ c ≤ 9223372036854775807 := by
    obtain ⟨A', c', e, h1, h2⟩ := ownsRow_form h.row
    cases e
    rw [HM.out] at h1
    exact ⟨h1, by simpa [maxLen] using h2⟩
  have hw : IntKind.i64.wrap ((m : Int) - 1) = (k : Int) := (IntWalk.i64_in _ (by omega)).trans (by omega)
  have hkm : k < m := by omega
  have hk9 : k ≤ 1000000 := by omega
  have hm9 : m ≤ 1000001 := by omega
  clear hm hmk hk hfew hg1 hg2
  have CT : Hid (∀ V q, Hid (Sx19 w0 V B U.heap.size (some ⟨g, 0, none⟩) c (o' ++ [a]) r) → decide (cont19 a r) = q → Calls Try.prog 22 #[runV19 r, runV19 a] V fun e w' => e = .returned (.bool q) ∧ Hid (Sx19 w0 w' B U.heap.size (some ⟨g, 0, none⟩) c (o' ++ [a]) r)) := fun V q hh hq => (continues_any19 a r V hv hb q hq).mono fun e w' ⟨h1, h2⟩ => ⟨h1, hh.out.later h2⟩
  have HAPP : Hid (∀ V V' g' cap, Hid (Sx19 w0 V B U.heap.size (some ⟨g, 0, none⟩) c (o' ++ [a]) r) → V'.ownsRow (B + 2) 41 4 (.slice (some ⟨g', 0, none⟩) (m + 1) cap) (m + 1) (runC (o' ++ [a]) ++ [.int .i64 r.v, .int .i64 r.b, .int .i64 r.n, .int .i64 r.t]) → V.grownBy V' (Value.slice (some ⟨g, 0, none⟩) m c).ownBlock → Ex19 w0 (V'.setCell ⟨B, 0, none⟩ (.slice (some ⟨g', 0, none⟩) (m + 1) cap)) B (some ⟨g', 0, none⟩) cap (o' ++ [a] ++ [r]) ∧ (V'.cell? ⟨B + 1, 0, none⟩ = some (.pointer (some ⟨B, 0, none⟩)) ∧ V'.cell? ⟨B, 0, none⟩ = some (.slice (some ⟨g, 0, none⟩) m c) ∧ V'.cell? ⟨U.heap.size, 0, none⟩ = some (.int .i64 r.v) ∧ V'.cell? ⟨U.heap.size, 1, none⟩ = some (.int .i64 r.b) ∧ V'.cell? ⟨U.heap.size, 2, none⟩ = some (.int .i64 r.n) ∧ V'.cell? ⟨U.heap.size, 3, none⟩ = some (.int .i64 r.t)) ∧ V'.frozen? ⟨B, 0, none⟩ = false) := fun V V' g' cap hh h1 h2 => by
    rw [← HM.out] at h1 h2 ⊢
    exact hh.out.app h1 h2
  have HS0 := Lib.hid (HS.out.later (Below.refl _ _).drew)
  have h0 := HS0.out.cs
  have h1 := HS0.out.last
  rw [HM.out] at h0
  rw [HKO.out] at h1
  have hd0 := And.intro h0 (And.intro h1.1 (And.intro h1.2.1 (And.intro h1.2.2.1 h1.2.2.2.1)))
  clear h h0 h1 hL1 HS
  obtain ⟨av, ab, an, at'⟩ := a
  obtain ⟨rv, rb, rn, rt⟩ := r
  unfold runV19 at CT ⊢
  dsimp only at *
  by_cases hq : cont19 (⟨av, ab, an, at'⟩ : Run19) ⟨rv, rb, rn, rt⟩
  · rw [if_pos hq]
    have CT1 := Lib.hid (fun V hh => CT.out V true hh (by simpa using hq))
    have hwn : IntKind.i64.wrap (an + rn) = an + rn := IntWalk.i64_in _ (by omega)
    clear CT hv hb hn hq HAPP
    go_enter Try.func21, Try.ntmps21
    go_wp2
    go_region_held3 (fun W => (W.cell? ⟨B + 1, 0, none⟩ = some (.pointer (some ⟨B, 0, none⟩)) ∧ W.cell? ⟨B, 0, none⟩ = some (.slice (some ⟨g, 0, none⟩) m c) ∧ W.cell? ⟨U.heap.size, 0, none⟩ = some (.int .i64 rv) ∧ W.cell? ⟨U.heap.size, 1, none⟩ = some (.int .i64 rb) ∧ W.cell? ⟨U.heap.size, 2, none⟩ = some (.int .i64 rn) ∧ W.cell? ⟨U.heap.size, 3, none⟩ = some (.int .i64 rt)) ∧ W.cell? ⟨g, k * 4, none⟩ = some (.int .i64 av) ∧ W.cell? ⟨g, k * 4 + 1, none⟩ = some (.int .i64 ab) ∧ W.cell? ⟨g, k * 4 + 2, none⟩ = some (.int .i64 an) ∧ W.cell? ⟨g, k * 4 + 3, none⟩ = some (.int .i64 at'))
      (assumption)
      ((go_at_call 22; (with_reducible refine (CT1.out _ HS0).mono ?_); rintro e w3 ⟨rfl, HS3⟩; have h30 := HS3.out.cs; have h31 := HS3.out.last; (dsimp only at h30 h31); (rw [HM.out] at h30); (rw [HKO.out] at h31); have d9 := And.intro h30 (And.intro h31.1 (And.intro h31.2.1 (And.intro h31.2.2.1 h31.2.2.2.1))); clear h30 h31))
    have HSd := Lib.hid (HS3.out.later (Below.refl _ _).drew)
    have hSd := HSd.out.cs
    have hSl := HSd.out.last
    dsimp only at hSd hSl
    rw [HM.out] at hSd
    rw [HKO.out] at hSl
    obtain ⟨l0, l1, l2, l3, f2⟩ := hSl
    have hSS := And.intro hSd l2
    have HJ := Lib.hid (HSd.out.X.join (an + rn))
    rw [HKO.out] at HJ
    clear hSd l0 l1 l3
    go_wp2
    refine wp_region_K (S := fun W => (W.cell? ⟨B + 1, 0, none⟩ = some (.pointer (some ⟨B, 0, none⟩)) ∧ W.cell? ⟨B, 0, none⟩ = some (.slice (some ⟨g, 0, none⟩) m c) ∧ W.cell? ⟨U.heap.size, 0, none⟩ = some (.int .i64 rv) ∧ W.cell? ⟨U.heap.size, 1, none⟩ = some (.int .i64 rb) ∧ W.cell? ⟨U.heap.size, 2, none⟩ = some (.int .i64 rn) ∧ W.cell? ⟨U.heap.size, 3, none⟩ = some (.int .i64 rt)) ∧ W.cell? ⟨g, k * 4 + 2, none⟩ = some (.int .i64 an)) 12 (by kernel_rfl) hSS (fun hHeld => ?_)
    refine wpAnyK_takeD (i := 0) (d := some 21) (v := ?vgJ0) rfl (by rfl) (by kernel_rfl) (by kernel_rfl) (by kernel_rfl) (by kernel_rfl) (fun _ _ _ h => h) (Or.inl ⟨by rfl, ?hygJ0⟩) hSS ?restgJ0
    case hygJ0 => (intro w hSw; (try dsimp only at hSw); go_simp; try (with_reducible rfl))
    try simp only [Act.put, List.setIfInBounds_toArray, List.set_cons_zero, List.set_cons_succ]
    refine wpAnyK_takeD (i := 1) (d := some 22) (v := ?vgJ1) rfl (by rfl) (by kernel_rfl) (by kernel_rfl) (by kernel_rfl) (by kernel_rfl) (fun _ _ _ h => h) (Or.inl ⟨by rfl, ?hygJ1⟩) hSS ?restgJ1
    case hygJ1 => (intro w hSw; (try dsimp only at hSw); go_simp; try (with_reducible rfl))
    try simp only [Act.put, List.setIfInBounds_toArray, List.set_cons_zero, List.set_cons_succ]
    refine wpAnyK_takeD (i := 2) (d := some 23) (v := ?vgJ2) rfl (by rfl) (by kernel_rfl) (by kernel_rfl) (by kernel_rfl) (by kernel_rfl) (fun _ _ _ h => h) (Or.inl ⟨by rfl, ?hygJ2⟩) hSS ?restgJ2
    case hygJ2 => (intro w hSw; (try dsimp only at hSw); go_simp; try (with_reducible rfl))
    try simp only [Act.put, List.setIfInBounds_toArray, List.set_cons_zero, List.set_cons_succ]
    refine wpAnyK_takeD (i := 3) (d := some 24) (v := ?vgJ3) rfl (by rfl) (by kernel_rfl) (by kernel_rfl) (by kernel_rfl) (by kernel_rfl) (fun _ _ _ h => h) (Or.inl ⟨by rfl, ?hygJ3⟩) hSS ?restgJ3
    case hygJ3 => (intro w hSw; (try dsimp only at hSw); go_simp; try (with_reducible rfl))
    try simp only [Act.put, List.setIfInBounds_toArray, List.set_cons_zero, List.set_cons_succ]
    refine wpAnyK_takeD (i := 4) (d := some 25) (v := ?vgJ4) rfl (by rfl) (by kernel_rfl) (by kernel_rfl) (by kernel_rfl) (by kernel_rfl) (fun _ _ _ h => h) (Or.inl ⟨by rfl, ?hygJ4⟩) hSS ?restgJ4
    case hygJ4 => (intro w hSw; (try dsimp only at hSw); go_simp; try (with_reducible rfl))
    try simp only [Act.put, List.setIfInBounds_toArray, List.set_cons_zero, List.set_cons_succ]
    refine wpAnyK_takeD (i := 5) (d := some 26) (v := ?vgJ5) rfl (by rfl) (by kernel_rfl) (by kernel_rfl) (by kernel_rfl) (by kernel_rfl) (fun _ _ _ h => h) (Or.inl ⟨by rfl, ?hygJ5⟩) hSS ?restgJ5
    case hygJ5 => (intro w hSw; (try dsimp only at hSw); go_simp; try (with_reducible rfl))
    try simp only [Act.put, List.setIfInBounds_toArray, List.set_cons_zero, List.set_cons_succ]
    refine wpAnyK_takeD (i := 6) (d := some 27) (v := ?vgJ6) rfl (by rfl) (by kernel_rfl) (by kernel_rfl) (by kernel_rfl) (by kernel_rfl) (fun _ _ _ h => h) (Or.inl ⟨by rfl, ?hygJ6⟩) hSS ?restgJ6
    case hygJ6 => (intro w hSw; (try dsimp only at hSw); go_simp; try (with_reducible rfl))
    try simp only [Act.put, List.setIfInBounds_toArray, List.set_cons_zero, List.set_cons_succ]
    refine wpAnyK_takeD (i := 7) (d := some 28) (v := ?vgJ7) rfl (by rfl) (by kernel_rfl) (by kernel_rfl) (by kernel_rfl) (by kernel_rfl) (fun _ _ _ h => h) (Or.inl ⟨by rfl, ?hygJ7⟩) hSS ?restgJ7
    case hygJ7 => (intro w hSw; (try dsimp only at hSw); go_simp; try (with_reducible rfl))
    try simp only [Act.put, List.setIfInBounds_toArray, List.set_cons_zero, List.set_cons_succ]
    refine wpAnyK_takeD (i := 8) (d := some 29) (v := ?vgJ8) rfl (by rfl) (by kernel_rfl) (by kernel_rfl) (by kernel_rfl) (by kernel_rfl) (fun _ _ _ h => h) (Or.inl ⟨by rfl, ?hygJ8⟩) hSS ?restgJ8
    case hygJ8 => (intro w hSw; (try dsimp only at hSw); go_simp; try (with_reducible rfl))
    try simp only [Act.put, List.setIfInBounds_toArray, List.set_cons_zero, List.set_cons_succ]
    refine wpAnyK_takeD (i := 9) (d := some 30) (v := ?vgJ9) rfl (by rfl) (by kernel_rfl) (by kernel_rfl) (by kernel_rfl) (by kernel_rfl) (fun _ _ _ h => h) (Or.inl ⟨by rfl, ?hygJ9⟩) hSS ?restgJ9
    case hygJ9 => (intro w hSw; (try dsimp only at hSw); go_simp; try (with_reducible rfl))
    try simp only [Act.put, List.setIfInBounds_toArray, List.set_cons_zero, List.set_cons_succ]
    refine wpAnyK_one (j := 10) (by kernel_rfl) rfl (fun K hK => ?_)
    go_simp
    refine hK.out _ _ hSS (fun hHeldgJ10 => ?_)
    clear hK K
    try simp only [Act.put, List.setIfInBounds_toArray, List.set_cons_zero, List.set_cons_succ]
    refine wpAnyK_takeD (i := 11) (d := some 32) (v := ?vgJ11) rfl (by rfl) (by kernel_rfl) (by kernel_rfl) (by kernel_rfl) (by kernel_rfl) (fun _ _ _ h => h) (Or.inl ⟨by rfl, ?hygJ11⟩) hSS ?restgJ11
    case hygJ11 => (intro w hSw; (try dsimp only at hSw); go_simp; try (with_reducible rfl))
    try simp only [Act.put, List.setIfInBounds_toArray, List.set_cons_zero, List.set_cons_succ]
    refine wpAnyK_last (by kernel_rfl) rfl (by kernel_rfl) (fun K hK => ?_)
    go_simp
    refine hK.out _ _ ?_
    clear hK K
    try simp only [Act.put, List.setIfInBounds_toArray, List.set_cons_zero, List.set_cons_succ]
    go_wp2
    refine bodyPost_ret (results_none rfl _ _ _) rfl ?_
    exact ⟨rfl, _, _, HJ.out⟩
  · rw [if_neg hq]
    have CT1 := Lib.hid (fun V hh => CT.out V false hh (by simpa using hq))
    clear CT hv hb hn hq
    go_enter Try.func21, Try.ntmps21
    go_wp2
    go_region_held3 (fun W => (W.cell? ⟨B + 1, 0, none⟩ = some (.pointer (some ⟨B, 0, none⟩)) ∧ W.cell? ⟨B, 0, none⟩ = some (.slice (some ⟨g, 0, none⟩) m c) ∧ W.cell? ⟨U.heap.size, 0, none⟩ = some (.int .i64 rv) ∧ W.cell? ⟨U.heap.size, 1, none⟩ = some (.int .i64 rb) ∧ W.cell? ⟨U.heap.size, 2, none⟩ = some (.int .i64 rn) ∧ W.cell? ⟨U.heap.size, 3, none⟩ = some (.int .i64 rt)) ∧ W.cell? ⟨g, k * 4, none⟩ = some (.int .i64 av) ∧ W.cell? ⟨g, k * 4 + 1, none⟩ = some (.int .i64 ab) ∧ W.cell? ⟨g, k * 4 + 2, none⟩ = some (.int .i64 an) ∧ W.cell? ⟨g, k * 4 + 3, none⟩ = some (.int .i64 at'))
      (assumption)
      ((go_at_call 22; (with_reducible refine (CT1.out _ HS0).mono ?_); rintro e w3 ⟨rfl, HS3⟩; have h30 := HS3.out.cs; have h31 := HS3.out.last; (dsimp only at h30 h31); (rw [HM.out] at h30); (rw [HKO.out] at h31); have d9 := And.intro h30 (And.intro h31.1 (And.intro h31.2.1 (And.intro h31.2.2.1 h31.2.2.2.1))); clear h30 h31))
    have HSd := Lib.hid (HS3.out.later (Below.refl _ _).drew)
    have hSd := HSd.out.cs
    have hba : Below w3.heap.size w3 (w3.alloc (.cells #[.int .i64 rv, .int .i64 rb, .int .i64 rn, .int .i64 rt] 41)).drew := ((Below.refl _ _).alloc (Nat.le_refl _) _).drew
    have HSa := Lib.hid (HS3.out.later hba)
    have hSa := HSa.out.cs
    have HRa := Lib.hid HSa.out.X.row
    have hsz : B + 2 ≤ w3.heap.size := HS3.out.X.sz
    have hml := HS3.out.X.row
    clear hba hml
    dsimp only at hSd hSa
    rw [HM.out] at hSd hSa HRa
    go_wp2
    refine wp_region_K (S := fun W => W.cell? ⟨B + 1, 0, none⟩ = some (.pointer (some ⟨B, 0, none⟩)) ∧ W.cell? ⟨B, 0, none⟩ = some (.slice (some ⟨g, 0, none⟩) m c) ∧ W.cell? ⟨U.heap.size, 0, none⟩ = some (.int .i64 rv) ∧ W.cell? ⟨U.heap.size, 1, none⟩ = some (.int .i64 rb) ∧ W.cell? ⟨U.heap.size, 2, none⟩ = some (.int .i64 rn) ∧ W.cell? ⟨U.heap.size, 3, none⟩ = some (.int .i64 rt)) 8 (by kernel_rfl) hSd (fun hHeld => ?_)
    refine wpAnyK_takeD (i := 0) (d := some 33) (v := ?vgA0) rfl (by rfl) (by kernel_rfl) (by kernel_rfl) (by kernel_rfl) (by kernel_rfl) (fun _ _ _ h => h) (Or.inl ⟨by rfl, ?hygA0⟩) hSd ?restgA0
    case hygA0 => (intro w hSw; (try dsimp only at hSw); go_simp; try (with_reducible rfl))
    try simp only [Act.put, List.setIfInBounds_toArray, List.set_cons_zero, List.set_cons_succ]
    refine wpAnyK_takeD (i := 1) (d := some 34) (v := ?vgA1) rfl (by rfl) (by kernel_rfl) (by kernel_rfl) (by kernel_rfl) (by kernel_rfl) (fun _ _ _ h => h) (Or.inl ⟨by rfl, ?hygA1⟩) hSd ?restgA1
    case hygA1 => (intro w hSw; (try dsimp only at hSw); go_simp; try (with_reducible rfl))
    try simp only [Act.put, List.setIfInBounds_toArray, List.set_cons_zero, List.set_cons_succ]
    refine wpAnyK_takeD (i := 2) (d := some 35) (v := ?vgA2) rfl (by rfl) (by kernel_rfl) (by kernel_rfl) (by kernel_rfl) (by kernel_rfl) (fun _ _ _ h => h) (Or.inl ⟨by rfl, ?hygA2⟩) hSd ?restgA2
    case hygA2 => (intro w hSw; (try dsimp only at hSw); go_simp; try (with_reducible rfl))
    try simp only [Act.put, List.setIfInBounds_toArray, List.set_cons_zero, List.set_cons_succ]
    refine wpAnyK_takeD (i := 3) (d := some 36) (v := ?vgA3) rfl (by rfl) (by kernel_rfl) (by kernel_rfl) (by kernel_rfl) (by kernel_rfl) (fun _ _ _ h => h) (Or.inl ⟨by rfl, ?hygA3⟩) hSd ?restgA3
    case hygA3 => (intro w hSw; (try dsimp only at hSw); go_simp; try (with_reducible rfl))
    try simp only [Act.put, List.setIfInBounds_toArray, List.set_cons_zero, List.set_cons_succ]
    refine wpAnyK_takeD (i := 4) (d := some 37) (v := ?vgA4) rfl (by rfl) (by kernel_rfl) (by kernel_rfl) (by kernel_rfl) (by kernel_rfl) (fun _ _ _ h => h) (Or.inl ⟨by rfl, ?hygA4⟩) hSd ?restgA4
    case hygA4 => (intro w hSw; (try dsimp only at hSw); go_simp; try (with_reducible rfl))
    try simp only [Act.put, List.setIfInBounds_toArray, List.set_cons_zero, List.set_cons_succ]
    refine wpAnyK_one (j := 5) (by kernel_rfl) rfl (fun K hK => ?_)
    go_simp
    refine hK.out _ _ hSa (fun hHeldgA5 => ?_)
    clear hK K
    try simp only [Act.put, List.setIfInBounds_toArray, List.set_cons_zero, List.set_cons_succ]
    refine wpAnyK_one (j := 6) (by kernel_rfl) rfl (fun K hK => ?_)
    refine step_append_liesG _ rfl (.tmp 36) (.tmp 38) 26 rfl (B + 2) 41 4 (.agg #[.int .i64 0, .int .i64 0, .int .i64 0, .int .i64 0]) 32 Try.underlying26 info_run19 rfl (by omega) (.slice (some ⟨g, 0, none⟩) m c) m (runC (o' ++ [⟨av, ab, an, at'⟩])) rfl HRa (by simp; omega) ⟨w3.heap.size, 0, none⟩ [.int .i64 rv, .int .i64 rb, .int .i64 rn, .int .i64 rt] 1 1 rfl rfl (Row.of_block (t := 41) (fr := (0, 0)) (heap_alloc_new w3 _)) (by simp [Value.oneCell']) (by omega) (by omega) (by omega) ?_
    intro g7 cap7 w7 hown7 hgrow7 hat7
    have hfq := HAPP.out _ _ _ _ HSa hown7.out hgrow7.out
    obtain ⟨hfin, hS7, f7⟩ := hfq
    have HF7 := Lib.hid hfin
    clear hfin hown7 hgrow7 hat7
    refine hK.out _ _ hS7 (fun hHeldgA6 => ?_)
    clear hK K
    try simp only [Act.put, List.setIfInBounds_toArray, List.set_cons_zero, List.set_cons_succ]
    refine wpAnyK_takeD (i := 7) (d := some 40) (v := ?vgA7) rfl (by rfl) (by kernel_rfl) (by kernel_rfl) (by kernel_rfl) (by kernel_rfl) (fun _ _ _ h => h) (Or.inl ⟨by rfl, ?hygA7⟩) hS7 ?restgA7
    case hygA7 => (intro w hSw; (try dsimp only at hSw); go_simp; try (with_reducible rfl))
    try simp only [Act.put, List.setIfInBounds_toArray, List.set_cons_zero, List.set_cons_succ]
    refine wpAnyK_last (by kernel_rfl) rfl (by kernel_rfl) (fun K hK => ?_)
    go_simp
    refine hK.out _ _ ?_
    clear hK K
    try simp only [Act.put, List.setIfInBounds_toArray, List.set_cons_zero, List.set_cons_succ]
    go_wp2
    go_end0
    exact ⟨rfl, _, _, HF7.out⟩
theorem ext_any19 {w0 U : World} {B : Nat} {A : Option Addr} {c : Nat} {o : List Run19} (h : Ex19 w0 U B A c o) (r : Run19) (hfew : o.length ≤ 1000000) (hs : ∀ a, o.getLast? = some a → (-9223372036854775808 ≤ a.v + a.n ∧ a.v + a.n ≤ 9223372036854775807) ∧ (-9223372036854775808 ≤ a.b + a.n ∧ a.b + a.n ≤ 9223372036854775807) ∧ -9223372036854775808 ≤ a.n + r.n ∧ a.n + r.n ≤ 9223372036854775807) :
    Calls Try.prog 21 #[runV19 r, .pointer (some ⟨B + 1, 0, none⟩)] U fun e w' => e = .returned (.tuple #[]) ∧ ∃ A' c', Ex19 w0 w' B A' c' (addR19 o r) := by
  rcases last19 o with rfl | ⟨o', a, rfl⟩
  · exact ext_nil19 h r
  · obtain ⟨h1, h2, h3⟩ := hs a (by simp)
    have e : addR19 (o' ++ [a]) r = if cont19 a r then o' ++ [⟨a.v, a.b, a.n + r.n, a.t⟩] else o' ++ [a] ++ [r] := by
      by_cases hc : cont19 a r
      · rw [if_pos hc, addR19_yes hc]
      · rw [if_neg hc, addR19_no hc]
    rw [e]
    exact ext_cons19 h r (by simp at hfew; omega) h1 h2 h3
end Go.Proofs.Ytccippplpcjaiaa

/-
  Layer 19: the program's extender and Of.
-/
namespace Go.Proofs.Ytccippplpcjaiaa
open Go.RowKit
set_option linter.unusedVariables false
set_option linter.unusedSimpArgs false

set_option maxRecDepth 100000 in
theorem extender_any19 (B : Nat) (w : World) : Calls Try.prog 19 #[.pointer (some ⟨B, 0, none⟩)] w fun e w' => e = .returned (.func (.func 21) #[] #[.pointer (some ⟨w.heap.size, 0, none⟩)]) ∧ w' = w.alloc (.cells #[.pointer (some ⟨B, 0, none⟩)] 44) := by
  have hmf : ∀ (fn : Fn) (first cap : Array Value) (w : World), (Instr.makeFunc fn first cap).run Try.prog w = .ok (.func fn first cap) w := fun _ _ _ _ => rfl
  go_enter Try.func19, Try.ntmps19
  go_wp2
  go_ret
  exact ⟨rfl, rfl⟩

/-- the runs of small mappings have small numbers -/
theorem of19_small : ∀ (l : List Map19), Small19 l → ∀ a ∈ of19 l, 0 ≤ a.v ∧ a.v ≤ 281474976710655 ∧ 0 ≤ a.b ∧ a.b ≤ 281474976710655 ∧ 1 ≤ a.n ∧ a.n ≤ (l.length : Int) := fun l => by
  induction h : l.length generalizing l with
  | zero => rw [List.eq_nil_of_length_eq_zero h]; exact fun _ a ha => by cases ha
  | succ k ih =>
    intro hs
    rcases last19 l with rfl | ⟨o, x, rfl⟩
    · simp at h
    · have hk : o.length = k := by simpa using h
      have hi := ih o hk fun y hy => hs y (List.mem_append_left _ hy)
      have hx := hs x (by simp)
      have hone : 0 ≤ (one19 x).v ∧ (one19 x).v ≤ 281474976710655 ∧ 0 ≤ (one19 x).b ∧ (one19 x).b ≤ 281474976710655 ∧ (one19 x).n = 1 := ⟨hx.1, hx.2.1, hx.2.2.1, hx.2.2.2, rfl⟩
      rw [of19_snoc]
      unfold addM19
      generalize one19 x = r at *
      rcases last19 (of19 o) with e | ⟨o2, a, e⟩
      · rw [e, addR19_nil]
        intro b hb
        rw [List.mem_singleton.1 hb]
        omega
      · rw [e] at hi ⊢
        by_cases hc : cont19 a r
        · rw [addR19_yes hc]
          intro b hb
          rcases List.mem_append.1 hb with hb | hb
          · have := hi b (List.mem_append_left _ hb); omega
          · have ha := hi a (by simp)
            rw [List.mem_singleton.1 hb]
            dsimp only
            omega
        · rw [addR19_no hc]
          intro b hb
          rcases List.mem_append.1 hb with hb | hb
          · have := hi b hb; omega
          · rw [List.mem_singleton.1 hb]; omega
theorem last19_mem {l : List Run19} {a : Run19} (h : l.getLast? = some a) : a ∈ l := by
  rcases last19 l with rfl | ⟨o, b, rfl⟩
  · cases h
  · simp at h; rw [h]; simp

set_option maxRecDepth 100000 in
set_option maxHeartbeats 1600000 in
theorem Of_any19 (l : List Map19) (A : Option Addr) (n c : Nat) (w : World) (h : Trs w A n c l) (hn : n ≤ 1000000) (hsm : Small19 l) :
    Calls Try.prog 10 #[.slice A n c] w fun e w' => ∃ A' c', e = .returned (.slice A' (of19 l).length c') ∧ Rns w' A' (of19 l).length c' (of19 l) ∧ Below w.heap.size w w' := by
  have hl := h.len
  have HD := Lib.hid h
  obtain ⟨M0, hM0⟩ : ∃ M0, (of19 l).length = M0 := ⟨_, rfl⟩
  rw [hM0]
  have HM0 := Lib.hid hM0
  clear hM0
  have FX : Hid (∀ k v b t W A' c', k < n → Hid (Ex19 w W w.heap.size A' c' (of19 (l.take k))) → Hid (l.getD k zeroM19 = (v, b, t)) → Calls Try.prog 21 #[.agg #[.int .i64 v, .int .i64 b, .int .i64 1, .int .i64 t], .pointer (some ⟨w.heap.size + 1, 0, none⟩)] W fun e w' => e = .returned (.tuple #[]) ∧ ∃ A2 c2, Hid (Ex19 w w' w.heap.size A2 c2 (of19 (l.take (k + 1))))) := fun k v b t W A' c' hk hE hx => by
    have hkl : k < l.length := by omega
    have hx2 := hx.out
    rw [getD19 hkl] at hx2
    have e : of19 (l.take (k + 1)) = addR19 (of19 (l.take k)) ⟨v, b, 1, t⟩ := by
      rw [List.take_succ_eq_append_getElem hkl, of19_snoc, hx2]; rfl
    rw [e]
    have hst : Small19 (l.take k) := fun x hx => hsm x (List.mem_of_mem_take hx)
    have hlen : (of19 (l.take k)).length ≤ 1000000 := by
      have := of19_length (l.take k)
      rw [List.length_take] at this
      omega
    exact ext_any19 hE.out ⟨v, b, 1, t⟩ hlen fun a ha => by
      have := of19_small (l.take k) hst a (last19_mem ha)
      rw [List.length_take] at this
      dsimp only
      omega
  have ALL : Hid (of19 (l.take n) = of19 l) := by rw [List.take_of_length_le (by omega)]; exact Lib.hid rfl
  have EX := fun (B : Nat) (W : World) => Lib.hid (extender_any19 B W)
  have HN := Lib.hid (Ex19.new (W := w) (Below.refl w.heap.size w))
  clear h hsm hl
  go_enter Try.func10, Try.ntmps10
  go_wp2_with (go_at_call 19; (with_reducible refine (EX _ _).out.mono ?_); rintro e w2 ⟨rfl, rfl⟩)
  go_loopw [10] (fun i wr => ∃ (k : Nat) (A' : Option Addr) (c' : Nat), k ≤ n ∧ i = .int .i64 k ∧ Hid (Ex19 w wr w.heap.size A' c' (of19 (l.take k)))) (fun i _ => n - (intOf i).toNat)
  case atStart => exact ⟨0, none, 0, by omega, rfl, HN⟩
  case round =>
    obtain ⟨k, A', c', hk, rfl, hE⟩ := hrel
    by_cases hlt : k < n
    · obtain ⟨b, off, v, bb, t, rfl, hb, hx, d0, d1, d2⟩ := trs_at19 HD.out hlt
      have hbel := hE.out.bel
      have g0 := (hbel.cell (p := ⟨b, off + k * 3, none⟩) hb).trans d0
      have g1 := (hbel.cell (p := ⟨b, off + k * 3 + 1, none⟩) hb).trans d1
      have g2 := (hbel.cell (p := ⟨b, off + k * 3 + 2, none⟩) hb).trans d2
      have HX := Lib.hid hx
      have HE2 := fun o => Lib.hid (hE.out.later ((Below.refl _ _).alloc (Nat.le_refl _) o))
      clear d0 d1 d2 hx hbel
      go_wp2_with (go_at_call 21; (with_reducible refine (FX.out k _ _ _ _ _ _ hlt (HE2 _) HX).mono ?_); rintro e w3 ⟨rfl, A3, c3, HE3⟩)
      go_roundw
      all_goals first
        | exact ⟨k + 1, A3, c3, by omega, by push_cast; rfl, HE3⟩
        | (simp only [intOf]; omega)
    · obtain rfl : k = n := by omega
      have hE2 := hE.out
      rw [ALL.out] at hE2
      have h0 := hE2.lst.cell
      rw [HM0.out] at h0
      obtain ⟨A4, c4, e4, hT⟩ := Rns.of_own hE2.row
      have HT := Lib.hid hT
      have HB := Lib.hid hE2.bel
      cases e4
      rw [HM0.out] at HT
      clear hE2 hT
      go_wp2
      go_ret
      exact ⟨_, _, rfl, HT.out, HB.out⟩
end Go.Proofs.Ytccippplpcjaiaa

/-
  Layer 19: the program's Maps.
-/
namespace Go.Proofs.Ytccippplpcjaiaa
open Go.RowKit
set_option linter.unusedVariables false
set_option linter.unusedSimpArgs false

theorem RunC19.grown {X Y : World} {b2 B n : Nat} {r : Run19} {v : Value} {xs : List Value} (h : RunC19 X b2 r) (ho : X.ownsRow B 39 3 v n xs) (hg : X.grownBy Y v.ownBlock) : RunC19 Y b2 r :=
  (hg.block b2 (block_lt h) (fun e => by
    obtain ⟨_, cur, hc⟩ := own_apartS ho b2 e.symm
    have h' : X.heap[b2]? = _ := h
    rw [hc] at h'
    injection h' with h'
    injection h' with _ e3 _
    exact absurd e3 (by decide))).trans h
theorem RunC19.later {X Y : World} {b2 : Nat} {r : Run19} (h : RunC19 X b2 r) (hb : Below X.heap.size X Y) : RunC19 Y b2 r := (hb.block _ (block_lt h)).trans h

set_option maxRecDepth 100000 in
set_option maxHeartbeats 3200000 in
theorem pgMaps_bad19 (l : List Run19) (A : Option Addr) (n c : Nat) (w : World) (h : Rns w A n c l) (hbd : ∀ q ∈ l, (-9223372036854775808 ≤ q.v ∧ q.v ≤ 9223372036854775807) ∧ (-9223372036854775808 ≤ q.b ∧ q.b ≤ 9223372036854775807) ∧ (-9223372036854775808 ≤ q.n ∧ q.n ≤ 9223372036854775807) ∧ (-9223372036854775808 ≤ q.t ∧ q.t ≤ 9223372036854775807)) (hv : chkE19 0 none l ≠ 0) :
    Calls Try.prog 12 #[.slice A n c] w fun e w' => e = .returned (.tuple #[.slice none 0 0, .int .i64 (chkE19 0 none l)]) ∧ Below w.heap.size w w' := by
  have CK := Lib.hid (Check_any19 l A n c w h hbd)
  have hyb : (chkE19 0 none l != 0) = true := by simpa using hv
  clear h hbd hv
  generalize chkE19 0 none l = y at *
  go_enter Try.func12, Try.ntmps12
  go_wp2_with (go_at_call 15; (with_reducible refine (CK.out).mono ?_); rintro e w1 ⟨rfl, hb1⟩; have HB1 := Lib.hid hb1; clear hb1)
  go_ret2
  exact ⟨rfl, HB1.out⟩

set_option maxRecDepth 100000 in
set_option maxHeartbeats 3200000 in
theorem pgMaps_good19 (l : List Run19) (A : Option Addr) (n c : Nat) (w : World) (h : Rns w A n c l) (hbd : ∀ q ∈ l, (-9223372036854775808 ≤ q.v ∧ q.v ≤ 9223372036854775807) ∧ (-9223372036854775808 ≤ q.b ∧ q.b ≤ 9223372036854775807) ∧ (-9223372036854775808 ≤ q.n ∧ q.n ≤ 9223372036854775807) ∧ (-9223372036854775808 ≤ q.t ∧ q.t ≤ 9223372036854775807)) (hv : chkE19 0 none l = 0) :
    Calls Try.prog 12 #[.slice A n c] w fun e w' => ∃ A' c', e = .returned (.tuple #[.slice A' (maps19 l).length c', .int .i64 0]) ∧ Trs w' A' (maps19 l).length c' (maps19 l) ∧ Below w.heap.size w w' := by
  have hle : n ≤ 9223372036854775807 := Nat.le_trans h.cap h.most
  have hl := h.len
  obtain ⟨M0, hM0⟩ : ∃ M0, (maps19 l).length = M0 := ⟨_, rfl⟩
  rw [hM0]
  have HM0 := Lib.hid hM0
  clear hM0
  have CK := Lib.hid (Check_any19 l A n c w h hbd)
  rw [hv] at CK
  obtain ⟨hin, _, hlen⟩ := (chk19_good (chk19_pos hv)).1 hv
  have HD := Lib.hid h
  have IN : Hid (∀ (i k : Nat), i < n → (k : Int) < (l.getD i zero19).n → InR19 ((l.getD i zero19).v + (k : Int), (l.getD i zero19).b + (k : Int), (l.getD i zero19).t) ∧ (mapAt19 l i k).length < 16384) := fun i k hi hk => by
    obtain ⟨r, hr⟩ := mapAt19_part (l := l) (i := i) (by omega) (k + 1)
    rw [mapAt19_step hk] at hr
    refine ⟨hin _ (by rw [hr]; simp), ?_⟩
    have := congrArg List.length hr
    simp only [List.length_append, List.length_cons, List.length_nil] at this
    omega
  have NB : Hid (∀ i, i < n → 1 ≤ (l.getD i zero19).n ∧ (l.getD i zero19).n ≤ 16384) := fun i hi => by
    have hil : i < l.length := by omega
    have hp := chk19_pos hv l[i] (List.getElem_mem hil)
    rw [getD19 hil]
    refine ⟨hp, ?_⟩
    obtain ⟨r, hr⟩ := mapAt19_part hil (l[i].n.toNat)
    have := congrArg List.length hr
    unfold mapAt19 at this
    rw [getD19 hil, List.length_append, List.length_append, List.length_take, exp19_length] at this
    omega
  have S0 := Lib.hid (mapAt19_zero l)
  have SS := Lib.hid (fun (i k : Nat) => mapAt19_step (l := l) (i := i) (k := k))
  have SN := Lib.hid (fun (i k : Nat) (hi : i < n) => mapAt19_next (l := l) (i := i) (k := k) (by omega))
  have SA : Hid (mapAt19 l n 0 = maps19 l) := by rw [← hl]; exact Lib.hid (mapAt19_all l)
  clear h hbd hv hin hlen
  go_enter Try.func12, Try.ntmps12
  go_wp2_with (go_at_call 15; (with_reducible refine (CK.out).mono ?_); rintro e w1 ⟨rfl, hb1⟩; have HB1 := Lib.hid hb1; clear hb1)
  go_loopw [5, 16] (fun v i wr => ∃ (k : Nat), k ≤ n ∧ i = .int .i64 k ∧ Hid (wr.ownsRow w.heap.size 39 3 v (mapAt19 l k 0).length (triC (mapAt19 l k 0))) ∧ Hid (Below w.heap.size w wr)) (fun _ i _ => n - (intOf i).toNat)
  case atStart => exact ⟨0, by omega, rfl, by rw [S0.out]; exact World.ownsRow_nil _ _ _ _, HB1.out⟩
  case round =>
    obtain ⟨i, hi, rfl, hO, hbel⟩ := hrel
    by_cases hlt : i < n
    · obtain ⟨b, off, r, rfl, hb, hx, hkl, d0, d1, d2, d3⟩ := rns_at HD.out hlt
      have hnb := NB.out i hlt
      have INi := Lib.hid (IN.out i)
      have SSi := Lib.hid (SS.out i)
      have SNi := Lib.hid (fun k => SN.out i k hlt)
      rw [show l.getD i zero19 = r from hx] at hnb INi SSi SNi
      clear hx
      obtain ⟨m, hm⟩ := Int.eq_ofNat_of_zero_le (show 0 ≤ r.n by omega)
      rw [hm] at d2 hnb
      have HM := Lib.hid hm
      clear hm
      have g0 := (hbel.out.cell (p := ⟨b, off + i * 4, none⟩) hb).trans d0
      have g1 := (hbel.out.cell (p := ⟨b, off + i * 4 + 1, none⟩) hb).trans d1
      have g2 := (hbel.out.cell (p := ⟨b, off + i * 4 + 2, none⟩) hb).trans d2
      have g3 := (hbel.out.cell (p := ⟨b, off + i * 4 + 3, none⟩) hb).trans d3
      obtain ⟨W1, hW1⟩ : ∃ W1, wr.alloc (.cells #[.int .i64 r.v, .int .i64 r.b, .int .i64 (m : Int), .int .i64 r.t] 41) = W1 := ⟨_, rfl⟩
      obtain ⟨b2, hb2⟩ : ∃ b2, wr.heap.size = b2 := ⟨_, rfl⟩
      have HO1 : Hid (W1.ownsRow w.heap.size 39 3 u5 (mapAt19 l i 0).length (triC (mapAt19 l i 0))) := by rw [← hW1]; exact Lib.hid (hO.out.alloc _)
      have HB1 : Hid (Below w.heap.size w W1) := by rw [← hW1]; exact Lib.hid (hbel.out.alloc hbel.out.size _)
      have HR1 : Hid (RunC19 W1 b2 ⟨r.v, r.b, (m : Int), r.t⟩) := by rw [← hW1, ← hb2]; exact Lib.hid (heap_alloc_new wr _)
      have hR1 := HR1.out.cs
      obtain ⟨p0, p1, p2, p3⟩ := hR1
      clear hO hbel d0 d1 d2 d3
      go_wp2
      go_loopw [5, 22] (fun v i' wr => ∃ (k : Nat), k ≤ m ∧ i' = .int .i64 k ∧ Hid (wr.ownsRow w.heap.size 39 3 v (mapAt19 l i k).length (triC (mapAt19 l i k))) ∧ Hid (Below w.heap.size w wr) ∧ Hid (RunC19 wr b2 ⟨r.v, r.b, (m : Int), r.t⟩)) (fun _ i' _ => m - (intOf i').toNat)
      case atStart => exact ⟨0, by omega, rfl, HO1, HB1, HR1⟩
      case round =>
        clear HO1 HB1 HR1 p0 p1 p2 p3 g0 g1 g2 g3
        obtain ⟨k, hk, rfl, hO, hbel, hR⟩ := hrel
        obtain ⟨p0, p1, p2, p3⟩ := hR.out.cs
        by_cases hkm : k < m
        · obtain ⟨hir, hfew⟩ := INi.out k hlt (by rw [HM.out]; omega)
          have hstep := SSi.out k (by rw [HM.out]; omega)
          have hir' : (0 ≤ r.v + (k : Int) ∧ r.v + (k : Int) ≤ 281474976710655) ∧ 0 ≤ r.b + (k : Int) ∧ r.b + (k : Int) < 65536 := ⟨⟨hir.1, hir.2.1⟩, hir.2.2.1, hir.2.2.2.1⟩
          obtain ⟨⟨z1, z2⟩, z3, z4⟩ := hir'
          obtain ⟨x0, hx0⟩ : ∃ x0, r.v + (k : Int) = x0 := ⟨_, rfl⟩
          obtain ⟨x1, hx1⟩ : ∃ x1, r.b + (k : Int) = x1 := ⟨_, rfl⟩
          have hwv : IntKind.i64.wrap (r.v + (k : Int)) = x0 := (IntWalk.i64_in _ (by omega)).trans hx0
          have hwb : IntKind.i64.wrap (r.b + (k : Int)) = x1 := (IntWalk.i64_in _ (by omega)).trans hx1
          have hs : w.heap.size ≤ wr.heap.size := hbel.out.size
          rw [hx0, hx1] at hstep
          have HST := Lib.hid hstep
          clear hir hstep z1 z2 z3 z4 hx0 hx1
          have HNew := Lib.hid (Row.of_block (heap_alloc_new wr (.cells #[.int .i64 x0, .int .i64 x1, .int .i64 r.t] 39)))
          have HOA := Lib.hid (hO.out.alloc (.cells #[.int .i64 x0, .int .i64 x1, .int .i64 r.t] 39))
          have HRA := Lib.hid (hR.out.later ((Below.refl _ _).alloc (Nat.le_refl _) (.cells #[.int .i64 x0, .int .i64 x1, .int .i64 r.t] 39)))
          have HBA := Lib.hid (hbel.out.alloc hs (.cells #[.int .i64 x0, .int .i64 x1, .int .i64 r.t] 39))
          generalize hml : (mapAt19 l i k).length = ml at *
          have HML := Lib.hid hml
          clear hml
          go_wp2_with (at_builtin; refine wpList_append_liesG _ rfl _ _ 22 rfl w.heap.size 39 3 _ 24 Try.underlying22 info_map19 rfl (by omega) _ ml _ rfl HOA (by simp; omega) ⟨wr.heap.size, 0, none⟩ [.int .i64 x0, .int .i64 x1, .int .i64 r.t] 1 1 rfl rfl HNew.out (triC_one [(x0, x1, r.t)]) (by omega) (by omega) (by omega) ?_; intro g6 cap6 w6 hown6 hg6 hat6; have HR6 := Lib.hid (HRA.out.grown HOA.out hg6.out); have HB6 : Hid (Below w.heap.size w w6) := (HBA.out.grown hg6.out (by simp; omega) (fun q e => (own_apartS HOA.out q e).1)))
          go_roundw
          case rel => exact ⟨k + 1, by omega, by push_cast; rfl, by rw [HST.out, List.length_append, triC_append, HML.out]; exact hown6.out, HB6, HR6⟩
          case measure => simp [intOf]; omega
        · obtain rfl : k = m := by omega
          have hnx := SNi.out k (by rw [HM.out]; omega)
          rw [← hnx] at hO
          clear hnx
          go_wp2
          go_roundw
          case rel => exact ⟨i + 1, by omega, by push_cast; rfl, hO, hbel⟩
          case measure => simp [intOf]; omega
    · obtain rfl : i = n := by omega
      rw [SA.out, HM0.out] at hO
      obtain ⟨A', c', hv5, hT⟩ := Trs.of_own hO.out
      have HT := Lib.hid hT
      clear hT hO
      subst hv5
      go_wp2
      go_ret2
      exact ⟨A', c', rfl, HT.out, hbel.out⟩
theorem Maps_any19 (l : List Run19) (A : Option Addr) (n c : Nat) (w : World) (h : Rns w A n c l) (hbd : Bd19 l) :
    Calls Try.prog 12 #[.slice A n c] w fun e w' => ∃ A' c', e = .returned (.tuple #[.slice A' (mapL19 l).length c', .int .i64 (chkE19 0 none l)]) ∧ Trs w' A' (mapL19 l).length c' (mapL19 l) ∧ Below w.heap.size w w' := by
  by_cases hv : chkE19 0 none l = 0
  · have e : mapL19 l = maps19 l := if_pos hv
    rw [e, hv]
    exact pgMaps_good19 l A n c w h hbd hv
  · have e : mapL19 l = [] := if_neg hv
    rw [e]
    exact (pgMaps_bad19 l A n c w h hbd hv).mono fun e w' ⟨h1, h2⟩ => ⟨none, 0, h1, Trs.nil _, h2⟩
end Go.Proofs.Ytccippplpcjaiaa

/-
  Layer 19: the program's Merge; with it all that the laws ask of the program's functions.
-/
namespace Go.Proofs.Ytccippplpcjaiaa
open Go.RowKit
set_option linter.unusedVariables false
set_option linter.unusedSimpArgs false

theorem chk19_in : ∀ {l : List Run19} {all : Int} {p : Option Run19}, 0 ≤ all → chkE19 all p l = 0 → ∀ a ∈ l, 0 ≤ a.v ∧ a.v ≤ 281474976710655 ∧ 1 ≤ a.n ∧ a.n ≤ 65536 ∧ 0 ≤ a.b ∧ a.b ≤ 65536
  | [], _, _, _, _ => fun q hq => by cases hq
  | r :: l, all, p, ha, h => by
    obtain ⟨h1, _, h3⟩ := chk19_cons.1 h
    have hr := runR19_yes.1 h1
    have ih := chk19_in (by omega) h3
    intro q hq
    rcases List.mem_cons.1 hq with rfl | hq
    · omega
    · exact ih q hq
theorem chk19_take {l : List Run19} (h : chkE19 0 none l = 0) (k : Nat) : chkE19 0 none (l.take k) = 0 := by
  have hp := chk19_pos h
  rw [chk19_good (fun x hx => hp x (List.mem_of_mem_take hx))]
  obtain ⟨h1, h2, h3⟩ := (chk19_good hp).1 h
  have e : maps19 l = maps19 (l.take k) ++ maps19 (l.drop k) := by rw [← maps19_append, List.take_append_drop]
  rw [e] at h1 h2 h3
  rw [List.pairwise_append] at h2
  rw [List.length_append] at h3
  exact ⟨fun x hx => h1 x (List.mem_append_left _ hx), h2.1, by omega⟩
theorem chk19_few {l : List Run19} (h : chkE19 0 none l = 0) : l.length ≤ 16384 := by
  have hp := chk19_pos h
  obtain ⟨_, _, h3⟩ := (chk19_good hp).1 h
  have key : ∀ l : List Run19, Pos19 l → l.length ≤ (maps19 l).length := fun l => by
    induction l with
    | nil => intro _; exact Nat.zero_le _
    | cons r t ih =>
      intro hp
      have h1 := hp r (by simp)
      have h2 := ih fun x hx => hp x (List.mem_cons_of_mem _ hx)
      rw [maps19_cons, List.length_append, exp19_length, List.length_cons]
      omega
  exact Nat.le_trans (key l hp) h3

set_option maxRecDepth 100000 in
set_option maxHeartbeats 1600000 in
theorem Merge_any19 (l : List Run19) (A : Option Addr) (n c : Nat) (w : World) (h : Rns w A n c l) (hbd : Bd19 l) :
    Calls Try.prog 17 #[.slice A n c] w fun e w' => ∃ A' c', e = .returned (.slice A' (merL19 l).length c') ∧ Rns w' A' (merL19 l).length c' (merL19 l) ∧ Below w.heap.size w w' := by
  have hl := h.len
  have hle : n ≤ 9223372036854775807 := Nat.le_trans h.cap h.most
  have HD := Lib.hid h
  have CK := Lib.hid (Check_any19 l A n c w h hbd)
  obtain ⟨M0, hM0⟩ : ∃ M0, (merL19 l).length = M0 := ⟨_, rfl⟩
  rw [hM0]
  have HM0 := Lib.hid hM0
  clear hM0
  by_cases hv : chkE19 0 none l = 0
  · have e2 : merL19 l = merge19 l := if_pos hv
    rw [e2] at HM0 ⊢
    rw [hv] at CK
    have FX : Hid (∀ k r V W A' c', k < n → Hid (Below w.heap.size w V) → Hid (Ex19 V W V.heap.size A' c' (merge19 (l.take k))) → Hid (l.getD k zero19 = r) → Calls Try.prog 21 #[.agg #[.int .i64 r.v, .int .i64 r.b, .int .i64 r.n, .int .i64 r.t], .pointer (some ⟨V.heap.size + 1, 0, none⟩)] W fun e w' => e = .returned (.tuple #[]) ∧ ∃ A2 c2, Hid (Ex19 V w' V.heap.size A2 c2 (merge19 (l.take (k + 1))))) := fun k r V W A' c' hk hV hE hx => by
      have hkl : k < l.length := by omega
      have hx2 := hx.out
      rw [getD19 hkl] at hx2
      have e : merge19 (l.take (k + 1)) = addR19 (merge19 (l.take k)) r := by
        rw [List.take_succ_eq_append_getElem hkl, merge19_snoc, hx2]
      rw [e]
      have hc := merge19_chk (chk19_take hv k)
      have hf := chk19_few hc
      have hr := chk19_in (Int.le_refl 0) hv r (by rw [← hx2]; exact List.getElem_mem hkl)
      exact ext_any19 hE.out r (by omega) fun a ha => by
        have := chk19_in (Int.le_refl 0) hc a (last19_mem ha)
        omega
    have ALL : Hid (merge19 (l.take n) = merge19 l) := by rw [List.take_of_length_le (by omega)]; exact Lib.hid rfl
    have EX := fun (B : Nat) (W : World) => Lib.hid (extender_any19 B W)
    clear h hbd hl hv e2
    go_enter Try.func17, Try.ntmps17
    go_wp2_with (first
      | (go_at_call 15; (with_reducible refine (CK.out).mono ?_); rintro e w1 ⟨rfl, hb1⟩; have HB1 := Lib.hid hb1; have HN := Lib.hid (Ex19.new (W := w1) (Below.refl w1.heap.size w1)); clear hb1)
      | (go_at_call 19; (with_reducible refine (EX _ _).out.mono ?_); rintro e w2 ⟨rfl, rfl⟩))
    go_loopw [13] (fun i wr => ∃ (k : Nat) (A' : Option Addr) (c' : Nat), k ≤ n ∧ i = .int .i64 k ∧ Hid (Ex19 w1 wr w1.heap.size A' c' (merge19 (l.take k)))) (fun i _ => n - (intOf i).toNat)
    case atStart => exact ⟨0, none, 0, by omega, rfl, HN⟩
    case round =>
      obtain ⟨k, A', c', hk, rfl, hE⟩ := hrel
      by_cases hlt : k < n
      · obtain ⟨b, off, r, rfl, hb, hx, hkl, d0, d1, d2, d3⟩ := rns_at HD.out hlt
        have hbel := HB1.out.trans (hE.out.bel.mono HB1.out.size)
        have g0 := (hbel.cell (p := ⟨b, off + k * 4, none⟩) hb).trans d0
        have g1 := (hbel.cell (p := ⟨b, off + k * 4 + 1, none⟩) hb).trans d1
        have g2 := (hbel.cell (p := ⟨b, off + k * 4 + 2, none⟩) hb).trans d2
        have g3 := (hbel.cell (p := ⟨b, off + k * 4 + 3, none⟩) hb).trans d3
        have HX : Hid (l.getD k zero19 = r) := hx
        have HE2 := fun o => Lib.hid (hE.out.later ((Below.refl _ _).alloc (Nat.le_refl _) o))
        clear d0 d1 d2 d3 hx hbel
        go_wp2_with (go_at_call 21; (with_reducible refine (FX.out k r _ _ _ _ hlt HB1 (HE2 _) HX).mono ?_); rintro e w3 ⟨rfl, A3, c3, HE3⟩)
        go_roundw
        all_goals first
          | exact ⟨k + 1, A3, c3, by omega, by push_cast; rfl, HE3⟩
          | (simp only [intOf]; omega)
      · obtain rfl : k = n := by omega
        have hE2 := hE.out
        rw [ALL.out] at hE2
        have h0 := hE2.lst.cell
        rw [HM0.out] at h0
        obtain ⟨A4, c4, e4, hT⟩ := Rns.of_own hE2.row
        have HT := Lib.hid hT
        have HB := Lib.hid (HB1.out.trans (hE2.bel.mono HB1.out.size))
        cases e4
        rw [HM0.out] at HT
        clear hE2 hT
        go_wp2
        go_ret
        exact ⟨_, _, rfl, HT.out, HB.out⟩
  · have e2 : merL19 l = [] := if_neg hv
    rw [e2] at HM0 ⊢
    obtain rfl : M0 = 0 := HM0.out.symm
    have hyb : (chkE19 0 none l != 0) = true := by simpa using hv
    clear h hbd hv e2 HM0
    generalize chkE19 0 none l = y at *
    go_enter Try.func17, Try.ntmps17
    go_wp2_with (go_at_call 15; (with_reducible refine (CK.out).mono ?_); rintro e w1 ⟨rfl, hb1⟩; have HB1 := Lib.hid hb1; clear hb1)
    go_ret
    exact ⟨none, 0, rfl, Rns.nil _, HB1.out⟩
end Go.Proofs.Ytccippplpcjaiaa

/-
  Layer 19: the law's example; are mappings' numbers small.
-/
namespace Go.Proofs.Ytccippplpcjaiaa
open Go.RowKit
set_option linter.unusedVariables false
set_option linter.unusedSimpArgs false

theorem build_map19 (x y z : Int) (w : World) : (Instr.build 39 #[(0, .int .i64 x), (1, .int .i64 y), (2, .int .i64 z)]).run Try.prog w = .ok (.agg #[.int .i64 x, .int .i64 y, .int .i64 z]) w := run_build w _ _ _ (by kernel_rfl)
theorem build_run19 (x y z t : Int) (w : World) : (Instr.build 41 #[(0, .int .i64 x), (1, .int .i64 y), (2, .int .i64 z), (3, .int .i64 t)]).run Try.prog w = .ok (.agg #[.int .i64 x, .int .i64 y, .int .i64 z, .int .i64 t]) w := run_build w _ _ _ (by kernel_rfl)

def lvM19 : List Map19 := [(5, 9, 1), (6, 10, 1), (8, 12, 1)]
def lvR19 : List Run19 := [⟨5, 9, 2, 1⟩, ⟨8, 12, 1, 1⟩]
theorem lv19_of : of19 lvM19 = lvR19 := by decide
theorem lv19_trs (w : World) : Trs (w.alloc (.cells #[.int .i64 5, .int .i64 9, .int .i64 1, .int .i64 6, .int .i64 10, .int .i64 1, .int .i64 8, .int .i64 12, .int .i64 1] 39)) (some ⟨w.heap.size, 0, none⟩) 3 3 lvM19 := ⟨rfl, Nat.le_refl _, by omega, fun k hk => by
  have g := heap_alloc_new w (.cells #[.int .i64 5, .int .i64 9, .int .i64 1, .int .i64 6, .int .i64 10, .int .i64 1, .int .i64 8, .int .i64 12, .int .i64 1] 39)
  have hk : k < 3 := hk
  have cc : ∀ j v, #[Value.int .i64 5, .int .i64 9, .int .i64 1, .int .i64 6, .int .i64 10, .int .i64 1, .int .i64 8, .int .i64 12, .int .i64 1][j]? = some v → (w.alloc (.cells #[Value.int .i64 5, .int .i64 9, .int .i64 1, .int .i64 6, .int .i64 10, .int .i64 1, .int .i64 8, .int .i64 12, .int .i64 1] 39)).cell? ⟨w.heap.size, j, none⟩ = some v := fun j v h => by rw [cell_of_row _ _ j _ _ _ g]; exact h
  rcases (by omega : k = 0 ∨ k = 1 ∨ k = 2) with rfl | rfl | rfl
  · exact ⟨_, rfl, cc 0 _ rfl, cc 1 _ rfl, cc 2 _ rfl⟩
  · exact ⟨_, rfl, cc 3 _ rfl, cc 4 _ rfl, cc 5 _ rfl⟩
  · exact ⟨_, rfl, cc 6 _ rfl, cc 7 _ rfl, cc 8 _ rfl⟩⟩
theorem lv19_rns (w : World) : Rns (w.alloc (.cells #[.int .i64 5, .int .i64 9, .int .i64 2, .int .i64 1, .int .i64 8, .int .i64 12, .int .i64 1, .int .i64 1] 41)) (some ⟨w.heap.size, 0, none⟩) 2 2 lvR19 := ⟨rfl, Nat.le_refl _, by omega, fun k hk => by
  have g := heap_alloc_new w (.cells #[.int .i64 5, .int .i64 9, .int .i64 2, .int .i64 1, .int .i64 8, .int .i64 12, .int .i64 1, .int .i64 1] 41)
  have hk : k < 2 := hk
  have cc : ∀ j v, #[Value.int .i64 5, .int .i64 9, .int .i64 2, .int .i64 1, .int .i64 8, .int .i64 12, .int .i64 1, .int .i64 1][j]? = some v → (w.alloc (.cells #[Value.int .i64 5, .int .i64 9, .int .i64 2, .int .i64 1, .int .i64 8, .int .i64 12, .int .i64 1, .int .i64 1] 41)).cell? ⟨w.heap.size, j, none⟩ = some v := fun j v h => by rw [cell_of_row _ _ j _ _ _ g]; exact h
  rcases (by omega : k = 0 ∨ k = 1) with rfl | rfl
  · exact ⟨_, rfl, cc 0 _ rfl, cc 1 _ rfl, cc 2 _ rfl, cc 3 _ rfl⟩
  · exact ⟨_, rfl, cc 4 _ rfl, cc 5 _ rfl, cc 6 _ rfl, cc 7 _ rfl⟩⟩

set_option maxRecDepth 100000 in
set_option maxHeartbeats 800000 in
theorem lives19_any (w : World) : Calls Try.prog 8 #[] w fun e w' => e = .returned (.bool true) ∧ Below w.heap.size w w' := by
  have b1 := build_map19
  have b2 := build_run19
  have OF : Hid (Calls Try.prog 10 #[.slice (some ⟨w.heap.size, 0, none⟩) 3 3] (w.alloc (.cells #[.int .i64 5, .int .i64 9, .int .i64 1, .int .i64 6, .int .i64 10, .int .i64 1, .int .i64 8, .int .i64 12, .int .i64 1] 39)) fun e w' => ∃ A c, e = .returned (.slice A 2 c) ∧ Hid (Rns w' A 2 c lvR19) ∧ Hid (Below w.heap.size w w')) := by
    refine (Of_any19 lvM19 _ 3 3 _ (lv19_trs w) (by omega) (by unfold Small19 lvM19; decide)).mono ?_
    rintro e w' ⟨A, c, h1, h2, h3⟩
    have ha := (Below.refl w.heap.size w).alloc (Nat.le_refl _) (.cells #[.int .i64 5, .int .i64 9, .int .i64 1, .int .i64 6, .int .i64 10, .int .i64 1, .int .i64 8, .int .i64 12, .int .i64 1] 39)
    rw [lv19_of] at h1 h2
    exact ⟨A, c, h1, h2, ha.trans (h3.mono ha.size)⟩
  have SM : Hid (∀ W A c, Hid (Rns W A 2 c lvR19) → Hid (Below w.heap.size w W) → Calls Try.prog 9 #[.slice A 2 c, .slice (some ⟨W.heap.size, 0, none⟩) 2 2] (W.alloc (.cells #[.int .i64 5, .int .i64 9, .int .i64 2, .int .i64 1, .int .i64 8, .int .i64 12, .int .i64 1, .int .i64 1] 41)) fun e w' => e = .returned (.bool true) ∧ Hid (Below w.heap.size w w')) := fun W A c h hb => by
    have ha := (Below.refl W.heap.size W).alloc (Nat.le_refl _) (.cells #[.int .i64 5, .int .i64 9, .int .i64 2, .int .i64 1, .int .i64 8, .int .i64 12, .int .i64 1, .int .i64 1] 41)
    refine (refSame_any19 A _ 2 c 2 2 lvR19 lvR19 _ (h.out.below ha) (lv19_rns W) true (by simp)).mono ?_
    rintro e w' ⟨h1, h2⟩
    have hb2 := hb.out.trans (ha.mono hb.out.size)
    exact ⟨h1, hb2.trans (h2.mono hb2.size)⟩
  go_enter Try.func8, Try.ntmps8
  go_wp2_with (first
    | (go_at_call 10; (with_reducible refine (OF.out).mono ?_); rintro e w1 ⟨A, c, rfl, HR, HB1⟩)
    | (go_at_call 9; (with_reducible refine (SM.out _ _ _ HR HB1).mono ?_); rintro e w2 ⟨rfl, HB2⟩))
  go_ret
  exact ⟨rfl, HB2.out⟩

end Go.Proofs.Ytccippplpcjaiaa

/-
  Layer 19: RunsMaps.
-/
namespace Go.Proofs.Ytccippplpcjaiaa
open Go.RowKit
set_option linter.unusedVariables false
set_option linter.unusedSimpArgs false

set_option maxRecDepth 100000 in
set_option maxHeartbeats 1600000 in
theorem runsmaps_walk (A : Option Addr) (n c : Nat) (l : List Run19) (w : World) (h : Rns w A n c l) (hbd : Bd19 l) :
    Calls Try.prog 4 #[.slice A n c] w fun e w' => e = .returned (.bool true) ∧ Below w.heap.size w w' := by
  have LV : Hid (∀ W, Hid (Below w.heap.size w W) → Calls Try.prog 8 #[] W fun e w' => e = .returned (.bool true) ∧ Hid (Below w.heap.size w w')) := fun W hW => (lives19_any W).mono fun e w' ⟨h1, h2⟩ => ⟨h1, hW.out.trans (h2.mono hW.out.size)⟩
  have B0 : Hid (Below w.heap.size w w) := Below.refl _ _
  have hle : n ≤ 9223372036854775807 := Nat.le_trans h.cap h.most
  by_cases hn : n ≤ 500
  · have MP : Hid (Calls Try.prog 12 #[.slice A n c] w fun e w' => ∃ A' c', e = .returned (.tuple #[.slice A' (mapL19 l).length c', .int .i64 (chkE19 0 none l)]) ∧ Hid (Trs w' A' (mapL19 l).length c' (mapL19 l)) ∧ Hid (Below w.heap.size w w')) := Maps_any19 l A n c w h hbd
    have RM : Hid (∀ W A1 n1 c1, Hid (Below w.heap.size w W) → Hid (Trs W A1 n1 c1 (mapL19 l)) → Calls Try.prog 13 #[.slice A n c] W fun e w' => ∃ A' c', e = .returned (.tuple #[.slice A' (mapL19 l).length c', .int .i64 (chkE19 0 none l)]) ∧ Hid (Trs w' A' (mapL19 l).length c' (mapL19 l)) ∧ Hid (Trs w' A1 n1 c1 (mapL19 l)) ∧ Hid (Below w.heap.size w w')) := fun W A1 n1 c1 hW hR => (refMaps_any19 l A n c W (h.below hW.out) hbd).mono fun e w' ⟨A', c', h1, h2, h3⟩ => ⟨A', c', h1, h2, hR.out.below h3, hW.out.trans (h3.mono hW.out.size)⟩
    have ST : Hid (∀ W A1 n1 c1 A2 n2 c2, Hid (Trs W A1 n1 c1 (mapL19 l)) → Hid (Trs W A2 n2 c2 (mapL19 l)) → Hid (Below w.heap.size w W) → Calls Try.prog 14 #[.slice A1 n1 c1, .slice A2 n2 c2] W fun e w' => e = .returned (.bool true) ∧ Hid (Below w.heap.size w w')) := fun W A1 n1 c1 A2 n2 c2 h1 h2 hW => (refSameMaps_any18 A1 A2 n1 c1 n2 c2 _ _ W h1.out h2.out true (by simp)).mono fun e w' ⟨h1, h2⟩ => ⟨h1, hW.out.trans (h2.mono hW.out.size)⟩
    have CK : Hid (∀ W, Hid (Below w.heap.size w W) → Calls Try.prog 15 #[.slice A n c] W fun e w' => e = .returned (.int .i64 (chkE19 0 none l)) ∧ Hid (Below w.heap.size w w')) := fun W hW => (Check_any19 l A n c W (h.below hW.out) hbd).mono fun e w' ⟨h1, h2⟩ => ⟨h1, hW.out.trans (h2.mono hW.out.size)⟩
    have RC : Hid (∀ W, Hid (Below w.heap.size w W) → Calls Try.prog 16 #[.slice A n c] W fun e w' => e = .returned (.int .i64 (chkE19 0 none l)) ∧ Hid (Below w.heap.size w w')) := fun W hW => (refChk_any19 l A n c W (h.below hW.out) hbd).mono fun e w' ⟨h1, h2⟩ => ⟨h1, hW.out.trans (h2.mono hW.out.size)⟩
    have MG : Hid (∀ W, Hid (Below w.heap.size w W) → Calls Try.prog 17 #[.slice A n c] W fun e w' => ∃ A' c', e = .returned (.slice A' (merL19 l).length c') ∧ Hid (Rns w' A' (merL19 l).length c' (merL19 l)) ∧ Hid (Below w.heap.size w w')) := fun W hW => (Merge_any19 l A n c W (h.below hW.out) hbd).mono fun e w' ⟨A', c', h1, h2, h3⟩ => ⟨A', c', h1, h2, hW.out.trans (h3.mono hW.out.size)⟩
    have RG : Hid (∀ W A1 n1 c1, Hid (Below w.heap.size w W) → Hid (Rns W A1 n1 c1 (merL19 l)) → Calls Try.prog 18 #[.slice A n c] W fun e w' => ∃ A' c', e = .returned (.slice A' (merL19 l).length c') ∧ Hid (Rns w' A' (merL19 l).length c' (merL19 l)) ∧ Hid (Rns w' A1 n1 c1 (merL19 l)) ∧ Hid (Below w.heap.size w w')) := fun W A1 n1 c1 hW hR => (refMerge_any19 l A n c W (h.below hW.out) hbd).mono fun e w' ⟨A', c', h1, h2, h3⟩ => ⟨A', c', h1, h2, hR.out.below h3, hW.out.trans (h3.mono hW.out.size)⟩
    have SM : Hid (∀ W A1 n1 c1 A2 n2 c2, Hid (Rns W A1 n1 c1 (merL19 l)) → Hid (Rns W A2 n2 c2 (merL19 l)) → Hid (Below w.heap.size w W) → Calls Try.prog 9 #[.slice A1 n1 c1, .slice A2 n2 c2] W fun e w' => e = .returned (.bool true) ∧ Hid (Below w.heap.size w w')) := fun W A1 n1 c1 A2 n2 c2 h1 h2 hW => (refSame_any19 A1 A2 n1 c1 n2 c2 _ _ W h1.out h2.out true (by simp)).mono fun e w' ⟨h1, h2⟩ => ⟨h1, hW.out.trans (h2.mono hW.out.size)⟩
    clear h hbd
    generalize (merL19 l).length = m at *
    generalize (mapL19 l).length = m2 at *
    generalize chkE19 0 none l = y at *
    go_enter Try.func4, Try.ntmps4
    go_wp2_with (first
      | (go_at_call 12; (with_reducible refine (MP.out).mono ?_); rintro e w1 ⟨A1, c1, rfl, HT1, HB1⟩)
      | (go_at_call 13; (with_reducible refine (RM.out _ _ _ _ HB1 HT1).mono ?_); rintro e w2 ⟨A2, c2, rfl, HT2, HT3, HB2⟩)
      | (go_at_call 14; (with_reducible refine (ST.out _ _ _ _ _ _ _ HT3 HT2 HB2).mono ?_); rintro e w3 ⟨rfl, HB3⟩)
      | (go_at_call 15; (with_reducible refine (CK.out _ HB3).mono ?_); rintro e w4 ⟨rfl, HB4⟩)
      | (go_at_call 16; (with_reducible refine (RC.out _ HB4).mono ?_); rintro e w5 ⟨rfl, HB5⟩)
      | (go_at_call 17; (with_reducible refine (MG.out _ HB5).mono ?_); rintro e w6 ⟨A6, c6, rfl, HR6, HB6⟩)
      | (go_at_call 18; (with_reducible refine (RG.out _ _ _ _ HB6 HR6).mono ?_); rintro e w7 ⟨A7, c7, rfl, HR7, HR8, HB7⟩)
      | (go_at_call 9; (with_reducible refine (SM.out _ _ _ _ _ _ _ HR8 HR7 HB7).mono ?_); rintro e w8 ⟨rfl, HB8⟩)
      | (go_at_call 8; (with_reducible refine (LV.out _ HB8).mono ?_); rintro e w9 ⟨rfl, HB9⟩))
    go_ret
    exact ⟨rfl, HB9.out⟩
  · clear h hbd
    go_enter Try.func4, Try.ntmps4
    go_wp2_with (go_at_call 8; (with_reducible refine (LV.out _ B0).mono ?_); rintro e w2 ⟨rfl, HB2⟩)
    go_ret
    exact ⟨rfl, HB2.out⟩
end Go.Proofs.Ytccippplpcjaiaa
