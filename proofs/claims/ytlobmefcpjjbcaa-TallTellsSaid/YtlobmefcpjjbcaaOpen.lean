/-
  Opening the arguments of a law: slices of bytes, of integers, of structs of two integers, as our own words for memory.
-/
import Derived.Test.YtlobmefcpjjbcaaMem
import Derived.ProofKit
import Derived.OpenShut
import Derived.ShutString
import Derived.ChangeOld
import Derived.Deep.Slices
import Derived.Deep.Fields
import Derived.SizedLaws
namespace Go.Proofs.Ytlobmefcpjjbcaa
open Go.ChangeShapes Go.WideShapes Go.ChangeAt Go.RowKit Go.Deep
set_option linter.unusedVariables false
set_option linter.unusedSimpArgs false

section
variable {H : Type} {enc : TypeId × Value → H} {P : Program} {w : World} {base : Nat} {spare : Nat → Bool} {held : Bool}

theorem bd_i64 {n : Int} (h : (Lit.int .i64 n).wf = true) : -9223372036854775808 ≤ n ∧ n ≤ 9223372036854775807 := by
  simpa [Lit.wf, IntKind.min, IntKind.max, IntKind.signed, IntKind.bits] using h
theorem bd_u8 {n : Int} (h : (Lit.int .u8 n).wf = true) : 0 ≤ n ∧ n ≤ 255 := by
  simpa [Lit.wf, IntKind.min, IntKind.max, IntKind.signed, IntKind.bits] using h

theorem row_of_ints {k : IntKind} {a : Addr} {zs : List Int} (h : ∀ i, i < zs.length → w.cell? (a.add i) = some (.int k (zs.getD i 0))) : Row w (some a) (zs.map (Value.int k)) := by
  intro j v hj
  have hlt : j < zs.length := by
    have := (List.getElem?_eq_some_iff.1 hj).1
    simpa using this
  refine ⟨a, rfl, ?_⟩
  rw [h j hlt]
  simpa [List.getD, hlt] using hj

theorem open_bytes {t e : TypeId} {A : Option Addr} {n c : Nat} {d : DataW H} {p : List MemPlace} (ht : P.underlying t = some (.slice e)) (he : P.underlying e = some (.int .u8)) (hC : P.cellsOf e = 1)
    (h : DataW.Trod enc P w base spare held t (.slice A n c) d p) : ∃ l, Bytes8 w A n c l := by
  obtain ⟨fuel, hf⟩ := h
  rcases open_ints ht he hC hf with ⟨hcs, _⟩ | ⟨x, l, c', zs, hcs, _, hl, hm, hz, _, hcell, hwz⟩
  · simp [Value.cells] at hcs
    obtain ⟨rfl, rfl, rfl⟩ := hcs
    exact ⟨[], Bytes8.nil w⟩
  · simp [Value.cells] at hcs
    obtain ⟨rfl, rfl, rfl⟩ := hcs
    have hlen : n ≤ zs.length := by rw [hz]; split <;> omega
    have hmap : u8s ((zs.take n).map fun z => UInt8.ofNat z.toNat) = (zs.take n).map (Value.int .u8) := by
      simp only [u8s, List.map_map]
      refine List.map_congr_left fun z hz => ?_
      have := bd_u8 (hwz z (List.mem_of_mem_take hz))
      simp only [Function.comp_apply]
      congr 1
      simp
      omega
    refine ⟨(zs.take n).map fun z => UInt8.ofNat z.toNat, ⟨by simp; omega, hl, by simpa [maxLen] using hm, ?_⟩⟩
    rw [hmap, List.map_take]
    exact (row_of_ints hcell).take n

theorem open_i64s {t e : TypeId} {A : Option Addr} {n c : Nat} {d : DataW H} {p : List MemPlace} (ht : P.underlying t = some (.slice e)) (he : P.underlying e = some (.int .i64)) (hC : P.cellsOf e = 1)
    (h : DataW.Trod enc P w base spare held t (.slice A n c) d p) : ∃ l : List Int, Ints w A n c l ∧ ∀ x ∈ l, -9223372036854775808 ≤ x ∧ x ≤ 9223372036854775807 := by
  obtain ⟨fuel, hf⟩ := h
  rcases open_ints ht he hC hf with ⟨hcs, _⟩ | ⟨x, l, c', zs, hcs, _, hl, hm, hz, _, hcell, hwz⟩
  · simp [Value.cells] at hcs
    obtain ⟨rfl, rfl, rfl⟩ := hcs
    exact ⟨[], Ints.nil w, by simp⟩
  · simp [Value.cells] at hcs
    obtain ⟨rfl, rfl, rfl⟩ := hcs
    have hlen : n ≤ zs.length := by rw [hz]; split <;> omega
    refine ⟨zs.take n, ⟨by simp; omega, hl, by simpa [maxLen] using hm, ?_⟩, fun z hz => bd_i64 (hwz z (List.mem_of_mem_take hz))⟩
    rw [i64s, List.map_take]
    exact (row_of_ints hcell).take n

/-- pairs of integers as cells -/
def pair64 (l : List (Int × Int)) : List Value := l.flatMap fun p => [.int .i64 p.1, .int .i64 p.2]

theorem row_of_pairs {a : Addr} {n : Nat} {f : Nat → Int × Int} (h : ∀ i, i < n → w.cell? (a.add (i * 2)) = some (.int .i64 (f i).1) ∧ w.cell? (a.add (i * 2 + 1)) = some (.int .i64 (f i).2)) :
    Row w (some a) (pair64 ((List.range n).map f)) := by
  have key : ∀ m (g : Nat → Int × Int) j v, (pair64 ((List.range m).map g))[j]? = some v → ∃ i, i < m ∧ ((j = i * 2 ∧ v = .int .i64 (g i).1) ∨ (j = i * 2 + 1 ∧ v = .int .i64 (g i).2)) := by
    intro m
    induction m with
    | zero => intro g j v hv; simp [pair64] at hv
    | succ m ih =>
      intro g j v hv
      rw [List.range_succ_eq_map, List.map_cons, List.map_map] at hv
      simp only [pair64, List.flatMap_cons] at hv
      match j with
      | 0 => exact ⟨0, by omega, .inl ⟨rfl, by simpa using hv.symm⟩⟩
      | 1 => exact ⟨0, by omega, .inr ⟨rfl, by simpa using hv.symm⟩⟩
      | j + 2 =>
        rw [List.getElem?_append_right (by simp)] at hv
        simp only [List.length_cons, List.length_nil] at hv
        rw [show j + 2 - (0 + 1 + 1) = j by omega] at hv
        obtain ⟨i, hi, h⟩ := ih (g ∘ Nat.succ) j v hv
        refine ⟨i + 1, by omega, ?_⟩
        rcases h with ⟨rfl, rfl⟩ | ⟨rfl, rfl⟩
        · exact .inl ⟨by omega, rfl⟩
        · exact .inr ⟨by omega, rfl⟩
  intro j v hj
  obtain ⟨i, hi, h2⟩ := key n f j v hj
  refine ⟨a, rfl, ?_⟩
  rcases h2 with ⟨rfl, rfl⟩ | ⟨rfl, rfl⟩
  · exact (h i hi).1
  · exact (h i hi).2

theorem open_pairs {t e : TypeId} {f0 f1 : Field} {A : Option Addr} {n c : Nat} {d : DataW H} {p : List MemPlace} (ht : P.underlying t = some (.slice e)) (he : P.underlying e = some (.struct #[f0, f1]))
    (hone : oneCellFields P #[f0, f1] = true) (hC : P.cellsOf e = 2) (h0 : P.underlying f0.type = some (.int .i64)) (h1 : P.underlying f1.type = some (.int .i64))
    (h : DataW.Trod enc P w base (fun _ => true) held t (.slice A n c) d p) :
    ∃ l : List (Int × Int), l.length = n ∧ n ≤ c ∧ c ≤ 9223372036854775807 ∧ Row w A (pair64 l) ∧ ∀ q ∈ l, (-9223372036854775808 ≤ q.1 ∧ q.1 ≤ 9223372036854775807) ∧ (-9223372036854775808 ≤ q.2 ∧ q.2 ≤ 9223372036854775807) := by
  obtain ⟨fuel, hf⟩ := h
  rcases open_slice ht hf with ⟨hcs, _⟩ | ⟨x, l, c', m, k, D, Pl, hcs, _, hl, hm, hmm, _, hi⟩
  · simp [Value.cells] at hcs
    obtain ⟨rfl, rfl, rfl⟩ := hcs
    exact ⟨[], rfl, Nat.le_refl _, by omega, Row.nil _ _, by simp⟩
  · simp [Value.cells] at hcs
    obtain ⟨rfl, rfl, rfl⟩ := hcs
    simp only [if_true] at hmm
    subst hmm
    rw [hC] at hi
    have hone0 := hone_of hone 0 f0 rfl
    have hone1 := hone_of hone 1 f1 rfl
    have each : ∀ i, i < n → ∃ q : Int × Int, (w.cell? (x.add (i * 2)) = some (.int .i64 q.1) ∧ w.cell? (x.add (i * 2 + 1)) = some (.int .i64 q.2)) ∧
        (-9223372036854775808 ≤ q.1 ∧ q.1 ≤ 9223372036854775807) ∧ (-9223372036854775808 ≤ q.2 ∧ q.2 ≤ 9223372036854775807) := by
      intro i hin
      obtain ⟨cs', hc, htr⟩ := hi i (by omega)
      obtain ⟨_, hcl, hat⟩ := World.cells?_some hc
      match cs', hcl with
      | [u0, u1], _ =>
        obtain ⟨ys, n', _, _, _, hyl, hg⟩ := DataW.trod_struct he htr
        match ys, hyl with
        | [y0, y1], _ =>
          have g0 := hg 0 f0 rfl
          have g1 := hg 1 f1 rfl
          rw [hone0.1, hone0.2] at g0
          rw [hone1.1, hone1.2] at g1
          obtain ⟨z0, e0, _, w0⟩ := DataW.trod_int h0 (x := y0) g0
          obtain ⟨z1, e1, _, w1⟩ := DataW.trod_int h1 (x := y1) g1
          simp at e0 e1
          subst e0; subst e1
          have c0 := hat 0 (by omega)
          have c1 := hat 1 (by omega)
          rw [addr_add_add] at c0 c1
          exact ⟨(z0, z1), ⟨by simpa using c0, by simpa using c1⟩, bd_i64 w0, bd_i64 w1⟩
    have hch : ∃ f : Nat → Int × Int, ∀ i, i < n → (w.cell? (x.add (i * 2)) = some (.int .i64 (f i).1) ∧ w.cell? (x.add (i * 2 + 1)) = some (.int .i64 (f i).2)) ∧
        (-9223372036854775808 ≤ (f i).1 ∧ (f i).1 ≤ 9223372036854775807) ∧ (-9223372036854775808 ≤ (f i).2 ∧ (f i).2 ≤ 9223372036854775807) :=
      ⟨fun i => if h : i < n then Classical.choose (each i h) else (0, 0), fun i h => by
        simp only [dif_pos h]
        exact Classical.choose_spec (each i h)⟩
    obtain ⟨f, hfq⟩ := hch
    refine ⟨(List.range n).map f, by simp, hl, by simpa [maxLen] using hm, row_of_pairs fun i hin => (hfq i hin).1, ?_⟩
    intro q hq
    obtain ⟨i, hi2, rfl⟩ := List.mem_map.1 hq
    exact (hfq i (List.mem_range.1 hi2)).2

/-- the form's own reach, of a slice that came in -/
theorem slice_reach {ts : List TypeId} {ds : List (DataW H)} (hs : (DataW.weightsEach P ts ds).all (· ≤ reachBytes) = true) {j : Nat} {t e : TypeId} {A : Option Addr} {n c : Nat} {d : DataW H} {p : List MemPlace}
    (ht0 : ts[j]? = some t) (hd : ds[j]? = some d) (ht : P.underlying t = some (.slice e)) (h : DataW.Trod enc P w base spare held t (.slice A n c) d p) : n * P.bytesOf e ≤ 140737488351232 := by
  obtain ⟨fuel, hf⟩ := h
  rcases open_slice ht hf with ⟨hcs, _⟩ | ⟨x, l, c', m, k, D, Pl, hcs, _, hl, hm, hmm, hx, _⟩
  · simp [Value.cells] at hcs
    obtain ⟨rfl, rfl, rfl⟩ := hcs
    simp
  · simp [Value.cells] at hcs
    obtain ⟨rfl, rfl, rfl⟩ := hcs
    simp only [Prod.mk.injEq] at hx
    rw [hx.1] at hd
    have := sized_slice hs ht0 hd ht
    simp only [List.length_map, List.length_range, reachBytes] at this
    exact Nat.le_trans (Nat.mul_le_mul_right _ (Nat.le_add_right _ _)) this

end

end Go.Proofs.Ytlobmefcpjjbcaa
