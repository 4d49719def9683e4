/-
  Opening the arguments of a law, second part: slices of slices of bytes.
-/
import Derived.Test.YtkodddklomegfaaOpen
import Derived.Test.YtkodddklomegfaaMemE
import Derived.Deep.Matrix
namespace Go.Proofs.Ytkodddklomegfaa
open Go.ChangeShapes Go.WideShapes Go.ChangeAt Go.RowKit Go.Deep
set_option linter.unusedVariables false
set_option linter.unusedSimpArgs false

section
variable {H : Type} {enc : TypeId × Value → H} {P : Program} {w : World} {base : Nat} {held : Bool}

theorem bytes_of_cells {A : Option Addr} {n c : Nat} {zs : List Int} (hl : n ≤ c) (hm : c ≤ maxLen) (hz : zs.length = c) (hw : ∀ z ∈ zs, (Lit.int .u8 z).wf = true) (hn : A = none → c = 0)
    (hc : ∀ a, A = some a → ∀ i, i < c → w.cell? (a.add i) = some (.int .u8 (zs.getD i 0))) : Bytes8 w A n c ((zs.take n).map fun z => UInt8.ofNat z.toNat) := by
  have hmap : u8s ((zs.take n).map fun z => UInt8.ofNat z.toNat) = (zs.take n).map (Value.int .u8) := by
    simp only [u8s, List.map_map]
    refine List.map_congr_left fun z hz => ?_
    have := bd_u8 (hw z (List.mem_of_mem_take hz))
    simp only [Function.comp_apply]
    congr 1
    simp
    omega
  refine ⟨by simp; omega, hl, by simpa [maxLen] using hm, ?_⟩
  rw [hmap]
  cases A with
  | none =>
    have : n = 0 := by have := hn rfl; omega
    subst this
    simpa using Row.nil w none
  | some a =>
    rw [List.map_take]
    exact (row_of_ints (fun i hi => hc a rfl i (by omega))).take n

theorem weights_inner {e : TypeId} {d : DataW H} : ∀ {ds : List (DataW H)}, d ∈ ds → ∀ n ∈ d.weights P e, n ∈ DataW.weightsAll P e ds
  | [], h, _, _ => by cases h
  | y :: r, h, n, hn => by
    simp only [DataW.weightsAll, List.mem_append]
    rcases List.mem_cons.1 h with rfl | h
    · exact .inl hn
    · exact .inr (weights_inner h n hn)

/-- a slice of slices of bytes that came in; each within the form's own reach -/
theorem open_pieces {t e q : TypeId} {A : Option Addr} {n c : Nat} {d : DataW H} {p : List MemPlace} (ht : P.underlying t = some (.slice e)) (he : P.underlying e = some (.slice q)) (hq : P.underlying q = some (.int .u8))
    (ce : P.cellsOf e = 1) (cq : P.cellsOf q = 1) (hby : P.bytesOf q = 1) (h : DataW.Trod enc P w base (fun _ => true) held t (.slice A n c) d p)
    {ts : List TypeId} {ds : List (DataW H)} (hs : (DataW.weightsEach P ts ds).all (· ≤ reachBytes) = true) {j : Nat} (ht0 : ts[j]? = some t) (hd : ds[j]? = some d) :
    ∃ ll : List (List UInt8), Pcs w A n c ll ∧ ∀ l ∈ ll, l.length ≤ 140737488351232 := by
  obtain ⟨fuel, hf⟩ := h
  rcases open_int_rows ht he hq ce cq hf with ⟨hcs, _⟩ | ⟨a, len, cap, AA, L, C, Z, hcs, _, hl, hm, hx, hcell⟩
  · simp [Value.cells] at hcs
    obtain ⟨rfl, rfl, rfl⟩ := hcs
    exact ⟨[], Pcs.nil w, by simp⟩
  · simp [Value.cells] at hcs
    obtain ⟨rfl, rfl, rfl⟩ := hcs
    simp only [Prod.mk.injEq] at hx
    obtain ⟨hx, _⟩ := hx
    have hCr : ∀ r, r < n → C r ≤ 140737488351232 := by
      intro r hr
      obtain ⟨_, h1, h2, h3, h4, h5, _⟩ := hcell r (by omega)
      cases hA : AA r with
      | none => rw [h5 hA]; omega
      | some a' =>
        have hin : (C r) * P.bytesOf q ∈ (intRow (H := H) .u8 (AA r) (L r) (Z r)).weights P e := by
          rw [hA]
          simp only [intRow, DataW.weights, he, List.mem_cons]
          refine .inl ?_
          simp only [lits, List.length_map, List.length_take, List.length_drop]
          congr 1
          omega
        have hin2 : (C r) * P.bytesOf q ∈ d.weights P t := by
          rw [hx]
          simp only [DataW.weights, ht, List.mem_cons, List.mem_append]
          refine .inr (.inl ?_)
          exact weights_inner (d := intRow .u8 (AA r) (L r) (Z r)) (List.mem_map.2 ⟨r, List.mem_range.2 hr, rfl⟩) _ hin
        have := List.all_eq_true.1 hs _ (DataW.weights_mem_each ht0 hd _ hin2)
        rw [hby, Nat.mul_one] at this
        have h9 : C r ≤ reachBytes := of_decide_eq_true this
        exact h9
    refine ⟨(List.range n).map fun r => ((Z r).take (L r)).map fun z => UInt8.ofNat z.toNat, ⟨by simp, hl, by simpa [maxLen] using hm, fun k hk => ?_⟩, fun l hlm => ?_⟩
    · have hk' : k < n := by simpa using hk
      obtain ⟨h0, h1, h2, h3, h4, h5, h6⟩ := hcell k (by omega)
      refine ⟨a, AA k, L k, C k, rfl, h0, ?_⟩
      simp only [List.getElem_map, List.getElem_range]
      exact bytes_of_cells h1 h2 h3 h4 h5 fun a' ha i hi => (h6 a' ha).2 i hi
    · obtain ⟨r, hr, rfl⟩ := List.mem_map.1 hlm
      have hr' := List.mem_range.1 hr
      obtain ⟨_, h1, h2, h3, h4, h5, _⟩ := hcell r (by omega)
      have := hCr r hr'
      simp
      omega

end
end Go.Proofs.Ytkodddklomegfaa
