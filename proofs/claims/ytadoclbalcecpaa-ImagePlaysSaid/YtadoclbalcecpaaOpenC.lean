/-
  Slices of structs of an integer and a slice of bytes: in memory, and opened.
-/
import Derived.Test.YtadoclbalcecpaaOpenB
import Derived.ChangeSame
namespace Go.Proofs.Ytadoclbalcecpaa
open Go.ChangeShapes Go.WideShapes Go.ChangeAt Go.RowKit Go.Deep
set_option linter.unusedVariables false
set_option linter.unusedSimpArgs false

/-- a slice of structs of an integer and a slice of bytes -/
structure Stp (w : World) (A : Option Addr) (n c : Nat) (ll : List (Int × List UInt8)) : Prop where
  len : ll.length = n
  cap : n ≤ c
  most : c ≤ 9223372036854775807
  row : ∀ k (h : k < ll.length), ∃ ad A' m c', A = some ad ∧ w.cell? (ad.add (k * 2)) = some (.int .i64 ll[k].1) ∧ w.cell? (ad.add (k * 2 + 1)) = some (.slice A' m c') ∧ Bytes8 w A' m c' ll[k].2

theorem Stp.below {w w' : World} {A : Option Addr} {n c : Nat} {ll : List (Int × List UInt8)} (h : Stp w A n c ll) (hb : Below w.heap.size w w') : Stp w' A n c ll :=
  ⟨h.len, h.cap, h.most, fun k hk => by
    obtain ⟨ad, A', m, c', e, h1, h2, hB⟩ := h.row k hk
    exact ⟨ad, A', m, c', e, (hb.cell (cell_lt h1)).trans h1, (hb.cell (cell_lt h2)).trans h2, hB.below hb⟩⟩

theorem Stp.nil (w : World) : Stp w none 0 0 [] := ⟨rfl, Nat.le_refl _, Nat.zero_le _, fun k h => by simp at h⟩

theorem Stp.lit {w : World} {A : Option Addr} {n c : Nat} {ll : List (Int × List UInt8)} (h : Stp w A n c ll) (hp : 0 < n) :
    ∃ b off, A = some ⟨b, off, none⟩ ∧ b < w.heap.size ∧ ∀ k (h : k < ll.length), ∃ A' m c', w.cell? ⟨b, off + k * 2, none⟩ = some (.int .i64 ll[k].1) ∧ w.cell? ⟨b, off + (k * 2 + 1), none⟩ = some (.slice A' m c') ∧ Bytes8 w A' m c' ll[k].2 := by
  obtain ⟨ad, A', m, c', rfl, hc, _⟩ := h.row 0 (by rw [h.len]; exact hp)
  obtain ⟨b, off, spot⟩ := ad
  have hspot : spot = none := by simpa [Addr.add] using World.cell?_spot hc
  subst hspot
  refine ⟨b, off, rfl, by simpa [Addr.add] using cell_lt hc, fun k hk => ?_⟩
  obtain ⟨ad', A', m, c', e, h1, h2, hB⟩ := h.row k hk
  cases e
  rw [Addr.add_lit] at h1 h2
  exact ⟨A', m, c', h1, h2, hB⟩

section
variable {H : Type} {enc : TypeId × Value → H} {P : Program} {w : World} {base : Nat} {held : Bool}

theorem open_steps {t e q b : TypeId} {f0 f1 : Field} {A : Option Addr} {n c : Nat} {d : DataW H} {p : List MemPlace} (ht : P.underlying t = some (.slice e)) (he : P.underlying e = some (.struct #[f0, f1]))
    (hone : oneCellFields P #[f0, f1] = true) (hC : P.cellsOf e = 2) (h0 : P.underlying f0.type = some (.int .i64)) (hf1 : f1.type = q) (h1 : P.underlying q = some (.slice b)) (hb : P.underlying b = some (.int .u8)) (cb : P.cellsOf b = 1) (hby : P.bytesOf b = 1)
    (h : DataW.Trod enc P w base (fun _ => true) held t (.slice A n c) d p)
    {ts : List TypeId} {ds : List (DataW H)} (hs : (DataW.weightsEach P ts ds).all (· ≤ reachBytes) = true) {j : Nat} (ht0 : ts[j]? = some t) (hd : ds[j]? = some d) :
    ∃ ll : List (Int × List UInt8), Stp w A n c ll ∧ ∀ s ∈ ll, (-9223372036854775808 ≤ s.1 ∧ s.1 ≤ 9223372036854775807) ∧ s.2.length ≤ 140737488351232 := by
  subst hf1
  obtain ⟨fuel, hf⟩ := h
  rcases open_slice ht hf with ⟨hcs, _⟩ | ⟨x, l, c', m, k, D, Pl, hcs, _, hl, hm, hmm, hx, hi⟩
  · simp [Value.cells] at hcs
    obtain ⟨rfl, rfl, rfl⟩ := hcs
    exact ⟨[], Stp.nil w, by simp⟩
  · simp [Value.cells] at hcs
    obtain ⟨rfl, rfl, rfl⟩ := hcs
    simp only [if_true] at hmm
    subst hmm
    rw [hC] at hi
    simp only [Prod.mk.injEq] at hx
    obtain ⟨hx, _⟩ := hx
    have hone0 := hone_of hone 0 f0 rfl
    have hone1 := hone_of hone 1 f1 rfl
    have each : ∀ i, i < n → ∃ s : Int × List UInt8, (∃ A' m c', w.cell? (x.add (i * 2)) = some (.int .i64 s.1) ∧ w.cell? (x.add (i * 2 + 1)) = some (.slice A' m c') ∧ Bytes8 w A' m c' s.2) ∧
        (-9223372036854775808 ≤ s.1 ∧ s.1 ≤ 9223372036854775807) ∧ s.2.length ≤ 140737488351232 := by
      intro i hin
      obtain ⟨cs', hc, htr⟩ := hi i (by omega)
      obtain ⟨_, hcl, hat⟩ := World.cells?_some hc
      match cs', hcl with
      | [u0, u1], _ =>
        obtain ⟨y0, y1, n', hD, _, g0, g1⟩ := trod_struct2 he htr
        rw [hone0.1, hone0.2] at g0
        rw [hone1.1, hone1.2] at g1
        obtain ⟨z0, e0, _, w0⟩ := DataW.trod_int h0 (x := y0) g0
        simp at e0
        subst e0
        have c0 := hat 0 (by omega)
        have c1 := hat 1 (by omega)
        rw [addr_add_add] at c0 c1
        have g1' : DataW.trod enc P w base (fun _ => true) held n' f1.type [u1] = some y1 := by simpa using g1
        have hsl : ∃ A' m' c2, u1 = .slice A' m' c2 ∧ m' ≤ 140737488351232 := by
          rcases open_slice h1 g1' with ⟨hcs, _⟩ | ⟨x2, l2, cp2, m2, k2, D2, P2, hcs, _, hl2, hm2, hmm2, hx2, _⟩
          · simp at hcs
            exact ⟨none, 0, 0, hcs, by omega⟩
          · simp at hcs
            refine ⟨some x2, l2, cp2, hcs, ?_⟩
            simp only [if_true] at hmm2
            subst hmm2
            have hin1 : m2 * P.bytesOf b ∈ y1.1.weights P f1.type := by
              rw [hx2]
              simp only [DataW.weights, h1, List.mem_cons]
              refine .inl ?_
              simp only [List.length_map, List.length_range]
              congr 1
              omega
            have hin2 : m2 * P.bytesOf b ∈ (D i).weights P e := by
              simp only [Prod.mk.injEq] at hD
              rw [hD.1]
              simp only [DataW.weights, he, DataW.weightsEach, List.map_cons, List.map_nil, List.mem_append]
              exact .inr (.inl hin1)
            have hin3 : m2 * P.bytesOf b ∈ d.weights P t := by
              rw [hx]
              simp only [DataW.weights, ht, List.mem_cons, List.mem_append]
              exact .inr (.inl (weights_inner (d := D i) (List.mem_map.2 ⟨i, List.mem_range.2 hin, rfl⟩) _ hin2))
            have := List.all_eq_true.1 hs _ (DataW.weights_mem_each ht0 hd _ hin3)
            rw [hby, Nat.mul_one] at this
            have h9 : m2 ≤ reachBytes := of_decide_eq_true this
            have h10 : reachBytes = 140737488351232 := by decide
            omega
        obtain ⟨A', m', c2, rfl, hm'⟩ := hsl
        obtain ⟨lb, hB⟩ := open_bytes h1 hb cb ⟨n', by simpa [Value.cells] using g1'⟩
        refine ⟨(z0, lb), ⟨A', m', c2, by simpa using c0, by simpa using c1, hB⟩, bd_i64 w0, ?_⟩
        rw [hB.len]; exact hm'
    obtain ⟨f, hfq⟩ := choose_lt each
    refine ⟨(List.range n).map f, ⟨by simp, hl, by simpa [maxLen] using hm, fun k hk => ?_⟩, fun s hs => ?_⟩
    · have hk' : k < n := by simpa using hk
      obtain ⟨⟨A', m', c2, h1, h2, h3⟩, _⟩ := hfq k hk'
      simp only [List.getElem_map, List.getElem_range]
      exact ⟨x, A', m', c2, rfl, h1, h2, h3⟩
    · obtain ⟨i, hi2, rfl⟩ := List.mem_map.1 hs
      exact (hfq i (List.mem_range.1 hi2)).2

end
end Go.Proofs.Ytadoclbalcecpaa
