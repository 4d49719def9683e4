/-
  Joined: OpenE, OpenH.
-/
import Derived.ChangeSame
import Derived.Lib.SmallJoins
import Derived.Test.YtcmehjjaologpaaJSiz10
/-
  A struct of eleven integers by value: opened, and shut again.
-/
namespace Go.Proofs.Ytcmehjjaologpaa
open Go.ChangeShapes Go.WideShapes Go.ChangeAt Go.RowKit Go.Deep
set_option linter.unusedVariables false
set_option linter.unusedSimpArgs false

section
variable {H : Type} {enc : TypeId × Value → H} {P : Program} {w : World} {base : Nat} {held : Bool}

end
end Go.Proofs.Ytcmehjjaologpaa

/-
  Slices of structs of integers, opened; of three and of four integers as lists.
-/
namespace Go.Proofs.Ytcmehjjaologpaa
open Go.ChangeShapes Go.WideShapes Go.ChangeAt Go.RowKit Go.Deep
set_option linter.unusedVariables false
set_option linter.unusedSimpArgs false

section
variable {H : Type} {enc : TypeId × Value → H} {P : Program} {w : World} {base : Nat} {held : Bool}

/-- a slice of structs of integers: cell j of element i -/
theorem open_islice {t e : TypeId} {fs : Array Field} {A : Option Addr} {n c : Nat} {d : DataW H} {p : List MemPlace} (ht : P.underlying t = some (.slice e)) (he : P.underlying e = some (.struct fs))
    (hone : oneCellFields P fs = true) (hC : P.cellsOf e = fs.size) (hf : fs.toList.map (fun f => P.underlying f.type) = List.replicate fs.size (some (.int .i64)))
    (h : DataW.Trod enc P w base (fun _ => true) held t (.slice A n c) d p) :
    n ≤ c ∧ c ≤ 9223372036854775807 ∧ ∃ f : Nat → Nat → Int, ∀ i, i < n → ∃ x : Addr, A = some x ∧ ∀ j, j < fs.size → w.cell? (x.add (i * fs.size + j)) = some (.int .i64 (f i j)) ∧ -9223372036854775808 ≤ f i j ∧ f i j ≤ 9223372036854775807 := by
  obtain ⟨fuel, hf2⟩ := h
  rcases open_slice ht hf2 with ⟨hcs, _⟩ | ⟨x, l, c', m, k, D, Pl, hcs, _, hl, hm, hmm, _, hi⟩
  · simp [Value.cells] at hcs
    obtain ⟨rfl, rfl, rfl⟩ := hcs
    exact ⟨Nat.le_refl _, by omega, fun _ _ => 0, fun i hi => by omega⟩
  · simp [Value.cells] at hcs
    obtain ⟨rfl, rfl, rfl⟩ := hcs
    simp only [if_true] at hmm
    subst hmm
    rw [hC] at hi
    have each : ∀ i, i < n → ∀ j, j < fs.size → ∃ z : Int, w.cell? (x.add (i * fs.size + j)) = some (.int .i64 z) ∧ -9223372036854775808 ≤ z ∧ z ≤ 9223372036854775807 := by
      intro i hin j hj
      obtain ⟨cs', hc, htr⟩ := hi i (by omega)
      obtain ⟨_, hcl, hat⟩ := World.cells?_some hc
      obtain ⟨xs, n', _, _, _, hlen, hg⟩ := DataW.trod_struct he htr
      have hfj : fs[j]? = some fs[j] := Array.getElem?_eq_getElem hj
      have g := hg j fs[j] hfj
      obtain ⟨o0, k0⟩ := hone_of hone j fs[j] hfj
      rw [o0, k0] at g
      have hxj : j < xs.length := by omega
      rw [List.getElem?_eq_getElem hxj] at g
      have hcj : j < cs'.length := by omega
      rw [List.drop_eq_getElem_cons hcj] at g
      simp only [List.take_succ_cons, List.take_zero] at g
      have hty : P.underlying fs[j].type = some (.int .i64) := by
        have h1 : (fs.toList.map (fun f => P.underlying f.type))[j]? = some (P.underlying fs[j].type) := by simp [hj]
        rw [hf, List.getElem?_replicate, if_pos hj] at h1
        exact (Option.some.inj h1).symm
      obtain ⟨z, e1, _, w1⟩ := DataW.trod_int hty g
      simp at e1
      have cj := hat j (by omega)
      rw [addr_add_add, List.getElem?_eq_getElem hcj, e1] at cj
      refine ⟨z, cj, ?_⟩
      simpa [Lit.wf, IntKind.min, IntKind.max, IntKind.signed, IntKind.bits] using w1
    refine ⟨hl, by simpa [maxLen] using hm, fun i j => if h : i < n ∧ j < fs.size then Classical.choose (each i h.1 j h.2) else 0, fun i hin => ⟨x, rfl, fun j hj => ?_⟩⟩
    simp only [dif_pos (show i < n ∧ j < fs.size from ⟨hin, hj⟩)]
    exact Classical.choose_spec (each i hin j hj)
end

/-- a slice of structs of three integers -/
structure Trs (w : World) (A : Option Addr) (n c : Nat) (l : List (Int × Int × Int)) : Prop where
  len : l.length = n
  cap : n ≤ c
  most : c ≤ 9223372036854775807
  row : ∀ k (h : k < l.length), ∃ ad, A = some ad ∧ w.cell? (ad.add (k * 3)) = some (.int .i64 l[k].1) ∧ w.cell? (ad.add (k * 3 + 1)) = some (.int .i64 l[k].2.1) ∧ w.cell? (ad.add (k * 3 + 2)) = some (.int .i64 l[k].2.2)
theorem Trs.below {w w' : World} {A : Option Addr} {n c : Nat} {l : List (Int × Int × Int)} (h : Trs w A n c l) (hb : Below w.heap.size w w') : Trs w' A n c l :=
  ⟨h.len, h.cap, h.most, fun k hk => by
    obtain ⟨ad, e, h0, h1, h2⟩ := h.row k hk
    exact ⟨ad, e, (hb.cell (cell_lt h0)).trans h0, (hb.cell (cell_lt h1)).trans h1, (hb.cell (cell_lt h2)).trans h2⟩⟩
theorem Trs.nil (w : World) : Trs w none 0 0 [] := ⟨rfl, Nat.le_refl _, by omega, fun k h => by cases h⟩
theorem Trs.lit {w : World} {A : Option Addr} {n c : Nat} {l : List (Int × Int × Int)} (h : Trs w A n c l) (hp : 0 < n) :
    ∃ b off, A = some ⟨b, off, none⟩ ∧ b < w.heap.size ∧ ∀ k (h : k < l.length), w.cell? ⟨b, off + k * 3, none⟩ = some (.int .i64 l[k].1) ∧ w.cell? ⟨b, off + (k * 3 + 1), none⟩ = some (.int .i64 l[k].2.1) ∧ w.cell? ⟨b, off + (k * 3 + 2), none⟩ = some (.int .i64 l[k].2.2) := by
  have h0 : 0 < l.length := by rw [h.len]; exact hp
  obtain ⟨ad, rfl, c0, _, _⟩ := h.row 0 h0
  obtain ⟨b, off, spot⟩ := ad
  have hspot : spot = none := by simpa [Addr.add] using World.cell?_spot c0
  subst hspot
  refine ⟨b, off, rfl, by simpa [Addr.add] using cell_lt c0, fun k hk => ?_⟩
  obtain ⟨ad', e, g0, g1, g2⟩ := h.row k hk
  cases e
  rw [Addr.add_lit] at g0 g1 g2
  exact ⟨g0, g1, g2⟩

theorem open_trs {H : Type} {enc : TypeId × Value → H} {P : Program} {w : World} {base : Nat} {held : Bool} {t e : TypeId} {fs : Array Field} {A : Option Addr} {n c : Nat} {d : DataW H} {p : List MemPlace} (ht : P.underlying t = some (.slice e)) (he : P.underlying e = some (.struct fs)) (h3 : fs.size = 3)
    (hone : oneCellFields P fs = true) (hC : P.cellsOf e = 3) (hf : fs.toList.map (fun f => P.underlying f.type) = List.replicate 3 (some (.int .i64)))
    (h : DataW.Trod enc P w base (fun _ => true) held t (.slice A n c) d p) :
    ∃ l : List (Int × Int × Int), Trs w A n c l ∧ ∀ q ∈ l, (-9223372036854775808 ≤ q.1 ∧ q.1 ≤ 9223372036854775807) ∧ (-9223372036854775808 ≤ q.2.1 ∧ q.2.1 ≤ 9223372036854775807) ∧ (-9223372036854775808 ≤ q.2.2 ∧ q.2.2 ≤ 9223372036854775807) := by
  obtain ⟨h1, h2, f, hfx⟩ := open_islice ht he hone (hC.trans h3.symm) (by rw [h3]; exact hf) h
  rw [h3] at hfx
  refine ⟨(List.range n).map fun i => (f i 0, f i 1, f i 2), ⟨by simp, h1, h2, fun k hk => ?_⟩, fun q hq => ?_⟩
  · have hk' : k < n := by simpa using hk
    obtain ⟨x, e, hx⟩ := hfx k hk'
    simp only [List.getElem_map, List.getElem_range]
    exact ⟨x, e, by simpa using (hx 0 (by omega)).1, (hx 1 (by omega)).1, (hx 2 (by omega)).1⟩
  · obtain ⟨i, hi, rfl⟩ := List.mem_map.1 hq
    obtain ⟨x, e, hx⟩ := hfx i (List.mem_range.1 hi)
    exact ⟨(hx 0 (by omega)).2, (hx 1 (by omega)).2, (hx 2 (by omega)).2⟩

end Go.Proofs.Ytcmehjjaologpaa
