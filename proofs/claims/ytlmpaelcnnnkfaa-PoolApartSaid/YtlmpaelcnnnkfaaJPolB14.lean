/-
  Joined: OpenD, OpenF, OpenP, PolMath, PolAt.
-/
import Derived.ChangeSame
import Derived.Lib.SmallJoins
import Derived.Test.YtlmpaelcnnnkfaaJPolB09
import Derived.Deep.Strs
import Derived.Test.YtlmpaelcnnnkfaaJPolB13
/-
  Structs of a slice of integers and an integer: by value, and slices of them; in memory, and opened.
-/
namespace Go.Proofs.Ytlmpaelcnnnkfaa
open Go.ChangeShapes Go.WideShapes Go.ChangeAt Go.RowKit Go.Deep
set_option linter.unusedVariables false
set_option linter.unusedSimpArgs false

/-- a slice of structs of a slice of integers and an integer -/
structure Fts (w : World) (A : Option Addr) (n c : Nat) (ll : List (List Int × Int)) : Prop where
  len : ll.length = n
  cap : n ≤ c
  most : c ≤ 9223372036854775807
  row : ∀ k (h : k < ll.length), ∃ ad A' m c', A = some ad ∧ w.cell? (ad.add (k * 2)) = some (.slice A' m c') ∧ w.cell? (ad.add (k * 2 + 1)) = some (.int .i64 ll[k].2) ∧ Ints w A' m c' ll[k].1

theorem Fts.nil (w : World) : Fts w none 0 0 [] := ⟨rfl, Nat.le_refl _, Nat.zero_le _, fun k h => by simp at h⟩

theorem Fts.lit {w : World} {A : Option Addr} {n c : Nat} {ll : List (List Int × Int)} (h : Fts w A n c ll) (hp : 0 < n) :
    ∃ b off, A = some ⟨b, off, none⟩ ∧ b < w.heap.size ∧ ∀ k (h : k < ll.length), ∃ A' m c', w.cell? ⟨b, off + k * 2, none⟩ = some (.slice A' m c') ∧ w.cell? ⟨b, off + (k * 2 + 1), none⟩ = some (.int .i64 ll[k].2) ∧ Ints w A' m c' ll[k].1 := by
  obtain ⟨ad, A', m, c', rfl, hc, _⟩ := h.row 0 (by rw [h.len]; exact hp)
  obtain ⟨b, off, spot⟩ := ad
  have hspot : spot = none := by simpa [Addr.add] using World.cell?_spot hc
  subst hspot
  refine ⟨b, off, rfl, by simpa [Addr.add] using cell_lt hc, fun k hk => ?_⟩
  obtain ⟨ad', A', m, c', e, h1, h2, hB⟩ := h.row k hk
  cases e
  rw [Addr.add_lit] at h1 h2
  exact ⟨A', m, c', h1, h2, hB⟩

section
variable {H : Type} {enc : TypeId × Value → H} {P : Program} {w : World} {base : Nat} {held : Bool}

end
end Go.Proofs.Ytlmpaelcnnnkfaa

/-
  Slices of strings; a struct of an integer, a bool, integers and strings by value: in memory, and opened.
-/
namespace Go.Proofs.Ytlmpaelcnnnkfaa
open Go.ChangeShapes Go.WideShapes Go.ChangeAt Go.RowKit Go.Deep
set_option linter.unusedVariables false
set_option linter.unusedSimpArgs false

/-- strings as cells -/
def strV (ll : List (List UInt8)) : List Value := ll.map fun l => .string ⟨l.toArray⟩
theorem strV_length (ll : List (List UInt8)) : (strV ll).length = ll.length := by simp [strV]
theorem strV_at (ll : List (List UInt8)) (k : Nat) (h : k < ll.length) : (strV ll)[k]? = some (.string ⟨ll[k].toArray⟩) := by simp [strV, h]
/-- a slice of strings -/
structure Strs (w : World) (A : Option Addr) (n c : Nat) (ll : List (List UInt8)) : Prop where
  len : ll.length = n
  cap : n ≤ c
  most : c ≤ 9223372036854775807
  row : Row w A (strV ll)

theorem Strs.below {w w' : World} {A : Option Addr} {n c : Nat} {ll : List (List UInt8)} (h : Strs w A n c ll) (hb : Below w.heap.size w w') : Strs w' A n c ll := ⟨h.len, h.cap, h.most, h.row.below hb⟩
theorem Strs.nil (w : World) : Strs w none 0 0 [] := ⟨rfl, Nat.le_refl _, Nat.zero_le _, Row.nil _ _⟩
theorem Strs.of_own {w : World} {base : Nat} {e : TypeId} {n : Nat} {v : Value} {ll : List (List UInt8)} (h : w.ownsRow base e 1 v n (strV ll)) : ∃ A c, v = .slice A n c ∧ Strs w A n c ll := by
  obtain ⟨A, c, rfl, h1, h2⟩ := ownsRow_form h
  refine ⟨A, c, rfl, by have := h.1; rw [strV_length] at this; simpa using this, h1, by simpa [maxLen] using h2, Row.of_own h⟩

section
variable {H : Type} {enc : TypeId × Value → H} {P : Program} {w : World} {base : Nat} {held : Bool}

end
end Go.Proofs.Ytlmpaelcnnnkfaa

/-
  Pools: devices with their mappings, in memory, and a pool by value opened.
-/
namespace Go.Proofs.Ytlmpaelcnnnkfaa
open Go.ChangeShapes Go.WideShapes Go.ChangeAt Go.RowKit Go.Deep
set_option linter.unusedVariables false
set_option linter.unusedSimpArgs false

/-- a device: its numbers, its mappings (virtual block, data block, time) -/
structure Dev18 where
  id : Int
  tx : Int
  made : Int
  snap : Int
  maps : List (Int × Int × Int)
instance : Inhabited Dev18 := ⟨⟨0, 0, 0, 0, []⟩⟩
/-- a pool -/
structure Pol18 where
  tx : Int
  time : Int
  unit : Int
  data : Int
  devs : List Dev18

/-- device k of a slice: five cells, its mappings' slice -/
def DevAt (w : World) (ad : Addr) (d : Dev18) : Prop := ∃ A' m c', w.cell? ad = some (.int .i64 d.id) ∧ w.cell? (ad.add 1) = some (.int .i64 d.tx) ∧ w.cell? (ad.add 2) = some (.int .i64 d.made) ∧ w.cell? (ad.add 3) = some (.int .i64 d.snap) ∧ w.cell? (ad.add 4) = some (.slice A' m c') ∧ Trs w A' m c' d.maps
theorem DevAt.below {w w' : World} {ad : Addr} {d : Dev18} (h : DevAt w ad d) (hb : Below w.heap.size w w') : DevAt w' ad d := by
  obtain ⟨A', m, c', h0, h1, h2, h3, h4, h5⟩ := h
  exact ⟨A', m, c', (hb.cell (cell_lt h0)).trans h0, (hb.cell (cell_lt h1)).trans h1, (hb.cell (cell_lt h2)).trans h2, (hb.cell (cell_lt h3)).trans h3, (hb.cell (cell_lt h4)).trans h4, h5.below hb⟩
/-- a slice of devices -/
structure Dvs (w : World) (A : Option Addr) (n c : Nat) (l : List Dev18) : Prop where
  len : l.length = n
  cap : n ≤ c
  most : c ≤ 9223372036854775807
  row : ∀ k (h : k < l.length), ∃ ad, A = some ad ∧ DevAt w (ad.add (k * 5)) l[k]
theorem Dvs.below {w w' : World} {A : Option Addr} {n c : Nat} {l : List Dev18} (h : Dvs w A n c l) (hb : Below w.heap.size w w') : Dvs w' A n c l :=
  ⟨h.len, h.cap, h.most, fun k hk => by
    obtain ⟨ad, e, hd⟩ := h.row k hk
    exact ⟨ad, e, hd.below hb⟩⟩
theorem Dvs.nil (w : World) : Dvs w none 0 0 [] := ⟨rfl, Nat.le_refl _, by omega, fun k h => by cases h⟩
theorem Dvs.lit {w : World} {A : Option Addr} {n c : Nat} {l : List Dev18} (h : Dvs w A n c l) (hp : 0 < n) :
    ∃ b off, A = some ⟨b, off, none⟩ ∧ b < w.heap.size ∧ ∀ k (h : k < l.length), ∃ A' m c', w.cell? ⟨b, off + k * 5, none⟩ = some (.int .i64 l[k].id) ∧ w.cell? ⟨b, off + (k * 5 + 1), none⟩ = some (.int .i64 l[k].tx) ∧ w.cell? ⟨b, off + (k * 5 + 2), none⟩ = some (.int .i64 l[k].made) ∧ w.cell? ⟨b, off + (k * 5 + 3), none⟩ = some (.int .i64 l[k].snap) ∧ w.cell? ⟨b, off + (k * 5 + 4), none⟩ = some (.slice A' m c') ∧ Trs w A' m c' l[k].maps := by
  have h0 : 0 < l.length := by rw [h.len]; exact hp
  obtain ⟨ad, rfl, A0, m0, c0, g0, _⟩ := h.row 0 h0
  obtain ⟨b, off, spot⟩ := ad
  have hspot : spot = none := by simpa [Addr.add] using World.cell?_spot g0
  subst hspot
  refine ⟨b, off, rfl, by simpa [Addr.add] using cell_lt g0, fun k hk => ?_⟩
  obtain ⟨ad', e, A', m, c', g0, g1, g2, g3, g4, g5⟩ := h.row k hk
  cases e
  rw [addr_add_add] at g1 g2 g3 g4
  rw [Addr.add_lit] at g0 g1 g2 g3 g4
  exact ⟨A', m, c', g0, g1, g2, g3, g4, g5⟩

/-- the numbers of a device, of a pool -/
def Dev18.bd (d : Dev18) : Prop := (-9223372036854775808 ≤ d.id ∧ d.id ≤ 9223372036854775807) ∧ (-9223372036854775808 ≤ d.tx ∧ d.tx ≤ 9223372036854775807) ∧ (-9223372036854775808 ≤ d.made ∧ d.made ≤ 9223372036854775807) ∧ (-9223372036854775808 ≤ d.snap ∧ d.snap ≤ 9223372036854775807) ∧
  (∀ q ∈ d.maps, (-9223372036854775808 ≤ q.1 ∧ q.1 ≤ 9223372036854775807) ∧ (-9223372036854775808 ≤ q.2.1 ∧ q.2.1 ≤ 9223372036854775807) ∧ (-9223372036854775808 ≤ q.2.2 ∧ q.2.2 ≤ 9223372036854775807)) ∧ d.maps.length ≤ 140737488351232
def Pol18.bd (p : Pol18) : Prop := (-9223372036854775808 ≤ p.tx ∧ p.tx ≤ 9223372036854775807) ∧ (-9223372036854775808 ≤ p.time ∧ p.time ≤ 9223372036854775807) ∧ (-9223372036854775808 ≤ p.unit ∧ p.unit ≤ 9223372036854775807) ∧ (-9223372036854775808 ≤ p.data ∧ p.data ≤ 9223372036854775807) ∧ (∀ d ∈ p.devs, d.bd) ∧ p.devs.length ≤ 140737488351232

section
variable {H : Type} {enc : TypeId × Value → H} {P : Program} {w : World} {base : Nat} {held : Bool}
/-- a slice of elements of at least one byte, opened no further: its length within the form's reach -/
theorem slice_few {t e : TypeId} {n' : Nat} {u : Value} {y : DataW H × List MemPlace} (ht : P.underlying t = some (.slice e)) (hby : 1 ≤ P.bytesOf e) (g : DataW.trod enc P w base (fun _ => true) held n' t [u] = some y) (hs : ∀ x ∈ y.1.weights P t, x ≤ reachBytes) :
    ∃ A' m c', u = .slice A' m c' ∧ m ≤ 140737488351232 := by
  rcases open_slice ht g with ⟨hcs, _⟩ | ⟨x2, l2, cp2, m2, k2, D2, P2, hcs, _, hl2, hm2, hmm2, hx2, _⟩
  · simp at hcs
    exact ⟨none, 0, 0, hcs, by omega⟩
  · simp at hcs
    refine ⟨some x2, l2, cp2, hcs, ?_⟩
    simp only [if_true] at hmm2
    subst hmm2
    have hin1 : m2 * P.bytesOf e ∈ y.1.weights P t := by
      rw [hx2]
      simp only [DataW.weights, ht, List.mem_cons]
      refine .inl ?_
      simp only [List.length_map, List.length_range]
      congr 1
      omega
    have h1 := hs _ hin1
    have h10 : reachBytes = 140737488351232 := by decide
    have h2 : m2 * 1 ≤ m2 * P.bytesOf e := Nat.mul_le_mul_left _ hby
    omega

/-- a slice of devices -/
theorem open_devs {t e q e2 : TypeId} {f0 f1 f2 f3 f4 : Field} {fs : Array Field} {A : Option Addr} {n c : Nat} {d : DataW H} {p : List MemPlace} (ht : P.underlying t = some (.slice e)) (he : P.underlying e = some (.struct #[f0, f1, f2, f3, f4]))
    (hone : oneCellFields P #[f0, f1, f2, f3, f4] = true) (hC : P.cellsOf e = 5) (h0 : P.underlying f0.type = some (.int .i64)) (h1 : P.underlying f1.type = some (.int .i64)) (h2 : P.underlying f2.type = some (.int .i64)) (h3 : P.underlying f3.type = some (.int .i64))
    (hf4 : f4.type = q) (h4 : P.underlying q = some (.slice e2)) (he2 : P.underlying e2 = some (.struct fs)) (hfs : fs.size = 3) (hone2 : oneCellFields P fs = true) (hC2 : P.cellsOf e2 = 3) (hf : fs.toList.map (fun f => P.underlying f.type) = List.replicate 3 (some (.int .i64))) (hby : 1 ≤ P.bytesOf e2)
    (h : DataW.Trod enc P w base (fun _ => true) held t (.slice A n c) d p) (hs : ∀ x ∈ d.weights P t, x ≤ reachBytes) :
    ∃ l : List Dev18, Dvs w A n c l ∧ ∀ x ∈ l, x.bd := by
  subst hf4
  obtain ⟨fuel, hf2⟩ := h
  rcases open_slice ht hf2 with ⟨hcs, _⟩ | ⟨x, l, c', m, k, D, Pl, hcs, _, hl, hm, hmm, hx, hi⟩
  · simp [Value.cells] at hcs
    obtain ⟨rfl, rfl, rfl⟩ := hcs
    exact ⟨[], Dvs.nil w, by simp⟩
  · simp [Value.cells] at hcs
    obtain ⟨rfl, rfl, rfl⟩ := hcs
    simp only [if_true] at hmm
    subst hmm
    rw [hC] at hi
    simp only [Prod.mk.injEq] at hx
    obtain ⟨hx, _⟩ := hx
    have each : ∀ i, i < n → ∃ s : Dev18, DevAt w (x.add (i * 5)) s ∧ s.bd := by
      intro i hin
      obtain ⟨cs', hc, htr⟩ := hi i (by omega)
      obtain ⟨_, hcl, hat⟩ := World.cells?_some hc
      match cs', hcl with
      | [u0, u1, u2, u3, u4], _ =>
        obtain ⟨xs, n', _, hD, _, hlen, hg⟩ := DataW.trod_struct he htr
        match xs, hlen with
        | [y0, y1, y2, y3, y4], _ =>
          obtain ⟨o0, k0⟩ := hone_of hone 0 f0 rfl
          obtain ⟨o1, k1⟩ := hone_of hone 1 f1 rfl
          obtain ⟨o2, k2⟩ := hone_of hone 2 f2 rfl
          obtain ⟨o3, k3⟩ := hone_of hone 3 f3 rfl
          obtain ⟨o4, k4⟩ := hone_of hone 4 f4 rfl
          have g0 : DataW.trod enc P w base (fun _ => true) held n' f0.type [u0] = some y0 := by simpa [o0, k0] using hg 0 f0 rfl
          have g1 : DataW.trod enc P w base (fun _ => true) held n' f1.type [u1] = some y1 := by simpa [o1, k1] using hg 1 f1 rfl
          have g2 : DataW.trod enc P w base (fun _ => true) held n' f2.type [u2] = some y2 := by simpa [o2, k2] using hg 2 f2 rfl
          have g3 : DataW.trod enc P w base (fun _ => true) held n' f3.type [u3] = some y3 := by simpa [o3, k3] using hg 3 f3 rfl
          have g4 : DataW.trod enc P w base (fun _ => true) held n' f4.type [u4] = some y4 := by simpa [o4, k4] using hg 4 f4 rfl
          obtain ⟨z0, e0, _, w0⟩ := DataW.trod_int h0 g0
          obtain ⟨z1, e1, _, w1⟩ := DataW.trod_int h1 g1
          obtain ⟨z2, e2', _, w2⟩ := DataW.trod_int h2 g2
          obtain ⟨z3, e3, _, w3⟩ := DataW.trod_int h3 g3
          simp at e0 e1 e2' e3
          subst e0 e1 e2' e3
          have hw4 : ∀ a ∈ y4.1.weights P f4.type, a ≤ reachBytes := fun a ha => by
            refine hs a ?_
            have hin2 : a ∈ (D i).weights P e := by
              have hD1 := congrArg Prod.fst hD
              simp only at hD1
              rw [hD1]
              simp only [DataW.weights, he, List.map_cons, List.map_nil, DataW.weightsEach, List.mem_append]
              exact .inr (.inr (.inr (.inr (.inl ha))))
            rw [hx]
            simp only [DataW.weights, ht, List.mem_cons, List.mem_append]
            exact .inr (.inl (weights_inner (d := D i) (List.mem_map.2 ⟨i, List.mem_range.2 hin, rfl⟩) _ hin2))
          obtain ⟨A', m', c3, rfl, hm'⟩ := slice_few h4 hby g4 hw4
          obtain ⟨lm, hT, hbm⟩ := open_trs h4 he2 hfs hone2 hC2 hf ⟨n', by simpa [Value.cells] using g4⟩
          have c0 := hat 0 (by omega)
          have c1 := hat 1 (by omega)
          have c2 := hat 2 (by omega)
          have c3' := hat 3 (by omega)
          have c4 := hat 4 (by omega)
          refine ⟨⟨z0, z1, z2, z3, lm⟩, ⟨A', m', c3, ?_, ?_, ?_, ?_, ?_, hT⟩, bd_i64 w0, bd_i64 w1, bd_i64 w2, bd_i64 w3, hbm, by rw [hT.len]; exact hm'⟩
          · rw [addr_add_add] at c0; simpa using c0
          · simpa using c1
          · simpa using c2
          · simpa using c3'
          · simpa using c4
    obtain ⟨f, hfq⟩ := choose_lt each
    refine ⟨(List.range n).map f, ⟨by simp, hl, by simpa [maxLen] using hm, fun k hk => ?_⟩, fun s hs => ?_⟩
    · have hk' : k < n := by simpa using hk
      simp only [List.getElem_map, List.getElem_range]
      exact ⟨x, rfl, (hfq k hk').1⟩
    · obtain ⟨i, hi2, rfl⟩ := List.mem_map.1 hs
      exact (hfq i (List.mem_range.1 hi2)).2

/-- a pool by value -/
theorem open_pool {r : Reach} {b0 : Nat} {tp t e q e2 : TypeId} {p0 p1 p2 p3 p4 f0 f1 f2 f3 f4 : Field} {fs : Array Field} {v : Value} {d : DataW H} {p : List MemPlace} (hp : P.underlying tp = some (.struct #[p0, p1, p2, p3, p4])) (honep : oneCellFields P #[p0, p1, p2, p3, p4] = true) (hCp : P.cellsOf tp = 5)
    (q0 : P.underlying p0.type = some (.int .i64)) (q1 : P.underlying p1.type = some (.int .i64)) (q2 : P.underlying p2.type = some (.int .i64)) (q3 : P.underlying p3.type = some (.int .i64)) (hp4 : p4.type = t)
    (ht : P.underlying t = some (.slice e)) (hbe : 1 ≤ P.bytesOf e) (he : P.underlying e = some (.struct #[f0, f1, f2, f3, f4]))
    (hone : oneCellFields P #[f0, f1, f2, f3, f4] = true) (hC : P.cellsOf e = 5) (h0 : P.underlying f0.type = some (.int .i64)) (h1 : P.underlying f1.type = some (.int .i64)) (h2 : P.underlying f2.type = some (.int .i64)) (h3 : P.underlying f3.type = some (.int .i64))
    (hf4 : f4.type = q) (h4 : P.underlying q = some (.slice e2)) (he2 : P.underlying e2 = some (.struct fs)) (hfs : fs.size = 3) (hone2 : oneCellFields P fs = true) (hC2 : P.cellsOf e2 = 3) (hf : fs.toList.map (fun f => P.underlying f.type) = List.replicate 3 (some (.int .i64))) (hby : 1 ≤ P.bytesOf e2)
    (hv : Value.okWide P w r b0 tp v) (h : DataW.Trod enc P w base (fun _ => true) held tp v d p)
    {ts : List TypeId} {ds : List (DataW H)} (hs : (DataW.weightsEach P ts ds).all (· ≤ reachBytes) = true) {j : Nat} (ht0 : ts[j]? = some tp) (hd : ds[j]? = some d) :
    ∃ (A : Option Addr) (n c : Nat) (pl : Pol18), v = .agg #[.int .i64 pl.tx, .int .i64 pl.time, .int .i64 pl.unit, .int .i64 pl.data, .slice A n c] ∧ Dvs w A n c pl.devs ∧ pl.bd := by
  subst hp4
  obtain ⟨cs, rfl, hsz⟩ := okWide_struct hp hv
  rw [hCp] at hsz
  obtain ⟨u0, u1, u2, u3, u4, rfl⟩ : ∃ u0 u1 u2 u3 u4, cs = #[u0, u1, u2, u3, u4] := by
    obtain ⟨l⟩ := cs
    match l, hsz with
    | [a, b, c, d, e], _ => exact ⟨a, b, c, d, e, rfl⟩
  obtain ⟨fuel, hf2⟩ := h
  obtain ⟨xs, n', _, hD, _, hlen, hg⟩ := DataW.trod_struct hp hf2
  match xs, hlen with
  | [y0, y1, y2, y3, y4], _ =>
    obtain ⟨o0, k0⟩ := hone_of honep 0 p0 rfl
    obtain ⟨o1, k1⟩ := hone_of honep 1 p1 rfl
    obtain ⟨o2, k2⟩ := hone_of honep 2 p2 rfl
    obtain ⟨o3, k3⟩ := hone_of honep 3 p3 rfl
    obtain ⟨o4, k4⟩ := hone_of honep 4 p4 rfl
    have g0 : DataW.trod enc P w base (fun _ => true) held n' p0.type [u0] = some y0 := by simpa [o0, k0, Value.cells] using hg 0 p0 rfl
    have g1 : DataW.trod enc P w base (fun _ => true) held n' p1.type [u1] = some y1 := by simpa [o1, k1, Value.cells] using hg 1 p1 rfl
    have g2 : DataW.trod enc P w base (fun _ => true) held n' p2.type [u2] = some y2 := by simpa [o2, k2, Value.cells] using hg 2 p2 rfl
    have g3 : DataW.trod enc P w base (fun _ => true) held n' p3.type [u3] = some y3 := by simpa [o3, k3, Value.cells] using hg 3 p3 rfl
    have g4 : DataW.trod enc P w base (fun _ => true) held n' p4.type [u4] = some y4 := by simpa [o4, k4, Value.cells] using hg 4 p4 rfl
    obtain ⟨z0, e0, _, w0⟩ := DataW.trod_int q0 g0
    obtain ⟨z1, e1, _, w1⟩ := DataW.trod_int q1 g1
    obtain ⟨z2, e2', _, w2⟩ := DataW.trod_int q2 g2
    obtain ⟨z3, e3, _, w3⟩ := DataW.trod_int q3 g3
    simp at e0 e1 e2' e3
    subst e0 e1 e2' e3
    have hw4 : ∀ a ∈ y4.1.weights P p4.type, a ≤ reachBytes := fun a ha => by
      have hin : a ∈ d.weights P tp := by
        have hD1 := congrArg Prod.fst hD
        simp only at hD1
        rw [hD1]
        simp only [DataW.weights, hp, List.map_cons, List.map_nil, DataW.weightsEach, List.mem_append]
        exact .inr (.inr (.inr (.inr (.inl ha))))
      exact of_decide_eq_true (List.all_eq_true.1 hs _ (DataW.weights_mem_each ht0 hd _ hin))
    obtain ⟨A', m', c', rfl, hm'⟩ := slice_few ht hbe g4 hw4
    obtain ⟨l, hl, hb⟩ := open_devs ht he hone hC h0 h1 h2 h3 hf4 h4 he2 hfs hone2 hC2 hf hby ⟨n', by simpa [Value.cells] using g4⟩ hw4
    exact ⟨A', m', c', ⟨z0, z1, z2, z3, l⟩, rfl, hl, bd_i64 w0, bd_i64 w1, bd_i64 w2, bd_i64 w3, hb, by rw [hl.len]; exact hm'⟩
end
end Go.Proofs.Ytlmpaelcnnnkfaa

/-
  Layer 18's mathematics: whether a pool may be, its counts, its latest time.
-/
namespace Go.Proofs.Ytlmpaelcnnnkfaa
open Go.RowKit
set_option linter.unusedVariables false
set_option linter.unusedSimpArgs false

/-- is a number between others? -/
def in18 (n lo hi : Int) : Bool := decide (lo ≤ n) && decide (n ≤ hi)
theorem in18_yes {n lo hi : Int} : in18 n lo hi = true ↔ lo ≤ n ∧ n ≤ hi := by simp [in18]
/-- how many mappings -/
def cnt18 (ds : List Dev18) : Nat := (ds.map fun d => d.maps.length).sum
theorem cnt18_append (a b : List Dev18) : cnt18 (a ++ b) = cnt18 a + cnt18 b := by simp [cnt18]
/-- is a mapping in range; a device's own numbers -/
def mapR18 (data : Int) (x : Int × Int × Int) : Bool := in18 x.1 0 281474976710655 && in18 x.2.1 0 (data - 1) && in18 x.2.2 0 16777215
def devR18 (d : Dev18) : Bool := in18 d.id 0 16777215 && in18 d.tx 0 2147483647 && in18 d.made 0 16777215 && in18 d.snap 0 16777215
/-- what is wrong with mappings behind a virtual block (none: no block before) -/
def mapsE18 (data : Int) : Option Int → List (Int × Int × Int) → Int
  | _, [] => 0
  | p, x :: r => if mapR18 data x = false then 2 else if (∃ y, p = some y ∧ x.1 ≤ y) then 8 else mapsE18 data (some x.1) r
/-- what is wrong with devices behind one -/
def devsE18 (data : Int) : Option Int → List Dev18 → Int
  | _, [] => 0
  | p, d :: r => if devR18 d = false then 2 else if (∃ y, p = some y ∧ d.id ≤ y) then 8 else if mapsE18 data none d.maps ≠ 0 then mapsE18 data none d.maps else devsE18 data (some d.id) r
def headR18 (p : Pol18) : Bool := in18 p.tx 0 2147483647 && in18 p.time 0 16777215 && in18 p.unit 1 65536 && in18 p.data 0 65536
def chkE18 (p : Pol18) : Int := if headR18 p = false then 2 else if 4096 < p.devs.length ∨ 16384 < cnt18 p.devs then 2 else devsE18 p.data none p.devs

theorem mapsE18_range {data : Int} : ∀ {p : Option Int} {l : List (Int × Int × Int)}, mapsE18 data p l = 0 → ∀ x ∈ l, mapR18 data x = true
  | _, [], _, x, hx => by cases hx
  | p, y :: r, h, x, hx => by
    rw [mapsE18] at h
    split at h
    · cases h
    · rename_i h1
      split at h
      · cases h
      · rcases List.mem_cons.1 hx with rfl | hx
        · simpa using h1
        · exact mapsE18_range h x hx
theorem devsE18_range {data : Int} : ∀ {p : Option Int} {l : List Dev18}, devsE18 data p l = 0 → ∀ d ∈ l, devR18 d = true ∧ mapsE18 data none d.maps = 0
  | _, [], _, d, hd => by cases hd
  | p, y :: r, h, d, hd => by
    rw [devsE18] at h
    split at h
    · cases h
    · rename_i h1
      split at h
      · cases h
      · split at h
        · rename_i h3; exact absurd h h3
        · rename_i h3
          rcases List.mem_cons.1 hd with rfl | hd
          · exact ⟨by simpa using h1, by simpa using h3⟩
          · exact devsE18_range h d hd
/-- all mappings' data blocks, in order -/
def blks18 (ds : List Dev18) : List Int := ds.flatMap fun d => d.maps.map fun x => x.2.1
theorem blks18_length (ds : List Dev18) : (blks18 ds).length = cnt18 ds := by
  induction ds with
  | nil => rfl
  | cons d r ih => simp only [blks18, List.flatMap_cons, List.length_append, List.length_map] at ih ⊢; rw [ih]; simp [cnt18]
theorem blks18_in {p : Pol18} (h : chkE18 p = 0) : ∀ b ∈ blks18 p.devs, 0 ≤ b ∧ b < p.data := fun b hb => by
  unfold chkE18 at h
  split at h
  · cases h
  · split at h
    · cases h
    · obtain ⟨d, hd, hb⟩ := List.mem_flatMap.1 hb
      obtain ⟨x, hx, rfl⟩ := List.mem_map.1 hb
      have := mapsE18_range (devsE18_range h d hd).2 x hx
      simp only [mapR18, Bool.and_eq_true, in18_yes] at this
      omega
/-- how often each data block is mapped -/
def refs18 (n : Nat) (bs : List Int) : List Int := (List.range n).map fun (i : Nat) => ((bs.count (i : Int) : Nat) : Int)
theorem refs18_length (n : Nat) (bs : List Int) : (refs18 n bs).length = n := by simp [refs18]
theorem refs18_nil (n : Nat) : refs18 n [] = List.replicate n 0 := by
  apply List.ext_getElem
  · simp [refs18]
  · intro i a b; simp [refs18]
theorem refs18_step (n : Nat) (bs : List Int) (b : Nat) (hb : b < n) : refs18 n (bs ++ [(b : Int)]) = (refs18 n bs).set b ((refs18 n bs).getD b 0 + 1) := by
  apply List.ext_getElem
  · simp [refs18]
  · intro i h1 h2
    have hi : i < n := by simpa [refs18] using h1
    by_cases e : b = i
    · subst e
      simp [refs18, List.count_append, hi]
    · rw [List.getElem_set_ne e]
      have : ¬ (b : Int) = (i : Int) := by omega
      simp [refs18, List.count_append, List.count_singleton, this]
theorem sum_bump18 : ∀ (l : List Int) (b : Nat), b < l.length → (l.set b (l.getD b 0 + 1)).sum = l.sum + 1
  | [], b, h => by simp at h
  | x :: r, 0, _ => by simp; omega
  | x :: r, b + 1, h => by
    have := sum_bump18 r b (by simpa using h)
    simp only [List.set_cons_succ, List.sum_cons, List.getD_cons_succ, this]
    omega
/-- the counts add up -/
theorem refs18_sum (n : Nat) : ∀ (bs : List Int), (∀ b ∈ bs, 0 ≤ b ∧ b < (n : Int)) → (refs18 n bs).sum = (bs.length : Int) := by
  intro bs
  induction h : bs.length generalizing bs with
  | zero =>
    intro _
    obtain rfl := List.eq_nil_of_length_eq_zero h
    rw [refs18_nil]
    simp
  | succ k ih =>
    intro hb
    obtain ⟨r, b, rfl⟩ : ∃ r b, bs = r ++ [b] := ⟨bs.dropLast, bs.getLast (by intro e; rw [e] at h; simp at h), (List.dropLast_concat_getLast _).symm⟩
    have hbb := hb b (by simp)
    obtain ⟨j, rfl⟩ := Int.eq_ofNat_of_zero_le hbb.1
    rw [refs18_step n r j (by omega), sum_bump18 _ _ (by rw [refs18_length]; omega), ih r (by simpa using h) (fun x hx => hb x (List.mem_append_left _ hx))]
    push_cast
    omega
end Go.Proofs.Ytlmpaelcnnnkfaa

/-
  Layer 18's mathematics: errors entry by entry, as loops meet them; pools that are the same.
-/
namespace Go.Proofs.Ytlmpaelcnnnkfaa
open Go.RowKit
set_option linter.unusedVariables false
set_option linter.unusedSimpArgs false

/-! ### the first error of a row -/
/-- the first number of these that is not 0 -/
def first18 : List Int → Int
  | [] => 0
  | x :: r => if x ≠ 0 then x else first18 r
/-! ### mappings -/
/-! ### devices -/
def zero18 : Dev18 := ⟨0, 0, 0, 0, []⟩
/-- what is wrong with device k itself, before its mappings; with it and them -/
def devS18 (p : Option Int) (ds : List Dev18) (k : Nat) : Int :=
  if devR18 (ds.getD k zero18) = false then 2 else if ∃ y, (if k = 0 then p else some (ds.getD (k - 1) zero18).id) = some y ∧ (ds.getD k zero18).id ≤ y then 8 else 0
def devAt18 (data : Int) (p : Option Int) (ds : List Dev18) (k : Nat) : Int := if devS18 p ds k ≠ 0 then devS18 p ds k else mapsE18 data none (ds.getD k zero18).maps
theorem devAt18_succ (data : Int) (p : Option Int) (x : Dev18) (r : List Dev18) (k : Nat) : devAt18 data p (x :: r) (k + 1) = devAt18 data (some x.id) r k := by
  unfold devAt18 devS18
  cases k with
  | zero => simp
  | succ k => simp
theorem devsE18_first (data : Int) : ∀ (p : Option Int) (ds : List Dev18), devsE18 data p ds = first18 ((List.range ds.length).map (devAt18 data p ds))
  | p, [] => rfl
  | p, x :: r => by
    have e : (List.range (x :: r).length).map (devAt18 data p (x :: r)) = devAt18 data p (x :: r) 0 :: (List.range r.length).map (devAt18 data (some x.id) r) := by
      rw [List.length_cons, List.range_succ_eq_map, List.map_cons, List.map_map]
      congr 1
      exact List.map_congr_left fun k _ => devAt18_succ data p x r k
    rw [e, devsE18, first18, ← devsE18_first data (some x.id) r]
    have e0 : devS18 p (x :: r) 0 = if devR18 x = false then 2 else if (∃ y, p = some y ∧ x.id ≤ y) then 8 else 0 := by
      simp [devS18]
    have e1 : devAt18 data p (x :: r) 0 = if devS18 p (x :: r) 0 ≠ 0 then devS18 p (x :: r) 0 else mapsE18 data none x.maps := by
      simp [devAt18]
    rw [e1, e0]
    by_cases h1 : devR18 x = false
    · simp [h1]
    · by_cases h2 : ∃ y, p = some y ∧ x.id ≤ y
      · simp only [if_neg h1, if_pos h2]
        simp
      · by_cases h3 : mapsE18 data none x.maps = 0
        · simp only [if_neg h1, if_neg h2]
          simp [h3]
        · simp only [if_neg h1, if_neg h2]
          simp [h3]
theorem chkE18_head {p : Pol18} (h : headR18 p = false) : chkE18 p = 2 := if_pos h
theorem chkE18_many {p : Pol18} (h : headR18 p = true) (h2 : 4096 < p.devs.length ∨ 16384 < cnt18 p.devs) : chkE18 p = 2 := by rw [chkE18, if_neg (by rw [h]; decide), if_pos h2]
theorem chkE18_devs {p : Pol18} (h : headR18 p = true) (h2 : ¬ (4096 < p.devs.length ∨ 16384 < cnt18 p.devs)) : chkE18 p = devsE18 p.data none p.devs := by rw [chkE18, if_neg (by rw [h]; decide), if_neg h2]

/-! ### the counts of the first devices, of the first mappings of the next -/
theorem cnt18_take {ds : List Dev18} {k : Nat} (h : k < ds.length) : cnt18 (ds.take (k + 1)) = cnt18 (ds.take k) + (ds.getD k zero18).maps.length := by
  rw [List.take_succ_eq_append_getElem h, cnt18_append]
  simp [cnt18, List.getD_eq_getElem?_getD, h]
theorem cnt18_le {ds : List Dev18} (k : Nat) : cnt18 (ds.take k) ≤ cnt18 ds := by
  have e := List.take_append_drop k ds
  have h : cnt18 ds = cnt18 (ds.take k) + cnt18 (ds.drop k) := by rw [← cnt18_append, e]
  omega
theorem getD18 {α : Type} {l : List α} {k : Nat} (h : k < l.length) (d : α) : l.getD k d = l[k] := by simp [List.getD_eq_getElem?_getD, h]
/-! ### what Find answers; what is the same -/
end Go.Proofs.Ytlmpaelcnnnkfaa
