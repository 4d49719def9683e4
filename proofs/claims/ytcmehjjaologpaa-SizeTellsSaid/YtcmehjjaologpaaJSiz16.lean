/-
  Joined: OpenD, OpenF, OpenP, PolMath, PolAt, SizMath.
-/
import Derived.ChangeSame
import Derived.Lib.SmallJoins
import Derived.Test.YtcmehjjaologpaaJSiz11
import Derived.Deep.Strs
import Derived.Test.YtcmehjjaologpaaJSiz15
import Derived.Test.YtcmehjjaologpaaJSiz01
/-
  Structs of a slice of integers and an integer: by value, and slices of them; in memory, and opened.
-/
namespace Go.Proofs.Ytcmehjjaologpaa
open Go.ChangeShapes Go.WideShapes Go.ChangeAt Go.RowKit Go.Deep
set_option linter.unusedVariables false
set_option linter.unusedSimpArgs false

/-- a slice of structs of a slice of integers and an integer -/
structure Fts (w : World) (A : Option Addr) (n c : Nat) (ll : List (List Int × Int)) : Prop where
  len : ll.length = n
  cap : n ≤ c
  most : c ≤ 9223372036854775807
  row : ∀ k (h : k < ll.length), ∃ ad A' m c', A = some ad ∧ w.cell? (ad.add (k * 2)) = some (.slice A' m c') ∧ w.cell? (ad.add (k * 2 + 1)) = some (.int .i64 ll[k].2) ∧ Ints w A' m c' ll[k].1

theorem Fts.nil (w : World) : Fts w none 0 0 [] := ⟨rfl, Nat.le_refl _, Nat.zero_le _, fun k h => by simp at h⟩

theorem Fts.lit {w : World} {A : Option Addr} {n c : Nat} {ll : List (List Int × Int)} (h : Fts w A n c ll) (hp : 0 < n) :
    ∃ b off, A = some ⟨b, off, none⟩ ∧ b < w.heap.size ∧ ∀ k (h : k < ll.length), ∃ A' m c', w.cell? ⟨b, off + k * 2, none⟩ = some (.slice A' m c') ∧ w.cell? ⟨b, off + (k * 2 + 1), none⟩ = some (.int .i64 ll[k].2) ∧ Ints w A' m c' ll[k].1 := by
  obtain ⟨ad, A', m, c', rfl, hc, _⟩ := h.row 0 (by rw [h.len]; exact hp)
  obtain ⟨b, off, spot⟩ := ad
  have hspot : spot = none := by simpa [Addr.add] using World.cell?_spot hc
  subst hspot
  refine ⟨b, off, rfl, by simpa [Addr.add] using cell_lt hc, fun k hk => ?_⟩
  obtain ⟨ad', A', m, c', e, h1, h2, hB⟩ := h.row k hk
  cases e
  rw [Addr.add_lit] at h1 h2
  exact ⟨A', m, c', h1, h2, hB⟩

section
variable {H : Type} {enc : TypeId × Value → H} {P : Program} {w : World} {base : Nat} {held : Bool}

end
end Go.Proofs.Ytcmehjjaologpaa

/-
  Slices of strings; a struct of an integer, a bool, integers and strings by value: in memory, and opened.
-/
namespace Go.Proofs.Ytcmehjjaologpaa
open Go.ChangeShapes Go.WideShapes Go.ChangeAt Go.RowKit Go.Deep
set_option linter.unusedVariables false
set_option linter.unusedSimpArgs false

/-- strings as cells -/
def strV (ll : List (List UInt8)) : List Value := ll.map fun l => .string ⟨l.toArray⟩
theorem strV_length (ll : List (List UInt8)) : (strV ll).length = ll.length := by simp [strV]
theorem strV_at (ll : List (List UInt8)) (k : Nat) (h : k < ll.length) : (strV ll)[k]? = some (.string ⟨ll[k].toArray⟩) := by simp [strV, h]
/-- a slice of strings -/
structure Strs (w : World) (A : Option Addr) (n c : Nat) (ll : List (List UInt8)) : Prop where
  len : ll.length = n
  cap : n ≤ c
  most : c ≤ 9223372036854775807
  row : Row w A (strV ll)

theorem Strs.below {w w' : World} {A : Option Addr} {n c : Nat} {ll : List (List UInt8)} (h : Strs w A n c ll) (hb : Below w.heap.size w w') : Strs w' A n c ll := ⟨h.len, h.cap, h.most, h.row.below hb⟩
theorem Strs.nil (w : World) : Strs w none 0 0 [] := ⟨rfl, Nat.le_refl _, Nat.zero_le _, Row.nil _ _⟩
theorem Strs.of_own {w : World} {base : Nat} {e : TypeId} {n : Nat} {v : Value} {ll : List (List UInt8)} (h : w.ownsRow base e 1 v n (strV ll)) : ∃ A c, v = .slice A n c ∧ Strs w A n c ll := by
  obtain ⟨A, c, rfl, h1, h2⟩ := ownsRow_form h
  refine ⟨A, c, rfl, by have := h.1; rw [strV_length] at this; simpa using this, h1, by simpa [maxLen] using h2, Row.of_own h⟩

section
variable {H : Type} {enc : TypeId × Value → H} {P : Program} {w : World} {base : Nat} {held : Bool}

end
end Go.Proofs.Ytcmehjjaologpaa

/-
  Pools: devices with their mappings, in memory, and a pool by value opened.
-/
namespace Go.Proofs.Ytcmehjjaologpaa
open Go.ChangeShapes Go.WideShapes Go.ChangeAt Go.RowKit Go.Deep
set_option linter.unusedVariables false
set_option linter.unusedSimpArgs false

/-- a device: its numbers, its mappings (virtual block, data block, time) -/
structure Dev18 where
  id : Int
  tx : Int
  made : Int
  snap : Int
  maps : List (Int × Int × Int)
instance : Inhabited Dev18 := ⟨⟨0, 0, 0, 0, []⟩⟩
/-- a pool -/
structure Pol18 where
  tx : Int
  time : Int
  unit : Int
  data : Int
  devs : List Dev18

/-- device k of a slice: five cells, its mappings' slice -/
def DevAt (w : World) (ad : Addr) (d : Dev18) : Prop := ∃ A' m c', w.cell? ad = some (.int .i64 d.id) ∧ w.cell? (ad.add 1) = some (.int .i64 d.tx) ∧ w.cell? (ad.add 2) = some (.int .i64 d.made) ∧ w.cell? (ad.add 3) = some (.int .i64 d.snap) ∧ w.cell? (ad.add 4) = some (.slice A' m c') ∧ Trs w A' m c' d.maps
theorem DevAt.below {w w' : World} {ad : Addr} {d : Dev18} (h : DevAt w ad d) (hb : Below w.heap.size w w') : DevAt w' ad d := by
  obtain ⟨A', m, c', h0, h1, h2, h3, h4, h5⟩ := h
  exact ⟨A', m, c', (hb.cell (cell_lt h0)).trans h0, (hb.cell (cell_lt h1)).trans h1, (hb.cell (cell_lt h2)).trans h2, (hb.cell (cell_lt h3)).trans h3, (hb.cell (cell_lt h4)).trans h4, h5.below hb⟩
/-- a slice of devices -/
structure Dvs (w : World) (A : Option Addr) (n c : Nat) (l : List Dev18) : Prop where
  len : l.length = n
  cap : n ≤ c
  most : c ≤ 9223372036854775807
  row : ∀ k (h : k < l.length), ∃ ad, A = some ad ∧ DevAt w (ad.add (k * 5)) l[k]
theorem Dvs.below {w w' : World} {A : Option Addr} {n c : Nat} {l : List Dev18} (h : Dvs w A n c l) (hb : Below w.heap.size w w') : Dvs w' A n c l :=
  ⟨h.len, h.cap, h.most, fun k hk => by
    obtain ⟨ad, e, hd⟩ := h.row k hk
    exact ⟨ad, e, hd.below hb⟩⟩
theorem Dvs.nil (w : World) : Dvs w none 0 0 [] := ⟨rfl, Nat.le_refl _, by omega, fun k h => by cases h⟩
theorem Dvs.lit {w : World} {A : Option Addr} {n c : Nat} {l : List Dev18} (h : Dvs w A n c l) (hp : 0 < n) :
    ∃ b off, A = some ⟨b, off, none⟩ ∧ b < w.heap.size ∧ ∀ k (h : k < l.length), ∃ A' m c', w.cell? ⟨b, off + k * 5, none⟩ = some (.int .i64 l[k].id) ∧ w.cell? ⟨b, off + (k * 5 + 1), none⟩ = some (.int .i64 l[k].tx) ∧ w.cell? ⟨b, off + (k * 5 + 2), none⟩ = some (.int .i64 l[k].made) ∧ w.cell? ⟨b, off + (k * 5 + 3), none⟩ = some (.int .i64 l[k].snap) ∧ w.cell? ⟨b, off + (k * 5 + 4), none⟩ = some (.slice A' m c') ∧ Trs w A' m c' l[k].maps := by
  have h0 : 0 < l.length := by rw [h.len]; exact hp
  obtain ⟨ad, rfl, A0, m0, c0, g0, _⟩ := h.row 0 h0
  obtain ⟨b, off, spot⟩ := ad
  have hspot : spot = none := by simpa [Addr.add] using World.cell?_spot g0
  subst hspot
  refine ⟨b, off, rfl, by simpa [Addr.add] using cell_lt g0, fun k hk => ?_⟩
  obtain ⟨ad', e, A', m, c', g0, g1, g2, g3, g4, g5⟩ := h.row k hk
  cases e
  rw [addr_add_add] at g1 g2 g3 g4
  rw [Addr.add_lit] at g0 g1 g2 g3 g4
  exact ⟨A', m, c', g0, g1, g2, g3, g4, g5⟩

/-- the numbers of a device, of a pool -/
def Dev18.bd (d : Dev18) : Prop := (-9223372036854775808 ≤ d.id ∧ d.id ≤ 9223372036854775807) ∧ (-9223372036854775808 ≤ d.tx ∧ d.tx ≤ 9223372036854775807) ∧ (-9223372036854775808 ≤ d.made ∧ d.made ≤ 9223372036854775807) ∧ (-9223372036854775808 ≤ d.snap ∧ d.snap ≤ 9223372036854775807) ∧
  (∀ q ∈ d.maps, (-9223372036854775808 ≤ q.1 ∧ q.1 ≤ 9223372036854775807) ∧ (-9223372036854775808 ≤ q.2.1 ∧ q.2.1 ≤ 9223372036854775807) ∧ (-9223372036854775808 ≤ q.2.2 ∧ q.2.2 ≤ 9223372036854775807)) ∧ d.maps.length ≤ 140737488351232
def Pol18.bd (p : Pol18) : Prop := (-9223372036854775808 ≤ p.tx ∧ p.tx ≤ 9223372036854775807) ∧ (-9223372036854775808 ≤ p.time ∧ p.time ≤ 9223372036854775807) ∧ (-9223372036854775808 ≤ p.unit ∧ p.unit ≤ 9223372036854775807) ∧ (-9223372036854775808 ≤ p.data ∧ p.data ≤ 9223372036854775807) ∧ (∀ d ∈ p.devs, d.bd) ∧ p.devs.length ≤ 140737488351232

section
variable {H : Type} {enc : TypeId × Value → H} {P : Program} {w : World} {base : Nat} {held : Bool}
/-- a slice of elements of at least one byte, opened no further: its length within the form's reach -/
theorem slice_few {t e : TypeId} {n' : Nat} {u : Value} {y : DataW H × List MemPlace} (ht : P.underlying t = some (.slice e)) (hby : 1 ≤ P.bytesOf e) (g : DataW.trod enc P w base (fun _ => true) held n' t [u] = some y) (hs : ∀ x ∈ y.1.weights P t, x ≤ reachBytes) :
    ∃ A' m c', u = .slice A' m c' ∧ m ≤ 140737488351232 := by
  rcases open_slice ht g with ⟨hcs, _⟩ | ⟨x2, l2, cp2, m2, k2, D2, P2, hcs, _, hl2, hm2, hmm2, hx2, _⟩
  · simp at hcs
    exact ⟨none, 0, 0, hcs, by omega⟩
  · simp at hcs
    refine ⟨some x2, l2, cp2, hcs, ?_⟩
    simp only [if_true] at hmm2
    subst hmm2
    have hin1 : m2 * P.bytesOf e ∈ y.1.weights P t := by
      rw [hx2]
      simp only [DataW.weights, ht, List.mem_cons]
      refine .inl ?_
      simp only [List.length_map, List.length_range]
      congr 1
      omega
    have h1 := hs _ hin1
    have h10 : reachBytes = 140737488351232 := by decide
    have h2 : m2 * 1 ≤ m2 * P.bytesOf e := Nat.mul_le_mul_left _ hby
    omega

/-- a slice of devices -/
theorem open_devs {t e q e2 : TypeId} {f0 f1 f2 f3 f4 : Field} {fs : Array Field} {A : Option Addr} {n c : Nat} {d : DataW H} {p : List MemPlace} (ht : P.underlying t = some (.slice e)) (he : P.underlying e = some (.struct #[f0, f1, f2, f3, f4]))
    (hone : oneCellFields P #[f0, f1, f2, f3, f4] = true) (hC : P.cellsOf e = 5) (h0 : P.underlying f0.type = some (.int .i64)) (h1 : P.underlying f1.type = some (.int .i64)) (h2 : P.underlying f2.type = some (.int .i64)) (h3 : P.underlying f3.type = some (.int .i64))
    (hf4 : f4.type = q) (h4 : P.underlying q = some (.slice e2)) (he2 : P.underlying e2 = some (.struct fs)) (hfs : fs.size = 3) (hone2 : oneCellFields P fs = true) (hC2 : P.cellsOf e2 = 3) (hf : fs.toList.map (fun f => P.underlying f.type) = List.replicate 3 (some (.int .i64))) (hby : 1 ≤ P.bytesOf e2)
    (h : DataW.Trod enc P w base (fun _ => true) held t (.slice A n c) d p) (hs : ∀ x ∈ d.weights P t, x ≤ reachBytes) :
    ∃ l : List Dev18, Dvs w A n c l ∧ ∀ x ∈ l, x.bd := by
  subst hf4
  obtain ⟨fuel, hf2⟩ := h
  rcases open_slice ht hf2 with ⟨hcs, _⟩ | ⟨x, l, c', m, k, D, Pl, hcs, _, hl, hm, hmm, hx, hi⟩
  · simp [Value.cells] at hcs
    obtain ⟨rfl, rfl, rfl⟩ := hcs
    exact ⟨[], Dvs.nil w, by simp⟩
  · simp [Value.cells] at hcs
    obtain ⟨rfl, rfl, rfl⟩ := hcs
    simp only [if_true] at hmm
    subst hmm
    rw [hC] at hi
    simp only [Prod.mk.injEq] at hx
    obtain ⟨hx, _⟩ := hx
    have each : ∀ i, i < n → ∃ s : Dev18, DevAt w (x.add (i * 5)) s ∧ s.bd := by
      intro i hin
      obtain ⟨cs', hc, htr⟩ := hi i (by omega)
      obtain ⟨_, hcl, hat⟩ := World.cells?_some hc
      match cs', hcl with
      | [u0, u1, u2, u3, u4], _ =>
        obtain ⟨xs, n', _, hD, _, hlen, hg⟩ := DataW.trod_struct he htr
        match xs, hlen with
        | [y0, y1, y2, y3, y4], _ =>
          obtain ⟨o0, k0⟩ := hone_of hone 0 f0 rfl
          obtain ⟨o1, k1⟩ := hone_of hone 1 f1 rfl
          obtain ⟨o2, k2⟩ := hone_of hone 2 f2 rfl
          obtain ⟨o3, k3⟩ := hone_of hone 3 f3 rfl
          obtain ⟨o4, k4⟩ := hone_of hone 4 f4 rfl
          have g0 : DataW.trod enc P w base (fun _ => true) held n' f0.type [u0] = some y0 := by simpa [o0, k0] using hg 0 f0 rfl
          have g1 : DataW.trod enc P w base (fun _ => true) held n' f1.type [u1] = some y1 := by simpa [o1, k1] using hg 1 f1 rfl
          have g2 : DataW.trod enc P w base (fun _ => true) held n' f2.type [u2] = some y2 := by simpa [o2, k2] using hg 2 f2 rfl
          have g3 : DataW.trod enc P w base (fun _ => true) held n' f3.type [u3] = some y3 := by simpa [o3, k3] using hg 3 f3 rfl
          have g4 : DataW.trod enc P w base (fun _ => true) held n' f4.type [u4] = some y4 := by simpa [o4, k4] using hg 4 f4 rfl
          obtain ⟨z0, e0, _, w0⟩ := DataW.trod_int h0 g0
          obtain ⟨z1, e1, _, w1⟩ := DataW.trod_int h1 g1
          obtain ⟨z2, e2', _, w2⟩ := DataW.trod_int h2 g2
          obtain ⟨z3, e3, _, w3⟩ := DataW.trod_int h3 g3
          simp at e0 e1 e2' e3
          subst e0 e1 e2' e3
          have hw4 : ∀ a ∈ y4.1.weights P f4.type, a ≤ reachBytes := fun a ha => by
            refine hs a ?_
            have hin2 : a ∈ (D i).weights P e := by
              have hD1 := congrArg Prod.fst hD
              simp only at hD1
              rw [hD1]
              simp only [DataW.weights, he, List.map_cons, List.map_nil, DataW.weightsEach, List.mem_append]
              exact .inr (.inr (.inr (.inr (.inl ha))))
            rw [hx]
            simp only [DataW.weights, ht, List.mem_cons, List.mem_append]
            exact .inr (.inl (weights_inner (d := D i) (List.mem_map.2 ⟨i, List.mem_range.2 hin, rfl⟩) _ hin2))
          obtain ⟨A', m', c3, rfl, hm'⟩ := slice_few h4 hby g4 hw4
          obtain ⟨lm, hT, hbm⟩ := open_trs h4 he2 hfs hone2 hC2 hf ⟨n', by simpa [Value.cells] using g4⟩
          have c0 := hat 0 (by omega)
          have c1 := hat 1 (by omega)
          have c2 := hat 2 (by omega)
          have c3' := hat 3 (by omega)
          have c4 := hat 4 (by omega)
          refine ⟨⟨z0, z1, z2, z3, lm⟩, ⟨A', m', c3, ?_, ?_, ?_, ?_, ?_, hT⟩, bd_i64 w0, bd_i64 w1, bd_i64 w2, bd_i64 w3, hbm, by rw [hT.len]; exact hm'⟩
          · rw [addr_add_add] at c0; simpa using c0
          · simpa using c1
          · simpa using c2
          · simpa using c3'
          · simpa using c4
    obtain ⟨f, hfq⟩ := choose_lt each
    refine ⟨(List.range n).map f, ⟨by simp, hl, by simpa [maxLen] using hm, fun k hk => ?_⟩, fun s hs => ?_⟩
    · have hk' : k < n := by simpa using hk
      simp only [List.getElem_map, List.getElem_range]
      exact ⟨x, rfl, (hfq k hk').1⟩
    · obtain ⟨i, hi2, rfl⟩ := List.mem_map.1 hs
      exact (hfq i (List.mem_range.1 hi2)).2

/-- a pool by value -/
theorem open_pool {r : Reach} {b0 : Nat} {tp t e q e2 : TypeId} {p0 p1 p2 p3 p4 f0 f1 f2 f3 f4 : Field} {fs : Array Field} {v : Value} {d : DataW H} {p : List MemPlace} (hp : P.underlying tp = some (.struct #[p0, p1, p2, p3, p4])) (honep : oneCellFields P #[p0, p1, p2, p3, p4] = true) (hCp : P.cellsOf tp = 5)
    (q0 : P.underlying p0.type = some (.int .i64)) (q1 : P.underlying p1.type = some (.int .i64)) (q2 : P.underlying p2.type = some (.int .i64)) (q3 : P.underlying p3.type = some (.int .i64)) (hp4 : p4.type = t)
    (ht : P.underlying t = some (.slice e)) (hbe : 1 ≤ P.bytesOf e) (he : P.underlying e = some (.struct #[f0, f1, f2, f3, f4]))
    (hone : oneCellFields P #[f0, f1, f2, f3, f4] = true) (hC : P.cellsOf e = 5) (h0 : P.underlying f0.type = some (.int .i64)) (h1 : P.underlying f1.type = some (.int .i64)) (h2 : P.underlying f2.type = some (.int .i64)) (h3 : P.underlying f3.type = some (.int .i64))
    (hf4 : f4.type = q) (h4 : P.underlying q = some (.slice e2)) (he2 : P.underlying e2 = some (.struct fs)) (hfs : fs.size = 3) (hone2 : oneCellFields P fs = true) (hC2 : P.cellsOf e2 = 3) (hf : fs.toList.map (fun f => P.underlying f.type) = List.replicate 3 (some (.int .i64))) (hby : 1 ≤ P.bytesOf e2)
    (hv : Value.okWide P w r b0 tp v) (h : DataW.Trod enc P w base (fun _ => true) held tp v d p)
    {ts : List TypeId} {ds : List (DataW H)} (hs : (DataW.weightsEach P ts ds).all (· ≤ reachBytes) = true) {j : Nat} (ht0 : ts[j]? = some tp) (hd : ds[j]? = some d) :
    ∃ (A : Option Addr) (n c : Nat) (pl : Pol18), v = .agg #[.int .i64 pl.tx, .int .i64 pl.time, .int .i64 pl.unit, .int .i64 pl.data, .slice A n c] ∧ Dvs w A n c pl.devs ∧ pl.bd := by
  subst hp4
  obtain ⟨cs, rfl, hsz⟩ := okWide_struct hp hv
  rw [hCp] at hsz
  obtain ⟨u0, u1, u2, u3, u4, rfl⟩ : ∃ u0 u1 u2 u3 u4, cs = #[u0, u1, u2, u3, u4] := by
    obtain ⟨l⟩ := cs
    match l, hsz with
    | [a, b, c, d, e], _ => exact ⟨a, b, c, d, e, rfl⟩
  obtain ⟨fuel, hf2⟩ := h
  obtain ⟨xs, n', _, hD, _, hlen, hg⟩ := DataW.trod_struct hp hf2
  match xs, hlen with
  | [y0, y1, y2, y3, y4], _ =>
    obtain ⟨o0, k0⟩ := hone_of honep 0 p0 rfl
    obtain ⟨o1, k1⟩ := hone_of honep 1 p1 rfl
    obtain ⟨o2, k2⟩ := hone_of honep 2 p2 rfl
    obtain ⟨o3, k3⟩ := hone_of honep 3 p3 rfl
    obtain ⟨o4, k4⟩ := hone_of honep 4 p4 rfl
    have g0 : DataW.trod enc P w base (fun _ => true) held n' p0.type [u0] = some y0 := by simpa [o0, k0, Value.cells] using hg 0 p0 rfl
    have g1 : DataW.trod enc P w base (fun _ => true) held n' p1.type [u1] = some y1 := by simpa [o1, k1, Value.cells] using hg 1 p1 rfl
    have g2 : DataW.trod enc P w base (fun _ => true) held n' p2.type [u2] = some y2 := by simpa [o2, k2, Value.cells] using hg 2 p2 rfl
    have g3 : DataW.trod enc P w base (fun _ => true) held n' p3.type [u3] = some y3 := by simpa [o3, k3, Value.cells] using hg 3 p3 rfl
    have g4 : DataW.trod enc P w base (fun _ => true) held n' p4.type [u4] = some y4 := by simpa [o4, k4, Value.cells] using hg 4 p4 rfl
    obtain ⟨z0, e0, _, w0⟩ := DataW.trod_int q0 g0
    obtain ⟨z1, e1, _, w1⟩ := DataW.trod_int q1 g1
    obtain ⟨z2, e2', _, w2⟩ := DataW.trod_int q2 g2
    obtain ⟨z3, e3, _, w3⟩ := DataW.trod_int q3 g3
    simp at e0 e1 e2' e3
    subst e0 e1 e2' e3
    have hw4 : ∀ a ∈ y4.1.weights P p4.type, a ≤ reachBytes := fun a ha => by
      have hin : a ∈ d.weights P tp := by
        have hD1 := congrArg Prod.fst hD
        simp only at hD1
        rw [hD1]
        simp only [DataW.weights, hp, List.map_cons, List.map_nil, DataW.weightsEach, List.mem_append]
        exact .inr (.inr (.inr (.inr (.inl ha))))
      exact of_decide_eq_true (List.all_eq_true.1 hs _ (DataW.weights_mem_each ht0 hd _ hin))
    obtain ⟨A', m', c', rfl, hm'⟩ := slice_few ht hbe g4 hw4
    obtain ⟨l, hl, hb⟩ := open_devs ht he hone hC h0 h1 h2 h3 hf4 h4 he2 hfs hone2 hC2 hf hby ⟨n', by simpa [Value.cells] using g4⟩ hw4
    exact ⟨A', m', c', ⟨z0, z1, z2, z3, l⟩, rfl, hl, bd_i64 w0, bd_i64 w1, bd_i64 w2, bd_i64 w3, hb, by rw [hl.len]; exact hm'⟩
end
end Go.Proofs.Ytcmehjjaologpaa

/-
  Layer 18's mathematics: whether a pool may be, its counts, its latest time.
-/
namespace Go.Proofs.Ytcmehjjaologpaa
open Go.RowKit
set_option linter.unusedVariables false
set_option linter.unusedSimpArgs false

/-- is a number between others? -/
def in18 (n lo hi : Int) : Bool := decide (lo ≤ n) && decide (n ≤ hi)
theorem in18_yes {n lo hi : Int} : in18 n lo hi = true ↔ lo ≤ n ∧ n ≤ hi := by simp [in18]
/-- how many mappings -/
def cnt18 (ds : List Dev18) : Nat := (ds.map fun d => d.maps.length).sum
theorem cnt18_append (a b : List Dev18) : cnt18 (a ++ b) = cnt18 a + cnt18 b := by simp [cnt18]
/-- is a mapping in range; a device's own numbers -/
def mapR18 (data : Int) (x : Int × Int × Int) : Bool := in18 x.1 0 281474976710655 && in18 x.2.1 0 (data - 1) && in18 x.2.2 0 16777215
def devR18 (d : Dev18) : Bool := in18 d.id 0 16777215 && in18 d.tx 0 2147483647 && in18 d.made 0 16777215 && in18 d.snap 0 16777215
/-- what is wrong with mappings behind a virtual block (none: no block before) -/
def mapsE18 (data : Int) : Option Int → List (Int × Int × Int) → Int
  | _, [] => 0
  | p, x :: r => if mapR18 data x = false then 2 else if (∃ y, p = some y ∧ x.1 ≤ y) then 8 else mapsE18 data (some x.1) r
/-- what is wrong with devices behind one -/
def devsE18 (data : Int) : Option Int → List Dev18 → Int
  | _, [] => 0
  | p, d :: r => if devR18 d = false then 2 else if (∃ y, p = some y ∧ d.id ≤ y) then 8 else if mapsE18 data none d.maps ≠ 0 then mapsE18 data none d.maps else devsE18 data (some d.id) r
def headR18 (p : Pol18) : Bool := in18 p.tx 0 2147483647 && in18 p.time 0 16777215 && in18 p.unit 1 65536 && in18 p.data 0 65536
def chkE18 (p : Pol18) : Int := if headR18 p = false then 2 else if 4096 < p.devs.length ∨ 16384 < cnt18 p.devs then 2 else devsE18 p.data none p.devs

theorem mapsE18_range {data : Int} : ∀ {p : Option Int} {l : List (Int × Int × Int)}, mapsE18 data p l = 0 → ∀ x ∈ l, mapR18 data x = true
  | _, [], _, x, hx => by cases hx
  | p, y :: r, h, x, hx => by
    rw [mapsE18] at h
    split at h
    · cases h
    · rename_i h1
      split at h
      · cases h
      · rcases List.mem_cons.1 hx with rfl | hx
        · simpa using h1
        · exact mapsE18_range h x hx
theorem devsE18_range {data : Int} : ∀ {p : Option Int} {l : List Dev18}, devsE18 data p l = 0 → ∀ d ∈ l, devR18 d = true ∧ mapsE18 data none d.maps = 0
  | _, [], _, d, hd => by cases hd
  | p, y :: r, h, d, hd => by
    rw [devsE18] at h
    split at h
    · cases h
    · rename_i h1
      split at h
      · cases h
      · split at h
        · rename_i h3; exact absurd h h3
        · rename_i h3
          rcases List.mem_cons.1 hd with rfl | hd
          · exact ⟨by simpa using h1, by simpa using h3⟩
          · exact devsE18_range h d hd
/-- all mappings' data blocks, in order -/
def blks18 (ds : List Dev18) : List Int := ds.flatMap fun d => d.maps.map fun x => x.2.1
theorem blks18_length (ds : List Dev18) : (blks18 ds).length = cnt18 ds := by
  induction ds with
  | nil => rfl
  | cons d r ih => simp only [blks18, List.flatMap_cons, List.length_append, List.length_map] at ih ⊢; rw [ih]; simp [cnt18]
theorem blks18_in {p : Pol18} (h : chkE18 p = 0) : ∀ b ∈ blks18 p.devs, 0 ≤ b ∧ b < p.data := fun b hb => by
  unfold chkE18 at h
  split at h
  · cases h
  · split at h
    · cases h
    · obtain ⟨d, hd, hb⟩ := List.mem_flatMap.1 hb
      obtain ⟨x, hx, rfl⟩ := List.mem_map.1 hb
      have := mapsE18_range (devsE18_range h d hd).2 x hx
      simp only [mapR18, Bool.and_eq_true, in18_yes] at this
      omega
/-- how often each data block is mapped -/
def refs18 (n : Nat) (bs : List Int) : List Int := (List.range n).map fun (i : Nat) => ((bs.count (i : Int) : Nat) : Int)
theorem refs18_length (n : Nat) (bs : List Int) : (refs18 n bs).length = n := by simp [refs18]
theorem refs18_nil (n : Nat) : refs18 n [] = List.replicate n 0 := by
  apply List.ext_getElem
  · simp [refs18]
  · intro i a b; simp [refs18]
theorem refs18_step (n : Nat) (bs : List Int) (b : Nat) (hb : b < n) : refs18 n (bs ++ [(b : Int)]) = (refs18 n bs).set b ((refs18 n bs).getD b 0 + 1) := by
  apply List.ext_getElem
  · simp [refs18]
  · intro i h1 h2
    have hi : i < n := by simpa [refs18] using h1
    by_cases e : b = i
    · subst e
      simp [refs18, List.count_append, hi]
    · rw [List.getElem_set_ne e]
      have : ¬ (b : Int) = (i : Int) := by omega
      simp [refs18, List.count_append, List.count_singleton, this]
theorem sum_bump18 : ∀ (l : List Int) (b : Nat), b < l.length → (l.set b (l.getD b 0 + 1)).sum = l.sum + 1
  | [], b, h => by simp at h
  | x :: r, 0, _ => by simp; omega
  | x :: r, b + 1, h => by
    have := sum_bump18 r b (by simpa using h)
    simp only [List.set_cons_succ, List.sum_cons, List.getD_cons_succ, this]
    omega
/-- the counts add up -/
theorem refs18_sum (n : Nat) : ∀ (bs : List Int), (∀ b ∈ bs, 0 ≤ b ∧ b < (n : Int)) → (refs18 n bs).sum = (bs.length : Int) := by
  intro bs
  induction h : bs.length generalizing bs with
  | zero =>
    intro _
    obtain rfl := List.eq_nil_of_length_eq_zero h
    rw [refs18_nil]
    simp
  | succ k ih =>
    intro hb
    obtain ⟨r, b, rfl⟩ : ∃ r b, bs = r ++ [b] := ⟨bs.dropLast, bs.getLast (by intro e; rw [e] at h; simp at h), (List.dropLast_concat_getLast _).symm⟩
    have hbb := hb b (by simp)
    obtain ⟨j, rfl⟩ := Int.eq_ofNat_of_zero_le hbb.1
    rw [refs18_step n r j (by omega), sum_bump18 _ _ (by rw [refs18_length]; omega), ih r (by simpa using h) (fun x hx => hb x (List.mem_append_left _ hx))]
    push_cast
    omega
end Go.Proofs.Ytcmehjjaologpaa

/-
  Layer 18's mathematics: errors entry by entry, as loops meet them; pools that are the same.
-/
namespace Go.Proofs.Ytcmehjjaologpaa
open Go.RowKit
set_option linter.unusedVariables false
set_option linter.unusedSimpArgs false

/-! ### the first error of a row -/
/-- the first number of these that is not 0 -/
def first18 : List Int → Int
  | [] => 0
  | x :: r => if x ≠ 0 then x else first18 r
theorem first18_at : ∀ {l : List Int} {k : Nat}, (∀ j, j < k → l.getD j 0 = 0) → l.getD k 0 ≠ 0 → first18 l = l.getD k 0
  | [], k, _, h => by simp at h
  | x :: r, 0, _, h => by
    have h : x ≠ 0 := by simpa using h
    rw [first18, if_pos h]
    rfl
  | x :: r, k + 1, hj, h => by
    have h0 := hj 0 (by omega)
    have h0 : x = 0 := by simpa using h0
    rw [first18, if_neg (by rw [h0]; simp)]
    have := first18_at (l := r) (k := k) (fun j h => by have := hj (j + 1) (by omega); simpa using this) (by simpa using h)
    rw [this]
    simp
theorem first18_none : ∀ {l : List Int}, (∀ j, j < l.length → l.getD j 0 = 0) → first18 l = 0
  | [], _ => rfl
  | x :: r, h => by
    have h0 := h 0 (by simp)
    have h0 : x = 0 := by simpa using h0
    rw [first18, if_neg (by rw [h0]; simp)]
    exact first18_none fun j hj => by
      have := h (j + 1) (by simp; omega)
      simpa using this

/-! ### mappings -/
/-- what is wrong with mapping k, behind p if it is the first -/
def mapAt18 (data : Int) (p : Option Int) (l : List (Int × Int × Int)) (k : Nat) : Int :=
  if mapR18 data (l.getD k (0, 0, 0)) = false then 2 else if ∃ y, (if k = 0 then p else some (l.getD (k - 1) (0, 0, 0)).1) = some y ∧ (l.getD k (0, 0, 0)).1 ≤ y then 8 else 0
theorem mapAt18_succ (data : Int) (p : Option Int) (x : Int × Int × Int) (r : List (Int × Int × Int)) (k : Nat) : mapAt18 data p (x :: r) (k + 1) = mapAt18 data (some x.1) r k := by
  unfold mapAt18
  cases k with
  | zero => simp
  | succ k => simp
theorem mapsE18_first (data : Int) : ∀ (p : Option Int) (l : List (Int × Int × Int)), mapsE18 data p l = first18 ((List.range l.length).map (mapAt18 data p l))
  | p, [] => rfl
  | p, x :: r => by
    have e : (List.range (x :: r).length).map (mapAt18 data p (x :: r)) = mapAt18 data p (x :: r) 0 :: (List.range r.length).map (mapAt18 data (some x.1) r) := by
      rw [List.length_cons, List.range_succ_eq_map, List.map_cons, List.map_map]
      congr 1
      exact List.map_congr_left fun k _ => mapAt18_succ data p x r k
    rw [e, mapsE18, first18, ← mapsE18_first data (some x.1) r]
    have e0 : mapAt18 data p (x :: r) 0 = if mapR18 data x = false then 2 else if (∃ y, p = some y ∧ x.1 ≤ y) then 8 else 0 := by
      simp [mapAt18]
    rw [e0]
    by_cases h1 : mapR18 data x = false
    · rw [if_pos h1, if_pos h1, if_pos (by decide)]
    · rw [if_neg h1, if_neg h1]
      by_cases h2 : ∃ y, p = some y ∧ x.1 ≤ y
      · rw [if_pos h2, if_pos h2, if_pos (by decide)]
      · rw [if_neg h2, if_neg h2, if_neg (by simp)]
theorem mapsE18_bad {data : Int} {l : List (Int × Int × Int)} {k : Nat} (hk : k < l.length) (h : ∀ j, j < k → mapAt18 data none l j = 0) (hb : mapAt18 data none l k ≠ 0) : mapsE18 data none l = mapAt18 data none l k := by
  have e : ∀ j, j < l.length → ((List.range l.length).map (mapAt18 data none l)).getD j 0 = mapAt18 data none l j := fun j hj => by simp [List.getD_eq_getElem?_getD, hj]
  rw [mapsE18_first, first18_at (k := k) (fun j hj => by rw [e j (by omega)]; exact h j hj) (by rw [e k hk]; exact hb), e k hk]
theorem mapsE18_good {data : Int} {l : List (Int × Int × Int)} (h : ∀ j, j < l.length → mapAt18 data none l j = 0) : mapsE18 data none l = 0 := by
  rw [mapsE18_first]
  refine first18_none fun j hj => ?_
  rw [List.length_map, List.length_range] at hj
  simpa [List.getD_eq_getElem?_getD, hj] using h j hj

/-! ### devices -/
def zero18 : Dev18 := ⟨0, 0, 0, 0, []⟩
/-- what is wrong with device k itself, before its mappings; with it and them -/
def devS18 (p : Option Int) (ds : List Dev18) (k : Nat) : Int :=
  if devR18 (ds.getD k zero18) = false then 2 else if ∃ y, (if k = 0 then p else some (ds.getD (k - 1) zero18).id) = some y ∧ (ds.getD k zero18).id ≤ y then 8 else 0
def devAt18 (data : Int) (p : Option Int) (ds : List Dev18) (k : Nat) : Int := if devS18 p ds k ≠ 0 then devS18 p ds k else mapsE18 data none (ds.getD k zero18).maps
theorem devAt18_succ (data : Int) (p : Option Int) (x : Dev18) (r : List Dev18) (k : Nat) : devAt18 data p (x :: r) (k + 1) = devAt18 data (some x.id) r k := by
  unfold devAt18 devS18
  cases k with
  | zero => simp
  | succ k => simp
theorem devsE18_first (data : Int) : ∀ (p : Option Int) (ds : List Dev18), devsE18 data p ds = first18 ((List.range ds.length).map (devAt18 data p ds))
  | p, [] => rfl
  | p, x :: r => by
    have e : (List.range (x :: r).length).map (devAt18 data p (x :: r)) = devAt18 data p (x :: r) 0 :: (List.range r.length).map (devAt18 data (some x.id) r) := by
      rw [List.length_cons, List.range_succ_eq_map, List.map_cons, List.map_map]
      congr 1
      exact List.map_congr_left fun k _ => devAt18_succ data p x r k
    rw [e, devsE18, first18, ← devsE18_first data (some x.id) r]
    have e0 : devS18 p (x :: r) 0 = if devR18 x = false then 2 else if (∃ y, p = some y ∧ x.id ≤ y) then 8 else 0 := by
      simp [devS18]
    have e1 : devAt18 data p (x :: r) 0 = if devS18 p (x :: r) 0 ≠ 0 then devS18 p (x :: r) 0 else mapsE18 data none x.maps := by
      simp [devAt18]
    rw [e1, e0]
    by_cases h1 : devR18 x = false
    · simp [h1]
    · by_cases h2 : ∃ y, p = some y ∧ x.id ≤ y
      · simp only [if_neg h1, if_pos h2]
        simp
      · by_cases h3 : mapsE18 data none x.maps = 0
        · simp only [if_neg h1, if_neg h2]
          simp [h3]
        · simp only [if_neg h1, if_neg h2]
          simp [h3]
theorem devsE18_bad {data : Int} {ds : List Dev18} {k : Nat} (hk : k < ds.length) (h : ∀ j, j < k → devAt18 data none ds j = 0) (hb : devAt18 data none ds k ≠ 0) : devsE18 data none ds = devAt18 data none ds k := by
  have e : ∀ j, j < ds.length → ((List.range ds.length).map (devAt18 data none ds)).getD j 0 = devAt18 data none ds j := fun j hj => by simp [List.getD_eq_getElem?_getD, hj]
  rw [devsE18_first, first18_at (k := k) (fun j hj => by rw [e j (by omega)]; exact h j hj) (by rw [e k hk]; exact hb), e k hk]
theorem devsE18_good {data : Int} {ds : List Dev18} (h : ∀ j, j < ds.length → devAt18 data none ds j = 0) : devsE18 data none ds = 0 := by
  rw [devsE18_first]
  refine first18_none fun j hj => ?_
  rw [List.length_map, List.length_range] at hj
  simpa [List.getD_eq_getElem?_getD, hj] using h j hj
theorem chkE18_head {p : Pol18} (h : headR18 p = false) : chkE18 p = 2 := if_pos h
theorem chkE18_many {p : Pol18} (h : headR18 p = true) (h2 : 4096 < p.devs.length ∨ 16384 < cnt18 p.devs) : chkE18 p = 2 := by rw [chkE18, if_neg (by rw [h]; decide), if_pos h2]
theorem chkE18_devs {p : Pol18} (h : headR18 p = true) (h2 : ¬ (4096 < p.devs.length ∨ 16384 < cnt18 p.devs)) : chkE18 p = devsE18 p.data none p.devs := by rw [chkE18, if_neg (by rw [h]; decide), if_neg h2]

/-! ### the counts of the first devices, of the first mappings of the next -/
theorem cnt18_take {ds : List Dev18} {k : Nat} (h : k < ds.length) : cnt18 (ds.take (k + 1)) = cnt18 (ds.take k) + (ds.getD k zero18).maps.length := by
  rw [List.take_succ_eq_append_getElem h, cnt18_append]
  simp [cnt18, List.getD_eq_getElem?_getD, h]
theorem cnt18_le {ds : List Dev18} (k : Nat) : cnt18 (ds.take k) ≤ cnt18 ds := by
  have e := List.take_append_drop k ds
  have h : cnt18 ds = cnt18 (ds.take k) + cnt18 (ds.drop k) := by rw [← cnt18_append, e]
  omega
/-- data blocks of the first devices, and of the first mappings of the next -/
def some18 (ds : List Dev18) (i k : Nat) : List Int := blks18 (ds.take i) ++ ((ds.getD i zero18).maps.take k).map fun x => x.2.1
theorem some18_zero (ds : List Dev18) : some18 ds 0 0 = [] := by simp [some18, blks18]
theorem getD18 {α : Type} {l : List α} {k : Nat} (h : k < l.length) (d : α) : l.getD k d = l[k] := by simp [List.getD_eq_getElem?_getD, h]
theorem blks18_snoc (a : List Dev18) (d : Dev18) : blks18 (a ++ [d]) = blks18 a ++ d.maps.map fun x => x.2.1 := by
  unfold blks18
  rw [List.flatMap_append, List.flatMap_singleton]
theorem some18_map {ds : List Dev18} {i k : Nat} (h : k < (ds.getD i zero18).maps.length) : some18 ds i (k + 1) = some18 ds i k ++ [((ds.getD i zero18).maps.getD k (0, 0, 0)).2.1] := by
  unfold some18
  generalize blks18 (ds.take i) = a
  generalize (ds.getD i zero18).maps = ms at *
  rw [List.take_succ_eq_append_getElem h, List.map_append, ← List.append_assoc, getD18 h]
  rfl
theorem some18_next {ds : List Dev18} {i : Nat} (h : i < ds.length) : some18 ds (i + 1) 0 = some18 ds i (ds.getD i zero18).maps.length := by
  unfold some18
  rw [List.take_succ_eq_append_getElem h, blks18_snoc, getD18 h, List.take_length, List.take_zero, List.map_nil, List.append_nil]
theorem some18_all (ds : List Dev18) : some18 ds ds.length 0 = blks18 ds := by simp [some18]
/-! ### what Find answers; what is the same -/
end Go.Proofs.Ytcmehjjaologpaa

/-
  Layer 20's mathematics: how many blocks a pool needs.
-/
namespace Go.Proofs.Ytcmehjjaologpaa
open Go.RowKit
set_option linter.unusedVariables false
set_option linter.unusedSimpArgs false

/-! ### blocks of counts; the smallest number with room -/
/-- how many blocks of counts hold n counts -/
def bms20 (n : Int) : Int := if n < 1 then 0 else (n + 959) / 960
theorem bms20_nonneg (n : Int) : 0 ≤ bms20 n := by unfold bms20; split <;> omega
theorem bms20_mono {a b : Int} (h : a ≤ b) : bms20 a ≤ bms20 b := by unfold bms20; split <;> split <;> omega
theorem bms20_back {n : Int} (h : 1 ≤ n) : bms20 n = (n - 1) / 960 + 1 := by unfold bms20; split <;> omega
theorem bms20_few {n : Int} (h : n ≤ 65536) : bms20 n ≤ 69 := by unfold bms20; split <;> omega
/-- the smallest number of blocks with room for base, for two more, and for its own counts -/
def need20 (base : Int) : Int := base + 2 + (base + 960) / 959
theorem need20_room {base : Int} (h : 0 ≤ base) : base + 2 + bms20 (need20 base) = need20 base := by
  unfold need20 bms20
  split <;> omega
theorem need20_less {base n : Int} (h : 0 ≤ base) (hn : n < need20 base) : n < base + 2 + bms20 n := by
  unfold need20 at hn
  unfold bms20
  split <;> omega
/-- from a number that is not too many, so many as it asks for are not too many -/
theorem need20_under {base n : Int} (h : 0 ≤ base) (hn : n ≤ need20 base) : base + 2 + bms20 n ≤ need20 base := by
  have := bms20_mono hn
  have := need20_room h
  omega
theorem need20_mono {a b : Int} (h : a ≤ b) : need20 a ≤ need20 b := by unfold need20; omega
theorem need20_more {base : Int} (h : 0 ≤ base) : base + 2 < need20 base := by unfold need20; omega
theorem need20_max {base : Int} (h : 0 ≤ base) (h2 : base ≤ 14382) : need20 base ≤ 14400 := by unfold need20; omega

/-! ### nodes of a tree -/
def nod20 (m n : Nat) : Int := (levL15 m n).sum
theorem nod20_eq {m n : Nat} (hm : 1 ≤ m) (hn : n ≤ 32768) : nod20 m n = (lev15 n m).sum := by
  rw [nod20, levL15_some (by simp [some15]; omega)]
  rfl
theorem nod20_pos {m n : Nat} (hm : 1 ≤ m) (hn : n ≤ 32768) : 1 ≤ nod20 m n := by
  rw [nod20_eq hm hn]
  exact (lev15_sum n m).1
theorem nod20_nonneg (m n : Nat) : 0 ≤ nod20 m n := by
  have := take15_sum (levL15 m n) 0 (levL15_pos m n)
  unfold nod20
  simp only [List.take_zero, List.sum_nil] at this
  omega
theorem nod20_le {m n : Nat} (hm : 1 ≤ m) (hn : n ≤ 32768) : nod20 m n ≤ 2 * (((max n 1 - 1) / m : Nat) : Int) + 1 := by
  rw [nod20_eq hm hn, lev15, List.sum_cons]
  have h := fil15_pos n m
  have := up15_sum _ _ (Nat.le_refl (fil15 n m)) h
  have e : fil15 n m = (max n 1 - 1) / m + 1 := rfl
  omega
theorem nod20_mono {m n k : Nat} (hm : 1 ≤ m) (hk : k ≤ 32768) (h : n ≤ k) : nod20 m n ≤ nod20 m k := by
  rw [nod20_eq hm hk, nod20_eq hm (by omega)]
  exact lev15_mono h

/-! ### blocks that are mapped often -/
def often20 (n : Nat) (bs : List Int) : Nat := (List.range n).countP fun (i : Nat) => decide (3 ≤ bs.count (i : Int))
theorem often20_refs (n : Nat) (bs : List Int) : often20 n bs = (refs18 n bs).countP fun c => decide (3 ≤ c) := by
  rw [refs18, List.countP_map, often20]
  refine List.countP_congr fun i _ => ?_
  simp only [Function.comp, decide_eq_true_eq]
  omega
theorem often20_sum : ∀ l : List Int, (∀ x ∈ l, (0 : Int) ≤ x) → 3 * ((l.countP fun c => decide (3 ≤ c) : Nat) : Int) ≤ l.sum
  | [], _ => by simp
  | x :: r, h => by
    have h1 := h x (List.mem_cons_self ..)
    have := often20_sum r fun y hy => h y (List.mem_cons_of_mem _ hy)
    rw [List.countP_cons, List.sum_cons]
    by_cases hx : (3 : Int) ≤ x
    · simp only [hx, decide_true, if_true]; push_cast; omega
    · simp only [hx, decide_false]
      simp only [Bool.false_eq_true, if_false, Nat.add_zero]
      omega
theorem often20_few {n : Nat} {bs : List Int} (h : ∀ b ∈ bs, 0 ≤ b ∧ b < (n : Int)) : 3 * often20 n bs ≤ bs.length := by
  have h1 := often20_sum (refs18 n bs) fun x hx => by
    obtain ⟨i, _, rfl⟩ := List.mem_map.1 hx
    omega
  rw [refs18_sum n bs h, ← often20_refs] at h1
  omega
theorem often20_mono {n : Nat} {a b : List Int} (h : ∀ x, a.count x ≤ b.count x) : often20 n a ≤ often20 n b := by
  refine List.countP_mono_left fun i _ hi => ?_
  have := h (i : Int)
  simp only [decide_eq_true_eq] at hi ⊢
  omega
theorem countP20_take {l : List Int} {k : Nat} (p : Int → Bool) (h : k < l.length) : (l.take (k + 1)).countP p = (l.take k).countP p + if p (l.getD k 0) = true then 1 else 0 := by
  rw [List.take_succ_eq_append_getElem h, List.countP_append, List.countP_singleton]
  simp [List.getD_eq_getElem?_getD, h]

/-! ### a pool's blocks -/
def trees20 (ds : List Dev18) : Int := (ds.map fun d => nod20 12 d.maps.length).sum
theorem trees20_snoc (a : List Dev18) (d : Dev18) : trees20 (a ++ [d]) = trees20 a + nod20 12 d.maps.length := by simp [trees20]
theorem trees20_nonneg : ∀ ds : List Dev18, 0 ≤ trees20 ds
  | [] => by simp [trees20]
  | d :: r => by
    have := trees20_nonneg r
    have := nod20_nonneg 12 d.maps.length
    simp only [trees20, List.map_cons, List.sum_cons] at *
    omega
theorem cnt18_cons (d : Dev18) (r : List Dev18) : cnt18 (d :: r) = d.maps.length + cnt18 r := by simp [cnt18]
theorem trees20_le : ∀ ds : List Dev18, cnt18 ds ≤ 32768 → 6 * trees20 ds ≤ 6 * (ds.length : Int) + (cnt18 ds : Int)
  | [], _ => by simp [trees20, cnt18]
  | d :: r, h => by
    rw [cnt18_cons] at h ⊢
    have h1 := trees20_le r (by omega)
    have h2 := nod20_le (m := 12) (n := d.maps.length) (by omega) (by omega)
    simp only [trees20, List.map_cons, List.sum_cons, List.length_cons] at *
    push_cast
    omega
/-- what Base adds up for a pool that may be -/
def sum20 (p : Pol18) : Int := 1 + nod20 6 p.devs.length + nod20 18 p.devs.length + trees20 p.devs + nod20 9 (bms20 p.data).toNat + nod20 18 (often20 p.data.toNat (blks18 p.devs)) + bms20 p.data
def base20 (p : Pol18) : Int := if chkE18 p ≠ 0 then 0 else sum20 p
def needL20 (p : Pol18) : Int := if chkE18 p ≠ 0 then 0 else need20 (sum20 p)
theorem chk20_parts {p : Pol18} (h : chkE18 p = 0) : headR18 p = true ∧ p.devs.length ≤ 4096 ∧ cnt18 p.devs ≤ 16384 ∧ devsE18 p.data none p.devs = 0 := by
  unfold chkE18 at h
  split at h
  · cases h
  · rename_i h1
    split at h
    · cases h
    · rename_i h2
      exact ⟨by simpa using h1, by omega, by omega, h⟩
theorem chk20_data {p : Pol18} (h : chkE18 p = 0) : 0 ≤ p.data ∧ p.data ≤ 65536 := by
  have h1 := (chk20_parts h).1
  simp only [headR18, Bool.and_eq_true, in18_yes] at h1
  omega
theorem chk20_often {p : Pol18} (h : chkE18 p = 0) : 3 * often20 p.data.toNat (blks18 p.devs) ≤ cnt18 p.devs := by
  have h1 := blks18_in h
  have h2 := chk20_data h
  rw [← blks18_length]
  exact often20_few fun b hb => by have := h1 b hb; omega
theorem sum20_bounds {p : Pol18} (h : chkE18 p = 0) : 5 ≤ sum20 p ∧ sum20 p ≤ 14382 := by
  obtain ⟨_, h1, h2, _⟩ := chk20_parts h
  have h3 := chk20_data h
  have h4 := chk20_often h
  have b1 := nod20_pos (m := 6) (n := p.devs.length) (by omega) (by omega)
  have b2 := nod20_pos (m := 18) (n := p.devs.length) (by omega) (by omega)
  have b3 := trees20_nonneg p.devs
  have b4 := bms20_nonneg p.data
  have b5 := bms20_few h3.2
  have b6 := nod20_pos (m := 9) (n := (bms20 p.data).toNat) (by omega) (by omega)
  have b7 := nod20_pos (m := 18) (n := often20 p.data.toNat (blks18 p.devs)) (by omega) (by omega)
  have c1 := nod20_le (m := 6) (n := p.devs.length) (by omega) (by omega)
  have c2 := nod20_le (m := 18) (n := p.devs.length) (by omega) (by omega)
  have c3 := trees20_le p.devs (by omega)
  have c6 := nod20_le (m := 9) (n := (bms20 p.data).toNat) (by omega) (by omega)
  have c7 := nod20_le (m := 18) (n := often20 p.data.toNat (blks18 p.devs)) (by omega) (by omega)
  unfold sum20
  generalize often20 p.data.toNat (blks18 p.devs) = o at *
  omega
theorem base20_bad {p : Pol18} (h : chkE18 p ≠ 0) : base20 p = 0 ∧ needL20 p = 0 := ⟨if_pos h, if_pos h⟩
theorem base20_good {p : Pol18} (h : chkE18 p = 0) : base20 p = sum20 p ∧ needL20 p = need20 (sum20 p) := ⟨if_neg (by rw [h]; decide), if_neg (by rw [h]; decide)⟩

/-! ### a mapping more, behind all others of a device -/
/-- the virtual block of the last mapping, else p -/
def last20 (p : Option Int) : List (Int × Int × Int) → Option Int
  | [] => p
  | x :: r => last20 (some x.1) r
theorem mapsE20_snoc {data : Int} : ∀ {p : Option Int} {l : List (Int × Int × Int)} {x : Int × Int × Int}, mapsE18 data p l = 0 → mapR18 data x = true → (∀ y, last20 p l = some y → y < x.1) → mapsE18 data p (l ++ [x]) = 0
  | p, [], x, _, hr, hl => by
    rw [List.nil_append, mapsE18, if_neg (by rw [hr]; decide), if_neg, mapsE18]
    rintro ⟨y, h1, h2⟩
    have := hl y h1
    omega
  | p, z :: r, x, h, hr, hl => by
    rw [mapsE18] at h
    split at h
    · cases h
    · rename_i h1
      split at h
      · cases h
      · rename_i h2
        rw [List.cons_append, mapsE18, if_neg h1, if_neg h2]
        exact mapsE20_snoc h hr hl
theorem last20_is : ∀ (p : Option Int) (l : List (Int × Int × Int)), 0 < l.length → last20 p l = some (l.getD (l.length - 1) (0, 0, 0)).1
  | p, [], h => by simp at h
  | p, [x], _ => rfl
  | p, x :: y :: r, _ => by
    rw [last20, last20_is (some x.1) (y :: r) (by simp)]
    simp
theorem devsE20_set {data : Int} {d : Dev18} : ∀ {p : Option Int} {ds : List Dev18} {i : Nat}, devsE18 data p ds = 0 → i < ds.length → d.id = (ds.getD i default).id → devR18 d = true → mapsE18 data none d.maps = 0 → devsE18 data p (ds.set i d) = 0
  | p, [], i, _, hi, _, _, _ => by simp at hi
  | p, x :: r, 0, h, _, e, hd, hm => by
    rw [devsE18] at h
    split at h
    · cases h
    · rename_i h1
      split at h
      · cases h
      · rename_i h2
        split at h
        · rename_i h3; exact absurd h h3
        · have e : d.id = x.id := by simpa using e
          rw [List.set_cons_zero, devsE18, if_neg (by rw [hd]; decide), e, if_neg h2, hm, if_neg (by decide)]
          exact h
  | p, x :: r, i + 1, h, hi, e, hd, hm => by
    rw [devsE18] at h
    split at h
    · cases h
    · rename_i h1
      split at h
      · cases h
      · rename_i h2
        split at h
        · rename_i h3; exact absurd h h3
        · rename_i h3
          rw [List.set_cons_succ, devsE18, if_neg h1, if_neg h2, if_neg h3]
          exact devsE20_set h (by simpa using hi) (by simpa using e) hd hm
theorem cnt20_set : ∀ {ds : List Dev18} {i : Nat} {d : Dev18} {x : Int × Int × Int}, i < ds.length → d.maps = (ds.getD i default).maps ++ [x] → cnt18 (ds.set i d) = cnt18 ds + 1
  | [], i, d, x, h, _ => by simp at h
  | y :: r, 0, d, x, _, e => by
    have e : d.maps = y.maps ++ [x] := by simpa using e
    rw [List.set_cons_zero, cnt18_cons, cnt18_cons, e, List.length_append]
    simp only [List.length_cons, List.length_nil]
    omega
  | y :: r, i + 1, d, x, h, e => by
    rw [List.set_cons_succ, cnt18_cons, cnt18_cons, cnt20_set (x := x) (by simpa using h) (by simpa using e)]
    omega
theorem blks20_cons (d : Dev18) (r : List Dev18) : blks18 (d :: r) = (d.maps.map fun x => x.2.1) ++ blks18 r := by simp [blks18]
theorem blks20_set : ∀ {ds : List Dev18} {i : Nat} {d : Dev18} {x : Int × Int × Int} (b : Int), i < ds.length → d.maps = (ds.getD i default).maps ++ [x] → (blks18 ds).count b ≤ (blks18 (ds.set i d)).count b
  | [], i, d, x, b, h, _ => by simp at h
  | y :: r, 0, d, x, b, _, e => by
    have e : d.maps = y.maps ++ [x] := by simpa using e
    rw [List.set_cons_zero, blks20_cons, blks20_cons, e, List.map_append, List.count_append, List.count_append, List.count_append]
    omega
  | y :: r, i + 1, d, x, b, h, e => by
    have := blks20_set (x := x) (d := d) (ds := r) (i := i) b (by simpa using h) (by simpa using e)
    rw [List.set_cons_succ, blks20_cons, blks20_cons, List.count_append, List.count_append]
    omega
theorem trees20_set : ∀ {ds : List Dev18} {i : Nat} {d : Dev18} {x : Int × Int × Int}, i < ds.length → d.maps = (ds.getD i default).maps ++ [x] → cnt18 ds ≤ 16384 → trees20 ds ≤ trees20 (ds.set i d)
  | [], i, d, x, h, _, _ => by simp at h
  | y :: r, 0, d, x, _, e, hc => by
    have e : d.maps = y.maps ++ [x] := by simpa using e
    rw [cnt18_cons] at hc
    have := nod20_mono (m := 12) (n := y.maps.length) (k := d.maps.length) (by omega) (by rw [e, List.length_append]; simp only [List.length_cons, List.length_nil]; omega) (by rw [e, List.length_append]; omega)
    rw [List.set_cons_zero]
    simp only [trees20, List.map_cons, List.sum_cons]
    omega
  | y :: r, i + 1, d, x, h, e, hc => by
    rw [cnt18_cons] at hc
    have := trees20_set (x := x) (d := d) (ds := r) (i := i) (by simpa using h) (by simpa using e) (by omega)
    rw [List.set_cons_succ]
    simp only [trees20, List.map_cons, List.sum_cons] at *
    omega
/-- the pool with a mapping more -/
def more20 (p : Pol18) (i : Nat) (d : Dev18) : Pol18 := { p with devs := p.devs.set i d }
theorem more20_chk {p : Pol18} {i : Nat} {d : Dev18} {x : Int × Int × Int} (h : chkE18 p = 0) (hi : i < p.devs.length) (hc : cnt18 p.devs < 16384)
    (e1 : d.id = (p.devs.getD i default).id) (e2 : d.tx = (p.devs.getD i default).tx) (e3 : d.made = (p.devs.getD i default).made) (e4 : d.snap = (p.devs.getD i default).snap)
    (e5 : d.maps = (p.devs.getD i default).maps ++ [x]) (hx : mapR18 p.data x = true) (hl : ∀ y, last20 none (p.devs.getD i default).maps = some y → y < x.1) : chkE18 (more20 p i d) = 0 := by
  obtain ⟨h1, h2, _, h3⟩ := chk20_parts h
  have hm : p.devs.getD i default ∈ p.devs := by
    rw [List.getD_eq_getElem?_getD, List.getElem?_eq_getElem hi]
    exact List.getElem_mem hi
  obtain ⟨h4, h5⟩ := devsE18_range h3 _ hm
  have hd : devR18 d = true := by
    unfold devR18 at h4 ⊢
    rw [e1, e2, e3, e4]
    exact h4
  have hc2 := cnt20_set (x := x) hi e5
  have hq : headR18 (more20 p i d) = true := h1
  have := devsE20_set h3 hi e1 hd (by rw [e5]; exact mapsE20_snoc h5 hx hl)
  rw [chkE18, if_neg (by rw [hq]; decide), if_neg (by simp only [more20, List.length_set]; omega)]
  exact this
theorem more20_grows {p : Pol18} {i : Nat} {d : Dev18} {x : Int × Int × Int} (h : chkE18 p = 0) (hq : chkE18 (more20 p i d) = 0) (hi : i < p.devs.length) (e : d.maps = (p.devs.getD i default).maps ++ [x]) : sum20 p ≤ sum20 (more20 p i d) := by
  obtain ⟨_, h1, h2, _⟩ := chk20_parts h
  have h4 := chk20_often hq
  have h5 := (chk20_parts hq).2.2.1
  have a := trees20_set hi e h2
  have b := nod20_mono (m := 18) (n := often20 p.data.toNat (blks18 p.devs)) (k := often20 (more20 p i d).data.toNat (blks18 (more20 p i d).devs)) (by omega) (by omega) (often20_mono fun y => blks20_set y hi e)
  have hl : (more20 p i d).devs.length = p.devs.length := by simp [more20]
  have hd : (more20 p i d).data = p.data := rfl
  have hs : (more20 p i d).devs = p.devs.set i d := rfl
  unfold sum20
  simp only [more20, List.length_set] at *
  omega
end Go.Proofs.Ytcmehjjaologpaa
