/-
  Joined: WlkW, WlkY.
-/
import Derived.Test.YtfcehhhcjlpklaaGreatDoorJWlkA37
import Derived.Test.YtfcehhhcjlpklaaGreatDoorJWlkA34
import Derived.Deep.RegionHeld3
import Derived.Test.YtfcehhhcjlpklaaGreatDoorJWlkA32
import Derived.Test.YtfcehhhcjlpklaaGreatDoorJWlkA26
import Derived.Test.YtfcehhhcjlpklaaGreatDoorJWlkA11
/-
  Layer 14, the reference: where the loop of Scan stands, and its body; what each part of it changes.
-/
namespace Go.Proofs.YtfcehhhcjlpklaaGreatDoor
open Go.RowKit
set_option linter.unusedVariables false
set_option linter.unusedSimpArgs false

abbrev wkZ14 : Obj := .cells #[.slice none 0 0, .slice none 0 0, .int .i64 0, .int .i64 0, .slice none 0 0] 35
theorem info_bad14 : (Tryz.prog.info? 45).map (fun i => (i.zero, i.size, i.bytes)) = some (some (.agg #[.slice none 0 0, .int .i64 0]), 2, 32) := by kernel_rfl
theorem info_vis14 : (Tryz.prog.info? 70).map (fun i => (i.zero, i.size, i.bytes)) = some (some (.agg #[.int .i64 0, .int .i64 0, .int .i64 0, .slice none 0 0, .int .i64 0]), 5, 56) := by kernel_rfl
def slN14 : Value → Nat
  | .slice _ n _ => n
  | _ => 0

/-- between two rounds -/
structure Lp14 (w wr : World) (fuel : Int) (s : Rows14) (W : Wlk14) (A : Option Addr) (n c : Nat) (xs : List VisR) (vs : List Vis14) : Prop where
  bel : Below w.heap.size w wr
  res : wr.heap[w.heap.size]? = some wkZ14
  rs : RS14 wr (w.heap.size + 1) s W
  ws : Vss14 wr s (w.heap.size + 1) A n c xs vs
  ft : Ft14 fuel W n

/-- inside a round: the visit stands in a variable at q -/
structure Bd14 (w U : World) (s : Rows14) (W : Wlk14) (A : Option Addr) (n c : Nat) (xs : List VisR) (vs : List Vis14) (q : Nat) (wy : Slc) (v : Vis14) : Prop where
  bel : Below w.heap.size w U
  res : U.heap[w.heap.size]? = some wkZ14
  rs : RS14 U (w.heap.size + 1) s W
  ws : Vss14 U s (w.heap.size + 1) A n c xs vs
  vis : VisAt U q v.no v.lo v.hi (.slice wy.A wy.n wy.c) v.flt
  way : Rd14 U s (w.heap.size + 1) wy v.way
  few : v.way.length ≤ 16
  far : ¬ s.mine (w.heap.size + 1) q
  qlt : w.heap.size + 1 < q
section
variable {w U U' : World} {fuel : Int} {s s' : Rows14} {W W' : Wlk14} {A : Option Addr} {n c : Nat} {xs : List VisR} {vs : List Vis14} {q : Nat} {wy : Slc} {v : Vis14}
theorem Bd14.mov (h : Bd14 w U s W A n c xs vs q wy v) (hm : Mov14 (w.heap.size + 1) s U s' U') (hr : RS14 U' (w.heap.size + 1) s' W') : Bd14 w U' s' W' A n c xs vs q wy v := by
  have hb := Mov14.belowR h.rs hm
  have hq := block_lt h.vis
  exact ⟨h.bel.trans (hb.mono (by omega)), (hb.block _ (by omega)).trans h.res, hr, h.ws.mov hm, (hm.block hq h.far).1.trans h.vis, h.way.mov hm, h.few, (hm.block hq h.far).2, h.qlt⟩
theorem Bd14.later (h : Bd14 w U s W A n c xs vs q wy v) (hb : Below U.heap.size U U') : Bd14 w U' s W A n c xs vs q wy v := h.mov (Mov14.of_below s hb) (h.rs.later hb)
theorem Bd14.loop (h : Bd14 w U s W A n c xs vs q wy v) (hf : Ft14 fuel W n) : Lp14 w U fuel s W A n c xs vs := ⟨h.bel, h.res, h.rs, h.ws, hf⟩
theorem Bd14.far_of (h : Bd14 w U s W A n c xs vs q wy v) {B : Option Addr} (hB : Newer U.heap.size B) : Far14 s (w.heap.size + 1) B := Far14.of_newer hB fun k hk => (h.rs.mine_lt k hk).2

/-- a round begins -/
theorem Lp14.open_ {m : Nat} (h : Lp14 w U fuel s W A (m + 1) c xs (v :: vs)) : ∃ ys q0 o A2 c2 wy, A = some ⟨q0, o, none⟩ ∧ c = c2 + 1 ∧ m ≤ c2 ∧ c2 ≤ 9223372036854775806 ∧
    (U.cell? ⟨q0, o, none⟩ = some (.int .i64 v.no) ∧ U.cell? ⟨q0, o + 1, none⟩ = some (.int .i64 v.lo) ∧ U.cell? ⟨q0, o + 2, none⟩ = some (.int .i64 v.hi) ∧ U.cell? ⟨q0, o + 3, none⟩ = some (.slice wy.A wy.n wy.c) ∧ U.cell? ⟨q0, o + 4, none⟩ = some (.int .i64 v.flt)) ∧
    (∀ V, (Instr.slice 71 (.slice A (m + 1) (c2 + 1)) (some (.int .i64 1)) none none).run Tryz.prog V = .ok (.slice A2 m c2) V) ∧
    Bd14 w (U.alloc (.cells #[.int .i64 v.no, .int .i64 v.lo, .int .i64 v.hi, .slice wy.A wy.n wy.c, .int .i64 v.flt] 70)) s W A2 m c2 ys vs U.heap.size wy v := by
  obtain ⟨x, ys, q0, o, rfl, hv, rfl, hc, hr⟩ := h.ws.head
  obtain ⟨xn, xl, xh, wy, xf⟩ := x
  obtain ⟨e1, e2, e3, e4, hw, hfew⟩ := hv
  simp only at e1 e2 e3 e4 hw hc
  subst e1 e2 e3 e4
  have hcap := h.ws.cap
  have hmost := h.ws.most
  obtain ⟨c2, rfl⟩ : ∃ c2, c = c2 + 1 := ⟨c - 1, by omega⟩
  have hb : Below U.heap.size U (U.alloc (.cells #[.int .i64 v.no, .int .i64 v.lo, .int .i64 v.hi, .slice wy.A wy.n wy.c, .int .i64 v.flt] 70)) := (Below.refl _ _).alloc (Nat.le_refl _) _
  have hlt := h.rs.lt
  refine ⟨ys, q0, o, if c2 + 1 = 1 then some ⟨q0, o, none⟩ else some ⟨q0, o + 5, none⟩, c2, wy, rfl, rfl, by omega, by omega, hc, fun V => ?_, ?_⟩
  · have hu : Tryz.prog.underlying 71 = some (.slice 70) := Tryz.underlying71
    have he : Tryz.prog.elem 71 = 70 := by kernel_rfl
    have hs : (sizeOf 70).run Tryz.prog V = .ok 5 V := by
      obtain ⟨i0, hi0, _, hz1, _⟩ := info_parts info_vis14
      simp [sizeOf, typeInfo, hi0, hz1]
    rw [run_slice_l (P := Tryz.prog) (w := V) (t := 71) (a := some ⟨q0, o, none⟩) (len := m + 1) (cap := c2 + 1) (ht := by rw [he]; exact hu) (kl := .i64) (l := 1) (h0 := by omega) (h1 := by omega), he, hs]
    simp only [Result.andThen, sliced, Int.toNat_one]
    congr 1
  · refine ⟨h.bel.trans (hb.mono (by omega)), (hb.block _ (by omega)).trans h.res, h.rs.later hb, ?_, heap_alloc_new U _, hw.below hb, hfew, fun hm => ?_, hlt⟩
    · have := hr c2 (by omega)
      exact this.mov (Mov14.of_below s hb)
    · have := (h.rs.mine_lt _ hm).2; omega
theorem Rd14.lies_of {l : List Int} {A1 : Option Addr} {n1 c1 : Nat} (h1 : Ints U A1 n1 c1 l) (hl : 0 < l.length) : Lies14 U A1 := fun ad e => by
  obtain ⟨bb, off, e2, hb, _⟩ := h1.row.lit (by rw [i64s_length]; exact hl)
  rw [e] at e2
  cases e2
  exact hb
/-- an error of one block: At -/
theorem Bd14.at_ {no x : Int} (hx : x ≠ 0) (h : Bd14 w U s W A n c xs vs q wy v) : Calls Tryz.prog 23 #[.int .i64 no, .int .i64 x] U fun e w' => ∃ A1 c1, e = .returned (.agg #[.slice A1 1 c1, .int .i64 x]) ∧ Hid (Rd14 w' s (w.heap.size + 1) ⟨A1, 1, c1⟩ [no]) ∧ Bd14 w w' s W A n c xs vs q wy v ∧ Below U.heap.size U w' := by
  refine (ref11At_any no x U).mono ?_
  rintro e w' ⟨A1, n1, c1, rfl, h1, h2, h3⟩
  rw [atL, if_neg hx] at h1
  obtain rfl : 1 = n1 := h1.len
  exact ⟨A1, c1, rfl, ⟨h1, h.far_of h2, Rd14.lies_of h1 (by simp), h2.mono (Nat.le_of_lt h.rs.lt)⟩, h.later h3, h3⟩
/-- an error with the blocks above it: wrap -/
theorem Bd14.wrap_ {x : Int} {A1 : Option Addr} {n1 c1 : Nat} {l : List Int} (hx : x ≠ 0) (hl : 0 < l.length ∧ l.length ≤ 100) (h : Bd14 w U s W A n c xs vs q wy v) (h1 : Rd14 U s (w.heap.size + 1) ⟨A1, n1, c1⟩ l) : Calls Tryz.prog 22 #[.slice wy.A wy.n wy.c, .agg #[.slice A1 n1 c1, .int .i64 x]] U fun e w' => ∃ A3 n3 c3, e = .returned (.agg #[.slice A3 n3 c3, .int .i64 x]) ∧ Hid (Rd14 w' s (w.heap.size + 1) ⟨A3, n3, c3⟩ (v.way ++ l)) ∧ Bd14 w w' s W A n c xs vs q wy v ∧ Below U.heap.size U w' := by
  have e1 := h.way.ints.len
  have e2 := h1.ints.len
  have hfew := h.few
  simp only at e2
  refine (refWrap_any14 (A2 := A1) (n2 := n1) (c2 := c1) hx U h.way.ints h1.ints h1.lies (by omega)).mono ?_
  rintro e w' ⟨A3, c3, rfl, h2, h3, h4⟩
  have hlt := h.rs.lt
  refine ⟨A3, _, c3, rfl, ⟨h2, ?_, Rd14.lies_of h2 (by rw [List.length_append]; omega), ?_⟩, h.later h3, h3⟩
  · rcases h4 with rfl | h4
    · exact h1.far
    · exact h.far_of (h4.mono (by omega))
  · rcases h4 with rfl | h4
    · exact h1.new
    · exact h4.mono (by omega)
/-- a visit whose node is wrong: a fault more -/
theorem Bd14.addFlt {w1 : World} {g cap : Nat} {f : Slc} {x : Int} {bs : List Int} (h : Bd14 w U s W A n c xs vs q wy v) {fr : List (Slc × Int)} (hF : Bads14 U s (w.heap.size + 1) fr W.flts) (hf : Rd14 U s (w.heap.size + 1) f bs) (hgrow : U.grownBy w1 s.F.ownBlock) (hat : s.F.ownBlock = some g ∨ g = U.heap.size)
    (hfs : U.ownsRow (w.heap.size + 1 + 1) 45 2 s.F W.flts.length (badC fr))
    (hown : w1.ownsRow (w.heap.size + 1 + 1) 45 2 (.slice (some ⟨g, 0, none⟩) (W.flts.length + 1) cap) (W.flts.length + 1) (badC fr ++ [.slice f.A f.n f.c, .int .i64 x])) :
    ∃ s', Bd14 w (w1.setCell ⟨w.heap.size + 1, 4, none⟩ (.slice (some ⟨g, 0, none⟩) (W.flts.length + 1) cap)) s' ⟨W.ents, W.blks, W.deep, W.looked, W.flts ++ [(bs, x)]⟩ A n c xs vs q wy v := by
  obtain ⟨h1, h2⟩ := h.rs.addFlt hF (x := (bs, x)) hf hgrow hat hfs hown
  exact ⟨_, h.mov h2 h1⟩
/-- before the first round -/
theorem Lp14.start (w : World) (root : Int) (hf : fuel ≤ 300) : Lp14 w (((w.alloc wkZ14).alloc wkZ14).alloc (.cells #[.int .i64 root, .int .i64 0, .int .i64 281474976710656, .slice none 0 0, .int .i64 0] 70)) fuel ⟨.slice none 0 0, .slice none 0 0, .slice none 0 0, .slice none 0 0⟩ Wlk14.zero (some ⟨w.heap.size + 1 + 1, 0, none⟩) 1 1 [⟨root, 0, 281474976710656, ⟨none, 0, 0⟩, 0⟩] [Vis14.root root] := by
  obtain ⟨h1, h2, h3⟩ := two_new w wkZ14 wkZ14
  have hr := RS14.new (w.alloc wkZ14)
  rw [World.size_alloc] at hr
  have hsz : ((w.alloc wkZ14).alloc wkZ14).heap.size = w.heap.size + 1 + 1 := by simp
  have hb : Below (w.heap.size + 1 + 1) ((w.alloc wkZ14).alloc wkZ14) (((w.alloc wkZ14).alloc wkZ14).alloc (.cells #[.int .i64 root, .int .i64 0, .int .i64 281474976710656, .slice none 0 0, .int .i64 0] 70)) := (Below.refl _ _).alloc (by omega) _
  have hb' : Below ((w.alloc wkZ14).alloc wkZ14).heap.size ((w.alloc wkZ14).alloc wkZ14) (((w.alloc wkZ14).alloc wkZ14).alloc (.cells #[.int .i64 root, .int .i64 0, .int .i64 281474976710656, .slice none 0 0, .int .i64 0] 70)) := (Below.refl _ _).alloc (Nat.le_refl _) _
  have hnew := heap_alloc_new ((w.alloc wkZ14).alloc wkZ14) (.cells #[.int .i64 root, .int .i64 0, .int .i64 281474976710656, .slice none 0 0, .int .i64 0] 70)
  rw [hsz] at hnew
  refine ⟨h3.trans (hb.mono (by omega)), (hb.block _ (by omega)).trans h1, hr.later hb', ?_, Ft14.zero hf⟩
  refine ⟨rfl, Nat.le_refl _, by omega, Row.of_block hnew, fun ad e hm => ?_, fun ad e => ?_, ⟨rfl, rfl, rfl, rfl, ⟨Ints.nil _, fun ad e => (by cases e), fun ad e => (by cases e), Newer.nil _⟩, Nat.zero_le _⟩, trivial⟩
  · cases e
    have := (hr.mine_lt _ hm).2
    rw [World.size_alloc, World.size_alloc] at this
    simp only at this
    omega
  · cases e
    rw [World.size_alloc, hsz]
    simp only
    omega
/-- behind an append onto one of its rows, ahead of the store: what the round's variables hold -/
theorem Bd14.grown {w7 : World} (h : Bd14 w U s W A n c xs vs q wy v) {u : Value} (hu : ∀ k, u.ownBlock = some k → s.mine (w.heap.size + 1) k ∧ k ≠ w.heap.size + 1) (hgrow : U.grownBy w7 u.ownBlock) : (∀ j, w7.cell? ⟨w.heap.size + 1, j, none⟩ = U.cell? ⟨w.heap.size + 1, j, none⟩) ∧ (∀ j, w7.cell? ⟨q, j, none⟩ = U.cell? ⟨q, j, none⟩) ∧ (∀ j, w7.frozen? ⟨w.heap.size + 1, j, none⟩ = false) := by
  have h1 : w7.heap[w.heap.size + 1]? = U.heap[w.heap.size + 1]? := hgrow.block _ h.rs.lt (fun e => (hu _ e.symm).2 rfl)
  have h2 : w7.heap[q]? = U.heap[q]? := hgrow.block _ (block_lt h.vis) (fun e => h.far (hu _ e.symm).1)
  exact ⟨fun j => World.cell?_of_block (w := U) h1, fun j => World.cell?_of_block (w := U) h2, fun j => frozen_of_row w7 _ j _ _ (h1.trans h.rs.blk)⟩
theorem Bd14.ownF (h : Bd14 w U s W A n c xs vs q wy v) : ∀ k, s.F.ownBlock = some k → s.mine (w.heap.size + 1) k ∧ k ≠ w.heap.size + 1 := fun k hk => by
  obtain ⟨fr, hfr, _⟩ := h.rs.flts
  have := hfr.lt k hk
  exact ⟨.inr (.inr (.inr (.inl hk))), by omega⟩
theorem Bd14.ownB (h : Bd14 w U s W A n c xs vs q wy v) : ∀ k, s.B.ownBlock = some k → s.mine (w.heap.size + 1) k ∧ k ≠ w.heap.size + 1 := fun k hk => by
  have := h.rs.blks.lt k hk
  exact ⟨.inr (.inr (.inl hk)), by omega⟩
theorem Bd14.ownE (h : Bd14 w U s W A n c xs vs q wy v) : ∀ k, s.E.ownBlock = some k → s.mine (w.heap.size + 1) k ∧ k ≠ w.heap.size + 1 := fun k hk => by
  have := h.rs.ents.lt k hk
  exact ⟨.inr (.inl hk), by omega⟩
end

/-- what the reference's Scan hands back -/
def RSRet (w : World) (R : Wlk14) (e : Ending) (w' : World) : Prop := ∃ AE cE AB cB AF cF fr, e = .returned (wkV R.deep R.looked AE R.ents.length cE AB R.blks.length cB AF R.flts.length cF) ∧ Ens w' AE R.ents.length cE R.ents ∧ Ints w' AB R.blks.length cB R.blks ∧ (fr.length = R.flts.length ∧ R.flts.length ≤ cF ∧ cF ≤ 9223372036854775807 ∧ Row w' AF (badC fr)) ∧ (∀ k (h1 : k < fr.length) (h2 : k < R.flts.length), Ints w' fr[k].1.A fr[k].1.n fr[k].1.c R.flts[k].1 ∧ fr[k].2 = R.flts[k].2) ∧ Below w.heap.size w w' ∧ (Newer w.heap.size AE ∧ Newer w.heap.size AB ∧ Newer w.heap.size AF) ∧ (∀ k (h1 : k < fr.length), Newer w.heap.size fr[k].1.A)

/-- its variable -/
def WrAt (w : World) (b : Nat) (v0 v1 v2 v3 v4 : Value) : Prop := w.heap[b]? = some (.cells #[v0, v1, v2, v3, v4] 35 (0, 0))
def WrC5 (w : World) (b : Nat) (v0 v1 v2 v3 v4 : Value) : Prop := (w.cell? ⟨b, 0, none⟩ = some v0 ∧ w.cell? ⟨b, 1, none⟩ = some v1 ∧ w.cell? ⟨b, 2, none⟩ = some v2 ∧ w.cell? ⟨b, 3, none⟩ = some v3 ∧ w.cell? ⟨b, 4, none⟩ = some v4) ∧ w.frozen? ⟨b, 0, none⟩ = false ∧ w.frozen? ⟨b, 1, none⟩ = false ∧ w.frozen? ⟨b, 2, none⟩ = false ∧ w.frozen? ⟨b, 3, none⟩ = false ∧ w.frozen? ⟨b, 4, none⟩ = false
theorem WrAt.cs {w : World} {b : Nat} {v0 v1 v2 v3 v4 : Value} (h : WrAt w b v0 v1 v2 v3 v4) : WrC5 w b v0 v1 v2 v3 v4 :=
  ⟨⟨by rw [cell_of_row w b 0 _ _ _ h]; rfl, by rw [cell_of_row w b 1 _ _ _ h]; rfl, by rw [cell_of_row w b 2 _ _ _ h]; rfl, by rw [cell_of_row w b 3 _ _ _ h]; rfl, by rw [cell_of_row w b 4 _ _ _ h]; rfl⟩, frozen_of_row w b 0 _ _ h, frozen_of_row w b 1 _ _ h, frozen_of_row w b 2 _ _ h, frozen_of_row w b 3 _ _ h, frozen_of_row w b 4 _ _ h⟩
theorem WrAt.load {w : World} {b : Nat} {AE : Option Addr} {nE cE : Nat} {AB : Option Addr} {nB cB : Nat} {AF : Option Addr} {nF cF : Nat} {deep looked : Int} (h : WrAt w b (.slice AE nE cE) (.slice AB nB cB) (.int .i64 deep) (.int .i64 looked) (.slice AF nF cF)) : (loadVar 35 ⟨b, 0, none⟩).run Tryz.prog w = .ok (wkV deep looked AE nE cE AB nB cB AF nF cF) w := run_loadVar_row w b _ _ _ _ _ h Tryz.underlying35 rfl (by kernel_rfl)
theorem WrAt.set5 {w : World} {b : Nat} {v0 v1 v2 v3 v4 : Value} (h : WrAt w b v0 v1 v2 v3 v4) (a0 a1 a2 a3 a4 : Value) : WrAt (((((w.setCell ⟨b, 0, none⟩ a0).setCell ⟨b, 1, none⟩ a1).setCell ⟨b, 2, none⟩ a2).setCell ⟨b, 3, none⟩ a3).setCell ⟨b, 4, none⟩ a4) b a0 a1 a2 a3 a4 := by
  have h1 : Blk w b 35 [v0, v1, v2, v3, v4] := h
  exact ((((h1.set 0 a0).set 1 a1).set 2 a2).set 3 a3).set 4 a4

/-- it is handed back -/
theorem ret14 {w U : World} {s : Rows14} {W : Wlk14} (hbel : Below w.heap.size w U) (hres : U.heap[w.heap.size]? = some wkZ14) (hrs : RS14 U (w.heap.size + 1) s W) : ∃ AE cE AB cB AF cF,
    WrC5 U (w.heap.size + 1) (.slice AE W.ents.length cE) (.slice AB W.blks.length cB) (.int .i64 W.deep) (.int .i64 W.looked) (.slice AF W.flts.length cF) ∧ WrC5 U w.heap.size (.slice none 0 0) (.slice none 0 0) (.int .i64 0) (.int .i64 0) (.slice none 0 0) ∧
    (∀ U', U' = (((((U.setCell ⟨w.heap.size, 0, none⟩ (.slice AE W.ents.length cE)).setCell ⟨w.heap.size, 1, none⟩ (.slice AB W.blks.length cB)).setCell ⟨w.heap.size, 2, none⟩ (.int .i64 W.deep)).setCell ⟨w.heap.size, 3, none⟩ (.int .i64 W.looked)).setCell ⟨w.heap.size, 4, none⟩ (.slice AF W.flts.length cF)) →
      WrAt U' w.heap.size (.slice AE W.ents.length cE) (.slice AB W.blks.length cB) (.int .i64 W.deep) (.int .i64 W.looked) (.slice AF W.flts.length cF) ∧ RSRet w W (.returned (wkV W.deep W.looked AE W.ents.length cE AB W.blks.length cB AF W.flts.length cF)) U') := by
  obtain ⟨AE, cE, hE, h1⟩ := Ens.of_own hrs.ents
  obtain ⟨AB, cB, hB, h2⟩ := Ints.of_own hrs.blks
  obtain ⟨fr, hf, hF⟩ := hrs.flts
  obtain ⟨AF, cF, hFv, h3, h4⟩ := ownsRow_form hf
  have n1 : Newer (w.heap.size + 1 + 1) AE := by have := hrs.ents; rw [hE] at this; exact Newer.of_own this
  have n2 : Newer (w.heap.size + 1 + 1) AB := by have := hrs.blks; rw [hB] at this; exact Newer.of_own this
  have n3 : Newer (w.heap.size + 1 + 1) AF := by rw [hFv] at hf; exact Newer.of_own hf
  have hrow : Row U AF (badC fr) := by rw [hFv] at hf; exact Row.of_own hf
  have hblk := hrs.blk
  rw [hE, hB, hFv] at hblk
  refine ⟨AE, cE, AB, cB, AF, cF, WrAt.cs hblk, WrAt.cs hres, ?_⟩
  rintro U' rfl
  have hk : ∀ k, k ≠ w.heap.size → _ := five_keep U w.heap.size (.slice AE W.ents.length cE) (.slice AB W.blks.length cB) (.int .i64 W.deep) (.int .i64 W.looked) (.slice AF W.flts.length cF)
  have hw : WrAt U w.heap.size (.slice none 0 0) (.slice none 0 0) (.int .i64 0) (.int .i64 0) (.slice none 0 0) := hres
  refine ⟨hw.set5 _ _ _ _ _, AE, cE, AB, cB, AF, cF, fr, rfl, h1.newer n1 fun k hk2 => hk k (by omega), h2.newer n2 fun k hk2 => hk k (by omega), ⟨hF.length, h3, by simpa [maxLen] using h4, hrow.newer n3 fun k hk2 => hk k (by omega)⟩, fun k g1 g2 => ?_, ?_, ⟨n1.mono (by omega), n2.mono (by omega), n3.mono (by omega)⟩, fun k g1 => ?_⟩
  · obtain ⟨hrd, he⟩ := hF.at_ k g1 g2
    refine ⟨?_, he⟩
    refine ⟨hrd.ints.len, hrd.ints.cap, hrd.ints.most, hrd.ints.row.kept (g := w.heap.size) (fun ad e => ?_) (fun k _ hne => hk k hne)⟩
    have := hrd.new ad e
    omega
  · exact ((((hbel.setCell (p := ⟨w.heap.size, 0, none⟩) (Nat.le_refl _) _).setCell (p := ⟨w.heap.size, 1, none⟩) (Nat.le_refl _) _).setCell (p := ⟨w.heap.size, 2, none⟩) (Nat.le_refl _) _).setCell (p := ⟨w.heap.size, 3, none⟩) (Nat.le_refl _) _).setCell (p := ⟨w.heap.size, 4, none⟩) (Nat.le_refl _) _
  · have hl := hF.length
    exact (hF.at_ k g1 (by omega)).1.new.mono (by omega)

theorem Lies14.of_own {w : World} {base size n m c : Nat} {e : TypeId} {A : Option Addr} {xs : List Value} (h : w.ownsRow base e size (.slice A m c) n xs) : Lies14 w A := fun ad ea => by
  subst ea
  exact (h.lt ad.block rfl).2

/-- behind look: the node and its error in variables of their own, at g and g + 1 -/
structure Nx14 (w U : World) (s : Rows14) (W : Wlk14) (A : Option Addr) (n c : Nat) (xs : List VisR) (vs : List Vis14) (q : Nat) (wy : Slc) (v : Vis14) (g : Nat) (N : Nod) (A5 : Option Addr) (n5 c5 : Nat) (A6 : Option Addr) (n6 c6 : Nat) (f : Slc) (x : Int) : Prop where
  bd : Bd14 w U s W A n c xs vs q wy v
  nod : NodAt U g N.tree N.leaf (.slice A5 n5 c5) (.slice A6 n6 c6)
  err : FltAt U (g + 1) (.slice f.A f.n f.c) (.int .i64 x)
  ndi : NodIn U N A5 n5 c5 A6 n6 c6
  bad : x ≠ 0 → Rd14 U s (w.heap.size + 1) f [v.no]
  f5 : 0 < N.keys.length → Far14 s (w.heap.size + 1) A5
  f6 : 0 < N.vals.length → Far14 s (w.heap.size + 1) A6
  farg : ¬ s.mine (w.heap.size + 1) g
  farh : ¬ s.mine (w.heap.size + 1) (g + 1)
  qlt : q < g
section
variable {w U U' : World} {fuel : Int} {s s' : Rows14} {W W' : Wlk14} {A : Option Addr} {n c : Nat} {xs : List VisR} {vs : List Vis14} {q : Nat} {wy : Slc} {v : Vis14} {g : Nat} {N : Nod} {A5 : Option Addr} {n5 c5 : Nat} {A6 : Option Addr} {n6 c6 : Nat} {f : Slc} {x : Int}
theorem Nx14.lies5 (h : Nx14 w U s W A n c xs vs q wy v g N A5 n5 c5 A6 n6 c6 f x) (hk : 0 < N.keys.length) : Lies14 U A5 := fun ad e => by
  obtain ⟨bb, off, e2, hb, _⟩ := h.ndi.keys.row.lit (by rw [i64s_length]; exact hk)
  rw [e] at e2
  cases e2
  exact hb
theorem Nx14.lies6 (h : Nx14 w U s W A n c xs vs q wy v g N A5 n5 c5 A6 n6 c6 f x) (hk : 0 < N.vals.length) : Lies14 U A6 := fun ad e => by
  obtain ⟨bb, off, e2, hb, _⟩ := h.ndi.vals.row.lit (by rw [strV_length]; exact hk)
  rw [e] at e2
  cases e2
  exact hb
theorem Nx14.mov (h : Nx14 w U s W A n c xs vs q wy v g N A5 n5 c5 A6 n6 c6 f x) (hm : Mov14 (w.heap.size + 1) s U s' U') (hr : RS14 U' (w.heap.size + 1) s' W') : Nx14 w U' s' W' A n c xs vs q wy v g N A5 n5 c5 A6 n6 c6 f x :=
  ⟨h.bd.mov hm hr, (hm.block (block_lt h.nod) h.farg).1.trans h.nod, (hm.block (block_lt h.err) h.farh).1.trans h.err, h.ndi.mov h.f5 h.f6 hm, fun hx => (h.bad hx).mov hm, fun hk => (h.f5 hk).mov hm (h.lies5 hk), fun hk => (h.f6 hk).mov hm (h.lies6 hk), (hm.block (block_lt h.nod) h.farg).2, (hm.block (block_lt h.err) h.farh).2, h.qlt⟩
theorem Nx14.later (h : Nx14 w U s W A n c xs vs q wy v g N A5 n5 c5 A6 n6 c6 f x) (hb : Below U.heap.size U U') : Nx14 w U' s W A n c xs vs q wy v g N A5 n5 c5 A6 n6 c6 f x := h.mov (Mov14.of_below s hb) (h.bd.rs.later hb)
/-- what look handed back is laid into two variables -/
theorem Nx14.start {e : Ending} {N0 : Nod} (h : Bd14 w U s W A n c xs vs q wy v) (hl : LkRet U e U' v.no x N0) : ∃ N A5 n5 c5 A6 n6 c6 f, e = .returned (.tuple #[nodV N A5 n5 c5 A6 n6 c6, .agg #[.slice f.A f.n f.c, .int .i64 x]]) ∧ (x = 0 → N = N0) ∧
    ∀ U2, U2 = ((U'.alloc (.cells #[.int .i64 N.tree, .bool N.leaf, .slice A5 n5 c5, .slice A6 n6 c6] 55)).alloc (.cells #[.slice f.A f.n f.c, .int .i64 x] 45)) → Nx14 w U2 s W A n c xs vs q wy v U'.heap.size N A5 n5 c5 A6 n6 c6 f x := by
  obtain ⟨N, A5, n5, c5, A6, n6, c6, Af, nf, cf, rfl, h1, h2, h3, ⟨h4, h5, h6⟩, h7⟩ := hl
  refine ⟨N, A5, n5, c5, A6, n6, c6, ⟨Af, nf, cf⟩, rfl, h7, ?_⟩
  rintro U2 rfl
  obtain ⟨g1, g2, g3⟩ := two_new U' (.cells #[.int .i64 N.tree, .bool N.leaf, .slice A5 n5 c5, .slice A6 n6 c6] 55) (.cells #[.slice Af nf cf, .int .i64 x] 45)
  have hml : ∀ k, s.mine (w.heap.size + 1) k → k < U.heap.size := fun k hk => (h.rs.mine_lt k hk).2
  have hsz := h3.size
  refine ⟨h.later (h3.trans (g3.mono hsz)), g1, g2, h1.below g3, fun hx => ?_, fun _ => Far14.of_newer h4 hml, fun _ => Far14.of_newer h5 hml, fun hm => by have := hml _ hm; omega, fun hm => by have := hml _ hm; omega, Nat.lt_of_lt_of_le (block_lt h.vis) hsz⟩
  rw [atL, if_neg hx] at h2
  have hr : Rd14 U' s (w.heap.size + 1) ⟨Af, nf, cf⟩ [v.no] := ⟨h2, Far14.of_newer h6 hml, Rd14.lies_of h2 (by simp), h6.mono (Nat.le_of_lt h.rs.lt)⟩
  exact hr.below g3
/-- one more was looked at -/
theorem Bd14.see (h : Bd14 w U s W A n c xs vs q wy v) : Bd14 w (U.setCell ⟨w.heap.size + 1, 3, none⟩ (.int .i64 (W.looked + 1))) s W.see A n c xs vs q wy v := by
  obtain ⟨h1, h2⟩ := h.rs.put 3 (W.looked + 1) (.inr rfl)
  exact h.mov h2 h1
theorem Nx14.grown {w7 : World} (h : Nx14 w U s W A n c xs vs q wy v g N A5 n5 c5 A6 n6 c6 f x) {u : Value} (hu : ∀ k, u.ownBlock = some k → s.mine (w.heap.size + 1) k ∧ k ≠ w.heap.size + 1) (hgrow : U.grownBy w7 u.ownBlock) : (∀ j, w7.cell? ⟨g, j, none⟩ = U.cell? ⟨g, j, none⟩) ∧ (∀ j, w7.cell? ⟨g + 1, j, none⟩ = U.cell? ⟨g + 1, j, none⟩) :=
  ⟨fun j => World.cell?_of_block (w := U) (hgrow.block _ (block_lt h.nod) (fun e => h.farg (hu _ e.symm).1)), fun j => World.cell?_of_block (w := U) (hgrow.block _ (block_lt h.err) (fun e => h.farh (hu _ e.symm).1))⟩
theorem Nx14.addBlk {w1 : World} {g3 cap : Nat} (h : Nx14 w U s W A n c xs vs q wy v g N A5 n5 c5 A6 n6 c6 f x) (hgrow : U.grownBy w1 s.B.ownBlock) (hat : s.B.ownBlock = some g3 ∨ g3 = U.heap.size)
    (hown : w1.ownsRow (w.heap.size + 1 + 1) 3 1 (.slice (some ⟨g3, 0, none⟩) (W.blks.length + 1) cap) (W.blks.length + 1) (i64s W.blks ++ [.int .i64 v.no])) :
    ∃ s', Nx14 w (w1.setCell ⟨w.heap.size + 1, 1, none⟩ (.slice (some ⟨g3, 0, none⟩) (W.blks.length + 1) cap)) s' (W.inner v) A n c xs vs q wy v g N A5 n5 c5 A6 n6 c6 f x := by
  obtain ⟨h1, h2⟩ := h.bd.rs.addBlk (no := v.no) hgrow hat hown
  exact ⟨_, h.mov h2 h1⟩
theorem Nx14.addEnt {w1 : World} {g3 cap : Nat} {y : Int × List UInt8 × Int} (h : Nx14 w U s W A n c xs vs q wy v g N A5 n5 c5 A6 n6 c6 f x) (hgrow : U.grownBy w1 s.E.ownBlock) (hat : s.E.ownBlock = some g3 ∨ g3 = U.heap.size)
    (hown : w1.ownsRow (w.heap.size + 1 + 1) 77 3 (.slice (some ⟨g3, 0, none⟩) (W.ents.length + 1) cap) (W.ents.length + 1) (entC W.ents ++ [.int .i64 y.1, .string ⟨y.2.1.toArray⟩, .int .i64 y.2.2])) :
    ∃ s', Nx14 w (w1.setCell ⟨w.heap.size + 1, 0, none⟩ (.slice (some ⟨g3, 0, none⟩) (W.ents.length + 1) cap)) s' ⟨W.ents ++ [y], W.blks, W.deep, W.looked, W.flts⟩ A n c xs vs q wy v g N A5 n5 c5 A6 n6 c6 f x := by
  obtain ⟨h1, h2⟩ := h.bd.rs.addEnt (x := y) hgrow hat hown
  exact ⟨_, h.mov h2 h1⟩
theorem Nx14.deep (h : Nx14 w U s W A n c xs vs q wy v g N A5 n5 c5 A6 n6 c6 f x) (d : Int) : Nx14 w (U.setCell ⟨w.heap.size + 1, 2, none⟩ (.int .i64 d)) s ⟨W.ents, W.blks, d, W.looked, W.flts⟩ A n c xs vs q wy v g N A5 n5 c5 A6 n6 c6 f x := by
  obtain ⟨h1, h2⟩ := h.bd.rs.put 2 d (.inl rfl)
  exact h.mov h2 h1
/-- a key and its value, where they stand -/
theorem Nx14.at_ (h : Nx14 w U s W A n c xs vs q wy v g N A5 n5 c5 A6 n6 c6 f x) {k : Nat} (hk : k < n5) (hv : N.vals.length = N.keys.length) : ∃ kb ko vb vo, A5 = some ⟨kb, ko, none⟩ ∧ A6 = some ⟨vb, vo, none⟩ ∧ U.cell? ⟨kb, ko + k, none⟩ = some (.int .i64 (N.keys.getD k 0)) ∧ U.cell? ⟨vb, vo + k, none⟩ = some (.string ⟨(N.vals.getD k []).toArray⟩) ∧ kb < U.heap.size ∧ vb < U.heap.size := by
  have hk5 : k < N.keys.length := by have := h.ndi.keys.len; omega
  obtain ⟨kb, ko, rfl, l1, hc5⟩ := h.ndi.keys.row.lit (by rw [i64s_length]; omega)
  obtain ⟨vb, vo, rfl, l2, hc6⟩ := h.ndi.vals.row.lit (by rw [strV_length]; omega)
  refine ⟨kb, ko, vb, vo, rfl, rfl, ?_, ?_, l1, l2⟩
  · have := hc5 k _ (i64s_at N.keys k hk5)
    rw [this, List.getD_eq_getElem?_getD, List.getElem?_eq_getElem hk5]; rfl
  · have := hc6 k _ (strV_at N.vals k (by omega))
    rw [this, List.getD_eq_getElem?_getD, List.getElem?_eq_getElem (by omega)]; rfl
theorem Nx14.nums (h : Nx14 w U s W A n c xs vs q wy v g N A5 n5 c5 A6 n6 c6 f x) (hv : N.vals.length = N.keys.length) : n6 = n5 ∧ n5 = N.keys.length ∧ n5 ≤ c5 ∧ c5 ≤ 9223372036854775807 ∧ n5 ≤ c6 ∧ c6 ≤ 9223372036854775807 := by
  have h1 := h.ndi.keys.len
  have h2 := h.ndi.vals.len
  have h3 := h.ndi.keys.cap
  have h4 := h.ndi.vals.cap
  exact ⟨by omega, by omega, h3, h.ndi.keys.most, by omega, h.ndi.vals.most⟩
/-- the way below this node -/
theorem Nx14.way_ {w3 : World} {v3 : Value} (h : Nx14 w U s W A n c xs vs q wy v g N A5 n5 c5 A6 n6 c6 f x) (hb : Below U.heap.size U w3) (ho : w3.ownsRow U.heap.size 3 1 v3 (wy.n + 1) (i64s v.way ++ [.int .i64 v.no])) :
    ∃ y : Slc, v3 = .slice y.A y.n y.c ∧ Nx14 w w3 s W A n c xs vs q wy v g N A5 n5 c5 A6 n6 c6 f x ∧ Rd14 w3 s (w.heap.size + 1) y (v.way ++ [v.no]) := by
  have ho2 : w3.ownsRow U.heap.size 3 1 v3 (wy.n + 1) (i64s (v.way ++ [v.no])) := by rw [i64s_append]; exact ho
  obtain ⟨A3, c3, hv, hI⟩ := Ints.of_own ho2
  subst hv
  have hn := Newer.of_own ho2
  have := h.bd.rs.lt
  exact ⟨⟨A3, wy.n + 1, c3⟩, rfl, h.later hb, hI, Far14.of_newer hn fun k hk => (h.bd.rs.mine_lt k hk).2, Lies14.of_own ho2, hn.mono (by omega)⟩
/-- the children are put ahead of the others that wait -/
theorem Nx14.ahead {wr w9 : World} {v9 : Value} {xr : List VisR} {ks : List Vis14} (h : Nx14 w U s W A n c xs vs q wy v g N A5 n5 c5 A6 n6 c6 f x) (hb : Below U.heap.size U w9) (hk : Wait14 U s (w.heap.size + 1) xr ks) (ho : w9.ownsRow U.heap.size 70 5 v9 (xr.length + n) (visC xr ++ visC xs)) (hf : Ft14 fuel W (xr.length + n)) :
    ∃ A9 c9, v9 = .slice A9 (xr.length + n) c9 ∧ Lp14 w w9 fuel s W A9 (xr.length + n) c9 (xr ++ xs) (ks ++ vs) := by
  obtain ⟨A9, c9, hv, h1, h2⟩ := ownsRow_form ho
  subst hv
  have hn := Newer.of_own ho
  have hm := Mov14.of_below s hb (p := w.heap.size + 1)
  have h9 := h.later hb
  refine ⟨A9, c9, rfl, h9.bd.bel, h9.bd.res, h9.bd.rs, ⟨?_, h1, by simpa [maxLen] using h2, ?_, Far14.of_newer hn fun k hk => (h.bd.rs.mine_lt k hk).2, Lies14.of_own ho, (hk.mov hm).append h9.bd.ws.all⟩, hf⟩
  · rw [List.length_append, h.bd.ws.len]
  · rw [visC_snoc]; exact Row.of_own ho
end

theorem Wait14.snoc {w : World} {s : Rows14} {b : Nat} {x : VisR} {v : Vis14} (hx : Vw14 w s b x v) : ∀ {xs : List VisR} {vs : List Vis14}, Wait14 w s b xs vs → Wait14 w s b (xs ++ [x]) (vs ++ [v])
  | [], [], _ => ⟨hx, trivial⟩
  | _ :: _, _ :: _, h => ⟨h.1, Wait14.snoc hx h.2⟩
theorem own_emp14 {X : World} {base g : Nat} (hg : base ≤ g) (h : X.heap[g]? = some (.cells #[] 3 (0, 0))) : Hid (X.ownsRow base 3 1 (.slice (some ⟨g, 0, none⟩) 0 0) 0 []) :=
  ⟨rfl, .inr ⟨g, 0, #[], rfl, hg, h, Nat.le_refl _, by decide, rfl, rfl⟩⟩

end Go.Proofs.YtfcehhhcjlpklaaGreatDoor

/-
  Layer 14: the law's same.
-/
namespace Go.Proofs.YtfcehhhcjlpklaaGreatDoor
open Go.RowKit
set_option linter.unusedVariables false
set_option linter.unusedSimpArgs false

/-- no fault lies deeper than seventeen blocks -/
theorem Done14.few {nd : Int → Int × Nod} {rt : List UInt8 → Int × Int} {fuel : Int} {w : Wlk14} {l : List Vis14} {R : Wlk14} (h : Done14 nd rt fuel w l R) (hl : ∀ v ∈ l, v.way.length ≤ 16) (hw : ∀ f ∈ w.flts, f.1.length ≤ 17) : ∀ f ∈ R.flts, f.1.length ≤ 17 := by
  have push : ∀ (w : Wlk14) (v : Vis14) (c : Int), (∀ f ∈ w.flts, f.1.length ≤ 17) → v.way.length ≤ 16 → ∀ f ∈ (w.bad v c).flts, f.1.length ≤ 17 := by
    intro w v c a b f hf
    rcases List.mem_append.1 hf with hf | hf
    · exact a f hf
    · rw [List.mem_singleton.1 hf]; show (v.way ++ [v.no]).length ≤ 17; rw [List.length_append]; simp only [List.length_singleton]; omega
  induction h with
  | nil w => exact hw
  | flt w v rest R a _ ih => exact ih (fun u hu => hl u (List.mem_cons_of_mem _ hu)) (push w v _ hw (hl v (List.mem_cons_self ..)))
  | dry w v rest a b => exact push w v _ hw (hl v (List.mem_cons_self ..))
  | bad w v rest R a b c _ ih => exact ih (fun u hu => hl u (List.mem_cons_of_mem _ hu)) (push w.see v _ hw (hl v (List.mem_cons_self ..)))
  | leaf w v rest R a b c d _ ih => exact ih (fun u hu => hl u (List.mem_cons_of_mem _ hu)) hw
  | node w v rest R a b c d _ ih =>
    refine ih (fun u hu => ?_) hw
    rcases List.mem_append.1 hu with hu | hu
    · obtain ⟨i, _, rfl⟩ := List.mem_map.1 hu
      have h2 := (lookE14_zero c).2.1
      unfold kid14
      split
      · exact hl v (List.mem_cons_self ..)
      · show (v.way ++ [v.no]).length ≤ 16
        rw [List.length_append, List.length_singleton]; exact h2
    · exact hl u (List.mem_cons_of_mem _ hu)

/-- same's variables -/
structure Sm14 (w U : World) (a0 a1 a2 a3 a4 b0 b1 b4 : Value) : Prop where
  bel : Below w.heap.size w U
  va : U.heap[w.heap.size]? = some (.cells #[a0, a1, a2, a3, a4] 29 (0, 0))
  vb : U.heap[w.heap.size + 1]? = some (.cells #[b0, b1, a2, a3, b4] 35 (0, 0))
section
variable {w U U' : World} {a0 a1 a2 a3 a4 b0 b1 b4 : Value}
theorem Sm14.later (h : Sm14 w U a0 a1 a2 a3 a4 b0 b1 b4) (hb : Below U.heap.size U U') : Sm14 w U' a0 a1 a2 a3 a4 b0 b1 b4 := ⟨h.bel.trans (hb.mono h.bel.size), (hb.block _ (block_lt h.va)).trans h.va, (hb.block _ (block_lt h.vb)).trans h.vb⟩
theorem Sm14.cs (h : Sm14 w U a0 a1 a2 a3 a4 b0 b1 b4) : (U.cell? ⟨w.heap.size, 0, none⟩ = some a0 ∧ U.cell? ⟨w.heap.size, 1, none⟩ = some a1 ∧ U.cell? ⟨w.heap.size, 2, none⟩ = some a2 ∧ U.cell? ⟨w.heap.size, 3, none⟩ = some a3 ∧ U.cell? ⟨w.heap.size, 4, none⟩ = some a4) ∧ (U.cell? ⟨w.heap.size + 1, 0, none⟩ = some b0 ∧ U.cell? ⟨w.heap.size + 1, 1, none⟩ = some b1 ∧ U.cell? ⟨w.heap.size + 1, 2, none⟩ = some a2 ∧ U.cell? ⟨w.heap.size + 1, 3, none⟩ = some a3 ∧ U.cell? ⟨w.heap.size + 1, 4, none⟩ = some b4) :=
  ⟨⟨by rw [cell_of_row U _ 0 _ _ _ h.va]; rfl, by rw [cell_of_row U _ 1 _ _ _ h.va]; rfl, by rw [cell_of_row U _ 2 _ _ _ h.va]; rfl, by rw [cell_of_row U _ 3 _ _ _ h.va]; rfl, by rw [cell_of_row U _ 4 _ _ _ h.va]; rfl⟩, by rw [cell_of_row U _ 0 _ _ _ h.vb]; rfl, by rw [cell_of_row U _ 1 _ _ _ h.vb]; rfl, by rw [cell_of_row U _ 2 _ _ _ h.vb]; rfl, by rw [cell_of_row U _ 3 _ _ _ h.vb]; rfl, by rw [cell_of_row U _ 4 _ _ _ h.vb]; rfl⟩
theorem Sm14.start (w : World) (a0 a1 a2 a3 a4 b0 b1 b4 : Value) : Sm14 w ((w.alloc (.cells #[a0, a1, a2, a3, a4] 29)).alloc (.cells #[b0, b1, a2, a3, b4] 35)) a0 a1 a2 a3 a4 b0 b1 b4 := by
  obtain ⟨h1, h2, h3⟩ := two_new w (.cells #[a0, a1, a2, a3, a4] 29) (.cells #[b0, b1, a2, a3, b4] 35)
  exact ⟨h3, h1, h2⟩
end

/-- what the reference handed back, in a later world -/
structure Rf14 (w : World) (R : Wlk14) (AE : Option Addr) (cE : Nat) (AB : Option Addr) (cB : Nat) (AF : Option Addr) (cF : Nat) (fr : List (Slc × Int)) : Prop where
  ents : Ens w AE R.ents.length cE R.ents
  blks : Ints w AB R.blks.length cB R.blks
  len : fr.length = R.flts.length
  cap : R.flts.length ≤ cF
  most : cF ≤ 9223372036854775807
  row : Row w AF (badC fr)
  flts : ∀ k (h1 : k < fr.length) (h2 : k < R.flts.length), Ints w fr[k].1.A fr[k].1.n fr[k].1.c R.flts[k].1 ∧ fr[k].2 = R.flts[k].2
theorem Rf14.below {w w' : World} {R : Wlk14} {AE : Option Addr} {cE : Nat} {AB : Option Addr} {cB : Nat} {AF : Option Addr} {cF : Nat} {fr : List (Slc × Int)} (h : Rf14 w R AE cE AB cB AF cF fr) (hb : Below w.heap.size w w') : Rf14 w' R AE cE AB cB AF cF fr :=
  ⟨h.ents.below hb, h.blks.below hb, h.len, h.cap, h.most, h.row.below hb, fun k h1 h2 => ⟨(h.flts k h1 h2).1.below hb, (h.flts k h1 h2).2⟩⟩

set_option maxRecDepth 100000 in
set_option maxHeartbeats 3200000 in
theorem same_any14 {w : World} {R : Wlk14} (hE : ErrT w) (hf : ∀ f ∈ R.flts, f.1.length ≤ 17) {AE : Option Addr} {cE : Nat} {AB : Option Addr} {cB : Nat} {AF : Option Addr} {cF : Nat} {AE2 : Option Addr} {cE2 : Nat} {AB2 : Option Addr} {cB2 : Nat} {AF2 : Option Addr} {cF2 : Nat} {fr : List (Slc × Int)}
    (h1 : Wk14 w R AE R.ents.length cE AB R.blks.length cB AF R.flts.length cF) (h2 : Rf14 w R AE2 cE2 AB2 cB2 AF2 cF2 fr) :
    Calls Tryz.prog 6 #[wkV R.deep R.looked AE R.ents.length cE AB R.blks.length cB AF R.flts.length cF, wkV R.deep R.looked AE2 R.ents.length cE2 AB2 R.blks.length cB2 AF2 R.flts.length cF2] w fun e w' => e = .returned (.bool true) ∧ Below w.heap.size w w' := by
  have hS0 := Lib.hid (Sm14.start w (.slice AE R.ents.length cE) (.slice AB R.blks.length cB) (.int .i64 R.deep) (.int .i64 R.looked) (.slice AF R.flts.length cF) (.slice AE2 R.ents.length cE2) (.slice AB2 R.blks.length cB2) (.slice AF2 R.flts.length cF2))
  have SE : Hid (∀ U, Hid (Sm14 w U (.slice AE R.ents.length cE) (.slice AB R.blks.length cB) (.int .i64 R.deep) (.int .i64 R.looked) (.slice AF R.flts.length cF) (.slice AE2 R.ents.length cE2) (.slice AB2 R.blks.length cB2) (.slice AF2 R.flts.length cF2)) → Calls Tryz.prog 17 #[.slice AE R.ents.length cE, .slice AE2 R.ents.length cE2] U fun e w' => e = .returned (.bool true) ∧ Hid (Sm14 w w' (.slice AE R.ents.length cE) (.slice AB R.blks.length cB) (.int .i64 R.deep) (.int .i64 R.looked) (.slice AF R.flts.length cF) (.slice AE2 R.ents.length cE2) (.slice AB2 R.blks.length cB2) (.slice AF2 R.flts.length cF2))) := fun U hU => (refSameEnt_any14 U (h1.ents.below hU.out.bel) (h2.ents.below hU.out.bel)).mono fun e w' ⟨g1, g2⟩ => ⟨g1, hU.out.later g2⟩
  have SB : Hid (∀ U, Hid (Sm14 w U (.slice AE R.ents.length cE) (.slice AB R.blks.length cB) (.int .i64 R.deep) (.int .i64 R.looked) (.slice AF R.flts.length cF) (.slice AE2 R.ents.length cE2) (.slice AB2 R.blks.length cB2) (.slice AF2 R.flts.length cF2)) → Calls Tryz.prog 18 #[.slice AB R.blks.length cB, .slice AB2 R.blks.length cB2] U fun e w' => e = .returned (.bool true) ∧ Hid (Sm14 w w' (.slice AE R.ents.length cE) (.slice AB R.blks.length cB) (.int .i64 R.deep) (.int .i64 R.looked) (.slice AF R.flts.length cF) (.slice AE2 R.ents.length cE2) (.slice AB2 R.blks.length cB2) (.slice AF2 R.flts.length cF2))) := fun U hU => (Same_same AB AB2 _ cB cB2 _ U (h1.blks.below hU.out.bel) (h2.blks.below hU.out.bel)).mono fun e w' ⟨g1, g2⟩ => ⟨g1, hU.out.later g2⟩
  obtain ⟨fs, hfs, hF⟩ := h1.flts
  have hfl := hF.length
  have hcF := hfs.cap
  have hmF := hfs.most
  have hcF2 := h2.cap
  have hmF2 := h2.most
  have AT : Hid (∀ k, k < R.flts.length → ∃ (f : List Node) (bF oF b2 o2 : Nat) (y : Slc) (bs : List Int) (x : Int), AF = some ⟨bF, oF, none⟩ ∧ AF2 = some ⟨b2, o2, none⟩ ∧ (∃ t u, val f = .iface t u) ∧ (∀ U, Below w.heap.size w U → U.cell? ⟨bF, oF + k, none⟩ = some (val f) ∧ U.cell? ⟨b2, o2 + k * 2, none⟩ = some (.slice y.A y.n y.c) ∧ U.cell? ⟨b2, o2 + k * 2 + 1, none⟩ = some (.int .i64 x) ∧ U.cell? ⟨b2, o2 + (k * 2 + 1), none⟩ = some (.int .i64 x)) ∧ (∀ U, Below w.heap.size w U → Ints U y.A y.n y.c bs) ∧
      (∀ U, Below w.heap.size w U → Calls Tryz.prog 14 #[val f] U fun e w' => ∃ A n c, e = .returned (.agg #[.slice A n c, .int .i64 x]) ∧ Ints w' A n c bs ∧ Below U.heap.size U w')) := fun k hk => by
    have hkf : k < fr.length := by rw [h2.len]; exact hk
    have hks : k < fs.length := by omega
    obtain ⟨g1, g2⟩ := hF.at_ k hks hk
    obtain ⟨bF, oF, e1, l1, c1⟩ := hfs.row.lit (by rw [List.length_map]; omega)
    obtain ⟨b2, o2, e2, l2, c2⟩ := h2.row.lit (by rw [badC_length, h2.len]; omega)
    obtain ⟨q1, q2⟩ := badC_at fr k (by rw [h2.len]; exact hk)
    obtain ⟨r1, r2⟩ := h2.flts k (by rw [h2.len]; exact hk) hk
    have hck := c1 k (val fs[k]) (by rw [List.getElem?_map, List.getElem?_eq_getElem (by omega)]; rfl)
    refine ⟨fs[k], bF, oF, b2, o2, fr[k].1, R.flts[k].1, R.flts[k].2, e1, e2, ?_, fun U hb => ⟨(hb.cell (p := ⟨bF, oF + k, none⟩) l1).trans hck, (hb.cell (p := ⟨b2, o2 + k * 2, none⟩) l2).trans (c2 _ _ q1), (hb.cell (p := ⟨b2, o2 + k * 2 + 1, none⟩) l2).trans (by rw [← r2]; exact c2 _ _ q2), (hb.cell (p := ⟨b2, o2 + (k * 2 + 1), none⟩) l2).trans (by rw [← r2]; exact c2 _ _ q2)⟩, fun U hb => r1.below hb, fun U hb => ?_⟩
    · have hne := g2.ne
      generalize fs[k] = f at *
      cases f with
      | nil => exact absurd rfl hne
      | cons x f => cases x <;> exact ⟨_, _, rfl⟩
    have hne := g2.ne
    have hl := g2.len
    have hb17 := hf _ (List.getElem_mem hk)
    have hco := g2.code
    have hbl := g2.blocks
    have hg := g1.below hb
    generalize fs[k] = f at *
    cases f with
    | nil => exact absurd rfl hne
    | cons x l =>
      refine (Told_err hg (hE.later hb) (by omega)).mono ?_
      rintro e w' ⟨A, n, c, g3, g4, g5⟩
      rw [hco] at g3
      rw [hbl] at g4
      exact ⟨A, n, c, g3, g4, g5⟩
  clear h1 h2 hf hE hfs hF hfl
  simp only [wkV]
  generalize R.ents.length = nE at *
  generalize R.blks.length = nB at *
  generalize R.flts.length = nF at *
  generalize R.deep = dp at *
  generalize R.looked = lk at *
  obtain ⟨⟨a0, a1, a2, a3, a4⟩, b0, b1, b2, b3, b4⟩ := hS0.out.cs
  go_enter Tryz.func6, Tryz.ntmps6
  go_wp2_with (first
    | (go_at_call 17; (with_reducible refine (SE.out _ hS0).mono ?_); rintro e w1 ⟨rfl, hS1⟩; clear a0 a1 a2 a3 a4 b0 b1 b2 b3 b4; obtain ⟨⟨a0, a1, a2, a3, a4⟩, b0, b1, b2, b3, b4⟩ := hS1.out.cs)
    | (go_at_call 18; (with_reducible refine (SB.out _ hS1).mono ?_); rintro e w2 ⟨rfl, hS2⟩; clear a0 a1 a2 a3 a4 b0 b1 b2 b3 b4; obtain ⟨⟨a0, a1, a2, a3, a4⟩, b0, b1, b2, b3, b4⟩ := hS2.out.cs))
  clear a0 a1 a2 a3 a4 b0 b1 b2 b3 b4 SE SB hS0 hS1
  go_loopw [5] (fun i wr => ∃ k : Nat, k ≤ nF ∧ i = .int .i64 k ∧ Hid (Sm14 w wr (.slice AE nE cE) (.slice AB nB cB) (.int .i64 dp) (.int .i64 lk) (.slice AF nF cF) (.slice AE2 nE cE2) (.slice AB2 nB cB2) (.slice AF2 nF cF2))) (fun i _ => nF - (intOf i).toNat)
  case atStart => exact ⟨0, by omega, rfl, hS2⟩
  case round =>
    clear hS2
    obtain ⟨k, hk, rfl, hS⟩ := hrel
    by_cases hlt : k < nF
    · obtain ⟨f, bF, oF, bG, oG, y, bs, x, rfl, rfl, ⟨vt, vu, hv⟩, HC, HI, TD⟩ := AT.out k hlt
      have a4 := hS.out.cs.1.2.2.2.2
      have CL : Hid (∀ U, Hid (Sm14 w U (.slice AE nE cE) (.slice AB nB cB) (.int .i64 dp) (.int .i64 lk) (.slice (some ⟨bF, oF, none⟩) nF cF) (.slice AE2 nE cE2) (.slice AB2 nB cB2) (.slice (some ⟨bG, oG, none⟩) nF cF2)) → U.cell? ⟨w.heap.size, 4, none⟩ = some (.slice (some ⟨bF, oF, none⟩) nF cF) ∧ U.cell? ⟨bF, oF + k, none⟩ = some (val f) ∧ U.cell? ⟨w.heap.size + 1, 4, none⟩ = some (.slice (some ⟨bG, oG, none⟩) nF cF2) ∧ U.cell? ⟨bG, oG + k * 2, none⟩ = some (.slice y.A y.n y.c) ∧ U.cell? ⟨bG, oG + k * 2 + 1, none⟩ = some (.int .i64 x) ∧ U.cell? ⟨bG, oG + (k * 2 + 1), none⟩ = some (.int .i64 x)) := fun U hU => ⟨hU.out.cs.1.2.2.2.2, (HC U hU.out.bel).1, hU.out.cs.2.2.2.2.2, (HC U hU.out.bel).2.1, (HC U hU.out.bel).2.2.1, (HC U hU.out.bel).2.2.2⟩
      have TL : Hid (∀ U, Hid (Sm14 w U (.slice AE nE cE) (.slice AB nB cB) (.int .i64 dp) (.int .i64 lk) (.slice (some ⟨bF, oF, none⟩) nF cF) (.slice AE2 nE cE2) (.slice AB2 nB cB2) (.slice (some ⟨bG, oG, none⟩) nF cF2)) → Calls Tryz.prog 14 #[val f] U fun e w' => ∃ A n c, e = .returned (.agg #[.slice A n c, .int .i64 x]) ∧ Hid (Ints w' A n c bs) ∧ Hid (Sm14 w w' (.slice AE nE cE) (.slice AB nB cB) (.int .i64 dp) (.int .i64 lk) (.slice (some ⟨bF, oF, none⟩) nF cF) (.slice AE2 nE cE2) (.slice AB2 nB cB2) (.slice (some ⟨bG, oG, none⟩) nF cF2))) := fun U hU => (TD U hU.out.bel).mono fun e w' ⟨A, n, c, g1, g2, g3⟩ => ⟨A, n, c, g1, g2, hU.out.later g3⟩
      have FS : Hid (∀ U A n c, Hid (Ints U A n c bs) → Hid (Sm14 w U (.slice AE nE cE) (.slice AB nB cB) (.int .i64 dp) (.int .i64 lk) (.slice (some ⟨bF, oF, none⟩) nF cF) (.slice AE2 nE cE2) (.slice AB2 nB cB2) (.slice (some ⟨bG, oG, none⟩) nF cF2)) → Calls Tryz.prog 13 #[.agg #[.slice A n c, .int .i64 x], .agg #[.slice y.A y.n y.c, .int .i64 x]] U fun e w' => e = .returned (.bool true) ∧ Hid (Sm14 w w' (.slice AE nE cE) (.slice AB nB cB) (.int .i64 dp) (.int .i64 lk) (.slice (some ⟨bF, oF, none⟩) nF cF) (.slice AE2 nE cE2) (.slice AB2 nB cB2) (.slice (some ⟨bG, oG, none⟩) nF cF2))) := fun U A n c hA hU => (Flt_same x hA.out (HI U hU.out.bel)).mono fun e w' ⟨g1, g2⟩ => ⟨g1, hU.out.later g2⟩
      have hSd := Lib.hid (hS.out.later ((Below.refl _ _).drew))
      have cSd := CL.out _ hSd
      clear HC HI TD
      rw [hv] at cSd TL CL
      clear hv
      go_wp2
      go_region_held3 (fun U => U.cell? ⟨w.heap.size, 4, none⟩ = some (.slice (some ⟨bF, oF, none⟩) nF cF) ∧ U.cell? ⟨bF, oF + k, none⟩ = some (.iface vt vu) ∧ U.cell? ⟨w.heap.size + 1, 4, none⟩ = some (.slice (some ⟨bG, oG, none⟩) nF cF2) ∧ U.cell? ⟨bG, oG + k * 2, none⟩ = some (.slice y.A y.n y.c) ∧ U.cell? ⟨bG, oG + k * 2 + 1, none⟩ = some (.int .i64 x) ∧ U.cell? ⟨bG, oG + (k * 2 + 1), none⟩ = some (.int .i64 x))
        (first | assumption | go_keep)
        (first
          | (go_at_call 14; (with_reducible refine (TL.out _ hSd).mono ?_); rintro e w5 ⟨A5, n5, c5, rfl, hI5, hS5⟩; have cS5 := CL.out _ hS5)
          | (go_at_call 13; (with_reducible refine (FS.out _ _ _ _ hI5 hS5).mono ?_); rintro e w6 ⟨rfl, hS6⟩; have cS6 := CL.out _ hS6))
      go_wp2
      go_roundw
      case rel => exact ⟨k + 1, by omega, by go_num, hS6⟩
      case measure => simp only [intOf]; omega
    · obtain rfl : k = nF := by omega
      have a4 := hS.out.cs.1.2.2.2.2
      go_wp2
      go_ret
      exact ⟨rfl, hS.out.bel⟩

end Go.Proofs.YtfcehhhcjlpklaaGreatDoor
